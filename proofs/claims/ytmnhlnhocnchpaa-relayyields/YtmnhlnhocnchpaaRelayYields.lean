/-
  Of any two numbers: RelayYields returns true. No condition.
-/
import Derived.Test.YtmnhlnhocnchpaaRows
import Derived.Test.YtmnhlnhocnchpaaRlKnown
import Derived.Test.YtmnhlnhocnchpaaRlArgs
import Derived.ShutString
namespace Go.Proofs.Ytmnhlnhocnchpaa.relayYields
open Go.ChangeShapes Go.WideShapes Go.ChangeAt Go.RowKit

def itY (a : Int) : Nat → Rl
  | 0 => ⟨6, -1, -1, 1, 3, 6, 8⟩
  | k + 1 => beginR (itY a k) (6 + k)
theorem busyY : ∀ a k : Fin 2, askA (beginR (itY (a.1 : Int) k.1) (6 + (k.1 : Int))) (a.1 : Int) 0 = (0, 0, 8) ∧ askR (beginR (itY (a.1 : Int) k.1) (6 + (k.1 : Int))) (a.1 : Int) 0 = itY (a.1 : Int) (k.1 + 1) := by
  intro a k
  match a, k with
  | 0, 0 => exact ⟨rfl, rfl⟩
  | 0, 1 => exact ⟨rfl, rfl⟩
  | 1, 0 => exact ⟨rfl, rfl⟩
  | 1, 1 => exact ⟨rfl, rfl⟩

set_option maxRecDepth 1000000 in
set_option maxHeartbeats 8000000 in
theorem walk (unit again : Int) (_ : (Lit.int IntKind.i64 unit).wf = true) (_ : (Lit.int IntKind.i64 again).wf = true) (w : World) : Calls Try.prog 6 #[.int .i64 unit, .int .i64 again] w fun e w' => e = .returned (.bool true) ∧ Below w.heap.size w w' := by
  by_cases g1 : unit < 0
  · go_enter Try.func6, Try.ntmps6
    go_wp2
    go_ret
    exact ⟨rfl, Below.refl _ _⟩
  by_cases g2 : 1 < unit
  · go_enter Try.func6, Try.ntmps6
    go_wp2
    go_ret
    exact ⟨rfl, Below.refl _ _⟩
  by_cases g3 : again < 0
  · go_enter Try.func6, Try.ntmps6
    go_wp2
    go_ret
    exact ⟨rfl, Below.refl _ _⟩
  by_cases g4 : 1 < again
  · go_enter Try.func6, Try.ntmps6
    go_wp2
    go_ret
    exact ⟨rfl, Below.refl _ _⟩
  have hu : 0 ≤ unit ∧ unit ≤ 1 := by omega
  have HU : Hid (0 ≤ unit ∧ unit ≤ 1) := hu
  have HG : Hid (0 ≤ again ∧ again ≤ 1) := ⟨by omega, by omega⟩
  go_enter Try.func6, Try.ntmps6
  go_wp2_with fail
  refine (new_l w _ (Below.refl _ _)).mono ?_
  rintro e w1 ⟨b, rfl, h, -, -⟩
  have H1 : Hid (RlL w w1 b newR 0) := h
  clear h
  have D := begin_l w w1 b _ _ 5 H1.out ⟨5, -1, -1, 0, 0, 0, 0⟩ rfl
  go_wp2_with fail
  refine D.mono ?_
  rintro e w2 ⟨rfl, h, -⟩
  have H2 : Hid (RlL w w2 b ⟨5, -1, -1, 0, 0, 0, 0⟩ (0)) := h
  clear D h H1
  have D := ask_l w w2 b _ _ unit 0 H2.out (by decide) 1 0 0 ⟨5, unit, -1, 1, 0, 5, 0⟩ (ask_free HU.out (by decide) (by decide) (by decide))
  go_wp2_with fail
  refine D.mono ?_
  rintro e w3 ⟨rfl, h, -⟩
  have H3 : Hid (RlL w w3 b ⟨5, unit, -1, 1, 0, 5, 0⟩ (0+1)) := h
  clear D h H2
  have D := begin_l w w3 b _ _ 6 H3.out ⟨6, unit, -1, 1, 0, 5, 0⟩ (begin_keeps (by show (5 : Int) < 6; decide) (by decide) (.inr (by show (6 : Int) - 5 < 8; decide)))
  go_wp2_with fail
  refine D.mono ?_
  rintro e w4 ⟨rfl, h, -⟩
  have H4 : Hid (RlL w w4 b ⟨6, unit, -1, 1, 0, 5, 0⟩ (0+1)) := h
  clear D h H3
  have D := ask_l w w4 b _ _ unit 3 H4.out (by decide) 1 0 0 ⟨6, unit, unit, 1, 3, 6, 0⟩ (ask_own HU.out (by decide) rfl)
  go_wp2_with fail
  refine D.mono ?_
  rintro e w5 ⟨rfl, h, -⟩
  have H5 : Hid (RlL w w5 b ⟨6, unit, unit, 1, 3, 6, 0⟩ (0+1+1)) := h
  clear D h H4
  have D := con_l H5.out unit rfl
  go_wp2_with fail
  refine D.mono ?_
  rintro e w9 ⟨rfl, hw⟩
  rw [hw]
  clear hw w9 D
  have D := yield_l w w5 b _ _ (1 - unit) H5.out 7 ⟨6, unit, unit, 1, 3, 6, 0⟩ (yield_no (.inr (by show unit ≠ 1 - unit; omega)))
  go_wp2_with fail
  refine D.mono ?_
  rintro e w6 ⟨rfl, h, -⟩
  have H6 : Hid (RlL w w6 b ⟨6, unit, unit, 1, 3, 6, 0⟩ (0+1+1)) := h
  clear D h H5
  have D := yield_l w w6 b _ _ unit H6.out 0 ⟨6, -1, -1, 1, 3, 6, 6 + 2⟩ (yield_own HU.out.1 rfl)
  go_wp2_with fail
  refine D.mono ?_
  rintro e w7 ⟨rfl, h, -⟩
  have H7 : Hid (RlL w w7 b ⟨6, -1, -1, 1, 3, 6, 6 + 2⟩ (0+1+1)) := h
  clear D h H6
  have D := con_l H7.out (-1) rfl
  go_wp2_with fail
  refine D.mono ?_
  rintro e w9 ⟨rfl, hw⟩
  rw [hw]
  clear hw w9 D
  have D := own_l H7.out (-1) rfl
  go_wp2_with fail
  refine D.mono ?_
  rintro e w9 ⟨rfl, hw⟩
  rw [hw]
  clear hw w9 D
  have D := yield_l w w7 b _ _ unit H7.out 7 (itY again 0) (yield_no (.inr (by show (-1 : Int) ≠ unit; omega)))
  go_wp2_with fail
  refine D.mono ?_
  rintro e w8 ⟨rfl, h, -⟩
  have H8 : Hid (RlL w w8 b (itY again 0) (0+1+1)) := h
  clear D h H7
  go_wp2
  go_loopg [6] 2 (fun gk i wr => ∃ (k : Nat) (c : Int), gk = 2 - k ∧ i = .int .i64 k ∧ k ≤ 2 ∧ c ≤ 2 + k ∧ RlL w wr b (itY again k) c)
  case atStart => exact ⟨0, _, rfl, rfl, by omega, by decide, H8.out⟩
  case round =>
    obtain ⟨k, c, rfl, rfl, hk, hc, hs⟩ := hrel
    have HC : Hid (c ≤ 2 + (k : Int)) := hc
    have H10 : Hid (RlL w wr b (itY again k) c) := hs
    clear hs hc H8
    by_cases hlt : k < 2
    · have hki : (k : Int) < 2 := by omega
      have BY : Hid (askA (beginR (itY again k) (6 + (k : Int))) again 0 = (0, 0, 8) ∧ askR (beginR (itY again k) (6 + (k : Int))) again 0 = itY again (k + 1)) := by
        show _ ∧ _
        have hg := HG.out
        have := busyY ⟨again.toNat, by omega⟩ ⟨k, hlt⟩
        rwa [show ((again.toNat : Nat) : Int) = again by omega] at this
      have D := begin_l w wr b _ _ (6 + k) H10.out (beginR (itY again k) (6 + (k : Int))) rfl
      go_wp2_with fail
      refine D.mono ?_
      rintro e w11 ⟨rfl, h, -⟩
      have H11 : Hid (RlL w w11 b (beginR (itY again k) (6 + (k : Int))) (c)) := h
      clear D h H10
      have D := ask_l w w11 b _ _ again 0 H11.out (by have := HC.out; omega) 0 0 8 (itY again (k + 1)) BY.out
      go_wp2_with fail
      refine D.mono ?_
      rintro e w12 ⟨rfl, h, -⟩
      have H12 : Hid (RlL w w12 b (itY again (k + 1)) (c+1)) := h
      clear D h H11
      go_wp2
      go_roundg (2 - (k + 1))
      case rel => exact ⟨k + 1, _, rfl, by go_num, by omega, by have := HC.out; omega, H12.out⟩
      case measure => omega
    · obtain rfl : k = 2 := by omega
      have D := begin_l w wr b _ _ 8 H10.out ⟨8, -1, -1, 1, 3, 6, 8⟩ rfl
      go_wp2_with fail
      refine D.mono ?_
      rintro e w11 ⟨rfl, h, -⟩
      have H11 : Hid (RlL w w11 b ⟨8, -1, -1, 1, 3, 6, 8⟩ (c)) := h
      clear D h H10
      have D := ask_l w w11 b _ _ again 0 H11.out (by have := HC.out; omega) 2 3 0 ⟨8, again, -1, 2, 3, 8, 8⟩ (ask_free HG.out (by decide) (by decide) (by decide))
      go_wp2_with fail
      refine D.mono ?_
      rintro e w12 ⟨rfl, h, -⟩
      have H12 : Hid (RlL w w12 b ⟨8, again, -1, 2, 3, 8, 8⟩ (c+1)) := h
      clear D h H11
      have HB : Hid (Below w.heap.size w w12) := H12.out.bl
      clear H12
      go_wp2_with fail
      refine (known_any _).mono ?_
      rintro e wk ⟨rfl, hb⟩
      have HBK : Hid (Below w.heap.size w wk) := HB.out.trans (hb.mono HB.out.size)
      clear hb HB
      go_wp2
      go_ret
      exact ⟨rfl, HBK.out⟩

theorem own : ownKnob Try.prog.godebug = none := by kernel_rfl

set_option maxRecDepth 100000 in
theorem lifted (os : Os) (started : os.Started) (H : Type) (enc : TypeId × Value → H) :
    ReturnsInHanded {} Try.checked os 6 .any (Rows.relayYieldsSpec.pre6 enc Try.prog Try.f6 Rows.relayYieldsRow.domain false) (Rows.relayYieldsSpec.post enc Try.prog Try.f6 false true false false) := by
  refine returnsInHanded_of_change (C := Try.checked) own started (by kernel_rfl) Try.func6
    (ChangeSpec.witness6 (enc := enc) (C := Try.checked) false ⟨#[], #[.int .i64 0, .int .i64 0], []⟩ 8 (by kernel_rfl) (by kernel_rfl) (by kernel_rfl) (by kernel_rfl)) ?_
  intro W base args ds gs before hval0 hW _ _
  have hval : ∀ (j : Nat) t v, Try.f6.params[j]? = some t → args[j]? = some v → Value.okWide Try.prog W .any base t v := hval0
  have hW' := hW
  obtain ⟨p, q, hA0, hV, rfl, _, _⟩ := hW
  have hA : DataW.TrodAll enc Try.prog W 0 (fun _ => true) true Try.f6.params.toList args.toList ds p := hA0
  rw [Try.params6] at hA hval
  obtain ⟨v0, vs0, d0, ds0, p0, q0, hargs, rfl, rfl, h0, r0⟩ := trodAll_cons hA
  obtain ⟨v1, vs1, d1, ds1, p1, q1, rfl, rfl, rfl, h1, r1⟩ := trodAll_cons r0
  obtain ⟨rfl, rfl, rfl⟩ := trodAll_nil r1
  obtain rfl : args = #[v0, v1] := by cases args; simp_all
  obtain ⟨rfl, rfl⟩ := trodVars_none hV
  obtain ⟨a0, rfl, rfl, rfl, w0⟩ := open_int Try.underlying3 (hval 0 3 v0 rfl rfl) h0
  obtain ⟨a1, rfl, rfl, rfl, w1⟩ := open_int Try.underlying3 (hval 1 3 v1 rfl rfl) h1
  clear hA0 hval0
  refine (walk a0 a1 w0 w1 W).mono fun e W' ⟨he, bel⟩ => ?_
  subst he
  exact ⟨_, rfl, _, _, _, [], _, [], hW', trodAll_mk1 (shut_bool Try.underlying4 _), (trodAll_cons_mk (shut_int Try.underlying3 w0) (trodAll_cons_mk (shut_int Try.underlying3 w1) trodAll_mk0)), rfl, bel.frame _, fun h => by cases h⟩

theorem over : Rows.relayYieldsRow.holds Try.pinned (OpenSpec.ofChange Rows.relayYieldsSpec) :=
  OpenClaim.holds_of_wide 6 Try.f6 rfl rfl rfl rfl rfl rfl rfl ⟨rfl, rfl, rfl, rfl, rfl⟩ rfl rfl rfl rfl rfl (by kernel_rfl) Try.func6 (by kernel_rfl)
    (of_decide_eq_true (by kernel_rfl)) (by unfold Func.isWrapper; first | (rw [if_pos (by decide +kernel)]; kernel_rfl) | (rw [if_neg (by decide +kernel)]; exact ⟨rfl, rfl⟩))
    (fun os started H enc _ => lifted os started H enc)

end Go.Proofs.Ytmnhlnhocnchpaa.relayYields
namespace Go.Proofs.Ytmnhlnhocnchpaa
theorem relayYields_holds : Rows.RelayYieldsSaid := relayYields.over
#print axioms relayYields_holds
end Go.Proofs.Ytmnhlnhocnchpaa
