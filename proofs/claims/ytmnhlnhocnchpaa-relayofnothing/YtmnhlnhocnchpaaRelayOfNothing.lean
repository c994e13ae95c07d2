/-
  Of any two numbers: RelayOfNothing returns true. No condition.
-/
import Derived.Test.YtmnhlnhocnchpaaRows
import Derived.Test.YtmnhlnhocnchpaaRlKnown
import Derived.Test.YtmnhlnhocnchpaaRlArgs
import Derived.ShutString
namespace Go.Proofs.Ytmnhlnhocnchpaa.relayOfNothing
open Go.ChangeShapes Go.WideShapes Go.ChangeAt Go.RowKit

set_option maxRecDepth 1000000 in
set_option maxHeartbeats 4000000 in
theorem nil_begin (now : Int) (w : World) : Calls Try.prog 11 #[.pointer none, .int .i64 now] w fun e w' => e = .returned (.tuple #[]) ∧ w' = w := by
  go_enter Try.func11, Try.ntmps11
  go_wp2
  refine bodyPost_ret (results_none rfl _ _ _) rfl ?_
  exact ⟨rfl, rfl⟩
set_option maxRecDepth 1000000 in
set_option maxHeartbeats 4000000 in
theorem nil_ask (u c : Int) (w : World) : Calls Try.prog 13 #[.pointer none, .int .i64 u, .int .i64 c] w fun e w' => e = .returned (.tuple #[.int .i64 0, .int .i64 0, .int .i64 1]) ∧ w' = w := by
  go_enter Try.func13, Try.ntmps13
  go_wp2
  go_ret3
  exact ⟨rfl, rfl⟩
set_option maxRecDepth 1000000 in
set_option maxHeartbeats 4000000 in
theorem nil_yield (u : Int) (w : World) : Calls Try.prog 15 #[.pointer none, .int .i64 u] w fun e w' => e = .returned (.int .i64 7) ∧ w' = w := by
  go_enter Try.func15, Try.ntmps15
  go_wp2
  go_ret
  exact ⟨rfl, rfl⟩
set_option maxRecDepth 1000000 in
set_option maxHeartbeats 4000000 in
theorem nil_con (w : World) : Calls Try.prog 18 #[.pointer none] w fun e w' => e = .returned (.int .i64 (-1)) ∧ w' = w := by
  go_enter Try.func18, Try.ntmps18
  go_wp2
  go_ret
  exact ⟨rfl, rfl⟩
set_option maxRecDepth 1000000 in
set_option maxHeartbeats 4000000 in
theorem nil_own (w : World) : Calls Try.prog 17 #[.pointer none] w fun e w' => e = .returned (.int .i64 (-1)) ∧ w' = w := by
  go_enter Try.func17, Try.ntmps17
  go_wp2
  go_ret
  exact ⟨rfl, rfl⟩
set_option maxRecDepth 1000000 in
set_option maxHeartbeats 4000000 in
theorem nil_epoch (w : World) : Calls Try.prog 19 #[.pointer none] w fun e w' => e = .returned (.int .i64 0) ∧ w' = w := by
  go_enter Try.func19, Try.ntmps19
  go_wp2
  go_ret
  exact ⟨rfl, rfl⟩

set_option maxRecDepth 1000000 in
set_option maxHeartbeats 8000000 in
theorem walk (unit count : Int) (_ : (Lit.int IntKind.i64 unit).wf = true) (_ : (Lit.int IntKind.i64 count).wf = true) (w : World) : Calls Try.prog 8 #[.int .i64 unit, .int .i64 count] w fun e w' => e = .returned (.bool true) ∧ Below w.heap.size w w' := by
  go_enter Try.func8, Try.ntmps8
  have D := nil_begin 3 w
  go_wp2_with fail
  refine D.mono ?_
  rintro e w9 ⟨rfl, hw⟩
  rw [hw]
  clear hw w9 D
  have D := nil_ask unit count w
  go_wp2_with fail
  refine D.mono ?_
  rintro e w9 ⟨rfl, hw⟩
  rw [hw]
  clear hw w9 D
  go_wp2_with fail
  refine (new_l w _ (Below.refl _ _)).mono ?_
  rintro e w1 ⟨b, rfl, h, -, -⟩
  have H1 : Hid (RlL w w1 b newR 0) := h
  clear h
  have D := ask_l w w1 b _ _ 2 count H1.out (by decide) 0 0 1 newR (ask_arg (.inr (.inl (by decide))))
  go_wp2_with fail
  refine D.mono ?_
  rintro e w2 ⟨rfl, h, -⟩
  have H2 : Hid (RlL w w2 b newR (0+1)) := h
  clear D h H1
  have D := ask_l w w2 b _ _ (-1) count H2.out (by decide) 0 0 1 newR (ask_arg (.inl (by decide)))
  go_wp2_with fail
  refine D.mono ?_
  rintro e w3 ⟨rfl, h, -⟩
  have H3 : Hid (RlL w w3 b newR (0+1+1)) := h
  clear D h H2
  have D := ask_l w w3 b _ _ 0 (-1) H3.out (by decide) 0 0 1 newR (ask_arg (.inr (.inr (by decide))))
  go_wp2_with fail
  refine D.mono ?_
  rintro e w4 ⟨rfl, h, -⟩
  have H4 : Hid (RlL w w4 b newR (0+1+1+1)) := h
  clear D h H3
  have D := nil_yield unit w4
  go_wp2_with fail
  refine D.mono ?_
  rintro e w9 ⟨rfl, hw⟩
  rw [hw]
  clear hw w9 D
  have D := nil_own w4
  go_wp2_with fail
  refine D.mono ?_
  rintro e w9 ⟨rfl, hw⟩
  rw [hw]
  clear hw w9 D
  have D := nil_con w4
  go_wp2_with fail
  refine D.mono ?_
  rintro e w9 ⟨rfl, hw⟩
  rw [hw]
  clear hw w9 D
  have D := nil_epoch w4
  go_wp2_with fail
  refine D.mono ?_
  rintro e w9 ⟨rfl, hw⟩
  rw [hw]
  clear hw w9 D
  have D := own_l H4.out (-1) rfl
  go_wp2_with fail
  refine D.mono ?_
  rintro e w9 ⟨rfl, hw⟩
  rw [hw]
  clear hw w9 D
  have HB : Hid (Below w.heap.size w w4) := H4.out.bl
  clear H4
  go_wp2_with fail
  refine (known_any _).mono ?_
  rintro e wk ⟨rfl, hb⟩
  have HBK : Hid (Below w.heap.size w wk) := HB.out.trans (hb.mono HB.out.size)
  clear hb HB
  go_wp2
  go_ret
  exact ⟨rfl, HBK.out⟩

theorem own : ownKnob Try.prog.godebug = none := by kernel_rfl

set_option maxRecDepth 100000 in
theorem lifted (os : Os) (started : os.Started) (H : Type) (enc : TypeId × Value → H) :
    ReturnsInHanded {} Try.checked os 8 .any (Rows.relayOfNothingSpec.pre6 enc Try.prog Try.f8 Rows.relayOfNothingRow.domain false) (Rows.relayOfNothingSpec.post enc Try.prog Try.f8 false true false false) := by
  refine returnsInHanded_of_change (C := Try.checked) own started (by kernel_rfl) Try.func8
    (ChangeSpec.witness6 (enc := enc) (C := Try.checked) false ⟨#[], #[.int .i64 0, .int .i64 0], []⟩ 8 (by kernel_rfl) (by kernel_rfl) (by kernel_rfl) (by kernel_rfl)) ?_
  intro W base args ds gs before hval0 hW _ _
  have hval : ∀ (j : Nat) t v, Try.f8.params[j]? = some t → args[j]? = some v → Value.okWide Try.prog W .any base t v := hval0
  have hW' := hW
  obtain ⟨p, q, hA0, hV, rfl, _, _⟩ := hW
  have hA : DataW.TrodAll enc Try.prog W 0 (fun _ => true) true Try.f8.params.toList args.toList ds p := hA0
  rw [Try.params8] at hA hval
  obtain ⟨v0, vs0, d0, ds0, p0, q0, hargs, rfl, rfl, h0, r0⟩ := trodAll_cons hA
  obtain ⟨v1, vs1, d1, ds1, p1, q1, rfl, rfl, rfl, h1, r1⟩ := trodAll_cons r0
  obtain ⟨rfl, rfl, rfl⟩ := trodAll_nil r1
  obtain rfl : args = #[v0, v1] := by cases args; simp_all
  obtain ⟨rfl, rfl⟩ := trodVars_none hV
  obtain ⟨a0, rfl, rfl, rfl, w0⟩ := open_int Try.underlying3 (hval 0 3 v0 rfl rfl) h0
  obtain ⟨a1, rfl, rfl, rfl, w1⟩ := open_int Try.underlying3 (hval 1 3 v1 rfl rfl) h1
  clear hA0 hval0
  refine (walk a0 a1 w0 w1 W).mono fun e W' ⟨he, bel⟩ => ?_
  subst he
  exact ⟨_, rfl, _, _, _, [], _, [], hW', trodAll_mk1 (shut_bool Try.underlying4 _), (trodAll_cons_mk (shut_int Try.underlying3 w0) (trodAll_cons_mk (shut_int Try.underlying3 w1) trodAll_mk0)), rfl, bel.frame _, fun h => by cases h⟩

theorem over : Rows.relayOfNothingRow.holds Try.pinned (OpenSpec.ofChange Rows.relayOfNothingSpec) :=
  OpenClaim.holds_of_wide 8 Try.f8 rfl rfl rfl rfl rfl rfl rfl ⟨rfl, rfl, rfl, rfl, rfl⟩ rfl rfl rfl rfl rfl (by kernel_rfl) Try.func8 (by kernel_rfl)
    (of_decide_eq_true (by kernel_rfl)) (by unfold Func.isWrapper; first | (rw [if_pos (by decide +kernel)]; kernel_rfl) | (rw [if_neg (by decide +kernel)]; exact ⟨rfl, rfl⟩))
    (fun os started H enc _ => lifted os started H enc)

end Go.Proofs.Ytmnhlnhocnchpaa.relayOfNothing
namespace Go.Proofs.Ytmnhlnhocnchpaa
theorem relayOfNothing_holds : Rows.RelayOfNothingSaid := relayOfNothing.over
#print axioms relayOfNothing_holds
end Go.Proofs.Ytmnhlnhocnchpaa
