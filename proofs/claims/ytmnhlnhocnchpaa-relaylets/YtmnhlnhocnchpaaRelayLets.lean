/-
  Of any two numbers: RelayLets returns true. No condition.
-/
import Derived.Test.YtmnhlnhocnchpaaRows
import Derived.Test.YtmnhlnhocnchpaaRlKnown
import Derived.Test.YtmnhlnhocnchpaaRlArgs
import Derived.ShutString
namespace Go.Proofs.Ytmnhlnhocnchpaa.relayLets
open Go.ChangeShapes Go.WideShapes Go.ChangeAt Go.RowKit

/-- Behind so many rounds of the first loop. -/
def itA : Nat → Rl
  | 0 => newR
  | k + 1 => askR (beginR (itA k) (k + 1)) 0 k
/-- Behind so many rounds of the second one. -/
def itW (a : Nat) : Nat → Rl
  | 0 => itA (a + 1)
  | i + 1 => askR (beginR (itW a i) (a + 1 + (i + 1))) 1 50
def okA (k : Nat) : Bool := decide ((askA (beginR (itA k) (k + 1)) 0 k).2.2 = 0) && decide ((itA (k + 1)).con = if 0 < k then 0 else -1)
theorem factA : ∀ k : Fin 11, okA k.1 = true := by decide +kernel
def okW (a i : Nat) : Bool :=
  if i + 1 < 10 then decide (askA (beginR (itW a i) (a + 1 + (i + 1))) 1 50 = (0, 0, 8)) else
    decide ((askA (beginR (itW a i) (a + 1 + (i + 1))) 1 50).2.2 = 0) && decide ((askA (beginR (itW a i) (a + 1 + (i + 1))) 1 50).1 = 2) && decide ((itW a (i + 1)).own = 1) &&
    (if i + 1 = 10 then decide ((askA (beginR (itW a i) (a + 1 + (i + 1))) 1 50).2.1 = a) && decide ((itW a (i + 1)).con = -1) else true)
theorem factW : ∀ a : Fin 11, ∀ i : Fin 20, okW a.1 i.1 = true := by decide +kernel

set_option maxRecDepth 1000000 in
set_option maxHeartbeats 8000000 in
theorem walk (asks wait : Int) (_ : (Lit.int IntKind.i64 asks).wf = true) (_ : (Lit.int IntKind.i64 wait).wf = true) (w : World) : Calls Try.prog 5 #[.int .i64 asks, .int .i64 wait] w fun e w' => e = .returned (.bool true) ∧ Below w.heap.size w w' := by
  by_cases g1 : asks < 0
  · go_enter Try.func5, Try.ntmps5
    go_wp2
    go_ret
    exact ⟨rfl, Below.refl _ _⟩
  by_cases g2 : 10 < asks
  · go_enter Try.func5, Try.ntmps5
    go_wp2
    go_ret
    exact ⟨rfl, Below.refl _ _⟩
  by_cases g3 : wait < 1
  · go_enter Try.func5, Try.ntmps5
    go_wp2
    go_ret
    exact ⟨rfl, Below.refl _ _⟩
  by_cases g4 : 20 < wait
  · go_enter Try.func5, Try.ntmps5
    go_wp2
    go_ret
    exact ⟨rfl, Below.refl _ _⟩
  obtain ⟨A, rfl, hA⟩ := nat_of (n := 11) (i := asks) ⟨by omega, by omega⟩
  obtain ⟨T, rfl, hT⟩ := nat_of (n := 21) (i := wait) ⟨by omega, by omega⟩
  have HT : Hid (A < 11 ∧ T < 21 ∧ 1 ≤ T) := ⟨hA, hT, by omega⟩
  go_enter Try.func5, Try.ntmps5
  go_wp2_with fail
  refine (new_l w _ (Below.refl _ _)).mono ?_
  rintro e w1 ⟨b, rfl, h, -, -⟩
  have H1 : Hid (RlL w w1 b newR 0) := h
  clear h
  go_wp2
  go_loopg [6, 7] (A + 1) (fun gk tn i wr => ∃ (k : Nat) (c : Int), gk = A + 1 - k ∧ tn = .int .i64 k ∧ i = .int .i64 k ∧ k ≤ A + 1 ∧ c ≤ k ∧ RlL w wr b (itA k) c)
  case atStart => exact ⟨0, 0, rfl, rfl, rfl, by omega, by decide, H1.out⟩
  case round =>
    obtain ⟨k, c, rfl, rfl, rfl, hk, hc, hs⟩ := hrel
    have HC : Hid (c ≤ (k : Int)) := hc
    have H10 : Hid (RlL w wr b (itA k) c) := hs
    clear hs hc H1
    by_cases hlt : k < A + 1
    · have hki : (k : Int) ≤ (A : Int) := by omega
      have hf := factA ⟨k, by omega⟩
      unfold okA at hf
      simp only [Bool.and_eq_true, decide_eq_true_eq] at hf
      obtain ⟨p, hp⟩ : ∃ p, (askA (beginR (itA k) (k + 1)) 0 k).1 = p := ⟨_, rfl⟩
      obtain ⟨q, hq⟩ : ∃ q, (askA (beginR (itA k) (k + 1)) 0 k).2.1 = q := ⟨_, rfl⟩
      have HE : Hid (askA (beginR (itA k) (k + 1)) 0 k = (p, q, 0)) := Prod.ext hp (Prod.ext hq hf.1)
      have HCN : Hid ((itA (k + 1)).con = if 0 < k then 0 else -1) := hf.2
      clear hf hp hq
      have D := begin_l w wr b _ _ (k + 1) H10.out (beginR (itA k) (k + 1)) rfl
      go_wp2_with fail
      refine D.mono ?_
      rintro e w11 ⟨rfl, h, -⟩
      have H11 : Hid (RlL w w11 b (beginR (itA k) (k + 1)) (c)) := h
      clear D h H10
      have D := ask_l w w11 b _ _ 0 k H11.out (by have := HC.out; omega) p q 0 (itA (k + 1)) ⟨HE.out, rfl⟩
      go_wp2_with fail
      refine D.mono ?_
      rintro e w12 ⟨rfl, h, -⟩
      have H12 : Hid (RlL w w12 b (itA (k + 1)) (c+1)) := h
      clear D h H11
      by_cases h0 : 0 < k
      · have h0i : (0 : Int) < (k : Int) := by omega
        have D := con_l H12.out 0 (by rw [HCN.out, if_pos h0])
        go_wp2_with fail
        refine D.mono ?_
        rintro e w9 ⟨rfl, hw⟩
        rw [hw]
        clear hw w9 D
        go_wp2
        go_roundg (A + 1 - (k + 1))
        case rel => exact ⟨k + 1, _, rfl, by go_num, by go_num, by omega, by have := HC.out; omega, H12.out⟩
        case measure => omega
      · have h0i : ¬ (0 : Int) < (k : Int) := by omega
        have D := con_l H12.out (-1) (by rw [HCN.out, if_neg h0])
        go_wp2_with fail
        refine D.mono ?_
        rintro e w9 ⟨rfl, hw⟩
        rw [hw]
        clear hw w9 D
        go_wp2
        go_roundg (A + 1 - (k + 1))
        case rel => exact ⟨k + 1, _, rfl, by go_num, by go_num, by omega, by have := HC.out; omega, H12.out⟩
        case measure => omega
    · obtain rfl : k = A + 1 := by omega
      have hki : ¬ ((A + 1 : Nat) : Int) ≤ (A : Int) := by omega
      go_wp2
      go_loopg [11] T (fun gk i wr => ∃ (k : Nat) (c : Int), gk = T - k ∧ i = .int .i64 (k + 1) ∧ k ≤ T ∧ c ≤ 11 + k ∧ RlL w wr b (itW A k) c)
      case atStart => exact ⟨0, _, rfl, rfl, by omega, by have := HC.out; omega, H10.out⟩
      case round =>
        clear HC H10
        obtain ⟨k, c, rfl, rfl, hk, hc, hs⟩ := hrel
        have HC : Hid (c ≤ 11 + (k : Int)) := hc
        have H10 : Hid (RlL w wr b (itW A k) c) := hs
        clear hs hc
        by_cases hlt : k < T
        · have hti : (k : Int) + 1 ≤ (T : Int) := by omega
          have hf := factW ⟨A, hA⟩ ⟨k, by omega⟩
          unfold okW at hf
          by_cases h9 : k + 1 < 10
          · have h9i : ¬ (10 : Int) ≤ (k : Int) + 1 := by omega
            rw [if_pos h9] at hf
            have HE : Hid (askA (beginR (itW A k) (A + 1 + (k + 1))) 1 50 = (0, 0, 8)) := by show _ = _; exact of_decide_eq_true hf
            clear hf
            have D := begin_l w wr b _ _ (A + 1 + (k + 1)) H10.out (beginR (itW A k) (A + 1 + (k + 1))) rfl
            go_wp2_with fail
            refine D.mono ?_
            rintro e w11 ⟨rfl, h, -⟩
            have H11 : Hid (RlL w w11 b (beginR (itW A k) (A + 1 + (k + 1))) (c)) := h
            clear D h H10
            have D := ask_l w w11 b _ _ 1 50 H11.out (by have := HC.out; omega) 0 0 8 (itW A (k + 1)) ⟨HE.out, rfl⟩
            go_wp2_with fail
            refine D.mono ?_
            rintro e w12 ⟨rfl, h, -⟩
            have H12 : Hid (RlL w w12 b (itW A (k + 1)) (c+1)) := h
            clear D h H11
            go_wp2
            go_roundg (T - (k + 1))
            case rel => exact ⟨k + 1, _, rfl, by go_num, by omega, by have := HC.out; omega, H12.out⟩
            case measure => omega
          · have h9i : (10 : Int) ≤ (k : Int) + 1 := by omega
            rw [if_neg h9] at hf
            simp only [Bool.and_eq_true, decide_eq_true_eq] at hf
            obtain ⟨⟨⟨f1, f2⟩, f3⟩, f4⟩ := hf
            obtain ⟨q, hq⟩ : ∃ q, (askA (beginR (itW A k) (A + 1 + (k + 1))) 1 50).2.1 = q := ⟨_, rfl⟩
            have HE : Hid (askA (beginR (itW A k) (A + 1 + (k + 1))) 1 50 = (2, q, 0)) := Prod.ext f2 (Prod.ext hq f1)
            have HO : Hid ((itW A (k + 1)).own = 1) := f3
            clear f1 f2 f3
            by_cases h10 : k + 1 = 10
            · rw [if_pos h10] at f4
              simp only [Bool.and_eq_true, decide_eq_true_eq] at f4
              obtain ⟨e1, e2⟩ := f4
              have HCN : Hid ((itW A (k + 1)).con = -1) := e2
              rw [hq] at e1
              subst e1
              clear hq e2
              have D := begin_l w wr b _ _ (A + 1 + (k + 1)) H10.out (beginR (itW A k) (A + 1 + (k + 1))) rfl
              go_wp2_with fail
              refine D.mono ?_
              rintro e w11 ⟨rfl, h, -⟩
              have H11 : Hid (RlL w w11 b (beginR (itW A k) (A + 1 + (k + 1))) (c)) := h
              clear D h H10
              have D := ask_l w w11 b _ _ 1 50 H11.out (by have := HC.out; omega) 2 A 0 (itW A (k + 1)) ⟨HE.out, rfl⟩
              go_wp2_with fail
              refine D.mono ?_
              rintro e w12 ⟨rfl, h, -⟩
              have H12 : Hid (RlL w w12 b (itW A (k + 1)) (c+1)) := h
              clear D h H11
              have hke : (k : Int) + 1 = 10 := by omega
              have D := own_l H12.out 1 HO.out
              go_wp2_with fail
              refine D.mono ?_
              rintro e w9 ⟨rfl, hw⟩
              rw [hw]
              clear hw w9 D
              have D := con_l H12.out (-1) HCN.out
              go_wp2_with fail
              refine D.mono ?_
              rintro e w9 ⟨rfl, hw⟩
              rw [hw]
              clear hw w9 D
              go_wp2
              go_roundg (T - (k + 1))
              case rel => exact ⟨k + 1, _, rfl, by go_num, by omega, by have := HC.out; omega, H12.out⟩
              case measure => omega
            · clear f4 hq
              have hke : ¬ (k : Int) + 1 = 10 := by omega
              have D := begin_l w wr b _ _ (A + 1 + (k + 1)) H10.out (beginR (itW A k) (A + 1 + (k + 1))) rfl
              go_wp2_with fail
              refine D.mono ?_
              rintro e w11 ⟨rfl, h, -⟩
              have H11 : Hid (RlL w w11 b (beginR (itW A k) (A + 1 + (k + 1))) (c)) := h
              clear D h H10
              have D := ask_l w w11 b _ _ 1 50 H11.out (by have := HC.out; omega) 2 q 0 (itW A (k + 1)) ⟨HE.out, rfl⟩
              go_wp2_with fail
              refine D.mono ?_
              rintro e w12 ⟨rfl, h, -⟩
              have H12 : Hid (RlL w w12 b (itW A (k + 1)) (c+1)) := h
              clear D h H11
              have D := own_l H12.out 1 HO.out
              go_wp2_with fail
              refine D.mono ?_
              rintro e w9 ⟨rfl, hw⟩
              rw [hw]
              clear hw w9 D
              go_wp2
              go_roundg (T - (k + 1))
              case rel => exact ⟨k + 1, _, rfl, by go_num, by omega, by have := HC.out; omega, H12.out⟩
              case measure => omega
        · have hti : ¬ (k : Int) + 1 ≤ (T : Int) := by omega
          have HB : Hid (Below w.heap.size w wr) := H10.out.bl
          clear H10
          go_wp2_with fail
          refine (known_any _).mono ?_
          rintro e wk ⟨rfl, hb⟩
          have HBK : Hid (Below w.heap.size w wk) := HB.out.trans (hb.mono HB.out.size)
          clear hb HB
          go_wp2
          go_ret
          exact ⟨rfl, HBK.out⟩

theorem own : ownKnob Try.prog.godebug = none := by kernel_rfl

set_option maxRecDepth 100000 in
theorem lifted (os : Os) (started : os.Started) (H : Type) (enc : TypeId × Value → H) :
    ReturnsInHanded {} Try.checked os 5 .any (Rows.relayLetsSpec.pre6 enc Try.prog Try.f5 Rows.relayLetsRow.domain false) (Rows.relayLetsSpec.post enc Try.prog Try.f5 false true false false) := by
  refine returnsInHanded_of_change (C := Try.checked) own started (by kernel_rfl) Try.func5
    (ChangeSpec.witness6 (enc := enc) (C := Try.checked) false ⟨#[], #[.int .i64 0, .int .i64 0], []⟩ 8 (by kernel_rfl) (by kernel_rfl) (by kernel_rfl) (by kernel_rfl)) ?_
  intro W base args ds gs before hval0 hW _ _
  have hval : ∀ (j : Nat) t v, Try.f5.params[j]? = some t → args[j]? = some v → Value.okWide Try.prog W .any base t v := hval0
  have hW' := hW
  obtain ⟨p, q, hA0, hV, rfl, _, _⟩ := hW
  have hA : DataW.TrodAll enc Try.prog W 0 (fun _ => true) true Try.f5.params.toList args.toList ds p := hA0
  rw [Try.params5] at hA hval
  obtain ⟨v0, vs0, d0, ds0, p0, q0, hargs, rfl, rfl, h0, r0⟩ := trodAll_cons hA
  obtain ⟨v1, vs1, d1, ds1, p1, q1, rfl, rfl, rfl, h1, r1⟩ := trodAll_cons r0
  obtain ⟨rfl, rfl, rfl⟩ := trodAll_nil r1
  obtain rfl : args = #[v0, v1] := by cases args; simp_all
  obtain ⟨rfl, rfl⟩ := trodVars_none hV
  obtain ⟨a0, rfl, rfl, rfl, w0⟩ := open_int Try.underlying3 (hval 0 3 v0 rfl rfl) h0
  obtain ⟨a1, rfl, rfl, rfl, w1⟩ := open_int Try.underlying3 (hval 1 3 v1 rfl rfl) h1
  clear hA0 hval0
  refine (walk a0 a1 w0 w1 W).mono fun e W' ⟨he, bel⟩ => ?_
  subst he
  exact ⟨_, rfl, _, _, _, [], _, [], hW', trodAll_mk1 (shut_bool Try.underlying4 _), (trodAll_cons_mk (shut_int Try.underlying3 w0) (trodAll_cons_mk (shut_int Try.underlying3 w1) trodAll_mk0)), rfl, bel.frame _, fun h => by cases h⟩

theorem over : Rows.relayLetsRow.holds Try.pinned (OpenSpec.ofChange Rows.relayLetsSpec) :=
  OpenClaim.holds_of_wide 5 Try.f5 rfl rfl rfl rfl rfl rfl rfl ⟨rfl, rfl, rfl, rfl, rfl⟩ rfl rfl rfl rfl rfl (by kernel_rfl) Try.func5 (by kernel_rfl)
    (of_decide_eq_true (by kernel_rfl)) (by unfold Func.isWrapper; first | (rw [if_pos (by decide +kernel)]; kernel_rfl) | (rw [if_neg (by decide +kernel)]; exact ⟨rfl, rfl⟩))
    (fun os started H enc _ => lifted os started H enc)

end Go.Proofs.Ytmnhlnhocnchpaa.relayLets
namespace Go.Proofs.Ytmnhlnhocnchpaa
theorem relayLets_holds : Rows.RelayLetsSaid := relayLets.over
#print axioms relayLets_holds
end Go.Proofs.Ytmnhlnhocnchpaa
