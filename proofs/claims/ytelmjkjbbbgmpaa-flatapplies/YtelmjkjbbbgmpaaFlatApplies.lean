/-
  Of any row of numbers and any changes: FlatApplies returns true. No condition.
-/
import Derived.Test.YtelmjkjbbbgmpaaRows
import Derived.Test.YtelmjkjbbbgmpaaFlRfAp
import Derived.Test.YtelmjkjbbbgmpaaFlArgs
import Derived.Test.YtelmjkjbbbgmpaaFlChg
import Derived.ShutString
namespace Go.Proofs.Ytelmjkjbbbgmpaa.flatApplies
open Go.ChangeShapes Go.WideShapes Go.ChangeAt Go.RowKit

set_option maxRecDepth 1000000 in
set_option maxHeartbeats 4000000 in
theorem walk (w : World) (oa : Option Addr) (n ca : Nat) (a : List Int) (ea : a.length = n) (_ : OkSl oa n ca) (sa : rowAt w (.slice oa n ca) 1 iC a ∧ ∀ y ∈ a, wfI y)
    (ol : Option Addr) (m cl : Nat) (l : List Ch) (el : l.length = m) (_ : OkSl ol m cl) (sl : rowAt w (.slice ol m cl) 2 chC l ∧ ∀ y ∈ l, wfI y.1 ∧ wfI y.2) :
    Calls Try.prog 6 #[.slice oa n ca, .slice ol m cl] w fun e w' => e = .returned (.bool true) ∧ Below w.heap.size w w' := by
  have HA : Hid (rowAt w (.slice oa n ca) 1 iC a ∧ a.length = n) := ⟨sa.1, ea⟩
  have HL : Hid (rowAt w (.slice ol m cl) 2 chC l ∧ l.length = m) := ⟨sl.1, el⟩
  clear sa sl ea el
  by_cases h1 : 200 < n
  · have h1i : (200 : Int) < (n : Int) := by omega
    go_enter Try.func6, Try.ntmps6
    go_wp2
    go_ret
    exact ⟨rfl, Below.refl _ _⟩
  have h1i : ¬ (200 : Int) < (n : Int) := by omega
  by_cases h2 : 200 < m
  · have h2i : (200 : Int) < (m : Int) := by omega
    go_enter Try.func6, Try.ntmps6
    go_wp2
    go_ret
    exact ⟨rfl, Below.refl _ _⟩
  have h2i : ¬ (200 : Int) < (m : Int) := by omega
  go_enter Try.func6, Try.ntmps6
  go_wp2_with fail
  refine (apply_any _ _ a l w HA.out.1 HL.out.1 (by rw [HA.out.2]; omega) (by rw [HL.out.2]; omega)).mono ?_
  rintro e w1 ⟨he, hb1⟩
  have R := rfApply_any _ _ a l w1 (HA.out.1.below hb1) (HL.out.1.below hb1) (by rw [HA.out.2]; omega) (by rw [HL.out.2]; omega)
  rcases he with ⟨d, v, hd, rfl, hi⟩ | ⟨hd, rfl⟩
  · rw [hd] at R
    have hdl : d.length = n := (applyV_len hd).trans HA.out.2
    have H1 : Hid (IRow w1 w.heap.size v d ∧ Below w.heap.size w w1) := ⟨hi, hb1⟩
    have HDL : Hid (d.length ≤ 4294967296) := by show d.length ≤ _; omega
    clear hi hb1 hd hdl
    go_wp2_with fail
    refine R.mono ?_
    rintro e w2 ⟨he, hb2⟩
    rcases he with ⟨d', v', hd, rfl, hi⟩ | ⟨hd, -⟩
    rotate_left
    · cases hd
    injection hd with hd
    subst hd
    have H2 : Hid (IRow w2 w.heap.size v d ∧ IRow w2 w1.heap.size v' d ∧ Below w.heap.size w w2) := ⟨H1.out.1.below hb2, hi, H1.out.2.trans (hb2.mono H1.out.2.size)⟩
    clear hi hb2 R
    go_wp2_with fail
    refine (ints_same _ _ d _ H2.out.1.row H2.out.2.1.row HDL.out).mono ?_
    rintro e w5 ⟨rfl, nd, rfl⟩
    go_wp2_with fail
    refine (fknown_any _).mono ?_
    rintro e w6 ⟨rfl, hk⟩
    have HB6 : Hid (Below w.heap.size w w6) := below_drew_known nd H2.out.2.2 hk
    clear hk
    go_wp2
    go_ret
    exact ⟨rfl, HB6.out⟩
  · rw [hd] at R
    have H1 : Hid (Below w.heap.size w w1) := hb1
    clear hb1 hd
    go_wp2_with fail
    refine R.mono ?_
    rintro e w2 ⟨he, hb2⟩
    rcases he with ⟨d', v', hd, rfl, hi⟩ | ⟨-, rfl⟩
    · cases hd
    have H2 : Hid (Below w.heap.size w w2) := H1.out.trans (hb2.mono H1.out.size)
    clear hb2 R
    go_wp2_with fail
    refine (ints_same _ _ [] _ (rowAt.nil _ _ _) (rowAt.nil _ _ _) (by simp)).mono ?_
    rintro e w5 ⟨rfl, nd, rfl⟩
    go_wp2_with fail
    refine (fknown_any _).mono ?_
    rintro e w6 ⟨rfl, hk⟩
    have HB6 : Hid (Below w.heap.size w w6) := below_drew_known nd H2.out hk
    clear hk
    go_wp2
    go_ret
    exact ⟨rfl, HB6.out⟩

theorem own : ownKnob Try.prog.godebug = none := by kernel_rfl

set_option maxRecDepth 100000 in
theorem lifted (os : Os) (started : os.Started) (H : Type) (enc : TypeId × Value → H) :
    ReturnsInHanded {} Try.checked os 6 .any (Rows.flatAppliesSpec.pre6 enc Try.prog Try.f6 Rows.flatAppliesRow.domain false) (Rows.flatAppliesSpec.post enc Try.prog Try.f6 false true false false) := by
  refine returnsInHanded_of_change (C := Try.checked) own started (by kernel_rfl) Try.func6
    (ChangeSpec.witness6 (enc := enc) (C := Try.checked) false ⟨#[], #[.slice none 0 0, .slice none 0 0], []⟩ 8 (by kernel_rfl) (by kernel_rfl) (by kernel_rfl) (by kernel_rfl)) ?_
  intro W base args ds gs before hval0 hW _ _
  have hval : ∀ (j : Nat) t v, Try.f6.params[j]? = some t → args[j]? = some v → Value.okWide Try.prog W .any base t v := hval0
  have hW' := hW
  obtain ⟨p, q, hA0, hV, rfl, _, _⟩ := hW
  have hA : DataW.TrodAll enc Try.prog W 0 (fun _ => true) true Try.f6.params.toList args.toList ds p := hA0
  rw [Try.params6] at hA hval
  obtain ⟨v0, vs0, d0, ds0, p0, q0, hargs, rfl, rfl, h0, r0⟩ := trodAll_cons hA
  obtain ⟨v1, vs1, d1, ds1, p1, q1, rfl, rfl, rfl, h1, r1⟩ := trodAll_cons r0
  obtain ⟨rfl, rfl, rfl⟩ := trodAll_nil r1
  obtain rfl : args = #[v0, v1] := by cases args; simp_all
  obtain ⟨rfl, rfl⟩ := trodVars_none hV
  obtain ⟨a0, len0, cap0, rfl⟩ := okWide_slice Try.underlying23 (hval 0 23 v0 rfl rfl)
  have k0 := h0
  have lt0 : ∀ x ∈ p0, x.block < W.heap.size := by obtain ⟨m, hm⟩ := k0; exact DataW.trod_lt m _ _ _ hm
  obtain ⟨z0, e0, m0, s0⟩ : ∃ l : List Int, l.length = len0 ∧ OkSl a0 len0 cap0 ∧ (rowAt W (.slice a0 len0 cap0) 1 iC l ∧ ∀ y ∈ l, wfI y) := by
    obtain ⟨fuel, hf⟩ := h0
    exact open_intr hf
  obtain ⟨a1, len1, cap1, rfl⟩ := okWide_slice Try.underlying31 (hval 1 31 v1 rfl rfl)
  have k1 := h1
  have lt1 : ∀ x ∈ p1, x.block < W.heap.size := by obtain ⟨m, hm⟩ := k1; exact DataW.trod_lt m _ _ _ hm
  obtain ⟨z1, e1, m1, s1⟩ : ∃ l : List Ch, l.length = len1 ∧ OkSl a1 len1 cap1 ∧ (rowAt W (.slice a1 len1 cap1) 2 chC l ∧ ∀ y ∈ l, wfI y.1 ∧ wfI y.2) := by
    obtain ⟨fuel, hf⟩ := h1
    exact open_chsr hf
  clear hA0 hval0
  refine (walk W a0 len0 cap0 z0 e0 m0 s0 a1 len1 cap1 z1 e1 m1 s1 ).mono fun e W' ⟨he, bel⟩ => ?_
  subst he
  exact ⟨_, rfl, _, _, _, [], _, [], hW', trodAll_mk1 (shut_bool Try.underlying4 _), (trodAll_cons_mk (Below.trod flaidOut (by kernel_rfl) (of_decide_eq_true (by kernel_rfl)) k0 bel lt0) (trodAll_cons_mk (Below.trod flaidOut (by kernel_rfl) (of_decide_eq_true (by kernel_rfl)) k1 bel lt1) trodAll_mk0)), rfl, bel.frame _, fun h => by cases h⟩

theorem over : Rows.flatAppliesRow.holds Try.pinned (OpenSpec.ofChange Rows.flatAppliesSpec) :=
  OpenClaim.holds_of_wide 6 Try.f6 rfl rfl rfl rfl rfl rfl rfl ⟨rfl, rfl, rfl, rfl, rfl⟩ rfl rfl rfl rfl rfl (by kernel_rfl) Try.func6 (by kernel_rfl)
    (of_decide_eq_true (by kernel_rfl)) (by unfold Func.isWrapper; first | (rw [if_pos (by decide +kernel)]; kernel_rfl) | (rw [if_neg (by decide +kernel)]; exact ⟨rfl, rfl⟩))
    (fun os started H enc _ => lifted os started H enc)

end Go.Proofs.Ytelmjkjbbbgmpaa.flatApplies
namespace Go.Proofs.Ytelmjkjbbbgmpaa
theorem flatApplies_holds : Rows.FlatAppliesSaid := flatApplies.over
#print axioms flatApplies_holds
end Go.Proofs.Ytelmjkjbbbgmpaa
