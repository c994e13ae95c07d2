/-
  Of any two rows of numbers: FlatDiffs returns true. No condition.
-/
import Derived.Test.YtelmjkjbbbgmpaaRows
import Derived.Test.YtelmjkjbbbgmpaaFlApp
import Derived.Test.YtelmjkjbbbgmpaaFlArgs
import Derived.Test.YtelmjkjbbbgmpaaFlRfDiff
import Derived.Test.YtelmjkjbbbgmpaaFlChg
import Derived.ShutString
namespace Go.Proofs.Ytelmjkjbbbgmpaa.flatDiffs
open Go.ChangeShapes Go.WideShapes Go.ChangeAt Go.RowKit

set_option maxRecDepth 1000000 in
set_option maxHeartbeats 4000000 in
theorem walk (w : World) (oa : Option Addr) (n ca : Nat) (a : List Int) (ea : a.length = n) (_ : OkSl oa n ca) (sa : rowAt w (.slice oa n ca) 1 iC a ∧ ∀ y ∈ a, wfI y)
    (ob : Option Addr) (m cb : Nat) (b : List Int) (eb : b.length = m) (_ : OkSl ob m cb) (sb : rowAt w (.slice ob m cb) 1 iC b ∧ ∀ y ∈ b, wfI y) :
    Calls Try.prog 5 #[.slice oa n ca, .slice ob m cb] w fun e w' => e = .returned (.bool true) ∧ Below w.heap.size w w' := by
  have HA : Hid (rowAt w (.slice oa n ca) 1 iC a ∧ a.length = n) := ⟨sa.1, ea⟩
  have HB : Hid (rowAt w (.slice ob m cb) 1 iC b ∧ b.length = m) := ⟨sb.1, eb⟩
  clear sa sb ea eb
  by_cases h1 : 200 < n
  · have h1i : (200 : Int) < (n : Int) := by omega
    go_enter Try.func5, Try.ntmps5
    go_wp2
    go_ret
    exact ⟨rfl, Below.refl _ _⟩
  have h1i : ¬ (200 : Int) < (n : Int) := by omega
  by_cases h2 : 200 < m
  · have h2i : (200 : Int) < (m : Int) := by omega
    go_enter Try.func5, Try.ntmps5
    go_wp2
    go_ret
    exact ⟨rfl, Below.refl _ _⟩
  have h2i : ¬ (200 : Int) < (m : Int) := by omega
  by_cases hnm : n = m
  · subst hnm
    have hl : a.length = b.length := by rw [HA.out.2, HB.out.2]
    have HDL : Hid ((diffV a b).length ≤ n) := by have := diffT_len a b a.length; rw [HA.out.2] at this; show (diffV a b).length ≤ n; rw [diffV, HA.out.2]; exact this
    have HAP : Hid (applyV a (diffV a b) = some b) := apply_diff hl
    have hbt : ((true : Bool) != true) = false := rfl
    go_enter Try.func5, Try.ntmps5
    go_wp2_with fail
    refine (diff_any _ _ a b _ HA.out.1 HB.out.1 hl (by rw [HA.out.2]; omega)).mono ?_
    rintro e w1 ⟨x, rfl, hx, hb1⟩
    have H1 : Hid (CRow w1 w.heap.size x (diffV a b) ∧ Below w.heap.size w w1) := ⟨hx, hb1⟩
    clear hx hb1
    go_wp2_with fail
    refine (rfDiff_any _ _ a b _ (HA.out.1.below H1.out.2) (HB.out.1.below H1.out.2) hl (by rw [HA.out.2]; omega)).mono ?_
    rintro e w2 ⟨y, rfl, hy, hb2⟩
    have H2 : Hid (CRow w2 w.heap.size x (diffV a b) ∧ CRow w2 w1.heap.size y (diffV a b) ∧ Below w.heap.size w w2) := ⟨H1.out.1.below hb2, hy, H1.out.2.trans (hb2.mono H1.out.2.size)⟩
    clear hy hb2
    go_wp2_with fail
    refine (changes_eq _ _ _ _ H2.out.1.row H2.out.2.1.row (by have := HDL.out; omega)).mono ?_
    rintro e w3 ⟨rfl, nd, rfl⟩
    have hbd : Below w2.heap.size w2 (w2.drewN nd) := _root_.Go.below_drewN (Below.refl _ w2) nd
    have H3 : Hid (CRow (w2.drewN nd) w.heap.size x (diffV a b) ∧ Below w.heap.size w (w2.drewN nd)) := ⟨H2.out.1.below hbd, H2.out.2.2.trans (hbd.mono H2.out.2.2.size)⟩
    clear hbd
    generalize w2.drewN nd = w3 at *
    go_wp2_with fail
    refine (apply_any _ _ a (diffV a b) _ (HA.out.1.below H3.out.2) H3.out.1.row (by rw [HA.out.2]; omega) (by have := HDL.out; omega)).mono ?_
    rw [HAP.out]
    rintro e w4 ⟨he, hb4⟩
    rcases he with ⟨d, v, hd, rfl, hi⟩ | ⟨hd, -⟩
    rotate_left
    · cases hd
    injection hd with hd
    subst hd
    have H4 : Hid (IRow w4 w3.heap.size v b ∧ Below w.heap.size w w4) := ⟨hi, H3.out.2.trans (hb4.mono H3.out.2.size)⟩
    clear hi hb4
    go_wp2_with fail
    refine (ints_same _ _ b _ H4.out.1.row (HB.out.1.below H4.out.2) (by rw [HB.out.2]; omega)).mono ?_
    rintro e w5 ⟨rfl, nd, rfl⟩
    go_wp2_with fail
    refine (fknown_any _).mono ?_
    rintro e w6 ⟨rfl, hk⟩
    have HB6 : Hid (Below w.heap.size w w6) := below_drew_known nd H4.out.2 hk
    clear hk
    go_wp2
    go_ret
    exact ⟨rfl, HB6.out⟩
  · have hl : a.length ≠ b.length := by rw [HA.out.2, HB.out.2]; exact hnm
    have hbt : ((false : Bool) != false) = false := rfl
    have hne : ((n : Int) != (m : Int)) = true := by rw [bne_iff_ne]; omega
    go_enter Try.func5, Try.ntmps5
    go_wp2_with fail
    refine (diff_no _ _ a b _ HA.out.1 HB.out.1 hl).mono ?_
    rintro e w1 ⟨rfl, hw⟩
    obtain rfl := hw.symm
    go_wp2_with fail
    refine (rfDiff_no _ _ a b _ HA.out.1 HB.out.1 hl).mono ?_
    rintro e w2 ⟨rfl, hw⟩
    obtain rfl := hw.symm
    go_wp2_with fail
    refine (changes_eq _ _ [] _ (rowAt.nil _ _ _) (rowAt.nil _ _ _) (by simp)).mono ?_
    rintro e w3 ⟨rfl, nd, rfl⟩
    go_wp2_with fail
    refine (fknown_any _).mono ?_
    rintro e w6 ⟨rfl, hk⟩
    have HB6 : Hid (Below w.heap.size w w6) := below_drew_known nd (Below.refl _ _) hk
    clear hk
    go_wp2
    go_ret
    exact ⟨rfl, HB6.out⟩

theorem own : ownKnob Try.prog.godebug = none := by kernel_rfl

set_option maxRecDepth 100000 in
theorem lifted (os : Os) (started : os.Started) (H : Type) (enc : TypeId × Value → H) :
    ReturnsInHanded {} Try.checked os 5 .any (Rows.flatDiffsSpec.pre6 enc Try.prog Try.f5 Rows.flatDiffsRow.domain false) (Rows.flatDiffsSpec.post enc Try.prog Try.f5 false true false false) := by
  refine returnsInHanded_of_change (C := Try.checked) own started (by kernel_rfl) Try.func5
    (ChangeSpec.witness6 (enc := enc) (C := Try.checked) false ⟨#[], #[.slice none 0 0, .slice none 0 0], []⟩ 8 (by kernel_rfl) (by kernel_rfl) (by kernel_rfl) (by kernel_rfl)) ?_
  intro W base args ds gs before hval0 hW _ _
  have hval : ∀ (j : Nat) t v, Try.f5.params[j]? = some t → args[j]? = some v → Value.okWide Try.prog W .any base t v := hval0
  have hW' := hW
  obtain ⟨p, q, hA0, hV, rfl, _, _⟩ := hW
  have hA : DataW.TrodAll enc Try.prog W 0 (fun _ => true) true Try.f5.params.toList args.toList ds p := hA0
  rw [Try.params5] at hA hval
  obtain ⟨v0, vs0, d0, ds0, p0, q0, hargs, rfl, rfl, h0, r0⟩ := trodAll_cons hA
  obtain ⟨v1, vs1, d1, ds1, p1, q1, rfl, rfl, rfl, h1, r1⟩ := trodAll_cons r0
  obtain ⟨rfl, rfl, rfl⟩ := trodAll_nil r1
  obtain rfl : args = #[v0, v1] := by cases args; simp_all
  obtain ⟨rfl, rfl⟩ := trodVars_none hV
  obtain ⟨a0, len0, cap0, rfl⟩ := okWide_slice Try.underlying23 (hval 0 23 v0 rfl rfl)
  have k0 := h0
  have lt0 : ∀ x ∈ p0, x.block < W.heap.size := by obtain ⟨m, hm⟩ := k0; exact DataW.trod_lt m _ _ _ hm
  obtain ⟨z0, e0, m0, s0⟩ : ∃ l : List Int, l.length = len0 ∧ OkSl a0 len0 cap0 ∧ (rowAt W (.slice a0 len0 cap0) 1 iC l ∧ ∀ y ∈ l, wfI y) := by
    obtain ⟨fuel, hf⟩ := h0
    exact open_intr hf
  obtain ⟨a1, len1, cap1, rfl⟩ := okWide_slice Try.underlying23 (hval 1 23 v1 rfl rfl)
  have k1 := h1
  have lt1 : ∀ x ∈ p1, x.block < W.heap.size := by obtain ⟨m, hm⟩ := k1; exact DataW.trod_lt m _ _ _ hm
  obtain ⟨z1, e1, m1, s1⟩ : ∃ l : List Int, l.length = len1 ∧ OkSl a1 len1 cap1 ∧ (rowAt W (.slice a1 len1 cap1) 1 iC l ∧ ∀ y ∈ l, wfI y) := by
    obtain ⟨fuel, hf⟩ := h1
    exact open_intr hf
  clear hA0 hval0
  refine (walk W a0 len0 cap0 z0 e0 m0 s0 a1 len1 cap1 z1 e1 m1 s1 ).mono fun e W' ⟨he, bel⟩ => ?_
  subst he
  exact ⟨_, rfl, _, _, _, [], _, [], hW', trodAll_mk1 (shut_bool Try.underlying4 _), (trodAll_cons_mk (Below.trod flaidOut (by kernel_rfl) (of_decide_eq_true (by kernel_rfl)) k0 bel lt0) (trodAll_cons_mk (Below.trod flaidOut (by kernel_rfl) (of_decide_eq_true (by kernel_rfl)) k1 bel lt1) trodAll_mk0)), rfl, bel.frame _, fun h => by cases h⟩

theorem over : Rows.flatDiffsRow.holds Try.pinned (OpenSpec.ofChange Rows.flatDiffsSpec) :=
  OpenClaim.holds_of_wide 5 Try.f5 rfl rfl rfl rfl rfl rfl rfl ⟨rfl, rfl, rfl, rfl, rfl⟩ rfl rfl rfl rfl rfl (by kernel_rfl) Try.func5 (by kernel_rfl)
    (of_decide_eq_true (by kernel_rfl)) (by unfold Func.isWrapper; first | (rw [if_pos (by decide +kernel)]; kernel_rfl) | (rw [if_neg (by decide +kernel)]; exact ⟨rfl, rfl⟩))
    (fun os started H enc _ => lifted os started H enc)

end Go.Proofs.Ytelmjkjbbbgmpaa.flatDiffs
namespace Go.Proofs.Ytelmjkjbbbgmpaa
theorem flatDiffs_holds : Rows.FlatDiffsSaid := flatDiffs.over
#print axioms flatDiffs_holds
end Go.Proofs.Ytelmjkjbbbgmpaa
