/-
  Of any two numbers and any routes: FlatLays returns true. No condition.
-/
import Derived.Test.YtelmjkjbbbgmpaaRows
import Derived.Test.YtelmjkjbbbgmpaaFlThings
import Derived.Test.YtelmjkjbbbgmpaaFlRfLay
import Derived.Test.YtelmjkjbbbgmpaaFlSame
import Derived.Test.YtelmjkjbbbgmpaaFlChg
import Derived.ShutString
namespace Go.Proofs.Ytelmjkjbbbgmpaa.flatLays
open Go.ChangeShapes Go.WideShapes Go.ChangeAt Go.RowKit

theorem lay_small (ep ct : Int) (l : List Rs) (j : Nat) : (textOf (itAt (layV ep ct l) (j : Int))).1.size ≤ 281474976710656 := by
  rw [itAt_nat]
  cases j with
  | zero => show stateS.size ≤ _; decide
  | succ j =>
    rw [layV, List.getElem?_cons_succ, List.getElem?_map]
    cases (numsV ep ct l)[j]? with
    | none => show (0 : Nat) ≤ _; omega
    | some x => show (0 : Nat) ≤ _; omega

set_option maxRecDepth 1000000 in
set_option maxHeartbeats 4000000 in
theorem walk (w : World) (ep ct : Int) (ol : Option Addr) (m cl : Nat) (l : List Rs) (el : l.length = m) (_ : OkSl ol m cl) (sl : rowAt w (.slice ol m cl) 4 rsC l ∧ ∀ y ∈ l, wfI y.1 ∧ wfI y.2.1 ∧ wfI y.2.2.1) (_ : (Lit.int .i64 ep).wf = true) (_ : (Lit.int .i64 ct).wf = true) :
    Calls Try.prog 7 #[.int .i64 ep, .int .i64 ct, .slice ol m cl] w fun e w' => e = .returned (.bool true) ∧ Below w.heap.size w w' := by
  have HL : Hid (rowAt w (.slice ol m cl) 4 rsC l ∧ l.length = m) := ⟨sl.1, el⟩
  clear sl el
  by_cases h1 : 60 < m
  · have h1i : (60 : Int) < (m : Int) := by omega
    go_enter Try.func7, Try.ntmps7
    go_wp2
    go_ret
    exact ⟨rfl, Below.refl _ _⟩
  have h1i : ¬ (60 : Int) < (m : Int) := by omega
  by_cases h2 : 24 < m
  · have h20 : (20 : Int) < (m : Int) := by omega
    go_enter Try.func7, Try.ntmps7
    go_wp2_with fail
    refine (lay_no ep ct ol m cl w h2).mono ?_
    rintro e w1 ⟨rfl, hw⟩
    obtain rfl := hw.symm
    go_wp2_with fail
    refine (rfLay_any ep ct _ l w HL.out.1 (by rw [HL.out.2]; omega)).mono ?_
    rintro e w2 ⟨he, hb2⟩
    rcases he with ⟨h, -⟩ | ⟨-, rfl⟩
    · rw [HL.out.2] at h
      omega
    have H2 : Hid (Below w.heap.size w w2) := hb2
    clear hb2
    go_wp2_with fail
    refine (things_nil _).mono ?_
    rintro e w3 ⟨rfl, hw⟩
    obtain rfl := hw.symm
    go_wp2_with fail
    refine (fknown_any _).mono ?_
    rintro e w4 ⟨rfl, hk⟩
    have HB4 : Hid (Below w.heap.size w w4) := H2.out.trans (hk.mono H2.out.size)
    clear hk
    go_wp2
    go_ret
    exact ⟨rfl, HB4.out⟩
  · have hpn : ∀ (q : Option Addr) W, (binOp .eql 38 (.pointer q) (.pointer none)).run Try.prog W = .ok (.bool (decide (q = none))) W := fun q W => by cases q <;> kernel_rfl
    go_enter Try.func7, Try.ntmps7
    go_wp2_with fail
    refine (lay_any ep ct _ l w HL.out.1 (by rw [HL.out.2]; omega)).mono ?_
    rintro e w1 ⟨c, u, rfl, hcr, hb1⟩
    have H1 : Hid (Crate w1 w.heap.size c u (layV ep ct l) ∧ Below w.heap.size w w1) := ⟨hcr, hb1⟩
    clear hcr hb1
    go_wp2_with fail
    refine (rfLay_any ep ct _ l w1 (HL.out.1.below H1.out.2) (by rw [HL.out.2]; omega)).mono ?_
    rintro e w2 ⟨he, hb2⟩
    rcases he with ⟨-, d, u2, rfl, hrc⟩ | ⟨h, -⟩
    rotate_left
    · rw [HL.out.2] at h
      omega
    have H2 : Hid (Reads w2 (.pointer (some ⟨c, 0, none⟩)) (layV ep ct l) ∧ ReadsT w2 (.pointer (some ⟨d, 0, none⟩)) ((layV ep ct l).map It.th) ∧ Below w.heap.size w w2) := ⟨H1.out.1.reads.below hb2, hrc.reads, H1.out.2.trans (hb2.mono H1.out.2.size)⟩
    clear hrc hb2
    go_wp2_with fail
    refine (things_any c d _ _ H2.out.1 H2.out.2.1 (lay_small ep ct l)).mono ?_
    rintro e w3 ⟨rfl, hb3⟩
    have H3 : Hid (Reads w3 (.pointer (some ⟨c, 0, none⟩)) (layV ep ct l) ∧ Below w.heap.size w w3) := ⟨H2.out.1.below hb3, H2.out.2.2.trans (hb3.mono H2.out.2.2.size)⟩
    have R := read_any _ _ w3 H3.out.1 (lay_small ep ct l 0)
    rw [read_lay] at R
    clear hb3
    go_wp2_with fail
    refine R.mono ?_
    rintro e w4 ⟨he, hb4⟩
    rcases he with ⟨a, b, r, v, hd, rfl, hi⟩ | ⟨hd, -⟩
    rotate_left
    · cases hd
    injection hd with hd
    injection hd with e1 hd
    injection hd with e2 e3
    subst e1 e2 e3
    have H4 : Hid (SRow w4 w3.heap.size v l ∧ Below w.heap.size w w4) := ⟨hi, H3.out.2.trans (hb4.mono H3.out.2.size)⟩
    clear hi hb4 R
    go_wp2_with fail
    refine (rfSame_eq _ _ l _ H4.out.1.row (HL.out.1.below H4.out.2) (by rw [HL.out.2]; omega)).mono ?_
    rintro e w5 ⟨rfl, nd, rfl⟩
    go_wp2_with fail
    refine (fknown_any _).mono ?_
    rintro e w6 ⟨rfl, hk⟩
    have HB6 : Hid (Below w.heap.size w w6) := below_drew_known nd H4.out.2 hk
    clear hk
    go_wp2
    go_ret
    exact ⟨rfl, HB6.out⟩

theorem own : ownKnob Try.prog.godebug = none := by kernel_rfl

set_option maxRecDepth 100000 in
theorem lifted (os : Os) (started : os.Started) (H : Type) (enc : TypeId × Value → H) :
    ReturnsInHanded {} Try.checked os 7 .any (Rows.flatLaysSpec.pre6 enc Try.prog Try.f7 Rows.flatLaysRow.domain false) (Rows.flatLaysSpec.post enc Try.prog Try.f7 false true false false) := by
  refine returnsInHanded_of_change (C := Try.checked) own started (by kernel_rfl) Try.func7
    (ChangeSpec.witness6 (enc := enc) (C := Try.checked) false ⟨#[], #[.int .i64 0, .int .i64 0, .slice none 0 0], []⟩ 8 (by kernel_rfl) (by kernel_rfl) (by kernel_rfl) (by kernel_rfl)) ?_
  intro W base args ds gs before hval0 hW _ _
  have hval : ∀ (j : Nat) t v, Try.f7.params[j]? = some t → args[j]? = some v → Value.okWide Try.prog W .any base t v := hval0
  have hW' := hW
  obtain ⟨p, q, hA0, hV, rfl, _, _⟩ := hW
  have hA : DataW.TrodAll enc Try.prog W 0 (fun _ => true) true Try.f7.params.toList args.toList ds p := hA0
  rw [Try.params7] at hA hval
  obtain ⟨v0, vs0, d0, ds0, p0, q0, hargs, rfl, rfl, h0, r0⟩ := trodAll_cons hA
  obtain ⟨v1, vs1, d1, ds1, p1, q1, rfl, rfl, rfl, h1, r1⟩ := trodAll_cons r0
  obtain ⟨v2, vs2, d2, ds2, p2, q2, rfl, rfl, rfl, h2, r2⟩ := trodAll_cons r1
  obtain ⟨rfl, rfl, rfl⟩ := trodAll_nil r2
  obtain rfl : args = #[v0, v1, v2] := by cases args; simp_all
  obtain ⟨rfl, rfl⟩ := trodVars_none hV
  obtain ⟨a0, rfl, rfl, rfl, w0⟩ := open_int Try.underlying3 (hval 0 3 v0 rfl rfl) h0
  obtain ⟨a1, rfl, rfl, rfl, w1⟩ := open_int Try.underlying3 (hval 1 3 v1 rfl rfl) h1
  obtain ⟨a2, len2, cap2, rfl⟩ := okWide_slice Try.underlying22 (hval 2 22 v2 rfl rfl)
  have k2 := h2
  have lt2 : ∀ x ∈ p2, x.block < W.heap.size := by obtain ⟨m, hm⟩ := k2; exact DataW.trod_lt m _ _ _ hm
  obtain ⟨z2, e2, m2, s2⟩ : ∃ l : List Rs, l.length = len2 ∧ OkSl a2 len2 cap2 ∧ (rowAt W (.slice a2 len2 cap2) 4 rsC l ∧ ∀ y ∈ l, wfI y.1 ∧ wfI y.2.1 ∧ wfI y.2.2.1) := by
    obtain ⟨fuel, hf⟩ := h2
    exact open_rssr hf
  clear hA0 hval0
  refine (walk W a0 a1 a2 len2 cap2 z2 e2 m2 s2 w0 w1).mono fun e W' ⟨he, bel⟩ => ?_
  subst he
  exact ⟨_, rfl, _, _, _, [], _, [], hW', trodAll_mk1 (shut_bool Try.underlying4 _), (trodAll_cons_mk (shut_int Try.underlying3 w0) (trodAll_cons_mk (shut_int Try.underlying3 w1) (trodAll_cons_mk (Below.trod flaidOut (by kernel_rfl) (of_decide_eq_true (by kernel_rfl)) k2 bel lt2) trodAll_mk0))), rfl, bel.frame _, fun h => by cases h⟩

theorem over : Rows.flatLaysRow.holds Try.pinned (OpenSpec.ofChange Rows.flatLaysSpec) :=
  OpenClaim.holds_of_wide 7 Try.f7 rfl rfl rfl rfl rfl rfl rfl ⟨rfl, rfl, rfl, rfl, rfl⟩ rfl rfl rfl rfl rfl (by kernel_rfl) Try.func7 (by kernel_rfl)
    (of_decide_eq_true (by kernel_rfl)) (by unfold Func.isWrapper; first | (rw [if_pos (by decide +kernel)]; kernel_rfl) | (rw [if_neg (by decide +kernel)]; exact ⟨rfl, rfl⟩))
    (fun os started H enc _ => lifted os started H enc)

end Go.Proofs.Ytelmjkjbbbgmpaa.flatLays
namespace Go.Proofs.Ytelmjkjbbbgmpaa
theorem flatLays_holds : Rows.FlatLaysSaid := flatLays.over
#print axioms flatLays_holds
end Go.Proofs.Ytelmjkjbbbgmpaa
