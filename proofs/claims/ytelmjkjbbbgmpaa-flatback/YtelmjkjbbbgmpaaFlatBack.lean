/-
  Of any routes and any numbers: FlatBack returns true. No condition.
-/
import Derived.Test.YtelmjkjbbbgmpaaRows
import Derived.Test.YtelmjkjbbbgmpaaFlTake
import Derived.Test.YtelmjkjbbbgmpaaFlSame
import Derived.Test.YtelmjkjbbbgmpaaFlChg
import Derived.ShutString
namespace Go.Proofs.Ytelmjkjbbbgmpaa.flatBack
open Go.ChangeShapes Go.WideShapes Go.ChangeAt Go.RowKit

theorem irow_room {w : World} {B : Nat} {v : Value} {l : List Int} (h : IRow w B v l) : ∃ o c, v = .slice o l.length c ∧ l.length ≤ c := by
  rcases h.2 with ⟨e, h0⟩ | ⟨g, c, cur, e, _, _, hc, _⟩
  · exact ⟨none, 0, by rw [e, h0], by omega⟩
  · exact ⟨_, c, e, hc⟩

set_option maxRecDepth 1000000 in
set_option maxHeartbeats 4000000 in
theorem walk (w : World) (ol : Option Addr) (m cl : Nat) (l : List Rs) (el : l.length = m) (_ : OkSl ol m cl) (sl : rowAt w (.slice ol m cl) 4 rsC l ∧ ∀ y ∈ l, wfI y.1 ∧ wfI y.2.1 ∧ wfI y.2.2.1)
    (oa : Option Addr) (n ca : Nat) (a : List Int) (ea : a.length = n) (ka : OkSl oa n ca) (sa : rowAt w (.slice oa n ca) 1 iC a ∧ ∀ y ∈ a, wfI y) :
    Calls Try.prog 4 #[.slice ol m cl, .slice oa n ca] w fun e w' => e = .returned (.bool true) ∧ Below w.heap.size w w' := by
  have HL : Hid (rowAt w (.slice ol m cl) 4 rsC l ∧ l.length = m) := ⟨sl.1, el⟩
  have HA : Hid (rowAt w (.slice oa n ca) 1 iC a ∧ a.length = n ∧ n ≤ ca) := ⟨sa.1, ea, ka.2.1⟩
  clear sl sa el ea ka
  by_cases h1 : 50 < m
  · have h1i : (50 : Int) < (m : Int) := by omega
    go_enter Try.func4, Try.ntmps4
    go_wp2
    go_ret
    exact ⟨rfl, Below.refl _ _⟩
  have h1i : ¬ (50 : Int) < (m : Int) := by omega
  by_cases h2 : 200 < n
  · have h2i : (200 : Int) < (n : Int) := by omega
    go_enter Try.func4, Try.ntmps4
    go_wp2
    go_ret
    exact ⟨rfl, Below.refl _ _⟩
  have h2i : ¬ (200 : Int) < (n : Int) := by omega
  go_enter Try.func4, Try.ntmps4
  go_wp2_with fail
  refine (of_any _ l w HL.out.1 (by rw [HL.out.2]; omega)).mono ?_
  rintro e w1 ⟨u, rfl, hu, hb1⟩
  obtain ⟨o, c, rfl, hoc⟩ := irow_room hu
  have H1 : Hid (IRow w1 w.heap.size (.slice o (ofV l).length c) (ofV l) ∧ Below w.heap.size w w1) := ⟨hu, hb1⟩
  have T := take_any o (ofV l).length c (ofV l) w1 H1.out.1.row hoc (by rw [of_len, HL.out.2]; omega)
  rw [take_of] at T
  clear hu hb1 hoc
  generalize (ofV l).length = k at *
  go_wp2_with fail
  refine T.mono ?_
  rintro e w2 ⟨he, hb2⟩
  rcases he with ⟨s, v, hd, rfl, hi⟩ | ⟨hd, -⟩
  rotate_left
  · cases hd
  injection hd with hd
  subst hd
  have H2 : Hid (SRow w2 w1.heap.size v l ∧ Below w.heap.size w w2) := ⟨hi, H1.out.2.trans (hb2.mono H1.out.2.size)⟩
  clear hi hb2 T
  go_wp2_with fail
  refine (rfSame_eq _ _ l _ H2.out.1.row (HL.out.1.below H2.out.2) (by rw [HL.out.2]; omega)).mono ?_
  rintro e w3 ⟨rfl, nd, rfl⟩
  have H3 : Hid (Below w.heap.size w (w2.drewN nd)) := H2.out.2.trans ((_root_.Go.below_drewN (Below.refl _ w2) nd).mono H2.out.2.size)
  generalize w2.drewN nd = w3 at *
  go_wp2_with fail
  refine (take_any oa n ca a _ (HA.out.1.below H3.out) HA.out.2.2 (by omega)).mono ?_
  rintro e w4 ⟨he, hb4⟩
  rcases he with ⟨s, v', hd, rfl, hi⟩ | ⟨hd, rfl⟩
  · have hsl := take_len hd
    rw [HA.out.2.1] at hsl
    have H4 : Hid (SRow w4 w3.heap.size v' s ∧ Below w.heap.size w w4) := ⟨hi, H3.out.trans (hb4.mono H3.out.size)⟩
    have HSL : Hid (s.length ≤ 1000 ∧ ofV s = a) := ⟨by omega, of_take hd⟩
    clear hi hb4 hd hsl
    go_wp2_with fail
    refine (of_any _ s _ H4.out.1.row HSL.out.1).mono ?_
    rw [HSL.out.2]
    rintro e w5 ⟨u', rfl, hu, hb5⟩
    have H5 : Hid (IRow w5 w4.heap.size u' a ∧ Below w.heap.size w w5) := ⟨hu, H4.out.2.trans (hb5.mono H4.out.2.size)⟩
    clear hu hb5
    go_wp2_with fail
    refine (ints_same _ _ a _ H5.out.1.row (HA.out.1.below H5.out.2) (by rw [HA.out.2.1]; omega)).mono ?_
    rintro e w6 ⟨rfl, nd, rfl⟩
    go_wp2_with fail
    refine (fknown_any _).mono ?_
    rintro e w7 ⟨rfl, hk⟩
    have HB7 : Hid (Below w.heap.size w w7) := below_drew_known nd H5.out.2 hk
    clear hk
    go_wp2
    go_ret
    exact ⟨rfl, HB7.out⟩
  · have H4 : Hid (Below w.heap.size w w4) := H3.out.trans (hb4.mono H3.out.size)
    clear hb4 hd
    go_wp2_with fail
    refine (fknown_any _).mono ?_
    rintro e w7 ⟨rfl, hk⟩
    have HB7 : Hid (Below w.heap.size w w7) := H4.out.trans (hk.mono H4.out.size)
    clear hk
    go_wp2
    go_ret
    exact ⟨rfl, HB7.out⟩

theorem own : ownKnob Try.prog.godebug = none := by kernel_rfl

set_option maxRecDepth 100000 in
theorem lifted (os : Os) (started : os.Started) (H : Type) (enc : TypeId × Value → H) :
    ReturnsInHanded {} Try.checked os 4 .any (Rows.flatBackSpec.pre6 enc Try.prog Try.f4 Rows.flatBackRow.domain false) (Rows.flatBackSpec.post enc Try.prog Try.f4 false true false false) := by
  refine returnsInHanded_of_change (C := Try.checked) own started (by kernel_rfl) Try.func4
    (ChangeSpec.witness6 (enc := enc) (C := Try.checked) false ⟨#[], #[.slice none 0 0, .slice none 0 0], []⟩ 8 (by kernel_rfl) (by kernel_rfl) (by kernel_rfl) (by kernel_rfl)) ?_
  intro W base args ds gs before hval0 hW _ _
  have hval : ∀ (j : Nat) t v, Try.f4.params[j]? = some t → args[j]? = some v → Value.okWide Try.prog W .any base t v := hval0
  have hW' := hW
  obtain ⟨p, q, hA0, hV, rfl, _, _⟩ := hW
  have hA : DataW.TrodAll enc Try.prog W 0 (fun _ => true) true Try.f4.params.toList args.toList ds p := hA0
  rw [Try.params4] at hA hval
  obtain ⟨v0, vs0, d0, ds0, p0, q0, hargs, rfl, rfl, h0, r0⟩ := trodAll_cons hA
  obtain ⟨v1, vs1, d1, ds1, p1, q1, rfl, rfl, rfl, h1, r1⟩ := trodAll_cons r0
  obtain ⟨rfl, rfl, rfl⟩ := trodAll_nil r1
  obtain rfl : args = #[v0, v1] := by cases args; simp_all
  obtain ⟨rfl, rfl⟩ := trodVars_none hV
  obtain ⟨a0, len0, cap0, rfl⟩ := okWide_slice Try.underlying22 (hval 0 22 v0 rfl rfl)
  have k0 := h0
  have lt0 : ∀ x ∈ p0, x.block < W.heap.size := by obtain ⟨m, hm⟩ := k0; exact DataW.trod_lt m _ _ _ hm
  obtain ⟨z0, e0, m0, s0⟩ : ∃ l : List Rs, l.length = len0 ∧ OkSl a0 len0 cap0 ∧ (rowAt W (.slice a0 len0 cap0) 4 rsC l ∧ ∀ y ∈ l, wfI y.1 ∧ wfI y.2.1 ∧ wfI y.2.2.1) := by
    obtain ⟨fuel, hf⟩ := h0
    exact open_rssr hf
  obtain ⟨a1, len1, cap1, rfl⟩ := okWide_slice Try.underlying23 (hval 1 23 v1 rfl rfl)
  have k1 := h1
  have lt1 : ∀ x ∈ p1, x.block < W.heap.size := by obtain ⟨m, hm⟩ := k1; exact DataW.trod_lt m _ _ _ hm
  obtain ⟨z1, e1, m1, s1⟩ : ∃ l : List Int, l.length = len1 ∧ OkSl a1 len1 cap1 ∧ (rowAt W (.slice a1 len1 cap1) 1 iC l ∧ ∀ y ∈ l, wfI y) := by
    obtain ⟨fuel, hf⟩ := h1
    exact open_intr hf
  clear hA0 hval0
  refine (walk W a0 len0 cap0 z0 e0 m0 s0 a1 len1 cap1 z1 e1 m1 s1 ).mono fun e W' ⟨he, bel⟩ => ?_
  subst he
  exact ⟨_, rfl, _, _, _, [], _, [], hW', trodAll_mk1 (shut_bool Try.underlying4 _), (trodAll_cons_mk (Below.trod flaidOut (by kernel_rfl) (of_decide_eq_true (by kernel_rfl)) k0 bel lt0) (trodAll_cons_mk (Below.trod flaidOut (by kernel_rfl) (of_decide_eq_true (by kernel_rfl)) k1 bel lt1) trodAll_mk0)), rfl, bel.frame _, fun h => by cases h⟩

theorem over : Rows.flatBackRow.holds Try.pinned (OpenSpec.ofChange Rows.flatBackSpec) :=
  OpenClaim.holds_of_wide 4 Try.f4 rfl rfl rfl rfl rfl rfl rfl ⟨rfl, rfl, rfl, rfl, rfl⟩ rfl rfl rfl rfl rfl (by kernel_rfl) Try.func4 (by kernel_rfl)
    (of_decide_eq_true (by kernel_rfl)) (by unfold Func.isWrapper; first | (rw [if_pos (by decide +kernel)]; kernel_rfl) | (rw [if_neg (by decide +kernel)]; exact ⟨rfl, rfl⟩))
    (fun os started H enc _ => lifted os started H enc)

end Go.Proofs.Ytelmjkjbbbgmpaa.flatBack
namespace Go.Proofs.Ytelmjkjbbbgmpaa
theorem flatBack_holds : Rows.FlatBackSaid := flatBack.over
#print axioms flatBack_holds
end Go.Proofs.Ytelmjkjbbbgmpaa
