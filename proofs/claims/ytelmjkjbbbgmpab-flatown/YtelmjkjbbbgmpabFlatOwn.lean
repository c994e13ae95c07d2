/-
  Of any numbers and any changes: FlatOwn returns true. No condition.
-/
import Derived.Test.YtelmjkjbbbgmpabRows
import Derived.Test.YtelmjkjbbbgmpabFlApp
import Derived.Test.YtelmjkjbbbgmpabFlArgs
import Derived.ShutString
namespace Go.Proofs.Ytelmjkjbbbgmpab.flatOwn
open Go.ChangeShapes Go.WideShapes Go.ChangeAt Go.RowKit

set_option maxRecDepth 1000000 in
set_option maxHeartbeats 4000000 in
theorem walk (w : World) (oa : Option Addr) (n ca : Nat) (a : List Int) (ea : a.length = n) (_ : OkSl oa n ca) (sa : rowAt w (.slice oa n ca) 1 iC a ∧ ∀ y ∈ a, wfI y)
    (ol : Option Addr) (m cl : Nat) (l : List Ch) (el : l.length = m) (_ : OkSl ol m cl) (sl : rowAt w (.slice ol m cl) 2 chC l ∧ ∀ y ∈ l, wfI y.1 ∧ wfI y.2) :
    Calls Try.prog 5 #[.slice oa n ca, .slice ol m cl] w fun e w' => e = .returned (.bool true) ∧ Below w.heap.size w w' := by
  have HA : Hid (rowAt w (.slice oa n ca) 1 iC a ∧ a.length = n) := ⟨sa.1, ea⟩
  have HL : Hid (rowAt w (.slice ol m cl) 2 chC l ∧ l.length = m) := ⟨sl.1, el⟩
  clear sa sl ea el
  by_cases h1 : 100 < n
  · have h1i : (100 : Int) < (n : Int) := by omega
    go_enter Try.func5, Try.ntmps5
    go_wp2
    go_ret
    exact ⟨rfl, Below.refl _ _⟩
  have h1i : ¬ (100 : Int) < (n : Int) := by omega
  by_cases h2 : 100 < m
  · have h2i : (100 : Int) < (m : Int) := by omega
    go_enter Try.func5, Try.ntmps5
    go_wp2
    go_ret
    exact ⟨rfl, Below.refl _ _⟩
  have h2i : ¬ (100 : Int) < (m : Int) := by omega
  obtain ⟨v1, w1, r1, i1, b1⟩ := copy_int w (.slice oa n ca) a HA.out.1 (by rw [HA.out.2]; omega)
  have H1 : Hid (IRow w1 w.heap.size v1 a ∧ Below w.heap.size w w1) := ⟨i1, b1⟩
  clear i1 b1
  go_enter Try.func5, Try.ntmps5
  go_wp2_with (at_builtin; refine wpList_app_run rfl _ _ 22 rfl _ _ rfl rfl v1 w1 r1 ?_)
  go_wp2_with fail
  refine (apply_any _ _ a l w1 (HA.out.1.below H1.out.2) (HL.out.1.below H1.out.2) (by rw [HA.out.2]; omega) (by rw [HL.out.2]; omega)).mono ?_
  rintro e w2 ⟨he, hb2⟩
  have H2 : Hid (Below w.heap.size w w2 ∧ Below w1.heap.size w1 w2) := ⟨H1.out.2.trans (hb2.mono H1.out.2.size), hb2⟩
  clear hb2 r1
  obtain ⟨o1, c1, rfl⟩ := owns_slice H1.out.1
  rw [HA.out.2] at H1 ⊢
  have FIN : Hid (∀ w3, Below w1.heap.size w1 w3 → Calls Try.prog 8 #[.slice oa n ca, .slice o1 n c1] w3 fun e w' => e = .returned (.bool true) ∧ ∃ k, w' = w3.drewN k) := fun w3 hw => by
    have := refInts_any (.slice oa n ca) (.slice o1 n c1) a a w3 (HA.out.1.below (H1.out.2.trans (hw.mono H1.out.2.size))) (H1.out.1.row.below hw) (by rw [HA.out.2]; omega)
    rw [decide_eq_true rfl] at this
    exact this
  rcases he with ⟨b, v, hap, rfl, hi⟩ | ⟨hap, rfl⟩
  · have HB : Hid (IRow w2 w1.heap.size v b) := hi
    have hbl : b.length = n := (applyV_len hap).trans HA.out.2
    obtain ⟨o, c, rfl⟩ := owns_slice hi
    have HBL : Hid (b.length = n) := hbl
    rw [hbl] at HB ⊢
    clear hi hap hbl
    go_wp2
    go_loopg [8] n (fun gk i wr => ∃ k : Nat, ∃ q, gk = n - k ∧ i = .int .i64 k ∧ k ≤ n ∧ IRow wr w1.heap.size (.slice o n c) q ∧ q.length = n ∧ Below w1.heap.size w1 wr)
    case atStart => exact ⟨0, b, rfl, rfl, by omega, HB.out, HBL.out, H2.out.2⟩
    case round =>
      obtain ⟨k, q, rfl, rfl, hk, k1, k2, k3⟩ := hrel
      by_cases hlt : k < n
      · have hki : (k : Int) < (n : Int) := by omega
        obtain ⟨g, c', e, hg1, hg2⟩ := k1.slice (by omega)
        injection e with e1 e2 e3
        subst e1
        clear e2 e3
        obtain ⟨x, hx⟩ := at_of (l := q) (k := k) (by omega)
        have hI : IRow wr w1.heap.size (.slice (some ⟨g, 0, none⟩) q.length c) q := by rw [k2]; exact k1
        have hcx := hI.cell hx
        have hfx := hI.frozen k
        have HS : Hid (∀ y, IRow (wr.setCell ⟨g, k, none⟩ (.int .i64 y)) w1.heap.size (.slice (some ⟨g, 0, none⟩) n c) (q.set k y) ∧ (q.set k y).length = n ∧ Below w1.heap.size w1 (wr.setCell ⟨g, k, none⟩ (.int .i64 y))) := fun y =>
          ⟨by have := hI.store k y; rwa [k2] at this, by rw [List.length_set, k2], k3.setCell hg1 _⟩
        clear hx hI k1 k2 k3
        go_wp2
        go_roundg (n - (k + 1))
        case rel => exact ⟨k + 1, _, rfl, by go_num, by omega, HS.out _⟩
        case measure => omega
      · have hke : k = n := by omega
        subst hke
        have HF := FIN.out wr k3
        have HK3 : Hid (Below w.heap.size w wr) := H1.out.2.trans (k3.mono H1.out.2.size)
        clear k1 k2 k3
        go_wp2_with fail
        refine HF.mono ?_
        rintro e w4 ⟨rfl, nd, rfl⟩
        go_wp2_with fail
        refine (fknown_any _).mono ?_
        rintro e w5 ⟨rfl, hk5⟩
        have HB5 : Hid (Below w.heap.size w w5) := by
          have h4 := HK3.out.trans ((_root_.Go.below_drewN (Below.refl _ wr) nd).mono HK3.out.size)
          exact h4.trans (hk5.mono h4.size)
        clear hk5
        go_wp2
        go_ret
        exact ⟨rfl, HB5.out⟩
  · have HF := FIN.out w2 H2.out.2
    go_wp2_with fail
    refine HF.mono ?_
    rintro e w4 ⟨rfl, nd, rfl⟩
    go_wp2_with fail
    refine (fknown_any _).mono ?_
    rintro e w5 ⟨rfl, hk5⟩
    have HB5 : Hid (Below w.heap.size w w5) := by
      have h4 := H2.out.1.trans ((_root_.Go.below_drewN (Below.refl _ w2) nd).mono H2.out.1.size)
      exact h4.trans (hk5.mono h4.size)
    clear hk5
    go_wp2
    go_ret
    exact ⟨rfl, HB5.out⟩

theorem own : ownKnob Try.prog.godebug = none := by kernel_rfl

set_option maxRecDepth 100000 in
theorem lifted (os : Os) (started : os.Started) (H : Type) (enc : TypeId × Value → H) :
    ReturnsInHanded {} Try.checked os 5 .any (Rows.flatOwnSpec.pre6 enc Try.prog Try.f5 Rows.flatOwnRow.domain false) (Rows.flatOwnSpec.post enc Try.prog Try.f5 false true false false) := by
  refine returnsInHanded_of_change (C := Try.checked) own started (by kernel_rfl) Try.func5
    (ChangeSpec.witness6 (enc := enc) (C := Try.checked) false ⟨#[], #[.slice none 0 0, .slice none 0 0], []⟩ 8 (by kernel_rfl) (by kernel_rfl) (by kernel_rfl) (by kernel_rfl)) ?_
  intro W base args ds gs before hval0 hW _ _
  have hval : ∀ (j : Nat) t v, Try.f5.params[j]? = some t → args[j]? = some v → Value.okWide Try.prog W .any base t v := hval0
  have hW' := hW
  obtain ⟨p, q, hA0, hV, rfl, _, _⟩ := hW
  have hA : DataW.TrodAll enc Try.prog W 0 (fun _ => true) true Try.f5.params.toList args.toList ds p := hA0
  rw [Try.params5] at hA hval
  obtain ⟨v0, vs0, d0, ds0, p0, q0, hargs, rfl, rfl, h0, r0⟩ := trodAll_cons hA
  obtain ⟨v1, vs1, d1, ds1, p1, q1, rfl, rfl, rfl, h1, r1⟩ := trodAll_cons r0
  obtain ⟨rfl, rfl, rfl⟩ := trodAll_nil r1
  obtain rfl : args = #[v0, v1] := by cases args; simp_all
  obtain ⟨rfl, rfl⟩ := trodVars_none hV
  obtain ⟨a0, len0, cap0, rfl⟩ := okWide_slice Try.underlying22 (hval 0 22 v0 rfl rfl)
  have k0 := h0
  have lt0 : ∀ x ∈ p0, x.block < W.heap.size := by obtain ⟨m, hm⟩ := k0; exact DataW.trod_lt m _ _ _ hm
  obtain ⟨z0, e0, m0, s0⟩ : ∃ l : List Int, l.length = len0 ∧ OkSl a0 len0 cap0 ∧ (rowAt W (.slice a0 len0 cap0) 1 iC l ∧ ∀ y ∈ l, wfI y) := by
    obtain ⟨fuel, hf⟩ := h0
    exact open_intr hf
  obtain ⟨a1, len1, cap1, rfl⟩ := okWide_slice Try.underlying23 (hval 1 23 v1 rfl rfl)
  have k1 := h1
  have lt1 : ∀ x ∈ p1, x.block < W.heap.size := by obtain ⟨m, hm⟩ := k1; exact DataW.trod_lt m _ _ _ hm
  obtain ⟨z1, e1, m1, s1⟩ : ∃ l : List Ch, l.length = len1 ∧ OkSl a1 len1 cap1 ∧ (rowAt W (.slice a1 len1 cap1) 2 chC l ∧ ∀ y ∈ l, wfI y.1 ∧ wfI y.2) := by
    obtain ⟨fuel, hf⟩ := h1
    exact open_chsr hf
  clear hA0 hval0
  refine (walk W a0 len0 cap0 z0 e0 m0 s0 a1 len1 cap1 z1 e1 m1 s1 ).mono fun e W' ⟨he, bel⟩ => ?_
  subst he
  exact ⟨_, rfl, _, _, _, [], _, [], hW', trodAll_mk1 (shut_bool Try.underlying4 _), (trodAll_cons_mk (Below.trod flaidOut (by kernel_rfl) (of_decide_eq_true (by kernel_rfl)) k0 bel lt0) (trodAll_cons_mk (Below.trod flaidOut (by kernel_rfl) (of_decide_eq_true (by kernel_rfl)) k1 bel lt1) trodAll_mk0)), rfl, bel.frame _, fun h => by cases h⟩

theorem over : Rows.flatOwnRow.holds Try.pinned (OpenSpec.ofChange Rows.flatOwnSpec) :=
  OpenClaim.holds_of_wide 5 Try.f5 rfl rfl rfl rfl rfl rfl rfl ⟨rfl, rfl, rfl, rfl, rfl⟩ rfl rfl rfl rfl rfl (by kernel_rfl) Try.func5 (by kernel_rfl)
    (of_decide_eq_true (by kernel_rfl)) (by unfold Func.isWrapper; first | (rw [if_pos (by decide +kernel)]; kernel_rfl) | (rw [if_neg (by decide +kernel)]; exact ⟨rfl, rfl⟩))
    (fun os started H enc _ => lifted os started H enc)

end Go.Proofs.Ytelmjkjbbbgmpab.flatOwn
namespace Go.Proofs.Ytelmjkjbbbgmpab
theorem flatOwn_holds : Rows.FlatOwnSaid := flatOwn.over
#print axioms flatOwn_holds
end Go.Proofs.Ytelmjkjbbbgmpab
