/-
  The reference's Apply, by a contract.
-/
import Derived.Test.YtelmjkjbbbgmpaaFlApp
import Derived.Test.YtelmjkjbbbgmpaaFlExt
import Derived.Test.YtelmjkjbbbgmpaaLyFork
namespace Go.Proofs.Ytelmjkjbbbgmpaa
open Go.RowKit

set_option maxRecDepth 1000000 in
set_option maxHeartbeats 4000000 in
theorem rfApply_any (va vl : Value) (a : List Int) (l : List Ch) (w : World) (ha : rowAt w va 1 iC a) (hl : rowAt w vl 2 chC l) (h5 : a.length ≤ 1000) (h6 : l.length ≤ 1000) :
    Calls Try.prog 20 #[va, vl] w fun e w' => ApAns w' w.heap.size (applyV a l) e ∧ Below w.heap.size w w' := by
  have HA : Hid (rowAt w va 1 iC a) := ha
  have HL : Hid (rowAt w vl 2 chC l) := hl
  have hal : Hid (a.length ≤ 1000) := h5
  have hva : ∃ o c, va = .slice o a.length c := ⟨_, _, ha.choose_spec.choose_spec.1⟩
  obtain ⟨oa, ca, rfl⟩ := hva
  obtain ⟨ol, cl, rfl, -⟩ := hl
  obtain ⟨m, hm⟩ : ∃ m, m = l.length := ⟨_, rfl⟩
  obtain ⟨n, hn⟩ : ∃ n, n = a.length := ⟨_, rfl⟩
  have HN : Hid (a.length = n ∧ l.length = m) := ⟨hn.symm, hm.symm⟩
  rw [← hm] at HL h6 ⊢
  rw [← hn] at HA h5 ⊢
  clear ha hm hn
  obtain ⟨u, w1, r1, i1, b1⟩ := copy_int w _ a HA.out (by have := hal.out; omega)
  have H1 : Hid (IRow w1 w.heap.size u a ∧ Below w.heap.size w w1) := ⟨i1, b1⟩
  clear i1 b1
  go_enter Try.func20, Try.ntmps20
  go_wp2_with (at_builtin; refine wpList_app_run rfl _ _ 23 rfl _ _ rfl rfl u w1 r1 ?_)
  go_loopg [7] m (fun gk i wr => ∃ k : Nat, ∃ cur, gk = m - k ∧ i = .int .i64 k ∧ k ≤ m ∧ applyV a (l.take k) = some cur ∧ IRow wr w.heap.size u cur ∧ Below w.heap.size w wr)
  case atStart => exact ⟨0, a, rfl, rfl, by omega, rfl, H1.out⟩
  case round =>
    obtain ⟨k, cur, rfl, rfl, hk, h1, h2, h3⟩ := hrel
    have HR : Hid (applyV a (l.take k) = some cur ∧ IRow wr w.heap.size u cur ∧ Below w.heap.size w wr) := ⟨h1, h2, h3⟩
    have hcl : Hid (cur.length = n) := (applyV_len h1).trans HN.out.1
    clear h1 h2 h3
    by_cases hlt : k < m
    · have hki : (k : Int) < (m : Int) := by omega
      obtain ⟨⟨p, y⟩, hx⟩ := at_of (l := l) (k := k) (by rw [HN.out.2]; exact hlt)
      obtain ⟨g, off, rfl, hc0, hc1⟩ := row_ch (HL.out.below HR.out.2.2) k _ hx
      have HX : Hid (l[k]? = some (p, y)) := hx
      clear hx
      have HV : Hid (∃ o c, u = .slice o n c) := by
        obtain ⟨o, c, e⟩ := owns_slice HR.out.2.1
        exact ⟨o, c, by rw [e, hcl.out]⟩
      obtain ⟨ou, cu, rfl⟩ := HV.out
      by_cases hp0 : p < 0
      · have HE : Hid (applyV a l = none) := applyV_none HR.out.1 HX.out (by unfold applyS; rw [if_neg (by show ¬ (0 ≤ p ∧ _); omega)])
        go_wp2
        go_ret2
        exact ⟨.inr ⟨HE.out, rfl⟩, HR.out.2.2⟩
      · by_cases hpn : (n : Int) ≤ p
        · have HE : Hid (applyV a l = none) := applyV_none HR.out.1 HX.out (by unfold applyS; rw [if_neg (by show ¬ (0 ≤ p ∧ p < (cur.length : Int)); rw [hcl.out]; omega)])
          go_wp2
          go_ret2
          exact ⟨.inr ⟨HE.out, rfl⟩, HR.out.2.2⟩
        · obtain ⟨q, rfl, hq⟩ := nat_of (i := p) (n := n) ⟨by omega, by omega⟩
          have HE : Hid (applyV a (l.take (k + 1)) = some (cur.set q y)) := by
            show applyV a (l.take (k + 1)) = _
            rw [applyV_next HR.out.1 HX.out, applyS, if_pos ⟨by show (0 : Int) ≤ (q : Int); omega, by show (q : Int) < _; rw [hcl.out]; omega⟩]
            rfl
          obtain ⟨gu, cu', hv, hg1, hg2⟩ := HR.out.2.1.slice (by rw [hcl.out]; omega)
          injection hv with e1 e2 e3
          subst e1
          clear e2 e3
          obtain ⟨z, hz⟩ := at_of (l := cur) (k := q) (by rw [hcl.out]; exact hq)
          have HIR : Hid (IRow wr w.heap.size (.slice (some ⟨gu, 0, none⟩) cur.length cu) cur) := by
            show IRow _ _ _ _
            rw [hcl.out]
            exact HR.out.2.1
          have hqi : (q : Int) < (n : Int) := by omega
          have f0 := ext_cell hc0
          have f1 := ext_cell hc1
          haveI := ext_some wr
          have HBR : Hid (Below wr.heap.size wr wr.drew) := (Below.refl _ _).drew
          have HZ : Hid (cur[q]? = some z) := hz
          clear hz
          go_wp2_with fail
          clear hc0 hc1
          refine wp_region_last (C := fun W => ∃ y : Ext wr, W = y.z) [0, 1, 2, 3, 4, 5, 6, 7, 8, 9, 10, 11] [12] (by kernel_rfl) (by kernel_rfl) (by kernel_rfl) (by kernel_rfl) (by simp only [List.filterMap_cons, List.getElem?_toArray, List.getElem?_cons_zero, List.getElem?_cons_succ, List.filterMap_nil]; rfl) (by simp only [List.filterMap_cons, List.getElem?_toArray, List.getElem?_cons_zero, List.getElem?_cons_succ, List.filterMap_nil]; rfl) ⟨⟨_, (Below.refl _ _).drew⟩, rfl⟩ ?_
          (repeat (first | (with_reducible refine mix_read (by kernel_rfl) ?_; go_big_quiet_want; go_big_quiet_op; go_big_quiet_on; with_reducible refine wpQuiet_nil ?_) | (with_reducible refine mix_pass (by kernel_rfl) ?_; go_big_quiet_skip; with_reducible refine wpQuiet_nil ?_)))
          with_reducible refine mix_end ?_
          have HI2 : Hid (IRow wr.drew w.heap.size (.slice (some ⟨gu, 0, none⟩) cur.length cu) cur) := HIR.out.below HBR.out
          have hcz := HI2.out.cell HZ.out
          have hfz := HI2.out.frozen q
          have HS : Hid (IRow (wr.drew.setCell ⟨gu, q, none⟩ (.int .i64 y)) w.heap.size (.slice (some ⟨gu, 0, none⟩) n cu) (cur.set q y)) := by
            have := HI2.out.store q y
            rw [hcl.out] at this
            exact this
          have HBS : Hid (Below w.heap.size w (wr.drew.setCell ⟨gu, q, none⟩ (.int .i64 y))) :=
            (HR.out.2.2.trans (HBR.out.mono HR.out.2.2.size)).setCell (p := ⟨gu, q, none⟩) hg1 (.int .i64 y)
          clear f0 f1 HBR HI2
          generalize wr.drew = wd at *
          go_wp2
          go_roundg (m - (k + 1))
          case rel => exact ⟨k + 1, _, rfl, by go_num, by omega, HE.out, HS.out, HBS.out⟩
          case measure => omega
    · have hke : k = m := by omega
      subst hke
      have HE : Hid (applyV a l = some cur) := by
        have := HR.out.1
        rwa [List.take_of_length_le (by rw [HN.out.2]; exact Nat.le_refl _)] at this
      go_wp2
      go_ret2
      exact ⟨.inl ⟨cur, u, HE.out, rfl, HR.out.2.1⟩, HR.out.2.2⟩
end Go.Proofs.Ytelmjkjbbbgmpaa
