/-
  The reference: how a need must lie; is a route clear? does all lie right for it? by contracts.
-/
import Derived.Test.YtceebimgfajbcaaGreatDoorRfTab2
import Derived.Test.YtceebimgfajbcaaGreatDoorLkLay
import Derived.Test.YtceebimgfajbcaaGreatDoorLkInOut2
namespace Go.Proofs.YtceebimgfajbcaaGreatDoor
open Go.RowKit

set_option maxRecDepth 1000000 in
theorem rfSide_any (p : Int) (b : Bool) (w : World) :
    Calls Tryz.prog 46 #[.agg #[.int .i64 p, .bool b]] w fun e w' => e = .returned (.int .i64 (posF b)) ∧ Below w.heap.size w w' := by
  go_enter Tryz.func46, Tryz.ntmps46
  cases b
  all_goals
    go_wp2
    go_ret
    exact ⟨rfl, (by repeat' (with_reducible first | exact Below.refl _ _ | refine Below.drew ?_ | refine _root_.Go.below_drewN ?_ _ | refine Below.alloc ?_ ?_ _ | refine Below.setCell ?_ ?_ _ | exact Nat.le_refl _ | (simp; done) | (simp; omega)))⟩

set_option maxRecDepth 1000000 in
set_option maxHeartbeats 16000000 in
theorem rfClear_any (v : Nat → Value) (l : Lay) (rs : List RtV) (j : Nat) (x : RtV) (u : Nat → Value) (occ : List Bool) (lies : List Int) (w : World) (h : LayRd w v l rs) (hin : InRd w u occ lies) (hx : rs[j]? = some x) (hl : x.1.path.length ≤ 1000000 ∧ occ.length ≤ 1000000) (hp : ∀ s ∈ x.1.path, 0 ≤ s ∧ s < (occ.length : Nat)) :
    Calls Tryz.prog 36 #[.agg #[v 0, v 1, v 2, v 3], .int .i64 j, .agg #[u 0, u 1]] w fun e w' => e = .returned (.bool (clearB occ x.1.path)) ∧ Below w.heap.size w w' := by
  obtain ⟨o0, c0, e0, _⟩ := h.s
  obtain ⟨o1, c1, e1, _⟩ := h.p
  obtain ⟨o2, c2, e2, _⟩ := h.g
  obtain ⟨o3, c3, e3, r3⟩ := h.r
  obtain ⟨g3, f3, rfl, hcx⟩ := r3 j x hx
  have xa3 := hcx 3 _ rfl
  have hj : j < rs.length := (List.getElem?_eq_some_iff.1 hx).1
  obtain ⟨op, cp, ep, qp⟩ := (h.x x (List.mem_of_getElem? hx)).path
  rw [ep] at xa3
  have HP := (show Hid _ from row_int (w := w) ⟨op, cp, rfl, qp⟩)
  obtain ⟨p0, d0, f0, q0⟩ := hin.o
  obtain ⟨p1, d1, f1, _⟩ := hin.l
  have HO := (show Hid _ from row_bool (w := w) ⟨p0, d0, rfl, q0⟩)
  have HPI : Hid (∀ s ∈ x.1.path, 0 ≤ s ∧ s < (occ.length : Nat)) := hp
  obtain ⟨hl1, hl2⟩ := hl
  rw [e0, e1, e2, e3, f0, f1]
  clear h hin r3 hcx hx ep qp hp e0 e1 e2 e3 f0 f1 q0
  generalize hip : x.1.path = pa at *
  generalize hpl : pa.length = np at *
  generalize hol : occ.length = no at *
  have HPL : Hid (pa.length = np ∧ occ.length = no) := ⟨hpl, hol⟩
  clear hpl hol hip
  generalize lies.length = nl at *
  generalize l.sections.length = n0 at *
  generalize l.points.length = n1 at *
  generalize l.signals.length = n2 at *
  generalize rs.length = n3 at *
  have hji : (j : Int) < (n3 : Int) := by omega
  have HAN : Hid (clearB occ (pa.drop 0) = clearB occ pa) := rfl
  generalize clearB occ pa = ans at *
  generalize hch : (w.alloc (.cells #[.slice o0 n0 c0, .slice o1 n1 c1, .slice o2 n2 c2, .slice (some ⟨g3, f3, none⟩) n3 c3] 26)).alloc (.cells #[.slice p0 no d0, .slice p1 nl d1] 38) = w1
  have HB01 : Hid (Below w.heap.size w w1) := by show Below _ _ _; rw [← hch]; exact (by repeat' (with_reducible first | exact Below.refl _ _ | refine Below.drew ?_ | refine _root_.Go.below_drewN ?_ _ | refine Below.alloc ?_ ?_ _ | refine Below.setCell ?_ ?_ _ | exact Nat.le_refl _ | (simp; done) | (simp; omega)))
  have H0 : Hid (w1.heap[w.heap.size]? = some (.cells #[.slice o0 n0 c0, .slice o1 n1 c1, .slice o2 n2 c2, .slice (some ⟨g3, f3, none⟩) n3 c3] 26 (0, 0))) := by show _ = _; rw [← hch]; exact blk_old (blk_new _ _)
  have H1 : Hid (w1.heap[w.heap.size + 1]? = some (.cells #[.slice p0 no d0, .slice p1 nl d1] 38 (0, 0))) := by show _ = _; rw [← hch]; exact blk_at1 _ _ _
  have A3 := (show Hid _ from up_cell HB01.out xa3)
  clear xa3
  go_enter Tryz.func36, Tryz.ntmps36
  go_wp2
  clear hch
  go_loopg [7] np (fun gk i wr => ∃ k : Nat, gk = np - k ∧ i = .int .i64 k ∧ k ≤ np ∧ clearB occ (pa.drop k) = ans ∧ Below w1.heap.size w1 wr)
  case atStart => exact ⟨0, rfl, rfl, by omega, HAN.out, Below.refl _ _⟩
  case round =>
    obtain ⟨k, rfl, rfl, hk, hc, hb⟩ := hrel
    have HC : Hid (clearB occ (pa.drop k) = ans) := hc
    have HBR : Hid (Below w1.heap.size w1 wr) := hb
    clear hb hc HAN
    obtain ⟨⟨x0, x1, x2, x3⟩, _⟩ := cells4 (blk_below HBR.out H0.out)
    have a3 := up_cell HBR.out A3.out
    by_cases hlt : k < np
    · have hki : (k : Int) < (np : Int) := by omega
      obtain ⟨z, hz⟩ : ∃ z, pa[k]? = some z := at_of (by rw [HPL.out.1]; exact hlt)
      obtain ⟨gp, fp, rfl, b0⟩ := HP.out k z hz
      obtain ⟨zk, rfl, hzk⟩ := nat_of (n := no) (i := z) (HPI.out z (List.mem_of_getElem? hz))
      obtain ⟨bz, hbz⟩ : ∃ bz, occ[zk]? = some bz := at_of (by rw [HPL.out.2]; exact hzk)
      obtain ⟨go, fo, rfl, b1⟩ := HO.out zk bz hbz
      obtain ⟨s0, s1⟩ := cells2 (blk_below HBR.out H1.out)
      have CS : Hid (clearB occ (pa.drop k) = (!bz && clearB occ (pa.drop (k + 1)))) := by
        show _ = _
        rw [drop_at hz, clearB, List.all_cons, occF_at hbz]
        rfl
      have hzi : (zk : Int) < (no : Int) := by omega
      have HBW : Hid (Below w.heap.size w wr) := HB01.out.trans (HBR.out.mono HB01.out.size)
      have y3 := ext_cell x3
      have y4 := ext_cell a3
      have y5 := ext_cell s0
      have y6 := ext_cell (up_cell HBW.out b0)
      have y7 := ext_cell (up_cell HBW.out b1)
      haveI := ext_some wr
      have HB3 : Hid (Below w1.heap.size w1 wr.drew) := HBR.out.drew
      clear b0 b1 s0 s1 hz hbz
      cases bz
      · go_wp2_with fail
        clear x0 x1 x2 x3 a3
        refine wp_region_mix_seq (C := fun W => ∃ y : Ext wr, W = y.z) [0, 1, 2, 3, 4, 5, 6, 7, 8, 9, 10, 11, 12] (by kernel_rfl) (by kernel_rfl) (by kernel_rfl) (by kernel_rfl) (by simp only [List.filterMap_cons, List.getElem?_toArray, List.getElem?_cons_zero, List.getElem?_cons_succ, List.filterMap_nil]; rfl) ⟨⟨_, (Below.refl _ _).drew⟩, rfl⟩ ?_
        (repeat (first | (with_reducible refine mix_read (by kernel_rfl) ?_; go_big_quiet_want; go_big_quiet_op; go_big_quiet_on; with_reducible refine wpQuiet_nil ?_) | (with_reducible refine mix_pass (by kernel_rfl) ?_; go_big_quiet_skip; with_reducible refine wpQuiet_nil ?_)))
        with_reducible refine mix_end ?_
        intro _
        clear y3 y4 y5 y6 y7
        go_wp2
        go_roundg (np - (k + 1))
        case rel => exact ⟨k + 1, rfl, by go_num, by omega, by rw [← HC.out, CS.out]; rfl, HB3.out⟩
        case measure => omega
      · go_wp2_with fail
        clear x0 x1 x2 x3 a3
        refine wp_region_mix_seq (C := fun W => ∃ y : Ext wr, W = y.z) [0, 1, 2, 3, 4, 5, 6, 7, 8, 9, 10, 11, 12] (by kernel_rfl) (by kernel_rfl) (by kernel_rfl) (by kernel_rfl) (by simp only [List.filterMap_cons, List.getElem?_toArray, List.getElem?_cons_zero, List.getElem?_cons_succ, List.filterMap_nil]; rfl) ⟨⟨_, (Below.refl _ _).drew⟩, rfl⟩ ?_
        (repeat (first | (with_reducible refine mix_read (by kernel_rfl) ?_; go_big_quiet_want; go_big_quiet_op; go_big_quiet_on; with_reducible refine wpQuiet_nil ?_) | (with_reducible refine mix_pass (by kernel_rfl) ?_; go_big_quiet_skip; with_reducible refine wpQuiet_nil ?_)))
        with_reducible refine mix_end ?_
        intro _
        clear y3 y4 y5 y6 y7
        go_wp2
        go_ret
        exact ⟨by rw [← HC.out, CS.out]; rfl, HB01.out.trans (HB3.out.mono HB01.out.size)⟩
    · have hki : ¬ (k : Int) < (np : Int) := by omega
      go_wp2
      go_ret
      exact ⟨by rw [← HC.out, List.drop_of_length_le (by rw [HPL.out.1]; omega)]; rfl, HB01.out.trans (HBR.out.mono HB01.out.size)⟩

set_option maxRecDepth 1000000 in
set_option maxHeartbeats 16000000 in
theorem rfRight_any (v : Nat → Value) (l : Lay) (rs : List RtV) (j : Nat) (x : RtV) (u : Nat → Value) (occ : List Bool) (lies : List Int) (w : World) (h : LayRd w v l rs) (hin : InRd w u occ lies) (hx : rs[j]? = some x) (hl : x.1.points.length + x.1.flank.length ≤ 1000000 ∧ lies.length ≤ 1000000) (hp : ∀ s ∈ x.1.points ++ x.1.flank, 0 ≤ s.1 ∧ s.1 < (lies.length : Nat)) :
    Calls Tryz.prog 37 #[.agg #[v 0, v 1, v 2, v 3], .int .i64 j, .agg #[u 0, u 1]] w fun e w' => e = .returned (.bool (rightB lies (x.1.points ++ x.1.flank))) ∧ Below w.heap.size w w' := by
  have NR : Hid (∀ W, Below w.heap.size w W → Calls Tryz.prog 44 #[.agg #[v 0, v 1, v 2, v 3], .int .i64 j] W fun e w' => ∃ u, e = .returned u ∧ rowAt w' u 2 nC (x.1.points ++ x.1.flank) ∧ Below W.heap.size W w') := fun W hW => rfNeeds_any v l rs j x W (h.below hW) hx hl.1
  obtain ⟨o0, c0, e0, _⟩ := h.s
  obtain ⟨o1, c1, e1, _⟩ := h.p
  obtain ⟨o2, c2, e2, _⟩ := h.g
  obtain ⟨o3, c3, e3, _⟩ := h.r
  obtain ⟨p0, d0, f0, _⟩ := hin.o
  obtain ⟨p1, d1, f1, q1⟩ := hin.l
  have HO := (show Hid _ from row_int (w := w) ⟨p1, d1, rfl, q1⟩)
  have hnl : (x.1.points ++ x.1.flank).length ≤ 1000000 := by rw [List.length_append]; exact hl.1
  have hl2 := hl.2
  rw [e0, e1, e2, e3] at NR ⊢
  rw [f0, f1]
  clear h hin hx e0 e1 e2 e3 f0 f1 q1 hl
  generalize x.1.points ++ x.1.flank = nd at *
  have HPI : Hid (∀ s ∈ nd, 0 ≤ s.1 ∧ s.1 < (lies.length : Nat)) := hp
  generalize hnn : nd.length = np at *
  generalize hol : lies.length = no at *
  have HPL : Hid (nd.length = np ∧ lies.length = no) := ⟨hnn, hol⟩
  clear hnn hol hp
  generalize occ.length = nl at *
  generalize l.sections.length = n0 at *
  generalize l.points.length = n1 at *
  generalize l.signals.length = n2 at *
  generalize rs.length = n3 at *
  have HAN : Hid (rightB lies (nd.drop 0) = rightB lies nd) := rfl
  generalize rightB lies nd = ans at *
  generalize hch : (w.alloc (.cells #[.slice o0 n0 c0, .slice o1 n1 c1, .slice o2 n2 c2, .slice o3 n3 c3] 26)).alloc (.cells #[.slice p0 nl d0, .slice p1 no d1] 38) = w1
  have HB01 : Hid (Below w.heap.size w w1) := by show Below _ _ _; rw [← hch]; exact (by repeat' (with_reducible first | exact Below.refl _ _ | refine Below.drew ?_ | refine _root_.Go.below_drewN ?_ _ | refine Below.alloc ?_ ?_ _ | refine Below.setCell ?_ ?_ _ | exact Nat.le_refl _ | (simp; done) | (simp; omega)))
  have H0 : Hid (w1.heap[w.heap.size]? = some (.cells #[.slice o0 n0 c0, .slice o1 n1 c1, .slice o2 n2 c2, .slice o3 n3 c3] 26 (0, 0))) := by show _ = _; rw [← hch]; exact blk_old (blk_new _ _)
  have H1 : Hid (w1.heap[w.heap.size + 1]? = some (.cells #[.slice p0 nl d0, .slice p1 no d1] 38 (0, 0))) := by show _ = _; rw [← hch]; exact blk_at1 _ _ _
  obtain ⟨⟨x0, x1, x2, x3⟩, _⟩ := cells4 H0.out
  have D := NR.out w1 HB01.out
  go_enter Tryz.func37, Tryz.ntmps37
  go_wp2_with fail
  clear hch
  refine D.mono ?_
  rintro e w2 ⟨vn, rfl, hvn, hb⟩
  have HB12 : Hid (Below w1.heap.size w1 w2) := hb
  obtain ⟨on, cn, en, qn⟩ := hvn
  have HN := (show Hid _ from row_need (w := w2) ⟨on, cn, rfl, qn⟩)
  rw [HPL.out.1] at en
  subst en
  clear hb qn D x0 x1 x2 x3 NR
  go_wp2
  go_loopg [8] np (fun gk i wr => ∃ k : Nat, gk = np - k ∧ i = .int .i64 k ∧ k ≤ np ∧ rightB lies (nd.drop k) = ans ∧ Below w2.heap.size w2 wr)
  case atStart => exact ⟨0, rfl, rfl, by omega, HAN.out, Below.refl _ _⟩
  case round =>
    obtain ⟨k, rfl, rfl, hk, hc, hb⟩ := hrel
    have HC : Hid (rightB lies (nd.drop k) = ans) := hc
    have HBR : Hid (Below w2.heap.size w2 wr) := hb
    have HBS : Hid (Below w1.heap.size w1 wr) := HB12.out.trans (hb.mono HB12.out.size)
    clear hb hc HAN
    by_cases hlt : k < np
    · have hki : (k : Int) < (np : Int) := by omega
      obtain ⟨⟨z, rv⟩, hz⟩ : ∃ z, nd[k]? = some z := at_of (by rw [HPL.out.1]; exact hlt)
      obtain ⟨gp, fp, rfl, b0, b2⟩ := HN.out k _ hz
      have hzb := HPI.out _ (List.mem_of_getElem? hz)
      obtain ⟨zk, rfl, hzk⟩ := nat_of (n := no) (i := z) hzb
      obtain ⟨bz, hbz⟩ : ∃ bz, lies[zk]? = some bz := at_of (by rw [HPL.out.2]; exact hzk)
      obtain ⟨go, fo, rfl, b1⟩ := HO.out zk bz hbz
      obtain ⟨s0, s1⟩ := cells2 (blk_below HBS.out H1.out)
      have CS : Hid (rightB lies (nd.drop k) = (decide (bz = posF rv) && rightB lies (nd.drop (k + 1)))) := by
        show _ = _
        rw [drop_at hz, rightB, List.all_cons, rightF, lieF_at hbz]
        rfl
      have hzi : (zk : Int) < (no : Int) := by omega
      have HBW : Hid (Below w.heap.size w wr) := HB01.out.trans (HBS.out.mono HB01.out.size)
      simp only at b0 b2
      have y3 := ext_cell s1
      have y4 := ext_cell (up_cell HBR.out b0)
      have y5 := ext_cell (up_cell HBR.out b2)
      have y7 := ext_cell (up_cell HBW.out b1)
      haveI := ext_some wr
      have HB3 : Hid (Below wr.heap.size wr wr.drew) := (Below.refl _ _).drew
      clear b0 b1 b2 s0 s1 hz hbz hzb
      generalize hps : posF rv = ps at *
      by_cases hbp : bz = ps
      · subst hbp
        have hne : (bz != bz) = false := by simp
        go_wp2_with fail
        refine wp_region_mix_seq (C := fun W => ∃ y : Ext wr, W = y.z) [0, 1, 2, 3, 4, 5, 6, 7, 8, 9, 10, 11, 12, 13, 14] (by kernel_rfl) (by kernel_rfl) (by kernel_rfl) (by kernel_rfl) (by simp only [List.filterMap_cons, List.getElem?_toArray, List.getElem?_cons_zero, List.getElem?_cons_succ, List.filterMap_nil]; rfl) ⟨⟨_, HB3.out⟩, rfl⟩ ?_
        generalize wr.drew = wd at *
        (repeat (first | (with_reducible refine mix_read (by kernel_rfl) ?_; go_big_quiet_want; go_big_quiet_op; go_big_quiet_on; with_reducible refine wpQuiet_nil ?_) | (with_reducible refine mix_pass (by kernel_rfl) ?_; go_big_quiet_skip; with_reducible refine wpQuiet_nil ?_)))
        with_reducible refine mix_call (by kernel_rfl) (by kernel_rfl) ((rfSide_any (zk : Int) rv wd).mono ?_) (by kernel_rfl)
        rintro e w6 ⟨rfl, hb⟩
        rw [hps]
        have HB7 : Hid (Below wr.heap.size wr w6) := HB3.out.trans (hb.mono HB3.out.size)
        clear hb
        refine ⟨_, rfl, ⟨⟨_, HB7.out⟩, rfl⟩, ?_⟩
        simp only [Act.put, List.setIfInBounds_toArray, List.set_cons_zero, List.set_cons_succ]
        (repeat (first | (with_reducible refine mix_read (by kernel_rfl) ?_; go_big_quiet_want; go_big_quiet_op; go_big_quiet_on; with_reducible refine wpQuiet_nil ?_) | (with_reducible refine mix_pass (by kernel_rfl) ?_; go_big_quiet_skip; with_reducible refine wpQuiet_nil ?_)))
        with_reducible refine mix_end ?_
        intro _
        clear y3 y4 y5 y7
        go_wp2
        go_roundg (np - (k + 1))
        case rel => exact ⟨k + 1, rfl, by go_num, by omega, by rw [← HC.out, CS.out]; simp, HBR.out.trans (HB7.out.mono HBR.out.size)⟩
        case measure => omega
      · have hne : (bz != ps) = true := by simp [hbp]
        go_wp2_with fail
        refine wp_region_mix_seq (C := fun W => ∃ y : Ext wr, W = y.z) [0, 1, 2, 3, 4, 5, 6, 7, 8, 9, 10, 11, 12, 13, 14] (by kernel_rfl) (by kernel_rfl) (by kernel_rfl) (by kernel_rfl) (by simp only [List.filterMap_cons, List.getElem?_toArray, List.getElem?_cons_zero, List.getElem?_cons_succ, List.filterMap_nil]; rfl) ⟨⟨_, HB3.out⟩, rfl⟩ ?_
        generalize wr.drew = wd at *
        (repeat (first | (with_reducible refine mix_read (by kernel_rfl) ?_; go_big_quiet_want; go_big_quiet_op; go_big_quiet_on; with_reducible refine wpQuiet_nil ?_) | (with_reducible refine mix_pass (by kernel_rfl) ?_; go_big_quiet_skip; with_reducible refine wpQuiet_nil ?_)))
        with_reducible refine mix_call (by kernel_rfl) (by kernel_rfl) ((rfSide_any (zk : Int) rv wd).mono ?_) (by kernel_rfl)
        rintro e w6 ⟨rfl, hb⟩
        rw [hps]
        have HB7 : Hid (Below wr.heap.size wr w6) := HB3.out.trans (hb.mono HB3.out.size)
        clear hb
        refine ⟨_, rfl, ⟨⟨_, HB7.out⟩, rfl⟩, ?_⟩
        simp only [Act.put, List.setIfInBounds_toArray, List.set_cons_zero, List.set_cons_succ]
        (repeat (first | (with_reducible refine mix_read (by kernel_rfl) ?_; go_big_quiet_want; go_big_quiet_op; go_big_quiet_on; with_reducible refine wpQuiet_nil ?_) | (with_reducible refine mix_pass (by kernel_rfl) ?_; go_big_quiet_skip; with_reducible refine wpQuiet_nil ?_)))
        with_reducible refine mix_end ?_
        intro _
        clear y3 y4 y5 y7
        go_wp2
        go_ret
        exact ⟨by rw [← HC.out, CS.out]; simp [hbp], HB01.out.trans ((HBS.out.trans (HB7.out.mono HBS.out.size)).mono HB01.out.size)⟩
    · have hki : ¬ (k : Int) < (np : Int) := by omega
      go_wp2
      go_ret
      exact ⟨by rw [← HC.out, List.drop_of_length_le (by rw [HPL.out.1]; omega)]; rfl, HB01.out.trans (HBS.out.mono HB01.out.size)⟩
end Go.Proofs.YtceebimgfajbcaaGreatDoor
