/-
  The reference: does a route that stands so hold a section? by a contract.
-/
import Derived.Test.YtceebimgfajbcaaGreatDoorRfMay
import Derived.Test.YtceebimgfajbcaaGreatDoorLkHold
import Derived.Test.YtceebimgfajbcaaGreatDoorJoin1
namespace Go.Proofs.YtceebimgfajbcaaGreatDoor
open Go.RowKit

set_option maxRecDepth 1000000 in
set_option maxHeartbeats 16000000 in
theorem rfHolds_any (v : Nat → Value) (l : Lay) (rs : List RtV) (j : Nat) (x : RtV) (m t g : Int) (b : Bool) (sec : Int) (w : World) (h : LayRd w v l rs) (hx : rs[j]? = some x) (hcap : capOk x.2.1) (hm : mayBeF (m, t, g, b) x.1.path.length = true) (hn : 0 < x.1.path.length) (hl : x.1.path.length ≤ 1000000) :
    Calls Tryz.prog 38 #[.agg #[v 0, v 1, v 2, v 3], .int .i64 j, .agg #[.int .i64 m, .int .i64 t, .int .i64 g, .bool b], .int .i64 sec] w fun e w' => e = .returned (.bool (inB (if m = 0 then [] else x.1.path.drop g.toNat) sec)) ∧ Below w.heap.size w w' := by
  have hbd := mayBe_bounds hm hn
  simp only at hbd
  obtain ⟨o0, c0, e0, _⟩ := h.s
  obtain ⟨o1, c1, e1, _⟩ := h.p
  obtain ⟨o2, c2, e2, _⟩ := h.g
  obtain ⟨o3, c3, e3, r3⟩ := h.r
  obtain ⟨g3, f3, rfl, hcx⟩ := r3 j x hx
  have xa3 := hcx 3 _ rfl
  have hj : j < rs.length := (List.getElem?_eq_some_iff.1 hx).1
  obtain ⟨op, cp, ep, qp⟩ := (h.x x (List.mem_of_getElem? hx)).path
  have hcc := hcap _ _ _ ep
  rw [ep] at xa3
  have HP : Hid (rowAt w (.slice op x.1.path.length cp) 1 iC x.1.path) := ⟨op, cp, rfl, qp⟩
  obtain ⟨gk, rfl, hgk⟩ := nat_of (n := x.1.path.length) (i := g) ⟨hbd.2.2.2.2.1, hbd.2.2.2.2.2⟩
  obtain ⟨z, hz⟩ : ∃ z, x.1.path[0]? = some z := at_of hn
  obtain ⟨gp, fp, rfl, _⟩ := row_int (w := w) HP.out 0 z hz
  have HD : Hid (rowAt w (.slice (some ⟨gp, fp + gk, none⟩) (x.1.path.length - gk) (cp - gk)) 1 iC (x.1.path.drop gk)) := row_drop (g := gp) (off := fp) (c := cp) HP.out rfl gk _
  have hg0 : m = 1 ∨ m = 2 ∨ m = 4 → gk = 0 := fun hh => by
    unfold mayBeF at hm
    simp only at hm
    rcases hh with rfl | rfl | rfl <;> (simp at hm; omega)
  have hm4 : m = 0 ∨ m = 1 ∨ m = 2 ∨ m = 3 ∨ m = 4 := by omega
  have IN : Hid (∀ W, Below w.heap.size w W → Calls Tryz.prog 49 #[.slice (some ⟨gp, fp, none⟩) x.1.path.length cp, .int .i64 sec] W fun e w' => e = .returned (.bool (inB x.1.path sec)) ∧ w' = W) := fun W hW => in_any _ _ sec W (HP.out.below hW) (by omega)
  have IND : Hid (∀ W, Below w.heap.size w W → Calls Tryz.prog 49 #[.slice (some ⟨gp, fp + gk, none⟩) (x.1.path.length - gk) (cp - gk), .int .i64 sec] W fun e w' => e = .returned (.bool (inB (x.1.path.drop gk) sec)) ∧ w' = W) := fun W hW => in_any _ _ sec W (HD.out.below hW) (by rw [List.length_drop]; omega)
  have HAN : Hid ((if m = 0 then [] else x.1.path.drop (gk : Int).toNat) = if m = 0 then [] else x.1.path.drop gk) := by rw [Int.toNat_natCast]; exact rfl
  rw [HAN.out, e0, e1, e2, e3]
  have hgi : (gk : Int) ≤ (x.1.path.length : Int) := by omega
  have hgc : gk ≤ cp := by omega
  have hgn : gk ≤ x.1.path.length := by omega
  clear h r3 hcx hx hcap ep qp HP HD hz hm hbd e0 e1 e2 e3 HAN
  generalize x.1.path.length = np at *
  generalize hip : x.1.path = pa at *
  generalize l.sections.length = n0 at *
  generalize l.points.length = n1 at *
  generalize l.signals.length = n2 at *
  generalize rs.length = n3 at *
  have hji : (j : Int) < (n3 : Int) := by omega
  generalize hch : (w.alloc (.cells #[.slice o0 n0 c0, .slice o1 n1 c1, .slice o2 n2 c2, .slice (some ⟨g3, f3, none⟩) n3 c3] 26)).alloc (.cells #[.int .i64 m, .int .i64 t, .int .i64 (gk : Int), .bool b] 80) = w1
  have HB01 : Hid (Below w.heap.size w w1) := by show Below _ _ _; rw [← hch]; exact (by repeat' (with_reducible first | exact Below.refl _ _ | refine Below.drew ?_ | refine _root_.Go.below_drewN ?_ _ | refine Below.alloc ?_ ?_ _ | refine Below.setCell ?_ ?_ _ | exact Nat.le_refl _ | (simp; done) | (simp; omega)))
  have H0 : Hid (w1.heap[w.heap.size]? = some (.cells #[.slice o0 n0 c0, .slice o1 n1 c1, .slice o2 n2 c2, .slice (some ⟨g3, f3, none⟩) n3 c3] 26 (0, 0))) := by show _ = _; rw [← hch]; exact blk_old (blk_new _ _)
  have H1 : Hid (w1.heap[w.heap.size + 1]? = some (.cells #[.int .i64 m, .int .i64 t, .int .i64 (gk : Int), .bool b] 80 (0, 0))) := by show _ = _; rw [← hch]; exact blk_at1 _ _ _
  obtain ⟨⟨q0, q1, q2, q3⟩, _⟩ := cells4 H0.out
  obtain ⟨⟨s0, s1, s2, s3⟩, _⟩ := cells4 H1.out
  have a3 := up_cell HB01.out xa3
  go_enter Tryz.func38, Tryz.ntmps38
  rcases hm4 with rfl | rfl | rfl | rfl | rfl
  · go_wp2_with fail
    clear hch
    go_ret
    exact ⟨by rfl, HB01.out⟩
  · have hg : Hid (gk = 0) := hg0 (.inl rfl)
    have D := IN.out w1 HB01.out
    clear hg0
    go_wp2_with fail
    clear hch
    refine D.mono ?_
    rintro e w2 ⟨rfl, rfl⟩
    go_wp2
    go_ret
    exact ⟨by rw [hg.out]; rfl, HB01.out⟩
  · have hg : Hid (gk = 0) := hg0 (.inr (.inl rfl))
    have D := IN.out w1 HB01.out
    clear hg0
    go_wp2_with fail
    clear hch
    refine D.mono ?_
    rintro e w2 ⟨rfl, rfl⟩
    go_wp2
    go_ret
    exact ⟨by rw [hg.out]; rfl, HB01.out⟩
  · go_wp2_with fail
    clear hch
    have y3 := ext_cell q3
    have y4 := ext_cell a3
    have y5 := ext_cell s2
    haveI := ext_some w1
    have HBQ : Hid (Below w1.heap.size w1 w1.drew) := (Below.refl _ _).drew
    clear q0 q1 q2 q3 s0 s1 s2 s3 a3
    refine wp_region_mix_seq (C := fun W => ∃ y : Ext w1, W = y.z) [0, 1, 2, 3, 4, 5, 6, 7, 8, 9, 10, 11] (by kernel_rfl) (by kernel_rfl) (by kernel_rfl) (by kernel_rfl) (by simp only [List.filterMap_cons, List.getElem?_toArray, List.getElem?_cons_zero, List.getElem?_cons_succ, List.filterMap_nil]; rfl) ⟨⟨_, HBQ.out⟩, rfl⟩ ?_
    generalize w1.drew = wd at *
    (repeat (first | (with_reducible refine mix_read (by kernel_rfl) ?_; go_big_quiet_want; go_big_quiet_op; go_big_quiet_on; with_reducible refine wpQuiet_nil ?_) | (with_reducible refine mix_pass (by kernel_rfl) ?_; go_big_quiet_skip; with_reducible refine wpQuiet_nil ?_)))
    with_reducible refine mix_call (by kernel_rfl) (by kernel_rfl) ((IND.out _ (HB01.out.trans (HBQ.out.mono HB01.out.size))).mono ?_) (by kernel_rfl)
    rintro e w2 ⟨rfl, rfl⟩
    refine ⟨_, rfl, ⟨⟨_, HBQ.out⟩, rfl⟩, ?_⟩
    simp only [Act.put, List.setIfInBounds_toArray, List.set_cons_zero, List.set_cons_succ]
    (repeat (first | (with_reducible refine mix_read (by kernel_rfl) ?_; go_big_quiet_want; go_big_quiet_op; go_big_quiet_on; with_reducible refine wpQuiet_nil ?_) | (with_reducible refine mix_pass (by kernel_rfl) ?_; go_big_quiet_skip; with_reducible refine wpQuiet_nil ?_)))
    with_reducible refine mix_end ?_
    intro _
    clear y3 y4 y5
    go_wp2
    go_ret
    exact ⟨by rfl, HB01.out.trans (HBQ.out.mono HB01.out.size)⟩
  · have hg : Hid (gk = 0) := hg0 (.inr (.inr rfl))
    have D := IN.out w1 HB01.out
    clear hg0
    go_wp2_with fail
    clear hch
    refine D.mono ?_
    rintro e w2 ⟨rfl, rfl⟩
    go_wp2
    go_ret
    exact ⟨by rw [hg.out]; rfl, HB01.out⟩
end Go.Proofs.YtceebimgfajbcaaGreatDoor
