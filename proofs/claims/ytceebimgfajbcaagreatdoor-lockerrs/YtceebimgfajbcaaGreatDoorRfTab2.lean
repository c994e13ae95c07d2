/-
  The reference's Needs and Conflict, by contracts.
-/
import Derived.Test.YtceebimgfajbcaaGreatDoorRfTab
import Derived.Deep.RegionHeld
import Derived.Deep.CutBlock
namespace Go.Proofs.YtceebimgfajbcaaGreatDoor
open Go.RowKit

set_option maxRecDepth 1000000 in
set_option maxHeartbeats 8000000 in
theorem rfNeeds_any (v : Nat → Value) (l : Lay) (rs : List RtV) (r : Nat) (x : RtV) (w : World) (h : LayRd w v l rs) (hx : rs[r]? = some x) (hm : x.1.points.length + x.1.flank.length ≤ 1000000) :
    Calls Tryz.prog 44 #[.agg #[v 0, v 1, v 2, v 3], .int .i64 r] w fun e w' => ∃ u, e = .returned u ∧ rowAt w' u 2 nC (x.1.points ++ x.1.flank) ∧ Below w.heap.size w w' := by
  obtain ⟨i0, hii, hz0, hz1, hz2⟩ := info_parts infoND
  have HI : Hid (Tryz.prog.info? 96 = some i0 ∧ i0.zero = some (.agg #[.int .i64 0, .bool false]) ∧ i0.size = 2 ∧ i0.bytes = 16) := ⟨hii, hz0, hz1, hz2⟩
  obtain ⟨⟨o3x, n3x, k3x, fx3⟩, ⟨o4x, n4x, k4x, fx4⟩, o5x, n5x, k5x, fx5⟩ := (h.x x (List.mem_of_getElem? hx)).slices
  have hpt := (h.x x (List.mem_of_getElem? hx)).points
  have hfl := (h.x x (List.mem_of_getElem? hx)).flank
  rw [fx4] at hpt
  rw [fx5] at hfl
  have hl4 := row_len hpt
  have hl5 := row_len hfl
  have HP : Hid (rowAt w (.slice o4x n4x k4x) 2 nC x.1.points ∧ rowAt w (.slice o5x n5x k5x) 2 nC x.1.flank ∧ n4x + n5x ≤ 1000000) := ⟨hpt, hfl, by omega⟩
  obtain ⟨o0, c0, e0, _⟩ := h.s
  obtain ⟨o1, c1, e1, _⟩ := h.p
  obtain ⟨o2, c2, e2, _⟩ := h.g
  obtain ⟨o3, c3, e3, r3⟩ := h.r
  have S := BoxAt.start w v
  obtain ⟨g, off, rfl, hcx⟩ := r3 r _ hx
  have hrl : r < rs.length := (List.getElem?_eq_some_iff.1 hx).1
  have xa4 := hcx 4 _ rfl
  have xa5 := hcx 5 _ rfl
  rw [fx4] at xa4
  rw [fx5] at xa5
  have hcc := S.cells
  rw [e0, e1, e2, e3] at S hcc ⊢
  clear h hx hcx r3 e0 e1 e2 e3 fx3 fx4 fx5 hpt hfl hl4 hl5 hm hii hz0 hz1 hz2
  generalize l.sections.length = n0 at *
  generalize l.points.length = n1 at *
  generalize l.signals.length = n2 at *
  generalize rs.length = n3 at *
  have hri : (r : Int) < (n3 : Int) := by omega
  have HS : Hid (Below w.heap.size w (w.alloc (.cells #[.slice o0 n0 c0, .slice o1 n1 c1, .slice o2 n2 c2, .slice (some ⟨g, off, none⟩) n3 c3] 26))) := S.1
  clear S
  go_enter Tryz.func44, Tryz.ntmps44
  go_wp2_with fail
  generalize w.alloc (.cells #[.slice o0 n0 c0, .slice o1 n1 c1, .slice o2 n2 c2, .slice (some ⟨g, off, none⟩) n3 c3] 26) = w1 at *
  have y3 := ext_cell hcc.2.2.2
  have y4 := ext_cell (up_cell HS.out xa4)
  have y5 := ext_cell (up_cell HS.out xa5)
  haveI := ext_some w1
  have HT : Hid (Below w1.heap.size w1 w1.drew) := (Below.refl _ _).drew
  clear hcc xa4 xa5 hrl
  refine wp_region_mix_seq (C := fun W => ∃ y : Ext w1, W = y.z) [1, 2, 3, 4, 5, 6, 8, 9, 10, 11, 12, 13, 0, 7, 14, 15] (by kernel_rfl) (by kernel_rfl) (by kernel_rfl) (by kernel_rfl) (by simp only [List.filterMap_cons, List.getElem?_toArray, List.getElem?_cons_zero, List.getElem?_cons_succ, List.filterMap_nil]; rfl) ⟨⟨_, (Below.refl _ _).drew⟩, rfl⟩ ?_
  generalize w1.drew = wd at *
  (repeat (first | (with_reducible refine mix_read (by kernel_rfl) ?_; go_big_quiet_want; go_big_quiet_op; go_big_quiet_on; with_reducible refine wpQuiet_nil ?_) | (with_reducible refine mix_pass (by kernel_rfl) ?_; go_big_quiet_skip; with_reducible refine wpQuiet_nil ?_)))
  have HT2 : Hid (Below w1.heap.size w1 (wd.alloc (.cells #[] 96))) := HT.out.alloc HT.out.size _
  have hown0 : (wd.alloc (.cells #[] 96)).ownsRow w1.heap.size 96 2 (.slice (some ⟨wd.heap.size, 0, none⟩) 0 0) 0 [] := ⟨rfl, .inr ⟨wd.heap.size, 0, #[], rfl, HT.out.size, blk_new _ _, Nat.le_refl _, Nat.zero_le _, rfl, rfl⟩⟩
  have HUP : Hid (∀ W, Below w1.heap.size w1 W → Below w.heap.size w W) := fun W hW => HS.out.trans (hW.mono HS.out.size)
  obtain ⟨v1, w2, hrun1, hown1, hb1⟩ := append_rd (P := Tryz.prog) w1.heap.size 64 64 96 i0 _ 2 16 Tryz.underlying64 HI.out.1 HI.out.2.1 HI.out.2.2.1 HI.out.2.2.2 rfl (by decide) (cs := nC) (fun _ => rfl) cells_nd _ 0 [] hown0 o4x n4x k4x _ (HP.out.1.below (HUP.out _ HT2.out)) (by have := HP.out.2.2; unfold maxLen; omega) (by have := HP.out.2.2; omega) HT2.out.size
  have HT3 : Hid (Below w1.heap.size w1 w2) := HT2.out.trans hb1
  obtain ⟨v2, w3, hrun2, hown2, hb2⟩ := append_rd (P := Tryz.prog) w1.heap.size 64 64 96 i0 _ 2 16 Tryz.underlying64 HI.out.1 HI.out.2.1 HI.out.2.2.1 HI.out.2.2.2 rfl (by decide) (cs := nC) (fun _ => rfl) cells_nd v1 (0 + n4x) _ hown1 o5x n5x k5x _ (HP.out.2.1.below (HUP.out _ HT3.out)) (by have := HP.out.2.2; unfold maxLen; omega) (by have := HP.out.2.2; omega) HT3.out.size
  have HT4 : Hid (Below w1.heap.size w1 w3) := HT3.out.trans hb2
  have HR : Hid (rowAt w3 v2 2 nC (x.1.points ++ x.1.flank)) := by
    have hlen : (x.1.points ++ x.1.flank).length = 0 + n4x + n5x := by
      have a := row_len HP.out.1
      have b := row_len HP.out.2.1
      rw [List.length_append]
      omega
    refine rowAt_of_owns (cs := nC) (size := 2) (base := w1.heap.size) (e := 96) (fun _ => rfl) ?_
    rw [hlen, List.flatMap_append]
    simpa using hown2
  obtain ⟨q1, d1, rfl⟩ := owns_slice hown1
  obtain ⟨q2, d2, rfl⟩ := owns_slice hown2
  clear hown0 hown1 hown2 hb1 hb2 y3 y4 y5
  refine mix_does (v := .slice (some ⟨wd.heap.size, 0, none⟩) 0 0) (w' := wd.alloc (.cells #[] 96)) (by kernel_rfl) (by kernel_rfl) (by kernel_rfl) ⟨⟨_, HT2.out⟩, rfl⟩ ?_
  simp only [Act.put, List.setIfInBounds_toArray, List.set_cons_zero, List.set_cons_succ]
  refine mix_does (by kernel_rfl) (by kernel_rfl) (append_op _ _ _ _ rfl _ _ rfl rfl _ hrun1) ⟨⟨_, HT3.out⟩, rfl⟩ ?_
  simp only [Act.put, List.setIfInBounds_toArray, List.set_cons_zero, List.set_cons_succ]
  refine mix_does (by kernel_rfl) (by kernel_rfl) (append_op _ _ _ _ rfl _ _ rfl rfl _ hrun2) ⟨⟨_, HT4.out⟩, rfl⟩ ?_
  simp only [Act.put, List.setIfInBounds_toArray, List.set_cons_zero, List.set_cons_succ]
  (repeat (first | (with_reducible refine mix_read (by kernel_rfl) ?_; go_big_quiet_want; go_big_quiet_op; go_big_quiet_on; with_reducible refine wpQuiet_nil ?_) | (with_reducible refine mix_pass (by kernel_rfl) ?_; go_big_quiet_skip; with_reducible refine wpQuiet_nil ?_)))
  with_reducible refine mix_end ?_
  intro _
  clear hrun1 hrun2
  go_wp2
  go_ret
  exact ⟨_, rfl, HR.out, HUP.out _ HT4.out⟩
end Go.Proofs.YtceebimgfajbcaaGreatDoor
