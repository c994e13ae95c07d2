/-
  Package table: Needs, by a contract.
-/
import Derived.Test.YtceebimgfajbcaaTbNeeds
namespace Go.Proofs.Ytceebimgfajbcaa
open Go.RowKit

set_option maxRecDepth 1000000 in
set_option maxHeartbeats 4000000 in
theorem tableNeedsO_any (v : Nat → Value) (l : Lay) (rs : List RtV) (r : Nat) (x : RtV) (w : World) (h : LayRd w v l rs) (hx : rs[r]? = some x) (hm : x.1.points.length + x.1.flank.length ≤ 1000000) :
    Calls Try.prog 22 #[.agg #[v 0, v 1, v 2, v 3], .int .i64 r] w fun e w' => ∃ u, e = .returned u ∧ nOwn w' u (x.1.points ++ x.1.flank) ∧ Below w.heap.size w w' := by
  obtain ⟨⟨nm, fr, tt, pa, po, fl⟩, v3, v4, v5⟩ := x
  have hrx := h.x _ (List.mem_of_getElem? hx)
  obtain ⟨hr3, hr4, hr5⟩ := hrx
  simp only at hr3 hr4 hr5 hm
  have CC : Hid (∀ W b, Below w.heap.size w W → W.heap[b]? = some (.cells #[v4, v5] 31 (0, 0)) → Calls Try.prog 35 #[.slice (some ⟨b, 0, none⟩) 2 2] W fun e w' => ∃ u, e = .returned u ∧ nOwn w' u (po ++ fl) ∧ Below W.heap.size W w') := fun W b hW hb => by
    have := concatO_any (.slice (some ⟨b, 0, none⟩) 2 2) [(v4, po), (v5, fl)] W ⟨_, _, rfl, fun j y hj => ⟨b, 0, rfl, fun i u hu => ?_⟩⟩ (fun y hy => ?_) (by simp) (by simp [total]; omega)
    · have e : [(v4, po), (v5, fl)].flatMap (fun x => x.2) = po ++ fl := by simp
      rw [e] at this
      exact this
    · match i, hu with
      | 0, hu =>
        simp [vC] at hu
        subst hu
        match j, hj with
        | 0, hj => simp at hj; subst hj; simp [World.cell?, hb]
        | 1, hj => simp at hj; subst hj; simp [World.cell?, hb]
        | j + 2, hj => simp at hj
      | i + 1, hu => simp [vC] at hu
    · simp at hy
      rcases hy with rfl | rfl
      · exact hr4.below hW
      · exact hr5.below hW
  obtain ⟨o0, c0, e0, _⟩ := h.s
  obtain ⟨o1, c1, e1, _⟩ := h.p
  obtain ⟨o2, c2, e2, _⟩ := h.g
  obtain ⟨o3, c3, e3, r3⟩ := h.r
  obtain ⟨p4, k4, f4, _⟩ := hr4
  obtain ⟨p5, k5, f5, _⟩ := hr5
  have S := BoxAt.start w v
  obtain ⟨g, off, rfl, hcell⟩ := r3 r _ hx
  have a4 := hcell 4 _ rfl
  have a5 := hcell 5 _ rfl
  have HV : Hid (v 0 = .slice o0 l.sections.length c0 ∧ v 1 = .slice o1 l.points.length c1 ∧ v 2 = .slice o2 l.signals.length c2 ∧ v 3 = .slice (some ⟨g, off, none⟩) rs.length c3) := ⟨e0, e1, e2, e3⟩
  have hrl : r < rs.length := (List.getElem?_eq_some_iff.1 hx).1
  rw [e0, e1, e2, e3] at S ⊢
  rw [f4, f5] at CC
  rw [f4] at a4
  rw [f5] at a5
  clear h hm hx hcell r3 hr3 e0 e1 e2 e3 f4 f5
  generalize l.sections.length = n0 at *
  generalize l.points.length = n1 at *
  generalize l.signals.length = n2 at *
  generalize rs.length = n3 at *
  generalize po.length = m4 at *
  generalize fl.length = m5 at *
  have C := fun W => isPlace_any (r : Int) n3 W
  rw [decide_eq_true (show (0 : Int) ≤ (r : Int) ∧ (r : Int) < (n3 : Int) by omega)] at C
  have TA : Hid (BoxAt w v (w.alloc (.cells #[.slice o0 n0 c0, .slice o1 n1 c1, .slice o2 n2 c2, .slice (some ⟨g, off, none⟩) n3 c3] 26))) := S
  clear S
  go_enter Try.func22, Try.ntmps22
  go_wp2_with (go_at_call 18; refine (C _).mono ?_; rintro e w' ⟨rfl, rfl⟩)
  generalize w.alloc (.cells #[.slice o0 n0 c0, .slice o1 n1 c1, .slice o2 n2 c2, .slice (some ⟨g, off, none⟩) n3 c3] 26) = w1 at *
  have h2 := TA.out.cells
  rw [HV.out.1, HV.out.2.1, HV.out.2.2.1, HV.out.2.2.2] at h2
  have x3 := ext_cell h2.2.2.2
  have b4 := (TA.out.1.cell (World.block_lt_of_cell? _ _ a4)).trans a4
  have b5 := (TA.out.1.cell (World.block_lt_of_cell? _ _ a5)).trans a5
  have y4 := ext_cell b4
  have y5 := ext_cell b5
  haveI := ext_some w1
  have HB1 : Hid (Below w1.heap.size w1 w1.drew) := (Below.refl _ _).drew
  have hri : (r : Int) < (n3 : Int) := by omega
  have HW : Hid (∀ W, Below w1.heap.size w1 W → Below w.heap.size w W) := fun W hW => TA.out.1.trans (hW.mono TA.out.1.size)
  clear h2 a4 a5 b4 b5 C
  refine wp_region_mix_lex (C := fun W => ∃ y : Ext w1, W = y.z) (by kernel_rfl) (by kernel_rfl) (by kernel_rfl) (by kernel_rfl) ⟨⟨_, (Below.refl _ _).drew⟩, rfl⟩ ?_
  (repeat (first | (with_reducible refine mix_read (by kernel_rfl) ?_; go_big_quiet_want; go_big_quiet_op; go_big_quiet_on; with_reducible refine wpQuiet_nil ?_) | (with_reducible refine mix_pass (by kernel_rfl) ?_; go_big_quiet_skip; with_reducible refine wpQuiet_nil ?_)))
  have HB2 : Hid (Below w1.heap.size w1 (w1.drew.alloc (.cells #[.slice p4 m4 k4, .slice p5 m5 k5] 31))) := HB1.out.alloc HB1.out.size _
  have HBK : Hid ((w1.drew.alloc (.cells #[.slice p4 m4 k4, .slice p5 m5 k5] 31)).heap[w1.drew.heap.size]? = some (.cells #[.slice p4 m4 k4, .slice p5 m5 k5] 31 (0, 0))) := blk_new _ _
  refine mix_does (v := .slice (some ⟨w1.drew.heap.size, 0, none⟩) 2 2) (w' := w1.drew.alloc (.cells #[.slice p4 m4 k4, .slice p5 m5 k5] 31)) (by kernel_rfl) (by kernel_rfl) (by kernel_rfl) ⟨⟨_, HB2.out⟩, rfl⟩ ?_
  simp only [Act.put, List.setIfInBounds_toArray, List.set_cons_zero, List.set_cons_succ]
  with_reducible refine mix_call (by kernel_rfl) (by kernel_rfl) ((CC.out _ _ (HW.out _ HB2.out) HBK.out).mono ?_) (by kernel_rfl)
  rintro e w2 ⟨u2, rfl, r2, hb2⟩
  have HB3 : Hid (Below w1.heap.size w1 w2) := HB2.out.trans (hb2.mono HB2.out.size)
  have HR2 : Hid (nOwn w2 u2 (po ++ fl)) := r2
  clear hb2 r2
  refine ⟨_, rfl, ⟨⟨_, HB3.out⟩, rfl⟩, ?_⟩
  simp only [Act.put, List.setIfInBounds_toArray, List.set_cons_zero, List.set_cons_succ]
  (repeat (first | (with_reducible refine mix_read (by kernel_rfl) ?_; go_big_quiet_want; go_big_quiet_op; go_big_quiet_on; with_reducible refine wpQuiet_nil ?_) | (with_reducible refine mix_pass (by kernel_rfl) ?_; go_big_quiet_skip; with_reducible refine wpQuiet_nil ?_)))
  with_reducible refine mix_end ?_
  intro _
  go_wp2
  go_ret
  exact ⟨_, rfl, HR2.out, HW.out _ HB3.out⟩
theorem tableNeeds_any (v : Nat → Value) (l : Lay) (rs : List RtV) (r : Nat) (x : RtV) (w : World) (h : LayRd w v l rs) (hx : rs[r]? = some x) (hm : x.1.points.length + x.1.flank.length ≤ 1000000) :
    Calls Try.prog 22 #[.agg #[v 0, v 1, v 2, v 3], .int .i64 r] w fun e w' => ∃ u, e = .returned u ∧ rowAt w' u 2 nC (x.1.points ++ x.1.flank) ∧ Below w.heap.size w w' :=
  (tableNeedsO_any v l rs r x w h hx hm).mono fun _ _ ⟨u, he, ho, hb⟩ => ⟨u, he, rowAt_of_owns (fun _ => rfl) ho, hb⟩
end Go.Proofs.Ytceebimgfajbcaa
