/-
  Package lock: what the field is told; Safe, by a contract.
-/
import Derived.Test.YtceebimgfajbcaaGreatDoorLkCmd
import Derived.Test.YtceebimgfajbcaaGreatDoorLyFork
import Derived.Deep.OwnRows
namespace Go.Proofs.YtceebimgfajbcaaGreatDoor
open Go.RowKit

def outV (b1 b2 np ng : Nat) : Value := .agg #[.slice (some ⟨b1, 0, none⟩) np np, .slice (some ⟨b2, 0, none⟩) ng ng]
/-- What the field is told, in memory of the call's own. -/
structure OutAt (W : World) (B b1 b2 : Nat) (dr : List Int) (pr : List Bool) : Prop where
  h1 : W.heap[b1]? = some (.cells (dr.map (Value.int .i64)).toArray 3 (0, 0))
  h2 : W.heap[b2]? = some (.cells (pr.map Value.bool).toArray 4 (0, 0))
  base : B ≤ b1 ∧ B ≤ b2
  ne : b1 ≠ b2

theorem OutAt.below {W W' : World} {B b1 b2 : Nat} {dr : List Int} {pr : List Bool} (h : OutAt W B b1 b2 dr pr) (hb : Below W.heap.size W W') : OutAt W' B b1 b2 dr pr := ⟨blk_below hb h.h1, blk_below hb h.h2, h.base, h.ne⟩

set_option maxRecDepth 1000000 in
set_option maxHeartbeats 8000000 in
theorem safe_any (kb : Nat) (u : Nat → Value) (ns ng : Nat) (pts : List Int) (ws : List WyV) (ss : List St) (w : World) (h : LkRd w kb u ns ng pts ws ss) (hl : pts.length ≤ 1000 ∧ ng ≤ 1000) :
    Calls Tryz.prog 14 #[.pointer (some ⟨kb, 0, none⟩)] w fun e w' => ∃ b1 b2, e = .returned (outV b1 b2 pts.length ng) ∧ OutAt w' w.heap.size b1 b2 (List.replicate pts.length 0) (List.replicate ng false) ∧ Below w.heap.size w w' := by
  have h1 := h.c1
  have h2 := h.c2
  obtain ⟨o2, c2, e2, _⟩ := h.p
  rw [e2] at h2
  clear h e2
  obtain ⟨hl1, hl2⟩ := hl
  generalize pts.length = np at *
  have MI : Hid (∀ w : World, (Instr.makeSlice 36 (.int .i64 (np : Int)) (.int .i64 (np : Int))).run Tryz.prog w = .ok (.slice (some ⟨w.heap.size, 0, none⟩) np np) (w.alloc (.cells ((List.replicate np (0 : Int)).map (Value.int .i64)).toArray 3))) := fun w => mk_int np hl1 w
  have MB : Hid (∀ w : World, (Instr.makeSlice 35 (.int .i64 (ng : Int)) (.int .i64 (ng : Int))).run Tryz.prog w = .ok (.slice (some ⟨w.heap.size, 0, none⟩) ng ng) (w.alloc (.cells ((List.replicate ng false).map Value.bool).toArray 4))) := fun w => mk_bool ng hl2 w
  generalize hci : ((List.replicate np (0 : Int)).map (Value.int .i64)).toArray = ci at *
  generalize hcb : ((List.replicate ng false).map Value.bool).toArray = cb at *
  have HCI : Hid (((List.replicate np (0 : Int)).map (Value.int .i64)).toArray = ci) := hci
  have HCB : Hid (((List.replicate ng false).map Value.bool).toArray = cb) := hcb
  clear hci hcb
  have HB1 : Hid (Below w.heap.size w (w.alloc (.cells #[.slice none 0 0, .slice none 0 0] 46))) := (Below.refl _ _).alloc (Nat.le_refl _) _
  have H0 : Hid ((w.alloc (.cells #[.slice none 0 0, .slice none 0 0] 46)).heap[w.heap.size]? = some (.cells #[.slice none 0 0, .slice none 0 0] 46 (0, 0))) := blk_new _ _
  have x1 := up_cell HB1.out h1
  have x2 := up_cell HB1.out h2
  have hsz : (w.alloc (.cells #[.slice none 0 0, .slice none 0 0] 46)).heap.size = w.heap.size + 1 := by simp
  have HSZ : Hid ((w.alloc (.cells #[.slice none 0 0, .slice none 0 0] 46)).heap.size = w.heap.size + 1) := hsz
  clear h1 h2 hsz
  go_enter Tryz.func14, Tryz.ntmps14
  go_wp2_with fail
  generalize w.alloc (.cells #[.slice none 0 0, .slice none 0 0] 46) = w1 at *
  have y1 := ext_cell x1
  have y2 := ext_cell x2
  haveI := ext_some w1
  have HB2 : Hid (Below w1.heap.size w1 w1.drew) := (Below.refl _ _).drew
  clear x1 x2
  refine wp_region_fork (C := fun W => ∃ y : Ext w1, W = y.z) [0, 1, 2, 3, 4, 6, 7, 8, 9] [5, 10, 11] [10, 5, 11] [12] (by kernel_rfl) (by kernel_rfl) (by kernel_rfl) (by kernel_rfl) (by simp only [List.filterMap_cons, List.getElem?_toArray, List.getElem?_cons_zero, List.getElem?_cons_succ, List.filterMap_nil]; rfl) (by simp only [List.filterMap_cons, List.getElem?_toArray, List.getElem?_cons_zero, List.getElem?_cons_succ, List.filterMap_nil]; rfl) (by simp only [List.filterMap_cons, List.getElem?_toArray, List.getElem?_cons_zero, List.getElem?_cons_succ, List.filterMap_nil]; rfl) (by simp only [List.filterMap_cons, List.getElem?_toArray, List.getElem?_cons_zero, List.getElem?_cons_succ, List.filterMap_nil]; rfl) ⟨⟨_, (Below.refl _ _).drew⟩, rfl⟩ ?_
  (repeat (first | (with_reducible refine mix_read (by kernel_rfl) ?_; go_big_quiet_want; go_big_quiet_op; go_big_quiet_on; with_reducible refine wpQuiet_nil ?_) | (with_reducible refine mix_pass (by kernel_rfl) ?_; go_big_quiet_skip; with_reducible refine wpQuiet_nil ?_)))
  with_reducible refine mix_end ?_
  have HB3 : Hid (Below w1.heap.size w1 (w1.drew.alloc (.cells ci 3))) := HB2.out.alloc HB2.out.size _
  have HB3' : Hid (Below w1.heap.size w1 (w1.drew.alloc (.cells cb 4))) := HB2.out.alloc HB2.out.size _
  refine ⟨?_, ?_⟩
  · refine mix_does (by kernel_rfl) (by kernel_rfl) (run_does (MI.out w1.drew)) ⟨⟨_, HB3.out⟩, rfl⟩ ?_
    simp only [Act.put, List.setIfInBounds_toArray, List.set_cons_zero, List.set_cons_succ]
    have HB4 : Hid (Below w1.heap.size w1 ((w1.drew.alloc (.cells ci 3)).alloc (.cells cb 4))) := HB3.out.alloc HB3.out.size _
    refine mix_does (by kernel_rfl) (by kernel_rfl) (run_does (MB.out (w1.drew.alloc (.cells ci 3)))) ⟨⟨_, HB4.out⟩, rfl⟩ ?_
    simp only [Act.put, List.setIfInBounds_toArray, List.set_cons_zero, List.set_cons_succ]
    (repeat (first | (with_reducible refine mix_read (by kernel_rfl) ?_; go_big_quiet_want; go_big_quiet_op; go_big_quiet_on; with_reducible refine wpQuiet_nil ?_) | (with_reducible refine mix_pass (by kernel_rfl) ?_; go_big_quiet_skip; with_reducible refine wpQuiet_nil ?_)))
    with_reducible refine mix_end ?_
    have HX1 : Hid (((w1.drew.alloc (.cells ci 3)).alloc (.cells cb 4)).heap[w1.heap.size]? = some (.cells ci 3 (0, 0))) := blk_old (blk_new w1.drew _)
    have HX2 : Hid (((w1.drew.alloc (.cells ci 3)).alloc (.cells cb 4)).heap[w1.heap.size + 1]? = some (.cells cb 4 (0, 0))) := blk_at1 w1.drew _ _
    have hs1 : (w1.drew.alloc (.cells ci 3)).heap.size = w1.heap.size + 1 := by rw [World.size_alloc]; rfl
    generalize hw2 : (w1.drew.alloc (.cells ci 3)).alloc (.cells cb 4) = w2 at *
    clear hw2
    have H2 := blk_below HB4.out H0.out
    obtain ⟨z0, z1⟩ := cells2 H2
    have z2 := froz2 H2 0
    have z3 := froz2 H2 1
    go_wp2
    have hg := HSZ.out
    refine bodyPost_ret (v := outV (w1.heap.size) (w1.heap.size + 1) np ng) (by simp [results, Tryz.results14, go_sem, outV, z0, z1]) rfl ⟨w1.heap.size, w1.heap.size + 1, rfl, ⟨?_, ?_, ⟨by omega, by omega⟩, by omega⟩, ?_⟩
    · rw [Below.heap_setCell _ _ _ _ (by show (w1.heap.size) ≠ w.heap.size; omega), Below.heap_setCell _ _ _ _ (by show (w1.heap.size) ≠ w.heap.size; omega), HCI.out]
      exact HX1.out
    · rw [Below.heap_setCell _ _ _ _ (by show (w1.heap.size + 1) ≠ w.heap.size; omega), Below.heap_setCell _ _ _ _ (by show (w1.heap.size + 1) ≠ w.heap.size; omega), HCB.out]
      exact HX2.out
    · exact (((HB1.out.trans (HB4.out.mono HB1.out.size)).setCell (Nat.le_refl _) _).setCell (Nat.le_refl _) _)
  · refine mix_does (by kernel_rfl) (by kernel_rfl) (run_does (MB.out w1.drew)) ⟨⟨_, HB3'.out⟩, rfl⟩ ?_
    simp only [Act.put, List.setIfInBounds_toArray, List.set_cons_zero, List.set_cons_succ]
    have HB4 : Hid (Below w1.heap.size w1 ((w1.drew.alloc (.cells cb 4)).alloc (.cells ci 3))) := HB3'.out.alloc HB3'.out.size _
    refine mix_does (by kernel_rfl) (by kernel_rfl) (run_does (MI.out (w1.drew.alloc (.cells cb 4)))) ⟨⟨_, HB4.out⟩, rfl⟩ ?_
    simp only [Act.put, List.setIfInBounds_toArray, List.set_cons_zero, List.set_cons_succ]
    (repeat (first | (with_reducible refine mix_read (by kernel_rfl) ?_; go_big_quiet_want; go_big_quiet_op; go_big_quiet_on; with_reducible refine wpQuiet_nil ?_) | (with_reducible refine mix_pass (by kernel_rfl) ?_; go_big_quiet_skip; with_reducible refine wpQuiet_nil ?_)))
    with_reducible refine mix_end ?_
    have HX1 : Hid (((w1.drew.alloc (.cells cb 4)).alloc (.cells ci 3)).heap[w1.heap.size]? = some (.cells cb 4 (0, 0))) := blk_old (blk_new w1.drew _)
    have HX2 : Hid (((w1.drew.alloc (.cells cb 4)).alloc (.cells ci 3)).heap[w1.heap.size + 1]? = some (.cells ci 3 (0, 0))) := blk_at1 w1.drew _ _
    have hs1 : (w1.drew.alloc (.cells cb 4)).heap.size = w1.heap.size + 1 := by rw [World.size_alloc]; rfl
    generalize hw2 : (w1.drew.alloc (.cells cb 4)).alloc (.cells ci 3) = w2 at *
    clear hw2
    have H2 := blk_below HB4.out H0.out
    obtain ⟨z0, z1⟩ := cells2 H2
    have z2 := froz2 H2 0
    have z3 := froz2 H2 1
    go_wp2
    have hg := HSZ.out
    refine bodyPost_ret (v := outV (w1.heap.size + 1) (w1.heap.size) np ng) (by simp [results, Tryz.results14, go_sem, outV, z0, z1]) rfl ⟨w1.heap.size + 1, w1.heap.size, rfl, ⟨?_, ?_, ⟨by omega, by omega⟩, by omega⟩, ?_⟩
    · rw [Below.heap_setCell _ _ _ _ (by show (w1.heap.size + 1) ≠ w.heap.size; omega), Below.heap_setCell _ _ _ _ (by show (w1.heap.size + 1) ≠ w.heap.size; omega), HCI.out]
      exact HX2.out
    · rw [Below.heap_setCell _ _ _ _ (by show (w1.heap.size) ≠ w.heap.size; omega), Below.heap_setCell _ _ _ _ (by show (w1.heap.size) ≠ w.heap.size; omega), HCB.out]
      exact HX1.out
    · exact (((HB1.out.trans (HB4.out.mono HB1.out.size)).setCell (Nat.le_refl _) _).setCell (Nat.le_refl _) _)
end Go.Proofs.YtceebimgfajbcaaGreatDoor
