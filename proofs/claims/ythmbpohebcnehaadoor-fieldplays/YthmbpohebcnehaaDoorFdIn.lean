/-
  Package field: In, by a contract.
-/
import Derived.Test.YthmbpohebcnehaaDoorFdStep
import Derived.Test.YthmbpohebcnehaaDoorFdClone
import Derived.Test.YthmbpohebcnehaaDoorLyTree
import Derived.Deep.CutBlock
namespace Go.Proofs.YthmbpohebcnehaaDoor
open Go.RowKit

theorem map_flat_i (l : List Int) : l.map (Value.int .i64) = l.flatMap iC := by
  induction l with
  | nil => rfl
  | cons x l ih => rw [List.map_cons, ih]; rfl
theorem map_flat_b (l : List Bool) : l.map Value.bool = l.flatMap bC := by
  induction l with
  | nil => rfl
  | cons x l ih => rw [List.map_cons, ih]; rfl
theorem own_row (e : TypeId) {w : World} {b base : Nat} (l : List Int) (h : w.heap[b]? = some (.cells (l.map (Value.int .i64)).toArray e (0, 0))) (hb : base ≤ b) (hl : l.length ≤ 1000) : w.ownsRow base e 1 (.slice (some ⟨b, 0, none⟩) l.length l.length) l.length (l.flatMap iC) := by
  refine ⟨flat_lenG (cs := iC) (size := 1) (fun _ => rfl) l, .inr ⟨b, l.length, _, rfl, hb, h, Nat.le_refl _, by unfold maxLen; omega, by simp, ?_⟩⟩
  rw [← map_flat_i, List.take_of_length_le (by simp)]

/-- Where all points lie. -/
def liesF (pts : List Pt) : List Int := pts.map (·.1)
/-- What is told so far: the row of sections, the row of points, the box that holds both. -/
def inMeet (occ : List Bool) (ci : Array Value) (np : Nat) (w1 : World) (c : Nat) (u : Value) (b : Nat) (W : World) : Prop :=
  W.ownsRow w1.heap.size 4 1 u occ.length (occ.flatMap bC) ∧ W.heap[b]? = some (.cells ci 3 (0, 0)) ∧ W.heap[c]? = some (.cells #[u, .slice (some ⟨b, 0, none⟩) np np] 46 (0, 0)) ∧ Below w1.heap.size w1 W ∧ w1.heap.size ≤ b ∧ w1.heap.size ≤ c
theorem meet_in {occ : List Bool} {ci : Array Value} {np : Nat} {w1 W : World} {c b : Nat} {u : Value} (hu : W.ownsRow w1.heap.size 4 1 u occ.length (occ.flatMap bC)) (hb : W.heap[b]? = some (.cells ci 3 (0, 0))) (hc : W.heap[c]? = some (.cells #[.slice none 0 0, .slice none 0 0] 46 (0, 0))) (ht : Below w1.heap.size w1 W) (hbs : w1.heap.size ≤ b) (hcs : w1.heap.size ≤ c)
    (h1 : 4 ≠ 46) (h2 : 3 ≠ 46) :
    inMeet occ ci np w1 c u b ((W.setCell ⟨c, 0, none⟩ u).setCell ⟨c, 1, none⟩ (.slice (some ⟨b, 0, none⟩) np np)) := by
  have oth : ∀ j, j ≠ c → ((W.setCell ⟨c, 0, none⟩ u).setCell ⟨c, 1, none⟩ (.slice (some ⟨b, 0, none⟩) np np)).heap[j]? = W.heap[j]? := fun j hj => by
    rw [Below.heap_setCell _ _ _ _ (by exact hj), Below.heap_setCell _ _ _ _ (by exact hj)]
  refine ⟨owns_keep hu fun i hi => oth i (owns_ne hu hc h1 i hi), (oth b fun e => ?_).trans hb, set2 hc _ _, (ht.setCell hcs _).setCell hcs _, hbs, hcs⟩
  rw [e, hc] at hb
  injection hb with hb
  injection hb with e1 e2 e3
  exact h2 e2.symm

theorem in_set {occ : List Bool} {cur : List Int} {np : Nat} {w1 W : World} {c b : Nat} {ou : Option Addr} {n cu : Nat} (h : inMeet occ (cur.map (Value.int .i64)).toArray np w1 c (.slice ou n cu) b W) (k : Nat) (x : Int) (hbc : b ≠ c) (h1 : 4 ≠ 3) :
    inMeet occ ((cur.set k x).map (Value.int .i64)).toArray np w1 c (.slice ou n cu) b (W.setCell ⟨b, k, none⟩ (.int .i64 x)) := by
  obtain ⟨hu, hb, hc, ht, hbs, hcs⟩ := h
  have oth : ∀ j, j ≠ b → (W.setCell ⟨b, k, none⟩ (.int .i64 x)).heap[j]? = W.heap[j]? := fun j hj => Below.heap_setCell _ _ _ _ (by exact hj)
  refine ⟨owns_keep hu fun i hi => oth i (owns_ne hu hb h1 i hi), ?_, (oth c (Ne.symm hbc)).trans hc, ht.setCell hbs _, hbs, hcs⟩
  rw [heap_put hb]
  congr 2
  apply Array.ext'
  simp

set_option maxRecDepth 1000000 in
set_option maxHeartbeats 16000000 in
theorem fdIn_any (B fb bo bp : Nat) (occ : List Bool) (pts : List Pt) (w : World) (h : FdAt w B fb bo bp occ pts) :
    Calls Tryd.prog 16 #[.pointer (some ⟨fb, 0, none⟩)] w fun e w' => ∃ u0 b, e = .returned (.agg #[u0, .slice (some ⟨b, 0, none⟩) pts.length pts.length]) ∧ w'.ownsRow w.heap.size 4 1 u0 occ.length (occ.flatMap bC) ∧ w.heap.size ≤ b ∧ w'.heap[b]? = some (.cells ((liesF pts).map (Value.int .i64)).toArray 3 (0, 0)) ∧ Below w.heap.size w w' := by
  have HF : Hid (FdAt w B fb bo bp occ pts) := h
  have hfew := h.few
  have HFW : Hid (occ.length ≤ 1000 ∧ pts.length ≤ 1000) := hfew
  have hpl : pts.length ≤ 1000 := hfew.2
  have MI : Hid (∀ w : World, (Instr.makeSlice 40 (.int .i64 (pts.length : Int)) (.int .i64 (pts.length : Int))).run Tryd.prog w = .ok (.slice (some ⟨w.heap.size, 0, none⟩) pts.length pts.length) (w.alloc (.cells ((List.replicate pts.length (0 : Int)).map (Value.int .i64)).toArray 3))) := fun w => mk_int pts.length hfew.2 w
  have HCL : Hid (∀ W, FdAt W B fb bo bp occ pts → Calls Tryd.prog 24 #[.slice (some ⟨bo, 0, none⟩) occ.length occ.length] W fun e w' => ∃ u, e = .returned u ∧ w'.ownsRow W.heap.size 4 1 u occ.length (occ.flatMap bC) ∧ Below W.heap.size W w') := fun W hW => cloneB_any _ occ W (row_blk (cs := bC) (fun _ => rfl) occ hW.ho (by rw [← map_flat_b])) (by omega)
  generalize hci : ((List.replicate pts.length (0 : Int)).map (Value.int .i64)).toArray = ci at MI
  have HCI : Hid (((List.replicate pts.length (0 : Int)).map (Value.int .i64)).toArray = ci) := hci
  generalize hch : w.alloc (.cells #[.slice none 0 0, .slice none 0 0] 46) = w1
  have HB1 : Hid (Below w.heap.size w w1) := by show Below _ _ _; rw [← hch]; exact (Below.refl _ _).alloc (Nat.le_refl _) _
  have H0 : Hid (w1.heap[w.heap.size]? = some (.cells #[.slice none 0 0, .slice none 0 0] 46 (0, 0))) := by show _ = _; rw [← hch]; exact blk_new _ _
  have HF1 : Hid (FdAt w1 B fb bo bp occ pts) := HF.out.below HB1.out
  obtain ⟨x0, x1⟩ := HF1.out.cells
  have HCH := (show Hid (_ = w1) from hch)
  clear h hci hch hfew
  go_enter Tryd.func16, Tryd.ntmps16
  go_upto_region 3 with fail
  rw [HCH.out]
  clear HCH
  go_cut [3] from 9 to 20 (fun s wc => ∃ c u b, s = .pointer (some ⟨c, 0, none⟩) ∧ inMeet occ ci pts.length w1 c u b wc)
  case first =>
    have y0 := ext_cell x0
    have y1 := ext_cell x1
    haveI := ext_some w1
    have HTw2 : Hid (Below w1.heap.size w1 w1.drew) := (Below.refl _ _).drew
    have HFDw2 : Hid (FdAt w1.drew B fb bo bp occ pts) := HF1.out.below HTw2.out
    clear x0 x1
    refine wp_region_tree (C := fun W => ∃ y : Ext w1, W = y.z) [0, 1, 2, 3, 4, 5, 6, 7, 8, 9, 10, 11, 12] (by kernel_rfl) (by kernel_rfl) rfl rfl ⟨⟨_, (Below.refl _ _).drew⟩, rfl⟩ ?_
    generalize w1.drew = w2 at *
    refine tree_seq [0, 1, 2, 3, 5, 6, 7, 8, 9] (by kernel_rfl) (by kernel_rfl) (show 14 = 5 + 9 from rfl) (by kernel_rfl) (by simp only [List.filterMap_cons, List.getElem?_toArray, List.getElem?_cons_zero, List.getElem?_cons_succ, List.filterMap_nil]; rfl) rfl ?_
    (repeat (first | (with_reducible refine mix_read (by kernel_rfl) ?_; go_big_quiet_want; go_big_quiet_op; go_big_quiet_on; with_reducible refine wpQuiet_nil ?_) | (with_reducible refine mix_pass (by kernel_rfl) ?_; go_big_quiet_skip; with_reducible refine wpQuiet_nil ?_)))
    with_reducible refine mix_end ?_
    refine tree_three 4 10 12 (show 5 = 4 + 1 from rfl) (by kernel_rfl) (by kernel_rfl) (by simp only [List.getElem?_toArray, List.getElem?_cons_zero, List.getElem?_cons_succ]; rfl) (by simp only [List.getElem?_toArray, List.getElem?_cons_zero, List.getElem?_cons_succ]; rfl) (by simp only [List.getElem?_toArray, List.getElem?_cons_zero, List.getElem?_cons_succ]; rfl) rfl rfl rfl ?_ ?_ ?_
    · with_reducible refine mix_call (by kernel_rfl) (by kernel_rfl) ((HCL.out _ HFDw2.out).mono ?_) (by kernel_rfl)
      rintro e w3_ ⟨u, rfl, hu, hb⟩
      obtain ⟨ou, cu, rfl⟩ := owns_slice hu
      have HBw3_ : Hid (Below w2.heap.size w2 w3_) := hb
      have HU : Hid (w3_.ownsRow w1.heap.size 4 1 (.slice ou occ.length cu) occ.length (occ.flatMap bC)) := owns_mono hu HTw2.out.size
      clear hu hb
      have HTw3_ : Hid (Below w1.heap.size w1 w3_) := HTw2.out.trans (HBw3_.out.mono HTw2.out.size)
      refine ⟨_, rfl, ⟨⟨_, HTw3_.out⟩, rfl⟩, ?_⟩
      simp only [Act.put, List.setIfInBounds_toArray, List.set_cons_zero, List.set_cons_succ]
      have HFDw3_ : Hid (FdAt w3_ B fb bo bp occ pts) := HFDw2.out.below HBw3_.out
      with_reducible refine mix_end ?_
      refine tree_two 10 12 (show 4 = 3 + 1 from rfl) (by kernel_rfl) (by kernel_rfl) (by simp only [List.getElem?_toArray, List.getElem?_cons_zero, List.getElem?_cons_succ]; rfl) (by simp only [List.getElem?_toArray, List.getElem?_cons_zero, List.getElem?_cons_succ]; rfl) rfl rfl ?_ ?_
      · have HB0 : Hid (Below w3_.heap.size w3_ (w3_.alloc (.cells ci 3))) := (Below.refl _ _).alloc (Nat.le_refl _) _
        have HBN : Hid ((w3_.alloc (.cells ci 3)).heap[w3_.heap.size]? = some (.cells ci 3 (0, 0))) := blk_new _ _
        have hrun := run_does (MI.out w3_)
        have HBS : Hid (w1.heap.size ≤ w3_.heap.size) := HTw3_.out.size
        generalize w3_.heap.size = b at HBN HBS hrun ⊢
        generalize w3_.alloc (.cells ci 3) = w4_ at *
        have HBw4_ : Hid (Below w3_.heap.size w3_ w4_) := HB0.out
        have HTw4_ : Hid (Below w1.heap.size w1 w4_) := HTw3_.out.trans (HBw4_.out.mono HTw3_.out.size)
        refine mix_does (by kernel_rfl) (by kernel_rfl) hrun ⟨⟨_, HTw4_.out⟩, rfl⟩ ?_
        clear hrun HB0
        simp only [Act.put, List.setIfInBounds_toArray, List.set_cons_zero, List.set_cons_succ]
        have HFDw4_ : Hid (FdAt w4_ B fb bo bp occ pts) := HFDw3_.out.below HBw4_.out
        replace HU : Hid (w4_.ownsRow w1.heap.size 4 1 (.slice ou occ.length cu) occ.length (occ.flatMap bC)) := owns_below HU.out HBw4_.out
        with_reducible refine mix_end ?_
        refine tree_seq [11] (by kernel_rfl) (by kernel_rfl) (show 3 = 2 + 1 from rfl) (by kernel_rfl) (by simp only [List.filterMap_cons, List.getElem?_toArray, List.getElem?_cons_zero, List.getElem?_cons_succ, List.filterMap_nil]; rfl) rfl ?_
        (repeat (first | (with_reducible refine mix_read (by kernel_rfl) ?_; go_big_quiet_want; go_big_quiet_op; go_big_quiet_on; with_reducible refine wpQuiet_nil ?_) | (with_reducible refine mix_pass (by kernel_rfl) ?_; go_big_quiet_skip; with_reducible refine wpQuiet_nil ?_)))
        with_reducible refine mix_end ?_
        refine tree_seq [12] (by kernel_rfl) (by kernel_rfl) (show 2 = 1 + 1 from rfl) (by kernel_rfl) (by simp only [List.filterMap_cons, List.getElem?_toArray, List.getElem?_cons_zero, List.getElem?_cons_succ, List.filterMap_nil]; rfl) rfl ?_
        have HB0 : Hid (Below w4_.heap.size w4_ (w4_.alloc (.cells #[.slice none 0 0, .slice none 0 0] 46))) := (Below.refl _ _).alloc (Nat.le_refl _) _
        have HCN : Hid ((w4_.alloc (.cells #[.slice none 0 0, .slice none 0 0] 46)).heap[w4_.heap.size]? = some (.cells #[.slice none 0 0, .slice none 0 0] 46 (0, 0))) := blk_new _ _
        have HCS : Hid (w1.heap.size ≤ w4_.heap.size) := HTw4_.out.size
        refine mix_does (v := .pointer (some ⟨w4_.heap.size, 0, none⟩)) (w' := w4_.alloc (.cells #[.slice none 0 0, .slice none 0 0] 46)) (by kernel_rfl) (by kernel_rfl) (by kernel_rfl) ⟨⟨_, HTw4_.out.trans (HB0.out.mono HTw4_.out.size)⟩, rfl⟩ ?_
        generalize w4_.heap.size = c at HCN HCS ⊢
        generalize w4_.alloc (.cells #[.slice none 0 0, .slice none 0 0] 46) = w5_ at *
        have HBw5_ : Hid (Below w4_.heap.size w4_ w5_) := HB0.out
        have HTw5_ : Hid (Below w1.heap.size w1 w5_) := HTw4_.out.trans (HBw5_.out.mono HTw4_.out.size)
        clear HB0
        simp only [Act.put, List.setIfInBounds_toArray, List.set_cons_zero, List.set_cons_succ]
        have HFDw5_ : Hid (FdAt w5_ B fb bo bp occ pts) := HFDw4_.out.below HBw5_.out
        replace HU : Hid (w5_.ownsRow w1.heap.size 4 1 (.slice ou occ.length cu) occ.length (occ.flatMap bC)) := owns_below HU.out HBw5_.out
        replace HBN : Hid (w5_.heap[b]? = some (.cells ci 3 (0, 0))) := blk_below HBw5_.out HBN.out
        with_reducible refine mix_end ?_
        refine tree_end [13] rfl (by kernel_rfl) (by simp only [List.filterMap_cons, List.getElem?_toArray, List.getElem?_cons_zero, List.getElem?_cons_succ, List.filterMap_nil]; rfl) ?_
        obtain ⟨z0, z1⟩ := cells2 HCN.out
        have f0 := froz2 HCN.out 0
        have f1 := froz2 HCN.out 1
        go_wp2_with fail
        go_meet
        case rel => exact ⟨c, _, b, rfl, meet_in HU.out HBN.out HCN.out HTw5_.out HBS.out HCS.out (by decide) (by decide)⟩
      · have HB0 : Hid (Below w3_.heap.size w3_ (w3_.alloc (.cells #[.slice none 0 0, .slice none 0 0] 46))) := (Below.refl _ _).alloc (Nat.le_refl _) _
        have HCN : Hid ((w3_.alloc (.cells #[.slice none 0 0, .slice none 0 0] 46)).heap[w3_.heap.size]? = some (.cells #[.slice none 0 0, .slice none 0 0] 46 (0, 0))) := blk_new _ _
        have HCS : Hid (w1.heap.size ≤ w3_.heap.size) := HTw3_.out.size
        refine mix_does (v := .pointer (some ⟨w3_.heap.size, 0, none⟩)) (w' := w3_.alloc (.cells #[.slice none 0 0, .slice none 0 0] 46)) (by kernel_rfl) (by kernel_rfl) (by kernel_rfl) ⟨⟨_, HTw3_.out.trans (HB0.out.mono HTw3_.out.size)⟩, rfl⟩ ?_
        generalize w3_.heap.size = c at HCN HCS ⊢
        generalize w3_.alloc (.cells #[.slice none 0 0, .slice none 0 0] 46) = w4_ at *
        have HBw4_ : Hid (Below w3_.heap.size w3_ w4_) := HB0.out
        have HTw4_ : Hid (Below w1.heap.size w1 w4_) := HTw3_.out.trans (HBw4_.out.mono HTw3_.out.size)
        clear HB0
        simp only [Act.put, List.setIfInBounds_toArray, List.set_cons_zero, List.set_cons_succ]
        have HFDw4_ : Hid (FdAt w4_ B fb bo bp occ pts) := HFDw3_.out.below HBw4_.out
        replace HU : Hid (w4_.ownsRow w1.heap.size 4 1 (.slice ou occ.length cu) occ.length (occ.flatMap bC)) := owns_below HU.out HBw4_.out
        with_reducible refine mix_end ?_
        refine tree_seq [10] (by kernel_rfl) (by kernel_rfl) (show 3 = 2 + 1 from rfl) (by kernel_rfl) (by simp only [List.filterMap_cons, List.getElem?_toArray, List.getElem?_cons_zero, List.getElem?_cons_succ, List.filterMap_nil]; rfl) rfl ?_
        have HB0 : Hid (Below w4_.heap.size w4_ (w4_.alloc (.cells ci 3))) := (Below.refl _ _).alloc (Nat.le_refl _) _
        have HBN : Hid ((w4_.alloc (.cells ci 3)).heap[w4_.heap.size]? = some (.cells ci 3 (0, 0))) := blk_new _ _
        have hrun := run_does (MI.out w4_)
        have HBS : Hid (w1.heap.size ≤ w4_.heap.size) := HTw4_.out.size
        generalize w4_.heap.size = b at HBN HBS hrun ⊢
        generalize w4_.alloc (.cells ci 3) = w5_ at *
        have HBw5_ : Hid (Below w4_.heap.size w4_ w5_) := HB0.out
        have HTw5_ : Hid (Below w1.heap.size w1 w5_) := HTw4_.out.trans (HBw5_.out.mono HTw4_.out.size)
        refine mix_does (by kernel_rfl) (by kernel_rfl) hrun ⟨⟨_, HTw5_.out⟩, rfl⟩ ?_
        clear hrun HB0
        simp only [Act.put, List.setIfInBounds_toArray, List.set_cons_zero, List.set_cons_succ]
        have HFDw5_ : Hid (FdAt w5_ B fb bo bp occ pts) := HFDw4_.out.below HBw5_.out
        replace HU : Hid (w5_.ownsRow w1.heap.size 4 1 (.slice ou occ.length cu) occ.length (occ.flatMap bC)) := owns_below HU.out HBw5_.out
        replace HCN : Hid (w5_.heap[c]? = some (.cells #[.slice none 0 0, .slice none 0 0] 46 (0, 0))) := blk_below HBw5_.out HCN.out
        with_reducible refine mix_end ?_
        refine tree_seq [11] (by kernel_rfl) (by kernel_rfl) (show 2 = 1 + 1 from rfl) (by kernel_rfl) (by simp only [List.filterMap_cons, List.getElem?_toArray, List.getElem?_cons_zero, List.getElem?_cons_succ, List.filterMap_nil]; rfl) rfl ?_
        (repeat (first | (with_reducible refine mix_read (by kernel_rfl) ?_; go_big_quiet_want; go_big_quiet_op; go_big_quiet_on; with_reducible refine wpQuiet_nil ?_) | (with_reducible refine mix_pass (by kernel_rfl) ?_; go_big_quiet_skip; with_reducible refine wpQuiet_nil ?_)))
        with_reducible refine mix_end ?_
        refine tree_end [13] rfl (by kernel_rfl) (by simp only [List.filterMap_cons, List.getElem?_toArray, List.getElem?_cons_zero, List.getElem?_cons_succ, List.filterMap_nil]; rfl) ?_
        obtain ⟨z0, z1⟩ := cells2 HCN.out
        have f0 := froz2 HCN.out 0
        have f1 := froz2 HCN.out 1
        go_wp2_with fail
        go_meet
        case rel => exact ⟨c, _, b, rfl, meet_in HU.out HBN.out HCN.out HTw5_.out HBS.out HCS.out (by decide) (by decide)⟩
    · have HB0 : Hid (Below w2.heap.size w2 (w2.alloc (.cells ci 3))) := (Below.refl _ _).alloc (Nat.le_refl _) _
      have HBN : Hid ((w2.alloc (.cells ci 3)).heap[w2.heap.size]? = some (.cells ci 3 (0, 0))) := blk_new _ _
      have hrun := run_does (MI.out w2)
      have HBS : Hid (w1.heap.size ≤ w2.heap.size) := HTw2.out.size
      generalize w2.heap.size = b at HBN HBS hrun ⊢
      generalize w2.alloc (.cells ci 3) = w3_ at *
      have HBw3_ : Hid (Below w2.heap.size w2 w3_) := HB0.out
      have HTw3_ : Hid (Below w1.heap.size w1 w3_) := HTw2.out.trans (HBw3_.out.mono HTw2.out.size)
      refine mix_does (by kernel_rfl) (by kernel_rfl) hrun ⟨⟨_, HTw3_.out⟩, rfl⟩ ?_
      clear hrun HB0
      simp only [Act.put, List.setIfInBounds_toArray, List.set_cons_zero, List.set_cons_succ]
      have HFDw3_ : Hid (FdAt w3_ B fb bo bp occ pts) := HFDw2.out.below HBw3_.out
      with_reducible refine mix_end ?_
      refine tree_two 4 12 (show 4 = 3 + 1 from rfl) (by kernel_rfl) (by kernel_rfl) (by simp only [List.getElem?_toArray, List.getElem?_cons_zero, List.getElem?_cons_succ]; rfl) (by simp only [List.getElem?_toArray, List.getElem?_cons_zero, List.getElem?_cons_succ]; rfl) rfl rfl ?_ ?_
      · with_reducible refine mix_call (by kernel_rfl) (by kernel_rfl) ((HCL.out _ HFDw3_.out).mono ?_) (by kernel_rfl)
        rintro e w4_ ⟨u, rfl, hu, hb⟩
        obtain ⟨ou, cu, rfl⟩ := owns_slice hu
        have HBw4_ : Hid (Below w3_.heap.size w3_ w4_) := hb
        have HU : Hid (w4_.ownsRow w1.heap.size 4 1 (.slice ou occ.length cu) occ.length (occ.flatMap bC)) := owns_mono hu HTw3_.out.size
        clear hu hb
        have HTw4_ : Hid (Below w1.heap.size w1 w4_) := HTw3_.out.trans (HBw4_.out.mono HTw3_.out.size)
        refine ⟨_, rfl, ⟨⟨_, HTw4_.out⟩, rfl⟩, ?_⟩
        simp only [Act.put, List.setIfInBounds_toArray, List.set_cons_zero, List.set_cons_succ]
        have HFDw4_ : Hid (FdAt w4_ B fb bo bp occ pts) := HFDw3_.out.below HBw4_.out
        replace HBN : Hid (w4_.heap[b]? = some (.cells ci 3 (0, 0))) := blk_below HBw4_.out HBN.out
        with_reducible refine mix_end ?_
        refine tree_seq [11] (by kernel_rfl) (by kernel_rfl) (show 3 = 2 + 1 from rfl) (by kernel_rfl) (by simp only [List.filterMap_cons, List.getElem?_toArray, List.getElem?_cons_zero, List.getElem?_cons_succ, List.filterMap_nil]; rfl) rfl ?_
        (repeat (first | (with_reducible refine mix_read (by kernel_rfl) ?_; go_big_quiet_want; go_big_quiet_op; go_big_quiet_on; with_reducible refine wpQuiet_nil ?_) | (with_reducible refine mix_pass (by kernel_rfl) ?_; go_big_quiet_skip; with_reducible refine wpQuiet_nil ?_)))
        with_reducible refine mix_end ?_
        refine tree_seq [12] (by kernel_rfl) (by kernel_rfl) (show 2 = 1 + 1 from rfl) (by kernel_rfl) (by simp only [List.filterMap_cons, List.getElem?_toArray, List.getElem?_cons_zero, List.getElem?_cons_succ, List.filterMap_nil]; rfl) rfl ?_
        have HB0 : Hid (Below w4_.heap.size w4_ (w4_.alloc (.cells #[.slice none 0 0, .slice none 0 0] 46))) := (Below.refl _ _).alloc (Nat.le_refl _) _
        have HCN : Hid ((w4_.alloc (.cells #[.slice none 0 0, .slice none 0 0] 46)).heap[w4_.heap.size]? = some (.cells #[.slice none 0 0, .slice none 0 0] 46 (0, 0))) := blk_new _ _
        have HCS : Hid (w1.heap.size ≤ w4_.heap.size) := HTw4_.out.size
        refine mix_does (v := .pointer (some ⟨w4_.heap.size, 0, none⟩)) (w' := w4_.alloc (.cells #[.slice none 0 0, .slice none 0 0] 46)) (by kernel_rfl) (by kernel_rfl) (by kernel_rfl) ⟨⟨_, HTw4_.out.trans (HB0.out.mono HTw4_.out.size)⟩, rfl⟩ ?_
        generalize w4_.heap.size = c at HCN HCS ⊢
        generalize w4_.alloc (.cells #[.slice none 0 0, .slice none 0 0] 46) = w5_ at *
        have HBw5_ : Hid (Below w4_.heap.size w4_ w5_) := HB0.out
        have HTw5_ : Hid (Below w1.heap.size w1 w5_) := HTw4_.out.trans (HBw5_.out.mono HTw4_.out.size)
        clear HB0
        simp only [Act.put, List.setIfInBounds_toArray, List.set_cons_zero, List.set_cons_succ]
        have HFDw5_ : Hid (FdAt w5_ B fb bo bp occ pts) := HFDw4_.out.below HBw5_.out
        replace HBN : Hid (w5_.heap[b]? = some (.cells ci 3 (0, 0))) := blk_below HBw5_.out HBN.out
        replace HU : Hid (w5_.ownsRow w1.heap.size 4 1 (.slice ou occ.length cu) occ.length (occ.flatMap bC)) := owns_below HU.out HBw5_.out
        with_reducible refine mix_end ?_
        refine tree_end [13] rfl (by kernel_rfl) (by simp only [List.filterMap_cons, List.getElem?_toArray, List.getElem?_cons_zero, List.getElem?_cons_succ, List.filterMap_nil]; rfl) ?_
        obtain ⟨z0, z1⟩ := cells2 HCN.out
        have f0 := froz2 HCN.out 0
        have f1 := froz2 HCN.out 1
        go_wp2_with fail
        go_meet
        case rel => exact ⟨c, _, b, rfl, meet_in HU.out HBN.out HCN.out HTw5_.out HBS.out HCS.out (by decide) (by decide)⟩
      · have HB0 : Hid (Below w3_.heap.size w3_ (w3_.alloc (.cells #[.slice none 0 0, .slice none 0 0] 46))) := (Below.refl _ _).alloc (Nat.le_refl _) _
        have HCN : Hid ((w3_.alloc (.cells #[.slice none 0 0, .slice none 0 0] 46)).heap[w3_.heap.size]? = some (.cells #[.slice none 0 0, .slice none 0 0] 46 (0, 0))) := blk_new _ _
        have HCS : Hid (w1.heap.size ≤ w3_.heap.size) := HTw3_.out.size
        refine mix_does (v := .pointer (some ⟨w3_.heap.size, 0, none⟩)) (w' := w3_.alloc (.cells #[.slice none 0 0, .slice none 0 0] 46)) (by kernel_rfl) (by kernel_rfl) (by kernel_rfl) ⟨⟨_, HTw3_.out.trans (HB0.out.mono HTw3_.out.size)⟩, rfl⟩ ?_
        generalize w3_.heap.size = c at HCN HCS ⊢
        generalize w3_.alloc (.cells #[.slice none 0 0, .slice none 0 0] 46) = w4_ at *
        have HBw4_ : Hid (Below w3_.heap.size w3_ w4_) := HB0.out
        have HTw4_ : Hid (Below w1.heap.size w1 w4_) := HTw3_.out.trans (HBw4_.out.mono HTw3_.out.size)
        clear HB0
        simp only [Act.put, List.setIfInBounds_toArray, List.set_cons_zero, List.set_cons_succ]
        have HFDw4_ : Hid (FdAt w4_ B fb bo bp occ pts) := HFDw3_.out.below HBw4_.out
        replace HBN : Hid (w4_.heap[b]? = some (.cells ci 3 (0, 0))) := blk_below HBw4_.out HBN.out
        with_reducible refine mix_end ?_
        refine tree_seq [4] (by kernel_rfl) (by kernel_rfl) (show 3 = 2 + 1 from rfl) (by kernel_rfl) (by simp only [List.filterMap_cons, List.getElem?_toArray, List.getElem?_cons_zero, List.getElem?_cons_succ, List.filterMap_nil]; rfl) rfl ?_
        with_reducible refine mix_call (by kernel_rfl) (by kernel_rfl) ((HCL.out _ HFDw4_.out).mono ?_) (by kernel_rfl)
        rintro e w5_ ⟨u, rfl, hu, hb⟩
        obtain ⟨ou, cu, rfl⟩ := owns_slice hu
        have HBw5_ : Hid (Below w4_.heap.size w4_ w5_) := hb
        have HU : Hid (w5_.ownsRow w1.heap.size 4 1 (.slice ou occ.length cu) occ.length (occ.flatMap bC)) := owns_mono hu HTw4_.out.size
        clear hu hb
        have HTw5_ : Hid (Below w1.heap.size w1 w5_) := HTw4_.out.trans (HBw5_.out.mono HTw4_.out.size)
        refine ⟨_, rfl, ⟨⟨_, HTw5_.out⟩, rfl⟩, ?_⟩
        simp only [Act.put, List.setIfInBounds_toArray, List.set_cons_zero, List.set_cons_succ]
        have HFDw5_ : Hid (FdAt w5_ B fb bo bp occ pts) := HFDw4_.out.below HBw5_.out
        replace HBN : Hid (w5_.heap[b]? = some (.cells ci 3 (0, 0))) := blk_below HBw5_.out HBN.out
        replace HCN : Hid (w5_.heap[c]? = some (.cells #[.slice none 0 0, .slice none 0 0] 46 (0, 0))) := blk_below HBw5_.out HCN.out
        with_reducible refine mix_end ?_
        refine tree_seq [11] (by kernel_rfl) (by kernel_rfl) (show 2 = 1 + 1 from rfl) (by kernel_rfl) (by simp only [List.filterMap_cons, List.getElem?_toArray, List.getElem?_cons_zero, List.getElem?_cons_succ, List.filterMap_nil]; rfl) rfl ?_
        (repeat (first | (with_reducible refine mix_read (by kernel_rfl) ?_; go_big_quiet_want; go_big_quiet_op; go_big_quiet_on; with_reducible refine wpQuiet_nil ?_) | (with_reducible refine mix_pass (by kernel_rfl) ?_; go_big_quiet_skip; with_reducible refine wpQuiet_nil ?_)))
        with_reducible refine mix_end ?_
        refine tree_end [13] rfl (by kernel_rfl) (by simp only [List.filterMap_cons, List.getElem?_toArray, List.getElem?_cons_zero, List.getElem?_cons_succ, List.filterMap_nil]; rfl) ?_
        obtain ⟨z0, z1⟩ := cells2 HCN.out
        have f0 := froz2 HCN.out 0
        have f1 := froz2 HCN.out 1
        go_wp2_with fail
        go_meet
        case rel => exact ⟨c, _, b, rfl, meet_in HU.out HBN.out HCN.out HTw5_.out HBS.out HCS.out (by decide) (by decide)⟩
    · have HB0 : Hid (Below w2.heap.size w2 (w2.alloc (.cells #[.slice none 0 0, .slice none 0 0] 46))) := (Below.refl _ _).alloc (Nat.le_refl _) _
      have HCN : Hid ((w2.alloc (.cells #[.slice none 0 0, .slice none 0 0] 46)).heap[w2.heap.size]? = some (.cells #[.slice none 0 0, .slice none 0 0] 46 (0, 0))) := blk_new _ _
      have HCS : Hid (w1.heap.size ≤ w2.heap.size) := HTw2.out.size
      refine mix_does (v := .pointer (some ⟨w2.heap.size, 0, none⟩)) (w' := w2.alloc (.cells #[.slice none 0 0, .slice none 0 0] 46)) (by kernel_rfl) (by kernel_rfl) (by kernel_rfl) ⟨⟨_, HTw2.out.trans (HB0.out.mono HTw2.out.size)⟩, rfl⟩ ?_
      generalize w2.heap.size = c at HCN HCS ⊢
      generalize w2.alloc (.cells #[.slice none 0 0, .slice none 0 0] 46) = w3_ at *
      have HBw3_ : Hid (Below w2.heap.size w2 w3_) := HB0.out
      have HTw3_ : Hid (Below w1.heap.size w1 w3_) := HTw2.out.trans (HBw3_.out.mono HTw2.out.size)
      clear HB0
      simp only [Act.put, List.setIfInBounds_toArray, List.set_cons_zero, List.set_cons_succ]
      have HFDw3_ : Hid (FdAt w3_ B fb bo bp occ pts) := HFDw2.out.below HBw3_.out
      with_reducible refine mix_end ?_
      refine tree_two 4 10 (show 4 = 3 + 1 from rfl) (by kernel_rfl) (by kernel_rfl) (by simp only [List.getElem?_toArray, List.getElem?_cons_zero, List.getElem?_cons_succ]; rfl) (by simp only [List.getElem?_toArray, List.getElem?_cons_zero, List.getElem?_cons_succ]; rfl) rfl rfl ?_ ?_
      · with_reducible refine mix_call (by kernel_rfl) (by kernel_rfl) ((HCL.out _ HFDw3_.out).mono ?_) (by kernel_rfl)
        rintro e w4_ ⟨u, rfl, hu, hb⟩
        obtain ⟨ou, cu, rfl⟩ := owns_slice hu
        have HBw4_ : Hid (Below w3_.heap.size w3_ w4_) := hb
        have HU : Hid (w4_.ownsRow w1.heap.size 4 1 (.slice ou occ.length cu) occ.length (occ.flatMap bC)) := owns_mono hu HTw3_.out.size
        clear hu hb
        have HTw4_ : Hid (Below w1.heap.size w1 w4_) := HTw3_.out.trans (HBw4_.out.mono HTw3_.out.size)
        refine ⟨_, rfl, ⟨⟨_, HTw4_.out⟩, rfl⟩, ?_⟩
        simp only [Act.put, List.setIfInBounds_toArray, List.set_cons_zero, List.set_cons_succ]
        have HFDw4_ : Hid (FdAt w4_ B fb bo bp occ pts) := HFDw3_.out.below HBw4_.out
        replace HCN : Hid (w4_.heap[c]? = some (.cells #[.slice none 0 0, .slice none 0 0] 46 (0, 0))) := blk_below HBw4_.out HCN.out
        with_reducible refine mix_end ?_
        refine tree_seq [10] (by kernel_rfl) (by kernel_rfl) (show 3 = 2 + 1 from rfl) (by kernel_rfl) (by simp only [List.filterMap_cons, List.getElem?_toArray, List.getElem?_cons_zero, List.getElem?_cons_succ, List.filterMap_nil]; rfl) rfl ?_
        have HB0 : Hid (Below w4_.heap.size w4_ (w4_.alloc (.cells ci 3))) := (Below.refl _ _).alloc (Nat.le_refl _) _
        have HBN : Hid ((w4_.alloc (.cells ci 3)).heap[w4_.heap.size]? = some (.cells ci 3 (0, 0))) := blk_new _ _
        have hrun := run_does (MI.out w4_)
        have HBS : Hid (w1.heap.size ≤ w4_.heap.size) := HTw4_.out.size
        generalize w4_.heap.size = b at HBN HBS hrun ⊢
        generalize w4_.alloc (.cells ci 3) = w5_ at *
        have HBw5_ : Hid (Below w4_.heap.size w4_ w5_) := HB0.out
        have HTw5_ : Hid (Below w1.heap.size w1 w5_) := HTw4_.out.trans (HBw5_.out.mono HTw4_.out.size)
        refine mix_does (by kernel_rfl) (by kernel_rfl) hrun ⟨⟨_, HTw5_.out⟩, rfl⟩ ?_
        clear hrun HB0
        simp only [Act.put, List.setIfInBounds_toArray, List.set_cons_zero, List.set_cons_succ]
        have HFDw5_ : Hid (FdAt w5_ B fb bo bp occ pts) := HFDw4_.out.below HBw5_.out
        replace HCN : Hid (w5_.heap[c]? = some (.cells #[.slice none 0 0, .slice none 0 0] 46 (0, 0))) := blk_below HBw5_.out HCN.out
        replace HU : Hid (w5_.ownsRow w1.heap.size 4 1 (.slice ou occ.length cu) occ.length (occ.flatMap bC)) := owns_below HU.out HBw5_.out
        with_reducible refine mix_end ?_
        refine tree_seq [11] (by kernel_rfl) (by kernel_rfl) (show 2 = 1 + 1 from rfl) (by kernel_rfl) (by simp only [List.filterMap_cons, List.getElem?_toArray, List.getElem?_cons_zero, List.getElem?_cons_succ, List.filterMap_nil]; rfl) rfl ?_
        (repeat (first | (with_reducible refine mix_read (by kernel_rfl) ?_; go_big_quiet_want; go_big_quiet_op; go_big_quiet_on; with_reducible refine wpQuiet_nil ?_) | (with_reducible refine mix_pass (by kernel_rfl) ?_; go_big_quiet_skip; with_reducible refine wpQuiet_nil ?_)))
        with_reducible refine mix_end ?_
        refine tree_end [13] rfl (by kernel_rfl) (by simp only [List.filterMap_cons, List.getElem?_toArray, List.getElem?_cons_zero, List.getElem?_cons_succ, List.filterMap_nil]; rfl) ?_
        obtain ⟨z0, z1⟩ := cells2 HCN.out
        have f0 := froz2 HCN.out 0
        have f1 := froz2 HCN.out 1
        go_wp2_with fail
        go_meet
        case rel => exact ⟨c, _, b, rfl, meet_in HU.out HBN.out HCN.out HTw5_.out HBS.out HCS.out (by decide) (by decide)⟩
      · have HB0 : Hid (Below w3_.heap.size w3_ (w3_.alloc (.cells ci 3))) := (Below.refl _ _).alloc (Nat.le_refl _) _
        have HBN : Hid ((w3_.alloc (.cells ci 3)).heap[w3_.heap.size]? = some (.cells ci 3 (0, 0))) := blk_new _ _
        have hrun := run_does (MI.out w3_)
        have HBS : Hid (w1.heap.size ≤ w3_.heap.size) := HTw3_.out.size
        generalize w3_.heap.size = b at HBN HBS hrun ⊢
        generalize w3_.alloc (.cells ci 3) = w4_ at *
        have HBw4_ : Hid (Below w3_.heap.size w3_ w4_) := HB0.out
        have HTw4_ : Hid (Below w1.heap.size w1 w4_) := HTw3_.out.trans (HBw4_.out.mono HTw3_.out.size)
        refine mix_does (by kernel_rfl) (by kernel_rfl) hrun ⟨⟨_, HTw4_.out⟩, rfl⟩ ?_
        clear hrun HB0
        simp only [Act.put, List.setIfInBounds_toArray, List.set_cons_zero, List.set_cons_succ]
        have HFDw4_ : Hid (FdAt w4_ B fb bo bp occ pts) := HFDw3_.out.below HBw4_.out
        replace HCN : Hid (w4_.heap[c]? = some (.cells #[.slice none 0 0, .slice none 0 0] 46 (0, 0))) := blk_below HBw4_.out HCN.out
        with_reducible refine mix_end ?_
        refine tree_seq [4] (by kernel_rfl) (by kernel_rfl) (show 3 = 2 + 1 from rfl) (by kernel_rfl) (by simp only [List.filterMap_cons, List.getElem?_toArray, List.getElem?_cons_zero, List.getElem?_cons_succ, List.filterMap_nil]; rfl) rfl ?_
        with_reducible refine mix_call (by kernel_rfl) (by kernel_rfl) ((HCL.out _ HFDw4_.out).mono ?_) (by kernel_rfl)
        rintro e w5_ ⟨u, rfl, hu, hb⟩
        obtain ⟨ou, cu, rfl⟩ := owns_slice hu
        have HBw5_ : Hid (Below w4_.heap.size w4_ w5_) := hb
        have HU : Hid (w5_.ownsRow w1.heap.size 4 1 (.slice ou occ.length cu) occ.length (occ.flatMap bC)) := owns_mono hu HTw4_.out.size
        clear hu hb
        have HTw5_ : Hid (Below w1.heap.size w1 w5_) := HTw4_.out.trans (HBw5_.out.mono HTw4_.out.size)
        refine ⟨_, rfl, ⟨⟨_, HTw5_.out⟩, rfl⟩, ?_⟩
        simp only [Act.put, List.setIfInBounds_toArray, List.set_cons_zero, List.set_cons_succ]
        have HFDw5_ : Hid (FdAt w5_ B fb bo bp occ pts) := HFDw4_.out.below HBw5_.out
        replace HCN : Hid (w5_.heap[c]? = some (.cells #[.slice none 0 0, .slice none 0 0] 46 (0, 0))) := blk_below HBw5_.out HCN.out
        replace HBN : Hid (w5_.heap[b]? = some (.cells ci 3 (0, 0))) := blk_below HBw5_.out HBN.out
        with_reducible refine mix_end ?_
        refine tree_seq [11] (by kernel_rfl) (by kernel_rfl) (show 2 = 1 + 1 from rfl) (by kernel_rfl) (by simp only [List.filterMap_cons, List.getElem?_toArray, List.getElem?_cons_zero, List.getElem?_cons_succ, List.filterMap_nil]; rfl) rfl ?_
        (repeat (first | (with_reducible refine mix_read (by kernel_rfl) ?_; go_big_quiet_want; go_big_quiet_op; go_big_quiet_on; with_reducible refine wpQuiet_nil ?_) | (with_reducible refine mix_pass (by kernel_rfl) ?_; go_big_quiet_skip; with_reducible refine wpQuiet_nil ?_)))
        with_reducible refine mix_end ?_
        refine tree_end [13] rfl (by kernel_rfl) (by simp only [List.filterMap_cons, List.getElem?_toArray, List.getElem?_cons_zero, List.getElem?_cons_succ, List.filterMap_nil]; rfl) ?_
        obtain ⟨z0, z1⟩ := cells2 HCN.out
        have f0 := froz2 HCN.out 0
        have f1 := froz2 HCN.out 1
        go_wp2_with fail
        go_meet
        case rel => exact ⟨c, _, b, rfl, meet_in HU.out HBN.out HCN.out HTw5_.out HBS.out HCS.out (by decide) (by decide)⟩
  case rest =>
    obtain ⟨c, u, b, rfl, hm⟩ := hcut
    obtain ⟨ou, cu, rfl⟩ := owns_slice hm.1
    have HM : Hid (inMeet occ ci pts.length w1 c (.slice ou occ.length cu) b wc) := hm
    have HFC : Hid (FdAt wc B fb bo bp occ pts) := HF1.out.below hm.2.2.2.1
    have HNE : Hid (b ≠ c ∧ w.heap.size < w1.heap.size) := ⟨fun e => by
      have h1 := hm.2.1
      rw [e, hm.2.2.1] at h1
      injection h1 with h1
      injection h1 with e1 e2 e3
      revert e2
      decide, (Array.getElem?_eq_some_iff.1 H0.out).1⟩
    clear hm x0 x1 HCL MI
    obtain ⟨x0, x1⟩ := HFC.out.cells
    have HNN : Hid (∃ n, n = pts.length) := ⟨_, rfl⟩
    go_wp2
    go_loopg [4, 5, 26] pts.length (fun gk a1 a2 a3 wr => ∃ (k : Nat) (cur : List Int), gk = pts.length - k ∧ a3 = .int .i64 k ∧ k ≤ pts.length ∧ cur.length = pts.length ∧ (∀ j, j < k → cur[j]? = (liesF pts)[j]?) ∧ inMeet occ (cur.map (Value.int .i64)).toArray pts.length w1 c (.slice ou occ.length cu) b wr)
    case atStart => exact ⟨0, List.replicate pts.length 0, rfl, rfl, by omega, by simp, by omega, by rw [HCI.out]; exact HM.out⟩
    case round =>
      obtain ⟨k, cur, rfl, rfl, hk, hcl, hc, hm⟩ := hrel
      have HCL : Hid (cur.length = pts.length) := hcl
      have HC : Hid (∀ j, j < k → cur[j]? = (liesF pts)[j]?) := hc
      have HMR : Hid (inMeet occ (cur.map (Value.int .i64)).toArray pts.length w1 c (.slice ou occ.length cu) b wr) := hm
      clear hcl hc hm x0 x1
      have HFR : Hid (FdAt wr B fb bo bp occ pts) := HF1.out.below HMR.out.2.2.2.1
      by_cases hlt : k < pts.length
      · obtain ⟨⟨p1, p2, p3⟩, hp⟩ : ∃ p, pts[k]? = some p := at_of hlt
        have HP : Hid (pts[k]? = some (p1, p2, p3)) := hp
        have hki : (k : Int) < (pts.length : Int) := by omega
        obtain ⟨⟨c0, c1, c2⟩, -⟩ := HFR.out.ptAt hp
        simp only at c0 c1 c2
        clear hp
        have HBA : Hid (Below wr.heap.size wr (wr.alloc (.cells #[.int .i64 p1, .int .i64 p2, .int .i64 p3] 63))) := (Below.refl _ _).alloc (Nat.le_refl _) _
        have HPB : Hid ((wr.alloc (.cells #[.int .i64 p1, .int .i64 p2, .int .i64 p3] 63)).heap[wr.heap.size]? = some (.cells #[.int .i64 p1, .int .i64 p2, .int .i64 p3] 63 (0, 0))) := blk_new _ _
        have hm := HMR.out
        obtain ⟨z0, z1⟩ := cells2 (blk_below HBA.out hm.2.2.1)
        have HBB : Hid ((wr.alloc (.cells #[.int .i64 p1, .int .i64 p2, .int .i64 p3] 63)).heap[b]? = some (.cells (cur.map (Value.int .i64)).toArray 3 (0, 0))) := blk_below HBA.out hm.2.1
        obtain ⟨ov, hov⟩ : ∃ v, cur[k]? = some v := at_of (by rw [HCL.out]; exact hlt)
        have y0 : (wr.alloc (.cells #[.int .i64 p1, .int .i64 p2, .int .i64 p3] 63)).cell? ⟨b, k, none⟩ = some (.int .i64 ov) := by
          have h1 := HBB.out
          simp only [World.cell?, h1]
          simp [hov]
        have y1 := froz2 HBB.out k
        have HMA : Hid (inMeet occ (cur.map (Value.int .i64)).toArray pts.length w1 c (.slice ou occ.length cu) b (wr.alloc (.cells #[.int .i64 p1, .int .i64 p2, .int .i64 p3] 63))) := ⟨owns_below hm.1 HBA.out, blk_below HBA.out hm.2.1, blk_below HBA.out hm.2.2.1, hm.2.2.2.1.trans (HBA.out.mono hm.2.2.2.1.size), hm.2.2.2.2⟩
        clear hm hov
        have HST : Hid (inMeet occ ((cur.set k p1).map (Value.int .i64)).toArray pts.length w1 c (.slice ou occ.length cu) b ((wr.alloc (.cells #[.int .i64 p1, .int .i64 p2, .int .i64 p3] 63)).setCell ⟨b, k, none⟩ (.int .i64 p1))) := in_set HMA.out k p1 HNE.out.1 (by decide)
        have HKC : Hid (k < cur.length) := (by show k < cur.length; rw [HCL.out]; exact hlt)
        generalize hwa : wr.alloc (.cells #[.int .i64 p1, .int .i64 p2, .int .i64 p3] 63) = wa at *
        obtain ⟨q0, q1, q2⟩ := cells3 HPB.out
        go_wp2
        clear hwa
        go_roundg (pts.length - (k + 1))
        case rel => exact ⟨k + 1, cur.set k p1, rfl, by go_num, by omega, by rw [List.length_set]; exact HCL.out, fun j hj => (by
          by_cases hjk : j = k
          · subst hjk
            rw [List.getElem?_set_self HKC.out, liesF, List.getElem?_map, HP.out]
            rfl
          · rw [List.getElem?_set_ne (Ne.symm hjk)]
            exact HC.out j (by omega)), HST.out⟩
        case measure => omega
      · have hcs : cur = liesF pts := by
          apply List.ext_getElem?
          intro j
          by_cases hj : j < k
          · exact HC.out j hj
          · rw [List.getElem?_eq_none (by rw [HCL.out]; omega), List.getElem?_eq_none (by rw [liesF, List.length_map]; omega)]
        subst hcs
        have hm := HMR.out
        obtain ⟨z0, z1⟩ := cells2 hm.2.2.1
        have HR0 : Hid (wr.heap[w.heap.size]? = some (.cells #[.slice none 0 0, .slice none 0 0] 46 (0, 0))) := blk_below hm.2.2.2.1 H0.out
        obtain ⟨r0, r1⟩ := cells2 HR0.out
        have f0 := froz2 HR0.out 0
        have f1 := froz2 HR0.out 1
        clear hm
        go_wp2
        have hm := HMR.out
        have hne := HNE.out
        have oth : ∀ j, w1.heap.size ≤ j → ((wr.setCell ⟨w.heap.size, 0, none⟩ (.slice ou occ.length cu)).setCell ⟨w.heap.size, 1, none⟩ (.slice (some ⟨b, 0, none⟩) pts.length pts.length)).heap[j]? = wr.heap[j]? := fun j hj => by
          rw [Below.heap_setCell _ _ _ _ (by show j ≠ w.heap.size; omega), Below.heap_setCell _ _ _ _ (by show j ≠ w.heap.size; omega)]
        refine bodyPost_ret (v := .agg #[.slice ou occ.length cu, .slice (some ⟨b, 0, none⟩) pts.length pts.length]) (by simp [results, Tryd.results16, go_sem, r0, r1]) rfl ⟨_, b, rfl, ?_, by have := hm.2.2.2.2.1; omega, (oth b hm.2.2.2.2.1).trans hm.2.1, ?_⟩
        · exact owns_mono (owns_keep hm.1 fun i hi => oth i (hm.1.lt i hi).1) (by omega)
        · exact ((HB1.out.trans (hm.2.2.2.1.mono HB1.out.size)).setCell (Nat.le_refl _) _).setCell (Nat.le_refl _) _
end Go.Proofs.YthmbpohebcnehaaDoor
