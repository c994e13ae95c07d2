/-
  Of any bytes and two more: SumLinear returns true.
-/
import Derived.Test.YtjjlhofofeageaaRows
import Derived.Test.YtjjlhofofeageaaSmLin
import Derived.Test.YtjjlhofofeageaaSmOpen
import Derived.WalkKit
import Derived.ProofKit
import Derived.OpenShut
import Derived.ShutString
import Derived.ChangeOld
import Derived.Below
import Derived.SizedLaws
namespace Go.Proofs.Ytjjlhofofeageaa.sumLinear
open Go.ChangeShapes Go.WideShapes Go.ChangeAt Go.RowKit

set_option maxRecDepth 1000000 in
set_option maxHeartbeats 8000000 in
theorem core (w : World) (oa : Option Addr) (cap : Nat) (p : List (BitVec 8)) (a b : BitVec 8) (hp : hasBytes w oa p) (hl : p.length ≤ 300) : Calls Try.prog 6 #[.slice oa p.length cap, .int .u8 (u8 a), .int .u8 (u8 b)] w fun e w' => e = .returned (.bool true) ∧ Below w.heap.size w w' := by
  have HP : Hid (hasBytes w oa p) := hp
  clear hp
  generalize hn : p.length = n at *
  have HN : Hid (p.length = n ∧ n ≤ 300) := ⟨hn, hl⟩
  clear hn
  have h3 : ¬ (300 : Int) < (n : Int) := by omega
  have MB : Hid (∀ w : World, (Instr.makeSlice 22 (.int .i64 (n : Int)) (.int .i64 (n : Int))).run Try.prog w = .ok (.slice (some ⟨w.heap.size, 0, none⟩) n n) (w.alloc (.cells ((List.replicate n (0#8)).map u8C).toArray 5))) := fun w => mk_u8 n (by omega) w
  generalize hcz : ((List.replicate n (0#8)).map u8C).toArray = cz at MB
  have HCZ : Hid (((List.replicate n (0#8)).map u8C).toArray = cz) := hcz
  clear hcz hl
  go_enter Try.func6, Try.ntmps6
  go_upto_region 3 with fail
  go_cut [7, 8, 9] from 14 to 23 (fun x y z wc => ∃ gx gy gz, x = .slice (some ⟨gx, 0, none⟩) n n ∧ y = .slice (some ⟨gy, 0, none⟩) n n ∧ z = .slice (some ⟨gz, 0, none⟩) n n ∧ Three w.heap.size wc gx gy gz ∧ RowTo wc gx n 0 (xsL p a) ∧ RowTo wc gy n 0 (ysL p b) ∧ RowTo wc gz n 0 (zsL p a b) ∧ Below w.heap.size w wc)
  case first =>
    haveI := sext_some w
    have HT : Hid (Below w.heap.size w w.drew) := (Below.refl _ _).drew
    refine wp_region_tree (C := fun W => ∃ y : SExt w, W = y.z) [0, 1, 2, 3, 4, 5, 6, 7, 8, 9, 10, 11] (by kernel_rfl) (by kernel_rfl) rfl rfl ⟨⟨_, (Below.refl _ _).drew⟩, rfl⟩ ?_
    have HW : Hid (w.drew.heap.size = w.heap.size) := rfl
    generalize w.drew = w3 at *
    refine tree_seq [0, 1, 3, 4, 6, 7] (by kernel_rfl) (by kernel_rfl) (show 12 = 6 + 6 from rfl) (by kernel_rfl) (by simp only [List.filterMap_cons, List.getElem?_toArray, List.getElem?_cons_zero, List.getElem?_cons_succ, List.filterMap_nil]; rfl) rfl ?_
    (repeat (first | (with_reducible refine mix_read (by kernel_rfl) ?_; go_big_quiet_want; go_big_quiet_op; go_big_quiet_on; with_reducible refine wpQuiet_nil ?_) | (with_reducible refine mix_pass (by kernel_rfl) ?_; go_big_quiet_skip; with_reducible refine wpQuiet_nil ?_)))
    with_reducible refine mix_end ?_
    have TA := three_new w w3 HT.out (.cells cz 5)
    obtain ⟨C, hC⟩ : ∃ C, C = Obj.cells cz 5 := ⟨_, rfl⟩
    rw [← hC] at MB TA
    have HCW : Hid (C = .cells ((List.replicate n (0#8)).map u8C).toArray 5) := by show _ = _; rw [HCZ.out]; exact hC
    have TB : Hid (Below w.heap.size w (w3.alloc C) ∧ Below w.heap.size w ((w3.alloc C).alloc C) ∧ Below w.heap.size w (((w3.alloc C).alloc C).alloc C) ∧ True) := ⟨TA.1, TA.2.1, TA.2.2.1, trivial⟩
    have TF : Hid (w.heap.size ≤ w3.heap.size ∧ w3.heap.size < (w3.alloc C).heap.size ∧ ((w3.alloc C).heap.size < ((w3.alloc C).alloc C).heap.size ∧ ((w3.alloc C).alloc C).heap.size < (((w3.alloc C).alloc C).alloc C).heap.size) ∧ (((w3.alloc C).alloc C).alloc C).heap[w3.heap.size]? = some C ∧ (((w3.alloc C).alloc C).alloc C).heap[(w3.alloc C).heap.size]? = some C ∧ (((w3.alloc C).alloc C).alloc C).heap[((w3.alloc C).alloc C).heap.size]? = some C) := TA.2.2.2
    clear TA hC
    refine tree_three 2 5 8 (show 6 = 5 + 1 from rfl) (by kernel_rfl) (by kernel_rfl) (by simp only [List.getElem?_toArray, List.getElem?_cons_zero, List.getElem?_cons_succ]; rfl) (by simp only [List.getElem?_toArray, List.getElem?_cons_zero, List.getElem?_cons_succ]; rfl) (by simp only [List.getElem?_toArray, List.getElem?_cons_zero, List.getElem?_cons_succ]; rfl) rfl rfl rfl ?_ ?_ ?_
    · skip
      refine mix_does (by kernel_rfl) (by kernel_rfl) (srun_does (MB.out w3)) ⟨⟨_, TB.out.1⟩, rfl⟩ ?_
      simp only [Act.put, List.setIfInBounds_toArray, List.set_cons_zero, List.set_cons_succ]
      with_reducible refine mix_end ?_
      refine tree_seq [9] (by kernel_rfl) (by kernel_rfl) (show 5 = 4 + 1 from rfl) (by kernel_rfl) (by simp only [List.filterMap_cons, List.getElem?_toArray, List.getElem?_cons_zero, List.getElem?_cons_succ, List.filterMap_nil]; rfl) rfl ?_
      (repeat (first | (with_reducible refine mix_read (by kernel_rfl) ?_; go_big_quiet_want; go_big_quiet_op; go_big_quiet_on; with_reducible refine wpQuiet_nil ?_) | (with_reducible refine mix_pass (by kernel_rfl) ?_; go_big_quiet_skip; with_reducible refine wpQuiet_nil ?_)))
      with_reducible refine mix_end ?_
      refine tree_two 5 8 (show 4 = 3 + 1 from rfl) (by kernel_rfl) (by kernel_rfl) (by simp only [List.getElem?_toArray, List.getElem?_cons_zero, List.getElem?_cons_succ]; rfl) (by simp only [List.getElem?_toArray, List.getElem?_cons_zero, List.getElem?_cons_succ]; rfl) rfl rfl ?_ ?_
      · skip
        refine mix_does (by kernel_rfl) (by kernel_rfl) (srun_does (MB.out (w3.alloc C))) ⟨⟨_, TB.out.2.1⟩, rfl⟩ ?_
        simp only [Act.put, List.setIfInBounds_toArray, List.set_cons_zero, List.set_cons_succ]
        with_reducible refine mix_end ?_
        refine tree_seq [10] (by kernel_rfl) (by kernel_rfl) (show 3 = 2 + 1 from rfl) (by kernel_rfl) (by simp only [List.filterMap_cons, List.getElem?_toArray, List.getElem?_cons_zero, List.getElem?_cons_succ, List.filterMap_nil]; rfl) rfl ?_
        (repeat (first | (with_reducible refine mix_read (by kernel_rfl) ?_; go_big_quiet_want; go_big_quiet_op; go_big_quiet_on; with_reducible refine wpQuiet_nil ?_) | (with_reducible refine mix_pass (by kernel_rfl) ?_; go_big_quiet_skip; with_reducible refine wpQuiet_nil ?_)))
        with_reducible refine mix_end ?_
        refine tree_seq [8] (by kernel_rfl) (by kernel_rfl) (show 2 = 1 + 1 from rfl) (by kernel_rfl) (by simp only [List.filterMap_cons, List.getElem?_toArray, List.getElem?_cons_zero, List.getElem?_cons_succ, List.filterMap_nil]; rfl) rfl ?_
        refine mix_does (by kernel_rfl) (by kernel_rfl) (srun_does (MB.out ((w3.alloc C).alloc C))) ⟨⟨_, TB.out.2.2.1⟩, rfl⟩ ?_
        simp only [Act.put, List.setIfInBounds_toArray, List.set_cons_zero, List.set_cons_succ]
        with_reducible refine mix_end ?_
        refine tree_seq [11] (by kernel_rfl) (by kernel_rfl) (show 1 = 0 + 1 from rfl) (by kernel_rfl) (by simp only [List.filterMap_cons, List.getElem?_toArray, List.getElem?_cons_zero, List.getElem?_cons_succ, List.filterMap_nil]; rfl) rfl ?_
        (repeat (first | (with_reducible refine mix_read (by kernel_rfl) ?_; go_big_quiet_want; go_big_quiet_op; go_big_quiet_on; with_reducible refine wpQuiet_nil ?_) | (with_reducible refine mix_pass (by kernel_rfl) ?_; go_big_quiet_skip; with_reducible refine wpQuiet_nil ?_)))
        with_reducible refine mix_end ?_
        refine tree_done rfl (by kernel_rfl) ?_
        go_wp2_with fail
        go_meet
        have T := TF.out
        exact ⟨w3.heap.size, (w3.alloc C).heap.size, ((w3.alloc C).alloc C).heap.size, rfl, by simp only [World.size_alloc], by simp only [World.size_alloc], by unfold Three; omega, row_zero HCW.out T.2.2.2.1, row_zero HCW.out T.2.2.2.2.1, row_zero HCW.out T.2.2.2.2.2, TB.out.2.2.1⟩
      · skip
        refine mix_does (by kernel_rfl) (by kernel_rfl) (srun_does (MB.out (w3.alloc C))) ⟨⟨_, TB.out.2.1⟩, rfl⟩ ?_
        simp only [Act.put, List.setIfInBounds_toArray, List.set_cons_zero, List.set_cons_succ]
        with_reducible refine mix_end ?_
        refine tree_seq [5] (by kernel_rfl) (by kernel_rfl) (show 3 = 2 + 1 from rfl) (by kernel_rfl) (by simp only [List.filterMap_cons, List.getElem?_toArray, List.getElem?_cons_zero, List.getElem?_cons_succ, List.filterMap_nil]; rfl) rfl ?_
        refine mix_does (by kernel_rfl) (by kernel_rfl) (srun_does (MB.out ((w3.alloc C).alloc C))) ⟨⟨_, TB.out.2.2.1⟩, rfl⟩ ?_
        simp only [Act.put, List.setIfInBounds_toArray, List.set_cons_zero, List.set_cons_succ]
        with_reducible refine mix_end ?_
        refine tree_seq [10, 11] (by kernel_rfl) (by kernel_rfl) (show 2 = 0 + 2 from rfl) (by kernel_rfl) (by simp only [List.filterMap_cons, List.getElem?_toArray, List.getElem?_cons_zero, List.getElem?_cons_succ, List.filterMap_nil]; rfl) rfl ?_
        (repeat (first | (with_reducible refine mix_read (by kernel_rfl) ?_; go_big_quiet_want; go_big_quiet_op; go_big_quiet_on; with_reducible refine wpQuiet_nil ?_) | (with_reducible refine mix_pass (by kernel_rfl) ?_; go_big_quiet_skip; with_reducible refine wpQuiet_nil ?_)))
        with_reducible refine mix_end ?_
        refine tree_done rfl (by kernel_rfl) ?_
        go_wp2_with fail
        go_meet
        have T := TF.out
        exact ⟨w3.heap.size, ((w3.alloc C).alloc C).heap.size, (w3.alloc C).heap.size, rfl, by simp only [World.size_alloc], by simp only [World.size_alloc], by unfold Three; omega, row_zero HCW.out T.2.2.2.1, row_zero HCW.out T.2.2.2.2.2, row_zero HCW.out T.2.2.2.2.1, TB.out.2.2.1⟩
    · skip
      refine mix_does (by kernel_rfl) (by kernel_rfl) (srun_does (MB.out w3)) ⟨⟨_, TB.out.1⟩, rfl⟩ ?_
      simp only [Act.put, List.setIfInBounds_toArray, List.set_cons_zero, List.set_cons_succ]
      with_reducible refine mix_end ?_
      refine tree_two 2 8 (show 5 = 4 + 1 from rfl) (by kernel_rfl) (by kernel_rfl) (by simp only [List.getElem?_toArray, List.getElem?_cons_zero, List.getElem?_cons_succ]; rfl) (by simp only [List.getElem?_toArray, List.getElem?_cons_zero, List.getElem?_cons_succ]; rfl) rfl rfl ?_ ?_
      · skip
        refine mix_does (by kernel_rfl) (by kernel_rfl) (srun_does (MB.out (w3.alloc C))) ⟨⟨_, TB.out.2.1⟩, rfl⟩ ?_
        simp only [Act.put, List.setIfInBounds_toArray, List.set_cons_zero, List.set_cons_succ]
        with_reducible refine mix_end ?_
        refine tree_seq [9, 10] (by kernel_rfl) (by kernel_rfl) (show 4 = 2 + 2 from rfl) (by kernel_rfl) (by simp only [List.filterMap_cons, List.getElem?_toArray, List.getElem?_cons_zero, List.getElem?_cons_succ, List.filterMap_nil]; rfl) rfl ?_
        (repeat (first | (with_reducible refine mix_read (by kernel_rfl) ?_; go_big_quiet_want; go_big_quiet_op; go_big_quiet_on; with_reducible refine wpQuiet_nil ?_) | (with_reducible refine mix_pass (by kernel_rfl) ?_; go_big_quiet_skip; with_reducible refine wpQuiet_nil ?_)))
        with_reducible refine mix_end ?_
        refine tree_seq [8] (by kernel_rfl) (by kernel_rfl) (show 2 = 1 + 1 from rfl) (by kernel_rfl) (by simp only [List.filterMap_cons, List.getElem?_toArray, List.getElem?_cons_zero, List.getElem?_cons_succ, List.filterMap_nil]; rfl) rfl ?_
        refine mix_does (by kernel_rfl) (by kernel_rfl) (srun_does (MB.out ((w3.alloc C).alloc C))) ⟨⟨_, TB.out.2.2.1⟩, rfl⟩ ?_
        simp only [Act.put, List.setIfInBounds_toArray, List.set_cons_zero, List.set_cons_succ]
        with_reducible refine mix_end ?_
        refine tree_seq [11] (by kernel_rfl) (by kernel_rfl) (show 1 = 0 + 1 from rfl) (by kernel_rfl) (by simp only [List.filterMap_cons, List.getElem?_toArray, List.getElem?_cons_zero, List.getElem?_cons_succ, List.filterMap_nil]; rfl) rfl ?_
        (repeat (first | (with_reducible refine mix_read (by kernel_rfl) ?_; go_big_quiet_want; go_big_quiet_op; go_big_quiet_on; with_reducible refine wpQuiet_nil ?_) | (with_reducible refine mix_pass (by kernel_rfl) ?_; go_big_quiet_skip; with_reducible refine wpQuiet_nil ?_)))
        with_reducible refine mix_end ?_
        refine tree_done rfl (by kernel_rfl) ?_
        go_wp2_with fail
        go_meet
        have T := TF.out
        exact ⟨(w3.alloc C).heap.size, w3.heap.size, ((w3.alloc C).alloc C).heap.size, by simp only [World.size_alloc], rfl, by simp only [World.size_alloc], by unfold Three; omega, row_zero HCW.out T.2.2.2.2.1, row_zero HCW.out T.2.2.2.1, row_zero HCW.out T.2.2.2.2.2, TB.out.2.2.1⟩
      · skip
        refine mix_does (by kernel_rfl) (by kernel_rfl) (srun_does (MB.out (w3.alloc C))) ⟨⟨_, TB.out.2.1⟩, rfl⟩ ?_
        simp only [Act.put, List.setIfInBounds_toArray, List.set_cons_zero, List.set_cons_succ]
        with_reducible refine mix_end ?_
        refine tree_seq [2] (by kernel_rfl) (by kernel_rfl) (show 4 = 3 + 1 from rfl) (by kernel_rfl) (by simp only [List.filterMap_cons, List.getElem?_toArray, List.getElem?_cons_zero, List.getElem?_cons_succ, List.filterMap_nil]; rfl) rfl ?_
        refine mix_does (by kernel_rfl) (by kernel_rfl) (srun_does (MB.out ((w3.alloc C).alloc C))) ⟨⟨_, TB.out.2.2.1⟩, rfl⟩ ?_
        simp only [Act.put, List.setIfInBounds_toArray, List.set_cons_zero, List.set_cons_succ]
        with_reducible refine mix_end ?_
        refine tree_seq [9, 10, 11] (by kernel_rfl) (by kernel_rfl) (show 3 = 0 + 3 from rfl) (by kernel_rfl) (by simp only [List.filterMap_cons, List.getElem?_toArray, List.getElem?_cons_zero, List.getElem?_cons_succ, List.filterMap_nil]; rfl) rfl ?_
        (repeat (first | (with_reducible refine mix_read (by kernel_rfl) ?_; go_big_quiet_want; go_big_quiet_op; go_big_quiet_on; with_reducible refine wpQuiet_nil ?_) | (with_reducible refine mix_pass (by kernel_rfl) ?_; go_big_quiet_skip; with_reducible refine wpQuiet_nil ?_)))
        with_reducible refine mix_end ?_
        refine tree_done rfl (by kernel_rfl) ?_
        go_wp2_with fail
        go_meet
        have T := TF.out
        exact ⟨((w3.alloc C).alloc C).heap.size, w3.heap.size, (w3.alloc C).heap.size, by simp only [World.size_alloc], rfl, by simp only [World.size_alloc], by unfold Three; omega, row_zero HCW.out T.2.2.2.2.2, row_zero HCW.out T.2.2.2.1, row_zero HCW.out T.2.2.2.2.1, TB.out.2.2.1⟩
    · skip
      refine mix_does (by kernel_rfl) (by kernel_rfl) (srun_does (MB.out w3)) ⟨⟨_, TB.out.1⟩, rfl⟩ ?_
      simp only [Act.put, List.setIfInBounds_toArray, List.set_cons_zero, List.set_cons_succ]
      with_reducible refine mix_end ?_
      refine tree_two 2 5 (show 5 = 4 + 1 from rfl) (by kernel_rfl) (by kernel_rfl) (by simp only [List.getElem?_toArray, List.getElem?_cons_zero, List.getElem?_cons_succ]; rfl) (by simp only [List.getElem?_toArray, List.getElem?_cons_zero, List.getElem?_cons_succ]; rfl) rfl rfl ?_ ?_
      · skip
        refine mix_does (by kernel_rfl) (by kernel_rfl) (srun_does (MB.out (w3.alloc C))) ⟨⟨_, TB.out.2.1⟩, rfl⟩ ?_
        simp only [Act.put, List.setIfInBounds_toArray, List.set_cons_zero, List.set_cons_succ]
        with_reducible refine mix_end ?_
        refine tree_seq [9] (by kernel_rfl) (by kernel_rfl) (show 4 = 3 + 1 from rfl) (by kernel_rfl) (by simp only [List.filterMap_cons, List.getElem?_toArray, List.getElem?_cons_zero, List.getElem?_cons_succ, List.filterMap_nil]; rfl) rfl ?_
        (repeat (first | (with_reducible refine mix_read (by kernel_rfl) ?_; go_big_quiet_want; go_big_quiet_op; go_big_quiet_on; with_reducible refine wpQuiet_nil ?_) | (with_reducible refine mix_pass (by kernel_rfl) ?_; go_big_quiet_skip; with_reducible refine wpQuiet_nil ?_)))
        with_reducible refine mix_end ?_
        refine tree_seq [5] (by kernel_rfl) (by kernel_rfl) (show 3 = 2 + 1 from rfl) (by kernel_rfl) (by simp only [List.filterMap_cons, List.getElem?_toArray, List.getElem?_cons_zero, List.getElem?_cons_succ, List.filterMap_nil]; rfl) rfl ?_
        refine mix_does (by kernel_rfl) (by kernel_rfl) (srun_does (MB.out ((w3.alloc C).alloc C))) ⟨⟨_, TB.out.2.2.1⟩, rfl⟩ ?_
        simp only [Act.put, List.setIfInBounds_toArray, List.set_cons_zero, List.set_cons_succ]
        with_reducible refine mix_end ?_
        refine tree_seq [10, 11] (by kernel_rfl) (by kernel_rfl) (show 2 = 0 + 2 from rfl) (by kernel_rfl) (by simp only [List.filterMap_cons, List.getElem?_toArray, List.getElem?_cons_zero, List.getElem?_cons_succ, List.filterMap_nil]; rfl) rfl ?_
        (repeat (first | (with_reducible refine mix_read (by kernel_rfl) ?_; go_big_quiet_want; go_big_quiet_op; go_big_quiet_on; with_reducible refine wpQuiet_nil ?_) | (with_reducible refine mix_pass (by kernel_rfl) ?_; go_big_quiet_skip; with_reducible refine wpQuiet_nil ?_)))
        with_reducible refine mix_end ?_
        refine tree_done rfl (by kernel_rfl) ?_
        go_wp2_with fail
        go_meet
        have T := TF.out
        exact ⟨(w3.alloc C).heap.size, ((w3.alloc C).alloc C).heap.size, w3.heap.size, by simp only [World.size_alloc], by simp only [World.size_alloc], rfl, by unfold Three; omega, row_zero HCW.out T.2.2.2.2.1, row_zero HCW.out T.2.2.2.2.2, row_zero HCW.out T.2.2.2.1, TB.out.2.2.1⟩
      · skip
        refine mix_does (by kernel_rfl) (by kernel_rfl) (srun_does (MB.out (w3.alloc C))) ⟨⟨_, TB.out.2.1⟩, rfl⟩ ?_
        simp only [Act.put, List.setIfInBounds_toArray, List.set_cons_zero, List.set_cons_succ]
        with_reducible refine mix_end ?_
        refine tree_seq [2] (by kernel_rfl) (by kernel_rfl) (show 4 = 3 + 1 from rfl) (by kernel_rfl) (by simp only [List.filterMap_cons, List.getElem?_toArray, List.getElem?_cons_zero, List.getElem?_cons_succ, List.filterMap_nil]; rfl) rfl ?_
        refine mix_does (by kernel_rfl) (by kernel_rfl) (srun_does (MB.out ((w3.alloc C).alloc C))) ⟨⟨_, TB.out.2.2.1⟩, rfl⟩ ?_
        simp only [Act.put, List.setIfInBounds_toArray, List.set_cons_zero, List.set_cons_succ]
        with_reducible refine mix_end ?_
        refine tree_seq [9, 10, 11] (by kernel_rfl) (by kernel_rfl) (show 3 = 0 + 3 from rfl) (by kernel_rfl) (by simp only [List.filterMap_cons, List.getElem?_toArray, List.getElem?_cons_zero, List.getElem?_cons_succ, List.filterMap_nil]; rfl) rfl ?_
        (repeat (first | (with_reducible refine mix_read (by kernel_rfl) ?_; go_big_quiet_want; go_big_quiet_op; go_big_quiet_on; with_reducible refine wpQuiet_nil ?_) | (with_reducible refine mix_pass (by kernel_rfl) ?_; go_big_quiet_skip; with_reducible refine wpQuiet_nil ?_)))
        with_reducible refine mix_end ?_
        refine tree_done rfl (by kernel_rfl) ?_
        go_wp2_with fail
        go_meet
        have T := TF.out
        exact ⟨((w3.alloc C).alloc C).heap.size, (w3.alloc C).heap.size, w3.heap.size, by simp only [World.size_alloc], by simp only [World.size_alloc], rfl, by unfold Three; omega, row_zero HCW.out T.2.2.2.2.2, row_zero HCW.out T.2.2.2.2.1, row_zero HCW.out T.2.2.2.1, TB.out.2.2.1⟩
  case rest =>
    obtain ⟨gx, gy, gz, rfl, rfl, rfl, h3, hx, hy, hz, hb⟩ := hcut
    have HS : Hid (Three w.heap.size wc gx gy gz ∧ RowTo wc gx n 0 (xsL p a) ∧ RowTo wc gy n 0 (ysL p b) ∧ RowTo wc gz n 0 (zsL p a b) ∧ Below w.heap.size w wc) := ⟨h3, hx, hy, hz, hb⟩
    clear h3 hx hy hz hb MB HCZ
    go_wp2
    go_loopg [10] n (fun gk i wr => ∃ k : Nat, gk = n - k ∧ i = .int .i64 k ∧ k ≤ n ∧ Three w.heap.size wr gx gy gz ∧ RowTo wr gx n k (xsL p a) ∧ RowTo wr gy n k (ysL p b) ∧ RowTo wr gz n k (zsL p a b) ∧ Below w.heap.size w wr)
    case atStart => exact ⟨0, rfl, rfl, by omega, HS.out⟩
    case round =>
      clear HS
      obtain ⟨k, rfl, rfl, hk, h3, hx, hy, hz, hb⟩ := hrel
      have HB : Hid (Below w.heap.size w wr) := hb
      have H3 : Hid (Three w.heap.size wr gx gy gz) := h3
      have HX : Hid (RowTo wr gx n k (xsL p a)) := hx
      have HY : Hid (RowTo wr gy n k (ysL p b)) := hy
      have HZ : Hid (RowTo wr gz n k (zsL p a b)) := hz
      clear hb h3 hx hy hz
      by_cases hlt : k < n
      · obtain ⟨q, hq⟩ : ∃ q, p[k]? = some q := ⟨p[k]'(by rw [HN.out.1]; exact hlt), List.getElem?_eq_getElem _⟩
        obtain ⟨pb, off, rfl, hc⟩ := HP.out k q hq
        have hpb : Hid (pb < w.heap.size) := World.block_lt_of_cell? _ _ hc
        have HC : Hid (wr.cell? ⟨pb, off + k, none⟩ = some (.int .u8 (u8 q))) := (HB.out.cell (World.block_lt_of_cell? _ _ hc)).trans hc
        have HQ : Hid ((xsL p a)[k]? = some (q ^^^ a) ∧ (ysL p b)[k]? = some (q * b) ∧ (zsL p a b)[k]? = some (q ^^^ (q ^^^ a) ^^^ (q * b))) := ⟨at_map hq, at_map hq, at_map hq⟩
        have hki : (k : Int) < (n : Int) := by omega
        clear hq hc
        go_upto_region 7 with fail
        have f1 : ∀ y : SCls ⟨pb, off + k, none⟩ (.int .u8 (u8 q)), y.z.cell? ⟨pb, off + k, none⟩ = some (.int .u8 (u8 q)) := fun y => y.h
        haveI : Nonempty (SCls ⟨pb, off + k, none⟩ (.int .u8 (u8 q))) := ⟨⟨wr, HC.out⟩⟩
        have HT : Hid (Below wr.heap.size wr wr.drew) := (Below.refl _ _).drew
        have ex := u8_xor q a
        have ey := u8_mul q b
        refine wp_region_last (C := fun W => ∃ y : SCls ⟨pb, off + k, none⟩ (.int .u8 (u8 q)), W = y.z) [0, 1, 2, 3, 4, 5, 6, 7, 8, 9, 10, 11, 12, 13, 14, 15, 16, 17] [18, 19] (by kernel_rfl) (by kernel_rfl) (by kernel_rfl) (by kernel_rfl) (by simp only [List.filterMap_cons, List.getElem?_toArray, List.getElem?_cons_zero, List.getElem?_cons_succ, List.filterMap_nil]; rfl) (by simp only [List.filterMap_cons, List.getElem?_toArray, List.getElem?_cons_zero, List.getElem?_cons_succ, List.filterMap_nil]; rfl) ⟨⟨wr.drew, HC.out⟩, rfl⟩ ?_
        have HCD : Hid (wr.drew.cell? ⟨pb, off + k, none⟩ = some (.int .u8 (u8 q))) := HC.out
        have HXD : Hid (RowTo wr.drew gx n k (xsL p a)) := HX.out.below HT.out
        have HYD : Hid (RowTo wr.drew gy n k (ysL p b)) := HY.out.below HT.out
        have HZD : Hid (RowTo wr.drew gz n k (zsL p a b)) := HZ.out.below HT.out
        have HBV : Hid (Below w.heap.size w wr.drew) := HB.out.drew
        have H3D : Hid (Three w.heap.size wr.drew gx gy gz) := H3.out
        clear HC HX HY HZ HB H3 HT
        generalize wr.drew = wd at *
        (repeat (first | (with_reducible refine mix_read (by kernel_rfl) ?_; go_big_quiet_want; go_big_quiet_op; go_big_quiet_on; with_reducible refine wpQuiet_nil ?_) | (with_reducible refine mix_pass (by kernel_rfl) ?_; go_big_quiet_skip; with_reducible refine wpQuiet_nil ?_)))
        obtain ⟨ox, cx⟩ := HXD.out.cell hlt
        have fx := HXD.out.froz k
        have HX1 : Hid (RowTo (wd.setCell ⟨gx, k, none⟩ (.int .u8 (u8 (q ^^^ a)))) gx n (k + 1) (xsL p a)) := HXD.out.put hlt HQ.out.1
        have HY1 : Hid (RowTo (wd.setCell ⟨gx, k, none⟩ (.int .u8 (u8 (q ^^^ a)))) gy n k (ysL p b)) := HYD.out.block (row_set_ne H3D.out.1.symm)
        have HZ1 : Hid (RowTo (wd.setCell ⟨gx, k, none⟩ (.int .u8 (u8 (q ^^^ a)))) gz n k (zsL p a b)) := HZD.out.block (row_set_ne H3D.out.2.1.symm)
        have HB1 : Hid (Below w.heap.size w (wd.setCell ⟨gx, k, none⟩ (.int .u8 (u8 (q ^^^ a))))) := HBV.out.setCell H3D.out.2.2.2.1 _
        have H31 : Hid (Three w.heap.size (wd.setCell ⟨gx, k, none⟩ (.int .u8 (u8 (q ^^^ a)))) gx gy gz) := three_kept H3D.out (by simp)
        have HC1 : Hid ((wd.setCell ⟨gx, k, none⟩ (.int .u8 (u8 (q ^^^ a)))).cell? ⟨pb, off + k, none⟩ = some (.int .u8 (u8 q))) := (World.cell?_of_block (row_set_ne (by have := H3D.out.2.2.2.1; have := hpb.out; show pb ≠ gx; omega))).trans HCD.out
        refine mix_skips (w' := wd.setCell ⟨gx, k, none⟩ (.int .u8 (u8 (q ^^^ a)))) (by kernel_rfl) (by kernel_rfl) (by simp [execOp, go_sem, cx, fx]) ⟨⟨_, HC1.out⟩, rfl⟩ ?_
        simp only [Act.put]
        clear cx fx f1 ex ey
        generalize wd.setCell ⟨gx, k, none⟩ (.int .u8 (u8 (q ^^^ a))) = w1 at *
        with_reducible refine mix_end ?_
        obtain ⟨oy, cy⟩ := HY1.out.cell hlt
        have fy := HY1.out.froz k
        have HX2 : Hid (RowTo (w1.setCell ⟨gy, k, none⟩ (.int .u8 (u8 (q * b)))) gx n (k + 1) (xsL p a)) := HX1.out.block (row_set_ne H31.out.1)
        have HY2 : Hid (RowTo (w1.setCell ⟨gy, k, none⟩ (.int .u8 (u8 (q * b)))) gy n (k + 1) (ysL p b)) := HY1.out.put hlt HQ.out.2.1
        have HZ2 : Hid (RowTo (w1.setCell ⟨gy, k, none⟩ (.int .u8 (u8 (q * b)))) gz n k (zsL p a b)) := HZ1.out.block (row_set_ne H31.out.2.2.1.symm)
        have HB2 : Hid (Below w.heap.size w (w1.setCell ⟨gy, k, none⟩ (.int .u8 (u8 (q * b))))) := HB1.out.setCell H31.out.2.2.2.2.1 _
        have H32 : Hid (Three w.heap.size (w1.setCell ⟨gy, k, none⟩ (.int .u8 (u8 (q * b)))) gx gy gz) := three_kept H31.out (by simp)
        have HC2 : Hid ((w1.setCell ⟨gy, k, none⟩ (.int .u8 (u8 (q * b)))).cell? ⟨pb, off + k, none⟩ = some (.int .u8 (u8 q))) := (World.cell?_of_block (row_set_ne (by have := H31.out.2.2.2.2.1; have := hpb.out; show pb ≠ gy; omega))).trans HC1.out
        clear HX1 HY1 HZ1 HB1 H31 HC1 HXD HYD HZD HBV H3D HCD
        have hch : Hid (w1.setCell ⟨gy, k, none⟩ (.int .u8 (u8 (q * b))) = w1.setCell ⟨gy, k, none⟩ (.int .u8 (u8 (q * b)))) := rfl
        generalize hg2 : w1.setCell ⟨gy, k, none⟩ (.int .u8 (u8 (q * b))) = w2 at HX2 HY2 HZ2 HB2 H32 HC2
        have HG2 : Hid (w1.setCell ⟨gy, k, none⟩ (.int .u8 (u8 (q * b))) = w2) := hg2
        clear hch hg2
        go_upto_region 8 with fail
        rw [HG2.out]
        clear cy fy
        have c1 := sext_cell HC2.out
        have c2 := sext_cell (HX2.out.cell_of HQ.out.1)
        have c3 := sext_cell (HY2.out.cell_of HQ.out.2.1)
        haveI := sext_some w2
        have HT : Hid (Below w2.heap.size w2 w2.drew) := (Below.refl _ _).drew
        have ez := u8_xor q (q ^^^ a)
        have ez2 := u8_xor (q ^^^ (q ^^^ a)) (q * b)
        refine wp_region_last (C := fun W => ∃ y : SExt w2, W = y.z) [0, 1, 2, 3, 4, 5, 6, 7, 8, 9, 10, 11, 12, 13, 14, 15] [16, 17] (by kernel_rfl) (by kernel_rfl) (by kernel_rfl) (by kernel_rfl) (by simp only [List.filterMap_cons, List.getElem?_toArray, List.getElem?_cons_zero, List.getElem?_cons_succ, List.filterMap_nil]; rfl) (by simp only [List.filterMap_cons, List.getElem?_toArray, List.getElem?_cons_zero, List.getElem?_cons_succ, List.filterMap_nil]; rfl) ⟨⟨_, (Below.refl _ _).drew⟩, rfl⟩ ?_
        (repeat (first | (with_reducible refine mix_read (by kernel_rfl) ?_; go_big_quiet_want; go_big_quiet_op; go_big_quiet_on; with_reducible refine wpQuiet_nil ?_) | (with_reducible refine mix_pass (by kernel_rfl) ?_; go_big_quiet_skip; with_reducible refine wpQuiet_nil ?_)))
        with_reducible refine mix_end ?_
        clear c1 c2 c3 ez ez2
        have HXD : Hid (RowTo w2.drew gx n (k + 1) (xsL p a)) := HX2.out.below HT.out
        have HYD : Hid (RowTo w2.drew gy n (k + 1) (ysL p b)) := HY2.out.below HT.out
        have HZD : Hid (RowTo w2.drew gz n k (zsL p a b)) := HZ2.out.below HT.out
        have HBV : Hid (Below w.heap.size w w2.drew) := HB2.out.drew
        have H3D : Hid (Three w.heap.size w2.drew gx gy gz) := H32.out
        clear HX2 HY2 HZ2 HB2 H32 HC2 HT HG2
        generalize w2.drew = wd at *
        obtain ⟨oz, cz⟩ := HZD.out.cell hlt
        have fz := HZD.out.froz k
        have HX3 : Hid (RowTo (wd.setCell ⟨gz, k, none⟩ (.int .u8 (u8 (q ^^^ (q ^^^ a) ^^^ (q * b))))) gx n (k + 1) (xsL p a)) := HXD.out.block (row_set_ne H3D.out.2.1)
        have HY3 : Hid (RowTo (wd.setCell ⟨gz, k, none⟩ (.int .u8 (u8 (q ^^^ (q ^^^ a) ^^^ (q * b))))) gy n (k + 1) (ysL p b)) := HYD.out.block (row_set_ne H3D.out.2.2.1)
        have HZ3 : Hid (RowTo (wd.setCell ⟨gz, k, none⟩ (.int .u8 (u8 (q ^^^ (q ^^^ a) ^^^ (q * b))))) gz n (k + 1) (zsL p a b)) := HZD.out.put hlt HQ.out.2.2
        have HB3 : Hid (Below w.heap.size w (wd.setCell ⟨gz, k, none⟩ (.int .u8 (u8 (q ^^^ (q ^^^ a) ^^^ (q * b)))))) := HBV.out.setCell H3D.out.2.2.2.2.2.1 _
        have H33 : Hid (Three w.heap.size (wd.setCell ⟨gz, k, none⟩ (.int .u8 (u8 (q ^^^ (q ^^^ a) ^^^ (q * b))))) gx gy gz) := three_kept H3D.out (by simp)
        clear HXD HYD HZD HBV H3D
        go_wp2
        go_roundg (n - (k + 1))
        case rel => exact ⟨k + 1, rfl, by go_num, by omega, H33.out, HX3.out, HY3.out, HZ3.out, HB3.out⟩
        case measure => omega
      · have hkn : k = n := by omega
        obtain rfl := hkn
        have HLz : Hid ((zsL p a b).length = k) := by show _ = _; rw [zsL, List.length_map]; exact HN.out.1
        have HLx : Hid ((xsL p a).length = k) := by show _ = _; rw [xsL, List.length_map]; exact HN.out.1
        have HLy : Hid ((ysL p b).length = k) := by show _ = _; rw [ysL, List.length_map]; exact HN.out.1
        have HLp : Hid (p.length = k) := HN.out.1
        have HR0 : Hid (hasBytes wr (some ⟨gz, 0, none⟩) (zsL p a b) ∧ hasBytes wr oa p ∧ hasBytes wr (some ⟨gx, 0, none⟩) (xsL p a) ∧ hasBytes wr (some ⟨gy, 0, none⟩) (ysL p b)) := ⟨HZ.out.whole HLz.out, bytes_up HB.out HP.out, HX.out.whole HLx.out, HY.out.whole HLy.out⟩
        have HK : Hid (k ≤ 9223372036854775807) := by have := HN.out.2; show _ ≤ _; omega
        clear HZ HX HY H3 HP
        go_wp2_with fail
        have HA0 : Hid (Below wr.heap.size wr (wr.alloc (.cells #[.slice (some ⟨gz, 0, none⟩) k k] 22))) := (Below.refl _ _).alloc (Nat.le_refl _) _
        have D := one_any (wr.alloc (.cells #[.slice (some ⟨gz, 0, none⟩) k k] 22)) wr.heap.size (some ⟨gz, 0, none⟩) k (zsL p a b) 22 (by rw [HLz.out]; exact sblk_new _ _) (HR0.out.1.below HA0.out) (by rw [HLz.out]; exact HK.out)
        rw [sum_lin] at D
        refine D.mono ?_
        rintro e v0 ⟨rfl, rfl⟩
        clear D
        have HR1 : Hid (hasBytes (wr.alloc (.cells #[.slice (some ⟨gz, 0, none⟩) k k] 22)) (some ⟨gz, 0, none⟩) (zsL p a b) ∧ hasBytes (wr.alloc (.cells #[.slice (some ⟨gz, 0, none⟩) k k] 22)) oa p ∧ hasBytes (wr.alloc (.cells #[.slice (some ⟨gz, 0, none⟩) k k] 22)) (some ⟨gx, 0, none⟩) (xsL p a) ∧ hasBytes (wr.alloc (.cells #[.slice (some ⟨gz, 0, none⟩) k k] 22)) (some ⟨gy, 0, none⟩) (ysL p b)) := ⟨HR0.out.1.below HA0.out, HR0.out.2.1.below HA0.out, HR0.out.2.2.1.below HA0.out, HR0.out.2.2.2.below HA0.out⟩
        have HB0 : Hid (Below w.heap.size w (wr.alloc (.cells #[.slice (some ⟨gz, 0, none⟩) k k] 22))) := HB.out.trans (HA0.out.mono HB.out.size)
        generalize hch : (wr.alloc (.cells #[.slice (some ⟨gz, 0, none⟩) k k] 22)) = y0 at HR1 HB0 ⊢
        clear hch HA0 HR0
        go_wp2_with fail
        have HA1 : Hid (Below y0.heap.size y0 (y0.alloc (.cells #[.slice oa k cap] 22))) := (Below.refl _ _).alloc (Nat.le_refl _) _
        have D := one_any (y0.alloc (.cells #[.slice oa k cap] 22)) y0.heap.size oa cap p 22 (by rw [HLp.out]; exact sblk_new _ _) (HR1.out.2.1.below HA1.out) (by rw [HLp.out]; exact HK.out)
        refine D.mono ?_
        rintro e v1 ⟨rfl, rfl⟩
        clear D
        have HR2 : Hid (hasBytes (y0.alloc (.cells #[.slice oa k cap] 22)) (some ⟨gz, 0, none⟩) (zsL p a b) ∧ hasBytes (y0.alloc (.cells #[.slice oa k cap] 22)) oa p ∧ hasBytes (y0.alloc (.cells #[.slice oa k cap] 22)) (some ⟨gx, 0, none⟩) (xsL p a) ∧ hasBytes (y0.alloc (.cells #[.slice oa k cap] 22)) (some ⟨gy, 0, none⟩) (ysL p b)) := ⟨HR1.out.1.below HA1.out, HR1.out.2.1.below HA1.out, HR1.out.2.2.1.below HA1.out, HR1.out.2.2.2.below HA1.out⟩
        have HB1 : Hid (Below w.heap.size w (y0.alloc (.cells #[.slice oa k cap] 22))) := HB0.out.trans (HA1.out.mono HB0.out.size)
        generalize hch : (y0.alloc (.cells #[.slice oa k cap] 22)) = y1 at HR2 HB1 ⊢
        clear hch HA1 HR1
        go_wp2_with fail
        have HA2 : Hid (Below y1.heap.size y1 (y1.alloc (.cells #[.slice (some ⟨gx, 0, none⟩) k k] 22))) := (Below.refl _ _).alloc (Nat.le_refl _) _
        have D := one_any (y1.alloc (.cells #[.slice (some ⟨gx, 0, none⟩) k k] 22)) y1.heap.size (some ⟨gx, 0, none⟩) k (xsL p a) 22 (by rw [HLx.out]; exact sblk_new _ _) (HR2.out.2.2.1.below HA2.out) (by rw [HLx.out]; exact HK.out)
        refine D.mono ?_
        rintro e v2 ⟨rfl, rfl⟩
        clear D
        have HR3 : Hid (hasBytes (y1.alloc (.cells #[.slice (some ⟨gx, 0, none⟩) k k] 22)) (some ⟨gz, 0, none⟩) (zsL p a b) ∧ hasBytes (y1.alloc (.cells #[.slice (some ⟨gx, 0, none⟩) k k] 22)) oa p ∧ hasBytes (y1.alloc (.cells #[.slice (some ⟨gx, 0, none⟩) k k] 22)) (some ⟨gx, 0, none⟩) (xsL p a) ∧ hasBytes (y1.alloc (.cells #[.slice (some ⟨gx, 0, none⟩) k k] 22)) (some ⟨gy, 0, none⟩) (ysL p b)) := ⟨HR2.out.1.below HA2.out, HR2.out.2.1.below HA2.out, HR2.out.2.2.1.below HA2.out, HR2.out.2.2.2.below HA2.out⟩
        have HB2 : Hid (Below w.heap.size w (y1.alloc (.cells #[.slice (some ⟨gx, 0, none⟩) k k] 22))) := HB1.out.trans (HA2.out.mono HB1.out.size)
        generalize hch : (y1.alloc (.cells #[.slice (some ⟨gx, 0, none⟩) k k] 22)) = y2 at HR3 HB2 ⊢
        clear hch HA2 HR2
        have e1 := u32_xor (sumV p) (sumV (xsL p a))
        go_wp2_with fail
        have HA3 : Hid (Below y2.heap.size y2 (y2.alloc (.cells #[.slice (some ⟨gy, 0, none⟩) k k] 22))) := (Below.refl _ _).alloc (Nat.le_refl _) _
        have D := one_any (y2.alloc (.cells #[.slice (some ⟨gy, 0, none⟩) k k] 22)) y2.heap.size (some ⟨gy, 0, none⟩) k (ysL p b) 22 (by rw [HLy.out]; exact sblk_new _ _) (HR3.out.2.2.2.below HA3.out) (by rw [HLy.out]; exact HK.out)
        refine D.mono ?_
        rintro e v3 ⟨rfl, rfl⟩
        clear D
        have HR4 : Hid (hasBytes (y2.alloc (.cells #[.slice (some ⟨gy, 0, none⟩) k k] 22)) (some ⟨gz, 0, none⟩) (zsL p a b) ∧ hasBytes (y2.alloc (.cells #[.slice (some ⟨gy, 0, none⟩) k k] 22)) oa p ∧ hasBytes (y2.alloc (.cells #[.slice (some ⟨gy, 0, none⟩) k k] 22)) (some ⟨gx, 0, none⟩) (xsL p a) ∧ hasBytes (y2.alloc (.cells #[.slice (some ⟨gy, 0, none⟩) k k] 22)) (some ⟨gy, 0, none⟩) (ysL p b)) := ⟨HR3.out.1.below HA3.out, HR3.out.2.1.below HA3.out, HR3.out.2.2.1.below HA3.out, HR3.out.2.2.2.below HA3.out⟩
        have HB3 : Hid (Below w.heap.size w (y2.alloc (.cells #[.slice (some ⟨gy, 0, none⟩) k k] 22))) := HB2.out.trans (HA3.out.mono HB2.out.size)
        generalize hch : (y2.alloc (.cells #[.slice (some ⟨gy, 0, none⟩) k k] 22)) = y3 at HR4 HB3 ⊢
        clear hch HA3 HR3
        have e2 := u32_xor (sumV p ^^^ sumV (xsL p a)) (sumV (ysL p b))
        go_wp2_with fail
        refine (known_any _).mono ?_
        rintro e v4 ⟨rfl, hb⟩
        go_wp2
        go_ret
        exact ⟨rfl, HB3.out.trans (hb.mono HB3.out.size)⟩

theorem walk (w : World) (oa : Option Addr) (len cap : Nat) (p : List (BitVec 8)) (hlen : p.length = len) (_ : len ≤ maxLen) (hp : hasBytes w oa p) (a b : Int) (ha : (Lit.int IntKind.u8 a).wf = true) (hb : (Lit.int IntKind.u8 b).wf = true) : Calls Try.prog 6 #[.slice oa len cap, .int .u8 a, .int .u8 b] w fun e w' => e = .returned (.bool true) ∧ Below w.heap.size w w' := by
  subst hlen
  by_cases h : 300 < p.length
  · have hi : (300 : Int) < (p.length : Int) := by omega
    go_enter Try.func6, Try.ntmps6
    go_wp2
    go_ret
    exact ⟨rfl, Below.refl _ _⟩
  rw [← u8_of a ha, ← u8_of b hb]
  exact core w oa cap p _ _ hp (by omega)

theorem own : ownKnob Try.prog.godebug = none := by kernel_rfl

set_option maxRecDepth 100000 in
theorem lifted (os : Os) (started : os.Started) (H : Type) (enc : TypeId × Value → H) :
    ReturnsInHanded {} Try.checked os 6 .any (Rows.sumLinearSpec.pre6 enc Try.prog Try.f6 Rows.sumLinearRow.domain false) (Rows.sumLinearSpec.post enc Try.prog Try.f6 false true false false) := by
  refine returnsInHanded_of_change (C := Try.checked) own started (by kernel_rfl) Try.func6
    (ChangeSpec.witness6 (enc := enc) (C := Try.checked) false ⟨#[], #[.slice none 0 0, .int .u8 0, .int .u8 0], []⟩ 8 (by kernel_rfl) (by kernel_rfl) (by kernel_rfl) (by kernel_rfl)) ?_
  intro W base args ds gs before hval0 hW _ _
  have hval : ∀ (j : Nat) t v, Try.f6.params[j]? = some t → args[j]? = some v → Value.okWide Try.prog W .any base t v := hval0
  have hW' := hW
  obtain ⟨p, q, hA0, hV, rfl, _, _⟩ := hW
  have hA : DataW.TrodAll enc Try.prog W 0 (fun _ => true) true Try.f6.params.toList args.toList ds p := hA0
  rw [Try.params6] at hA hval
  obtain ⟨v0, vs0, d0, ds0, p0, q0, hargs, rfl, rfl, h0, r0⟩ := trodAll_cons hA
  obtain ⟨v1, vs1, d1, ds1, p1, q1, rfl, rfl, rfl, h1, r1⟩ := trodAll_cons r0
  obtain ⟨v2, vs2, d2, ds2, p2, q2, rfl, rfl, rfl, h2, r2⟩ := trodAll_cons r1
  obtain ⟨rfl, rfl, rfl⟩ := trodAll_nil r2
  obtain rfl : args = #[v0, v1, v2] := by cases args; simp_all
  obtain ⟨rfl, rfl⟩ := trodVars_none hV
  obtain ⟨a0, len0, cap0, rfl⟩ := okWide_slice Try.underlying22 (hval 0 22 v0 rfl rfl)
  have k0 := h0
  have lt0 : ∀ x ∈ p0, x.block < W.heap.size := by obtain ⟨m, hm⟩ := k0; exact DataW.trod_lt m _ _ _ hm
  obtain ⟨z0, e0, m0, s0⟩ : ∃ l : List (BitVec 8), l.length = len0 ∧ len0 ≤ maxLen ∧ hasBytes W a0 l := by
    obtain ⟨fuel, hf⟩ := h0
    exact open_bytes hf
  obtain ⟨a1, rfl, rfl, rfl, w1⟩ := open_int Try.underlying5 (hval 1 5 v1 rfl rfl) h1
  obtain ⟨a2, rfl, rfl, rfl, w2⟩ := open_int Try.underlying5 (hval 2 5 v2 rfl rfl) h2
  clear hA0 hval0
  refine (walk W a0 len0 cap0 z0 e0 m0 s0 a1 a2 w1 w2).mono fun e W' ⟨he, bel⟩ => ?_
  subst he
  exact ⟨_, rfl, _, _, _, [], _, [], hW', trodAll_mk1 (shut_bool Try.underlying4 _), (trodAll_cons_mk (Below.trod laidOut (by kernel_rfl) (of_decide_eq_true (by kernel_rfl)) k0 bel lt0) (trodAll_cons_mk (shut_int Try.underlying5 w1) (trodAll_cons_mk (shut_int Try.underlying5 w2) trodAll_mk0))), rfl, bel.frame _, fun h => by cases h⟩

theorem over : Rows.sumLinearRow.holds Try.pinned (OpenSpec.ofChange Rows.sumLinearSpec) :=
  OpenClaim.holds_of_wide 6 Try.f6 rfl rfl rfl rfl rfl rfl rfl ⟨rfl, rfl, rfl, rfl, rfl⟩ rfl rfl rfl rfl rfl (by kernel_rfl) Try.func6 (by kernel_rfl)
    (of_decide_eq_true (by kernel_rfl)) (by unfold Func.isWrapper; first | (rw [if_pos (by decide +kernel)]; kernel_rfl) | (rw [if_neg (by decide +kernel)]; exact ⟨rfl, rfl⟩))
    (fun os started H enc _ => lifted os started H enc)

end Go.Proofs.Ytjjlhofofeageaa.sumLinear
namespace Go.Proofs.Ytjjlhofofeageaa
theorem sumLinear_holds : Rows.SumLinearSaid := sumLinear.over
#print axioms sumLinear_holds
end Go.Proofs.Ytjjlhofofeageaa
