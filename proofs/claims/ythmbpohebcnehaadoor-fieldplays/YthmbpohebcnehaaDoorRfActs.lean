/-
  The reference's field: Train, Stick, by contracts.
-/
import Derived.Test.YthmbpohebcnehaaDoorRfP
namespace Go.Proofs.YthmbpohebcnehaaDoor
open Go.RowKit

set_option maxRecDepth 1000000 in
set_option maxHeartbeats 8000000 in
theorem rfTrain_any (B xb br bt bd : Nat) (vl : Value) (occ : List Bool) (li tw dr : List Int) (i : Int) (w : World) (h : RfAt w B xb br bt bd vl occ li tw dr) :
    Calls Tryd.prog 9 #[.pointer (some ⟨xb, 0, none⟩), .int .i64 i] w fun e w' => e = .returned (.int .i64 (trainF occ i).1) ∧ RfAt w' B xb br bt bd vl (trainF occ i).2 li tw dr ∧ Chg (rfFoot br bt bd vl) w w' := by
  have HF : Hid (RfAt w B xb br bt bd vl occ li tw dr) := h
  have hfew := h.few.1
  obtain ⟨x0, -, -, -⟩ := h.cells
  by_cases h0 : i < 0
  · have hT : trainF occ i = (5, occ) := if_neg (by omega)
    rw [hT]
    clear hT h x0
    go_enter Tryd.func9, Tryd.ntmps9
    go_wp2
    go_ret
    exact ⟨rfl, HF.out, Chg.refl _ _⟩
  by_cases h1 : (occ.length : Int) ≤ i
  · have hT : trainF occ i = (5, occ) := if_neg (by omega)
    rw [hT]
    clear hT h
    generalize hn : occ.length = n at *
    clear hn
    go_enter Tryd.func9, Tryd.ntmps9
    go_wp2
    go_ret
    exact ⟨rfl, HF.out, Chg.refl _ _⟩
  have hi : 0 ≤ i ∧ i < (occ.length : Nat) := ⟨by omega, by omega⟩
  have hT : trainF occ i = (0, occ.set i.toNat (!(occ.getD i.toNat false))) := if_pos hi
  rw [hT]
  clear hT
  obtain ⟨k, rfl, hk⟩ := nat_of hi
  obtain ⟨x, hx⟩ := at_of hk
  have hg : occ.getD (k : Int).toNat false = x := getD_at hx
  rw [hg]
  have HX : Hid (occ[k]? = some x) := hx
  have c0 := bool_row h.ho hx
  have hki : (k : Int) < (occ.length : Int) := by omega
  clear hg hx h hi hk h0 h1
  rw [Int.toNat_natCast]
  generalize hn : occ.length = n at *
  clear hn
  go_enter Tryd.func9, Tryd.ntmps9
  go_wp2_with fail
  have y0 := ext_cell x0
  have y2 := ext_cell c0
  haveI := ext_some w
  have HB1 : Hid (Below w.heap.size w w.drew) := (Below.refl _ _).drew
  clear x0 c0
  refine wp_region_last (C := fun W => ∃ y : Ext w, W = y.z) [0, 1, 2, 3, 4, 5, 6, 7, 8, 9, 10, 11, 12, 13, 14, 15] [16] (by kernel_rfl) (by kernel_rfl) (by kernel_rfl) (by kernel_rfl) (by simp only [List.filterMap_cons, List.getElem?_toArray, List.getElem?_cons_zero, List.getElem?_cons_succ, List.filterMap_nil]; rfl) (by simp only [List.filterMap_cons, List.getElem?_toArray, List.getElem?_cons_zero, List.getElem?_cons_succ, List.filterMap_nil]; rfl) ⟨⟨_, (Below.refl _ _).drew⟩, rfl⟩ ?_
  (repeat (first | (with_reducible refine mix_read (by kernel_rfl) ?_; go_big_quiet_want; go_big_quiet_op; go_big_quiet_on; with_reducible refine wpQuiet_nil ?_) | (with_reducible refine mix_pass (by kernel_rfl) ?_; go_big_quiet_skip; with_reducible refine wpQuiet_nil ?_)))
  with_reducible refine mix_end ?_
  have HFD : Hid (RfAt w.drew B xb br bt bd vl occ li tw dr) := HF.out.below HB1.out
  have HP : Hid (RfAt (w.drew.setCell ⟨br, k, none⟩ (.bool (!x))) B xb br bt bd vl (occ.set k (!x)) li tw dr ∧ Chg (rfFoot br bt bd vl) w (w.drew.setCell ⟨br, k, none⟩ (.bool (!x)))) := ⟨(HFD.out.put1 k (!x)).1, (Chg.of_below HB1.out).trans (HFD.out.put1 k (!x)).2⟩
  have c0 := bool_row HFD.out.ho HX.out
  have f0 := froz2 HFD.out.ho k
  clear y0 y2 HFD HB1
  generalize w.drew = wd at *
  go_wp2
  go_ret
  exact ⟨rfl, HP.out⟩

set_option maxRecDepth 1000000 in
set_option maxHeartbeats 8000000 in
theorem rfStick_any (B xb br bt bd : Nat) (vl : Value) (occ : List Bool) (pts : List Pt) (i : Int) (w : World) (h : RfAt w B xb br bt bd vl occ (liesF pts) (towF pts) (drvF pts)) :
    Calls Tryd.prog 11 #[.pointer (some ⟨xb, 0, none⟩), .int .i64 i] w fun e w' => e = .returned (.int .i64 (stickF pts i).1) ∧ RfAt w' B xb br bt bd vl occ (liesF (stickF pts i).2) (towF (stickF pts i).2) (drvF (stickF pts i).2) ∧ Chg (rfFoot br bt bd vl) w w' := by
  have HF : Hid (RfAt w B xb br bt bd vl occ (liesF pts) (towF pts) (drvF pts)) := h
  have hfew := h.few.2
  rw [liesF_len] at hfew
  obtain ⟨-, z1, z2, z3⟩ := h.cells
  by_cases h0 : i < 0
  · have hT : stickF pts i = (5, pts) := if_neg (by omega)
    rw [hT]
    clear hT h z1 z2 z3
    go_enter Tryd.func11, Tryd.ntmps11
    go_wp2
    go_ret
    exact ⟨rfl, HF.out, Chg.refl _ _⟩
  by_cases h1 : (pts.length : Int) ≤ i
  · have hT : stickF pts i = (5, pts) := if_neg (by omega)
    rw [hT]
    obtain ⟨ol, cl, hvl⟩ := owns_slice h.hl
    rw [liesF_len] at hvl
    rw [hvl] at z1
    clear hT h z2 z3 hvl
    generalize hn : pts.length = n at *
    clear hn
    go_enter Tryd.func11, Tryd.ntmps11
    go_wp2
    go_ret
    exact ⟨rfl, HF.out, Chg.refl _ _⟩
  have hi : 0 ≤ i ∧ i < (pts.length : Nat) := ⟨by omega, by omega⟩
  have hT : stickF pts i = (0, pts.set i.toNat (restF 0)) := if_pos hi
  rw [hT]
  clear hT
  obtain ⟨k, rfl, hk⟩ := nat_of hi
  obtain ⟨x, hx⟩ := at_of hk
  have HX : Hid (pts[k]? = some x) := hx
  have hki : (k : Int) < (pts.length : Int) := by omega
  have HK : Hid (k < (liesF pts).length) := (by show k < _; rw [liesF_len]; exact hk)
  obtain ⟨gl, cl, rfl, g1, g2, g3, g4, gc, gz⟩ := h.slot (by rw [liesF_len]; omega)
  have HG := (show Hid _ from And.intro g1 (And.intro g3 g4))
  rw [liesF_len] at z1 z2 z3
  clear hx h hi hk h0 h1 gc gz g1 g2 g3 g4
  rw [Int.toNat_natCast]
  have HNN : Hid ((liesF pts).length = pts.length) := liesF_len pts
  generalize pts.length = n at hfew hki z1 z2 z3 HNN ⊢
  rw [HNN.out]
  go_enter Tryd.func11, Tryd.ntmps11
  go_wp2_with fail
  have f1 : ∀ y : Cls [(⟨xb, 1, none⟩, .slice (some ⟨gl, 0, none⟩) n cl), (⟨xb, 2, none⟩, .slice (some ⟨bt, 0, none⟩) n n), (⟨xb, 3, none⟩, .slice (some ⟨bd, 0, none⟩) n n)], y.z.cell? ⟨xb, 1, none⟩ = some (.slice (some ⟨gl, 0, none⟩) n cl) := fun y => y.h (⟨xb, 1, none⟩, .slice (some ⟨gl, 0, none⟩) n cl) (by simp)
  have f2 : ∀ y : Cls [(⟨xb, 1, none⟩, .slice (some ⟨gl, 0, none⟩) n cl), (⟨xb, 2, none⟩, .slice (some ⟨bt, 0, none⟩) n n), (⟨xb, 3, none⟩, .slice (some ⟨bd, 0, none⟩) n n)], y.z.cell? ⟨xb, 2, none⟩ = some (.slice (some ⟨bt, 0, none⟩) n n) := fun y => y.h (⟨xb, 2, none⟩, .slice (some ⟨bt, 0, none⟩) n n) (by simp)
  have f3 : ∀ y : Cls [(⟨xb, 1, none⟩, .slice (some ⟨gl, 0, none⟩) n cl), (⟨xb, 2, none⟩, .slice (some ⟨bt, 0, none⟩) n n), (⟨xb, 3, none⟩, .slice (some ⟨bd, 0, none⟩) n n)], y.z.cell? ⟨xb, 3, none⟩ = some (.slice (some ⟨bd, 0, none⟩) n n) := fun y => y.h (⟨xb, 3, none⟩, .slice (some ⟨bd, 0, none⟩) n n) (by simp)
  have mkc : ∀ W : World, W.cell? ⟨xb, 1, none⟩ = some (.slice (some ⟨gl, 0, none⟩) n cl) → W.cell? ⟨xb, 2, none⟩ = some (.slice (some ⟨bt, 0, none⟩) n n) → W.cell? ⟨xb, 3, none⟩ = some (.slice (some ⟨bd, 0, none⟩) n n) → ∃ y : Cls [(⟨xb, 1, none⟩, .slice (some ⟨gl, 0, none⟩) n cl), (⟨xb, 2, none⟩, .slice (some ⟨bt, 0, none⟩) n n), (⟨xb, 3, none⟩, .slice (some ⟨bd, 0, none⟩) n n)], W = y.z := fun W h1 h2 h3 => ⟨⟨W, fun p hp => by
    rcases List.mem_cons.1 hp with rfl | hp
    · exact h1
    rcases List.mem_cons.1 hp with rfl | hp
    · exact h2
    · rw [List.mem_singleton.1 hp]; exact h3⟩, rfl⟩
  have MKC := (show Hid _ from mkc)
  haveI : Nonempty (Cls [(⟨xb, 1, none⟩, .slice (some ⟨gl, 0, none⟩) n cl), (⟨xb, 2, none⟩, .slice (some ⟨bt, 0, none⟩) n n), (⟨xb, 3, none⟩, .slice (some ⟨bd, 0, none⟩) n n)]) := by obtain ⟨y, _⟩ := mkc w z1 z2 z3; exact ⟨y⟩
  have HC0 := MKC.out w.drew z1 z2 z3
  clear mkc
  have HB1 : Hid (Below w.heap.size w w.drew) := (Below.refl _ _).drew
  clear z1 z2 z3
  refine wp_region_last (C := fun W => ∃ y : Cls [(⟨xb, 1, none⟩, .slice (some ⟨gl, 0, none⟩) n cl), (⟨xb, 2, none⟩, .slice (some ⟨bt, 0, none⟩) n n), (⟨xb, 3, none⟩, .slice (some ⟨bd, 0, none⟩) n n)], W = y.z) [0, 1, 2, 3, 4, 5, 6, 7, 8, 9, 10, 11, 12, 13, 14, 15, 16, 17, 18, 19] [20, 21] (by kernel_rfl) (by kernel_rfl) (by kernel_rfl) (by kernel_rfl) (by simp only [List.filterMap_cons, List.getElem?_toArray, List.getElem?_cons_zero, List.getElem?_cons_succ, List.filterMap_nil]; rfl) (by simp only [List.filterMap_cons, List.getElem?_toArray, List.getElem?_cons_zero, List.getElem?_cons_succ, List.filterMap_nil]; rfl) HC0 ?_
  clear HC0
  have HF1 := (show Hid _ from HF.out.below HB1.out)
  generalize w.drew = w1 at *
  (repeat (first | (with_reducible refine mix_read (by kernel_rfl) ?_; go_big_quiet_want; go_big_quiet_op; go_big_quiet_on; with_reducible refine wpQuiet_nil ?_) | (with_reducible refine mix_pass (by kernel_rfl) ?_; go_big_quiet_skip; with_reducible refine wpQuiet_nil ?_)))
  obtain ⟨gl', cl', hv', -, -, -, -, gc, gz⟩ := HF1.out.slot (by have := HK.out; omega)
  have eg : gl' = gl := by injection hv' with e1; injection e1 with e1; injection e1 with e1; exact e1.symm
  subst eg
  have HX0 : (liesF pts)[k]? = some x.1 := liesF_at HX.out
  have x0 := gc k _ HX0
  have x1 := gz k
  have HF2 := (show Hid _ from (HF1.out.putL (gl := gl') rfl HK.out 0).1)
  have HC2 := (show Hid _ from (HF1.out.putL (gl := gl') rfl HK.out 0).2)
  have hcc := HF2.out.cells
  have HLN : Hid (((liesF pts).set k 0).length = n) := (by show _ = n; rw [List.length_set, HNN.out])
  rw [HLN.out, HNN.out] at hcc
  refine mix_skips (w' := w1.setCell ⟨gl', k, none⟩ (.int .i64 0)) (by kernel_rfl) (by kernel_rfl) (by simp [execOp, go_sem, x0, x1]) (MKC.out _ hcc.2.1 hcc.2.2.1 hcc.2.2.2) ?_
  simp only [Act.put]
  clear x0 x1 gc gz hcc hv'
  generalize w1.setCell ⟨gl', k, none⟩ (.int .i64 0) = w2 at *
  (repeat (first | (with_reducible refine mix_read (by kernel_rfl) ?_; go_big_quiet_want; go_big_quiet_op; go_big_quiet_on; with_reducible refine wpQuiet_nil ?_) | (with_reducible refine mix_pass (by kernel_rfl) ?_; go_big_quiet_skip; with_reducible refine wpQuiet_nil ?_)))
  have x0 := row_cell HF2.out.ht (towF_at HX.out)
  have x1 := froz2 HF2.out.ht k
  have HF3 := (show Hid _ from (HF2.out.putT k 0).1)
  have HC3 := (show Hid _ from (HF2.out.putT k 0).2)
  have hcc := HF3.out.cells
  rw [HLN.out, HNN.out] at hcc
  refine mix_skips (w' := w2.setCell ⟨bt, k, none⟩ (.int .i64 0)) (by kernel_rfl) (by kernel_rfl) (by simp [execOp, go_sem, x0, x1]) (MKC.out _ hcc.2.1 hcc.2.2.1 hcc.2.2.2) ?_
  simp only [Act.put]
  clear x0 x1 hcc
  generalize w2.setCell ⟨bt, k, none⟩ (.int .i64 0) = w3 at *
  with_reducible refine mix_end ?_
  have x0 := row_cell HF3.out.hd (drvF_at HX.out)
  have x1 := froz2 HF3.out.hd k
  have HF4 := (show Hid _ from (HF3.out.putD k 0).1)
  have HC4 := (show Hid _ from (HF3.out.putD k 0).2)
  clear f1 f2 f3 MKC
  go_wp2
  go_ret
  refine ⟨rfl, ?_, (Chg.of_below HB1.out).trans (HC2.out.trans (HC3.out.trans HC4.out))⟩
  rw [liesF_set, towF_set, drvF_set]
  have h4 := HF4.out
  rw [HNN.out] at h4
  exact h4
end Go.Proofs.YthmbpohebcnehaaDoor
