/-
  Package field: Train, Stick, mayDrive, Step, by contracts.
-/
import Derived.Test.YthmbpohebcnehaaDoorFdLeaf
namespace Go.Proofs.YthmbpohebcnehaaDoor
open Go.RowKit

def trainF (occ : List Bool) (i : Int) : Int × List Bool := if 0 ≤ i ∧ i < (occ.length : Nat) then (0, occ.set i.toNat (!(occ.getD i.toNat false))) else (5, occ)
def stickF (pts : List Pt) (i : Int) : Int × List Pt := if 0 ≤ i ∧ i < (pts.length : Nat) then (0, pts.set i.toNat (restF 0)) else (5, pts)

set_option maxRecDepth 1000000 in
set_option maxHeartbeats 8000000 in
theorem train_any (B fb bo bp : Nat) (occ : List Bool) (pts : List Pt) (i : Int) (w : World) (h : FdAt w B fb bo bp occ pts) :
    Calls Tryd.prog 8 #[.pointer (some ⟨fb, 0, none⟩), .int .i64 i] w fun e w' => e = .returned (.int .i64 (trainF occ i).1) ∧ FdAt w' B fb bo bp (trainF occ i).2 pts ∧ Chg (fdFoot bo bp) w w' := by
  have HF : Hid (FdAt w B fb bo bp occ pts) := h
  have hc := h.cells
  have hfew := h.few
  obtain ⟨x0, x1⟩ := hc
  by_cases hi : 0 ≤ i ∧ i < (occ.length : Nat)
  · have hT : trainF occ i = (0, occ.set i.toNat (!(occ.getD i.toNat false))) := if_pos hi
    rw [hT]
    clear hT
    obtain ⟨k, rfl, hk⟩ := nat_of hi
    obtain ⟨x, hx⟩ := at_of hk
    have hg : occ.getD (k : Int).toNat false = x := getD_at hx
    rw [hg]
    have hp : decide (0 ≤ (k : Int) ∧ (k : Int) < (occ.length : Nat)) = true := decide_eq_true hi
    have P : Hid (∀ W, Calls Tryd.prog 21 #[.int .i64 (k : Int), .int .i64 (occ.length : Nat)] W fun e w' => e = .returned (.bool true) ∧ w' = W) := fun W => by
      have := isPlaceF_any (k : Int) occ.length W
      rwa [hp] at this
    obtain ⟨c0, -⟩ := h.occAt hx
    have HX : Hid (occ[k]? = some x) := hx
    have hki : (k : Int) < (occ.length : Int) := by omega
    clear hp hg hx h hi hk
    rw [Int.toNat_natCast]
    have HN : Hid (∃ n, n = occ.length) := ⟨_, rfl⟩
    clear HN
    generalize hn : occ.length = n at *
    clear hn
    go_enter Tryd.func8, Tryd.ntmps8
    go_wp2_with fail
    refine (P.out _).mono ?_
    rintro e w1 ⟨rfl, rfl⟩
    clear P
    go_wp2_with fail
    have y0 := ext_cell x0
    have y2 := ext_cell c0
    haveI := ext_some w1
    have HB1 : Hid (Below w1.heap.size w1 w1.drew) := (Below.refl _ _).drew
    clear x0 x1 c0
    refine wp_region_last (C := fun W => ∃ y : Ext w1, W = y.z) [0, 1, 2, 3, 4, 5, 6, 7, 8, 9, 10, 11, 12, 13] [14] (by kernel_rfl) (by kernel_rfl) (by kernel_rfl) (by kernel_rfl) (by simp only [List.filterMap_cons, List.getElem?_toArray, List.getElem?_cons_zero, List.getElem?_cons_succ, List.filterMap_nil]; rfl) (by simp only [List.filterMap_cons, List.getElem?_toArray, List.getElem?_cons_zero, List.getElem?_cons_succ, List.filterMap_nil]; rfl) ⟨⟨_, (Below.refl _ _).drew⟩, rfl⟩ ?_
    (repeat (first | (with_reducible refine mix_read (by kernel_rfl) ?_; go_big_quiet_want; go_big_quiet_op; go_big_quiet_on; with_reducible refine wpQuiet_nil ?_) | (with_reducible refine mix_pass (by kernel_rfl) ?_; go_big_quiet_skip; with_reducible refine wpQuiet_nil ?_)))
    with_reducible refine mix_end ?_
    have HFD : Hid (FdAt w1.drew B fb bo bp occ pts) := HF.out.below HB1.out
    have HP : Hid (FdAt (w1.drew.setCell ⟨bo, k, none⟩ (.bool (!x))) B fb bo bp (occ.set k (!x)) pts ∧ Chg (fdFoot bo bp) w1 (w1.drew.setCell ⟨bo, k, none⟩ (.bool (!x)))) := ⟨(HFD.out.put1 k (!x)).1, (Chg.of_below HB1.out).trans (HFD.out.put1 k (!x)).2⟩
    obtain ⟨c0, f0⟩ := HFD.out.occAt HX.out
    clear y0 y2 HFD HB1
    generalize w1.drew = wd at *
    go_wp2
    go_ret
    exact ⟨rfl, HP.out⟩
  · have hT : trainF occ i = (5, occ) := if_neg hi
    rw [hT]
    clear hT
    have hp : decide (0 ≤ i ∧ i < (occ.length : Nat)) = false := decide_eq_false hi
    have P : Hid (∀ W, Calls Tryd.prog 21 #[.int .i64 i, .int .i64 (occ.length : Nat)] W fun e w' => e = .returned (.bool false) ∧ w' = W) := fun W => by
      have := isPlaceF_any i occ.length W
      rwa [hp] at this
    clear hp hi h
    generalize hn : occ.length = n at *
    clear hn
    go_enter Tryd.func8, Tryd.ntmps8
    go_wp2_with fail
    refine (P.out _).mono ?_
    rintro e w1 ⟨rfl, rfl⟩
    go_wp2
    go_ret
    exact ⟨rfl, HF.out, Chg.refl _ _⟩
set_option maxRecDepth 1000000 in
set_option maxHeartbeats 8000000 in
theorem stick_any (B fb bo bp : Nat) (occ : List Bool) (pts : List Pt) (i : Int) (w : World) (h : FdAt w B fb bo bp occ pts) :
    Calls Tryd.prog 10 #[.pointer (some ⟨fb, 0, none⟩), .int .i64 i] w fun e w' => e = .returned (.int .i64 (stickF pts i).1) ∧ FdAt w' B fb bo bp occ (stickF pts i).2 ∧ Chg (fdFoot bo bp) w w' := by
  have HF : Hid (FdAt w B fb bo bp occ pts) := h
  have hc := h.cells
  have hfew := h.few
  obtain ⟨x0, x1⟩ := hc
  by_cases hi : 0 ≤ i ∧ i < (pts.length : Nat)
  · have hT : stickF pts i = (0, pts.set i.toNat (restF 0)) := if_pos hi
    rw [hT]
    clear hT
    obtain ⟨k, rfl, hk⟩ := nat_of hi
    obtain ⟨x, hx⟩ := at_of hk
    have hp : decide (0 ≤ (k : Int) ∧ (k : Int) < (pts.length : Nat)) = true := decide_eq_true hi
    have P : Hid (∀ W, Calls Tryd.prog 21 #[.int .i64 (k : Int), .int .i64 (pts.length : Nat)] W fun e w' => e = .returned (.bool true) ∧ w' = W) := fun W => by
      have := isPlaceF_any (k : Int) pts.length W
      rwa [hp] at this
    have HX : Hid (pts[k]? = some x) := hx
    have hki : (k : Int) < (pts.length : Int) := by omega
    clear hp hx h hi hk
    rw [Int.toNat_natCast]
    generalize hn : pts.length = n at *
    clear hn
    go_enter Tryd.func10, Tryd.ntmps10
    go_wp2_with fail
    refine (P.out _).mono ?_
    rintro e w1 ⟨rfl, rfl⟩
    clear P
    go_wp2_with fail
    have y0 := ext_cell x1
    haveI := ext_some w1
    have HB1 : Hid (Below w1.heap.size w1 w1.drew) := (Below.refl _ _).drew
    clear x0 x1
    refine wp_region_last (C := fun W => ∃ y : Ext w1, W = y.z) [0, 1, 2, 3, 4, 5] [6, 7] (by kernel_rfl) (by kernel_rfl) (by kernel_rfl) (by kernel_rfl) (by simp only [List.filterMap_cons, List.getElem?_toArray, List.getElem?_cons_zero, List.getElem?_cons_succ, List.filterMap_nil]; rfl) (by simp only [List.filterMap_cons, List.getElem?_toArray, List.getElem?_cons_zero, List.getElem?_cons_succ, List.filterMap_nil]; rfl) ⟨⟨_, (Below.refl _ _).drew⟩, rfl⟩ ?_
    (repeat (first | (with_reducible refine mix_read (by kernel_rfl) ?_; go_big_quiet_want; go_big_quiet_op; go_big_quiet_on; with_reducible refine wpQuiet_nil ?_) | (with_reducible refine mix_pass (by kernel_rfl) ?_; go_big_quiet_skip; with_reducible refine wpQuiet_nil ?_)))
    with_reducible refine mix_call (by kernel_rfl) (by kernel_rfl) ((resting_any 0 _).mono ?_) (by kernel_rfl)
    rintro e w2 ⟨rfl, hb2⟩
    have HB2 : Hid (Below w1.heap.size w1 w2) := HB1.out.trans (hb2.mono HB1.out.size)
    clear hb2
    refine ⟨_, rfl, ⟨⟨_, HB2.out⟩, rfl⟩, ?_⟩
    simp only [Act.put, List.setIfInBounds_toArray, List.set_cons_zero, List.set_cons_succ]
    with_reducible refine mix_end ?_
    have HFD : Hid (FdAt w2 B fb bo bp occ pts) := HF.out.below HB2.out
    have HP : Hid (FdAt (((w2.setCell ⟨bp, k * 3, none⟩ (.int .i64 0)).setCell ⟨bp, k * 3 + 1, none⟩ (.int .i64 0)).setCell ⟨bp, k * 3 + 2, none⟩ (.int .i64 0)) B fb bo bp occ (pts.set k (restF 0)) ∧ Chg (fdFoot bo bp) w1 (((w2.setCell ⟨bp, k * 3, none⟩ (.int .i64 0)).setCell ⟨bp, k * 3 + 1, none⟩ (.int .i64 0)).setCell ⟨bp, k * 3 + 2, none⟩ (.int .i64 0))) := ⟨(HFD.out.put2 k (restF 0) (ptOk_rest 0)).1, (Chg.of_below HB2.out).trans (HFD.out.put2 k (restF 0) (ptOk_rest 0)).2⟩
    obtain ⟨⟨c0, c1, c2⟩, fz⟩ := HFD.out.ptAt HX.out
    have f0 := fz (k * 3)
    have f1 := fz (k * 3 + 1)
    have f2 := fz (k * 3 + 2)
    clear y0 HFD HB1 HB2 fz
    simp only [ptV, restF]
    go_wp2
    go_ret
    exact ⟨rfl, HP.out⟩
  · have hT : stickF pts i = (5, pts) := if_neg hi
    rw [hT]
    clear hT
    have hp : decide (0 ≤ i ∧ i < (pts.length : Nat)) = false := decide_eq_false hi
    have P : Hid (∀ W, Calls Tryd.prog 21 #[.int .i64 i, .int .i64 (pts.length : Nat)] W fun e w' => e = .returned (.bool false) ∧ w' = W) := fun W => by
      have := isPlaceF_any i pts.length W
      rwa [hp] at this
    clear hp hi h
    generalize hn : pts.length = n at *
    clear hn
    go_enter Tryd.func10, Tryd.ntmps10
    go_wp2_with fail
    refine (P.out _).mono ?_
    rintro e w1 ⟨rfl, rfl⟩
    go_wp2
    go_ret
    exact ⟨rfl, HF.out, Chg.refl _ _⟩

/-- Are these as many positions? -/
def mayDrB (n : Nat) (d : List Int) : Bool := decide (d.length = n) && !(d.any noPos)

set_option maxRecDepth 1000000 in
set_option maxHeartbeats 8000000 in
theorem mayDrive_any (B fb bo bp : Nat) (occ : List Bool) (pts : List Pt) (v : Value) (d : List Int) (w : World) (h : FdAt w B fb bo bp occ pts) (hd : rowAt w v 1 iC d) (hl : d.length ≤ 4294967296) :
    Calls Tryd.prog 22 #[.pointer (some ⟨fb, 0, none⟩), v] w fun e w' => e = .returned (.bool (mayDrB pts.length d)) ∧ Below w.heap.size w w' := by
  have C := containsFdPos_any v d noPos w hd hl fun x W _ _ => isNoPos_any x W
  obtain ⟨x0, x1⟩ := h.cells
  obtain ⟨o, c, rfl, _⟩ := hd
  have hfew := h.few.2
  unfold mayDrB
  clear h
  generalize d.any noPos = an at *
  generalize hm : d.length = m at *
  generalize hn : pts.length = n at *
  clear hm hn
  by_cases hmn : m = n
  · subst hmn
    go_enter Tryd.func22, Tryd.ntmps22
    go_wp2_with fail
    refine C.mono ?_
    rintro e w1 ⟨rfl, hb⟩
    go_wp2
    go_ret
    exact ⟨ret_bool (by simp), hb⟩
  · have hq : ((m : Int) == (n : Int)) = false := by simp; omega
    have hq2 : decide (m = n) = false := decide_eq_false hmn
    rw [hq2]
    clear hmn hq2
    go_enter Tryd.func22, Tryd.ntmps22
    go_wp2
    go_ret
    exact ⟨rfl, Below.refl _ _⟩
end Go.Proofs.YthmbpohebcnehaaDoor
