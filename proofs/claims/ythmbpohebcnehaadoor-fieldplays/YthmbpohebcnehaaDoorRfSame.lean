/-
  The reference: are two that were told one? where they are one: by a contract.
-/
import Derived.Test.YthmbpohebcnehaaDoorRfNew
namespace Go.Proofs.YthmbpohebcnehaaDoor
open Go.RowKit

set_option maxRecDepth 1000000 in
set_option maxHeartbeats 16000000 in
theorem sameIn_eq (o0 o1 o2 o3 : Option Addr) (n m c0 c1 c2 c3 : Nat) (occ : List Bool) (li : List Int) (w : World) (h0 : rowAt w (.slice o0 n c0) 1 bC occ) (h1 : rowAt w (.slice o1 m c1) 1 iC li) (h2 : rowAt w (.slice o2 n c2) 1 bC occ) (h3 : rowAt w (.slice o3 m c3) 1 iC li) (hn : n ≤ 1000 ∧ m ≤ 1000) :
    Calls Tryd.prog 15 #[.agg #[.slice o0 n c0, .slice o1 m c1], .agg #[.slice o2 n c2, .slice o3 m c3]] w fun e w' => e = .returned (.bool true) ∧ Below w.heap.size w w' := by
  have hl0 := row_len h0
  have hl1 := row_len h1
  have R0 := row_bool h0
  have R1 := row_int h1
  have R2 := row_bool h2
  have R3 := row_int h3
  have HR0 := (show Hid _ from R0)
  have HR1 := (show Hid _ from R1)
  have HR2 := (show Hid _ from R2)
  have HR3 := (show Hid _ from R3)
  have HL := (show Hid _ from And.intro hl0 hl1)
  have HN := (show Hid _ from hn)
  obtain ⟨hn1, hm1⟩ := hn
  clear h0 h1 h2 h3 hl0 hl1 R0 R1 R2 R3
  have HBP : Hid (Below w.heap.size w ((w.alloc (.cells #[.slice o0 n c0, .slice o1 m c1] 46)).alloc (.cells #[.slice o2 n c2, .slice o3 m c3] 46))) := by show Below _ _ _; exact (by repeat' (with_reducible first | exact Below.refl _ _ | refine Below.drew ?_ | refine _root_.Go.below_drewN ?_ _ | refine Below.alloc ?_ ?_ _ | refine Below.setCell ?_ ?_ _ | exact Nat.le_refl _ | (simp; done) | (simp; omega)))
  have H0 : Hid (((w.alloc (.cells #[.slice o0 n c0, .slice o1 m c1] 46)).alloc (.cells #[.slice o2 n c2, .slice o3 m c3] 46)).heap[w.heap.size]? = some (.cells #[.slice o0 n c0, .slice o1 m c1] 46 (0, 0))) := blk_old (blk_new _ _)
  have H1 : Hid (((w.alloc (.cells #[.slice o0 n c0, .slice o1 m c1] 46)).alloc (.cells #[.slice o2 n c2, .slice o3 m c3] 46)).heap[w.heap.size + 1]? = some (.cells #[.slice o2 n c2, .slice o3 m c3] 46 (0, 0))) := blk_at1 _ _ _
  obtain ⟨x0, x1⟩ := cells2 H0.out
  obtain ⟨x2, x3⟩ := cells2 H1.out
  go_enter Tryd.func15, Tryd.ntmps15
  go_wp2
  clear x0 x1 x2 x3
  generalize (w.alloc (.cells #[.slice o0 n c0, .slice o1 m c1] 46)).alloc (.cells #[.slice o2 n c2, .slice o3 m c3] 46) = w1 at *
  go_loopg [5] n (fun gk i wr => ∃ k : Nat, gk = n - k ∧ i = .int .i64 k ∧ k ≤ n ∧ Below w1.heap.size w1 wr)
  case atStart => exact ⟨0, rfl, rfl, by omega, Below.refl _ _⟩
  case round =>
    obtain ⟨k, rfl, rfl, hk, hb⟩ := hrel
    have HBR : Hid (Below w1.heap.size w1 wr) := hb
    clear hb
    obtain ⟨x0, x1⟩ := cells2 (blk_below HBR.out H0.out)
    obtain ⟨x2, x3⟩ := cells2 (blk_below HBR.out H1.out)
    by_cases hlt : k < n
    · have hki : (k : Int) < (n : Int) := by omega
      obtain ⟨z, hz⟩ : ∃ z, occ[k]? = some z := at_of (by rw [← HL.out.1]; exact hlt)
      obtain ⟨g0, f0, rfl, a0⟩ := HR0.out k z hz
      obtain ⟨g2, f2, rfl, a2⟩ := HR2.out k z hz
      have HBW : Hid (Below w.heap.size w wr) := HBP.out.trans (HBR.out.mono HBP.out.size)
      have d0 := up_cell HBW.out a0
      have d2 := up_cell HBW.out a2
      clear a0 a2 hz
      have y0 := ext_cell x0
      have y2 := ext_cell x2
      have y4 := ext_cell d0
      have y5 := ext_cell d2
      haveI := ext_some wr
      have HB3 : Hid (Below w1.heap.size w1 wr.drew) := HBR.out.drew
      cases z
      all_goals
        go_wp2_with fail
        clear x0 x1 x2 x3 d0 d2
        refine wp_region_mix_seq (C := fun W => ∃ y : Ext wr, W = y.z) [0, 1, 2, 3, 4, 5, 6, 7, 8, 9, 10] (by kernel_rfl) (by kernel_rfl) (by kernel_rfl) (by kernel_rfl) (by simp only [List.filterMap_cons, List.getElem?_toArray, List.getElem?_cons_zero, List.getElem?_cons_succ, List.filterMap_nil]; rfl) ⟨⟨_, (Below.refl _ _).drew⟩, rfl⟩ ?_
        (repeat (first | (with_reducible refine mix_read (by kernel_rfl) ?_; go_big_quiet_want; go_big_quiet_op; go_big_quiet_on; with_reducible refine wpQuiet_nil ?_) | (with_reducible refine mix_pass (by kernel_rfl) ?_; go_big_quiet_skip; with_reducible refine wpQuiet_nil ?_)))
        with_reducible refine mix_end ?_
        intro _
        clear y0 y2 y4 y5
        go_wp2
        go_roundg (n - (k + 1))
        case rel => exact ⟨k + 1, rfl, by go_num, by omega, HB3.out⟩
        case measure => omega
    · have hki : ¬ (k : Int) < (n : Int) := by omega
      go_wp2
      clear x0 x1 x2 x3 hki hlt hk
      have HBZ : Hid (Below w1.heap.size w1 wr) := HBR.out
      clear HBR
      go_loopg [6] m (fun gk i wr => ∃ k : Nat, gk = m - k ∧ i = .int .i64 k ∧ k ≤ m ∧ Below w1.heap.size w1 wr)
      case atStart => exact ⟨0, rfl, rfl, by omega, HBZ.out⟩
      case round =>
        clear HBZ
        obtain ⟨k, rfl, rfl, hk, hb⟩ := hrel
        have HBR : Hid (Below w1.heap.size w1 wr) := hb
        clear hb
        obtain ⟨x0, x1⟩ := cells2 (blk_below HBR.out H0.out)
        obtain ⟨x2, x3⟩ := cells2 (blk_below HBR.out H1.out)
        by_cases hlt : k < m
        · have hki : (k : Int) < (m : Int) := by omega
          obtain ⟨z, hz⟩ : ∃ z, li[k]? = some z := at_of (by rw [← HL.out.2]; exact hlt)
          obtain ⟨g0, f0, rfl, a0⟩ := HR1.out k z hz
          obtain ⟨g2, f2, rfl, a2⟩ := HR3.out k z hz
          have HBW : Hid (Below w.heap.size w wr) := HBP.out.trans (HBR.out.mono HBP.out.size)
          have d0 := up_cell HBW.out a0
          have d2 := up_cell HBW.out a2
          clear a0 a2 hz
          have y1 := ext_cell x1
          have y3 := ext_cell x3
          have y4 := ext_cell d0
          have y5 := ext_cell d2
          haveI := ext_some wr
          have HB3 : Hid (Below w1.heap.size w1 wr.drew) := HBR.out.drew
          go_wp2_with fail
          clear x0 x1 x2 x3 d0 d2
          refine wp_region_mix_seq (C := fun W => ∃ y : Ext wr, W = y.z) [0, 1, 2, 3, 4, 5, 6, 7, 8, 9, 10] (by kernel_rfl) (by kernel_rfl) (by kernel_rfl) (by kernel_rfl) (by simp only [List.filterMap_cons, List.getElem?_toArray, List.getElem?_cons_zero, List.getElem?_cons_succ, List.filterMap_nil]; rfl) ⟨⟨_, (Below.refl _ _).drew⟩, rfl⟩ ?_
          (repeat (first | (with_reducible refine mix_read (by kernel_rfl) ?_; go_big_quiet_want; go_big_quiet_op; go_big_quiet_on; with_reducible refine wpQuiet_nil ?_) | (with_reducible refine mix_pass (by kernel_rfl) ?_; go_big_quiet_skip; with_reducible refine wpQuiet_nil ?_)))
          with_reducible refine mix_end ?_
          intro _
          clear y1 y3 y4 y5
          go_wp2
          go_roundg (m - (k + 1))
          case rel => exact ⟨k + 1, rfl, by go_num, by omega, HB3.out⟩
          case measure => omega
        · have hki : ¬ (k : Int) < (m : Int) := by omega
          go_wp2
          go_ret
          exact ⟨rfl, HBP.out.trans (HBR.out.mono HBP.out.size)⟩
end Go.Proofs.YthmbpohebcnehaaDoor
