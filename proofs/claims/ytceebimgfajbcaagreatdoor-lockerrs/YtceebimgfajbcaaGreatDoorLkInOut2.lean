/-
  The reference: two answers that are one; may the field tell this? the program's own, too: by contracts.
-/
import Derived.Test.YtceebimgfajbcaaGreatDoorLkInOut
namespace Go.Proofs.YtceebimgfajbcaaGreatDoor
open Go.RowKit

set_option maxRecDepth 1000000 in
set_option maxHeartbeats 16000000 in
theorem sameOut_eq (o0 o1 o2 o3 : Option Addr) (n m c0 c1 c2 c3 : Nat) (occ : List Int) (li : List Bool) (w : World) (h0 : rowAt w (.slice o0 n c0) 1 iC occ) (h1 : rowAt w (.slice o1 m c1) 1 bC li) (h2 : rowAt w (.slice o2 n c2) 1 iC occ) (h3 : rowAt w (.slice o3 m c3) 1 bC li) (hn : n ≤ 1000 ∧ m ≤ 1000) :
    Calls Tryz.prog 13 #[.agg #[.slice o0 n c0, .slice o1 m c1], .agg #[.slice o2 n c2, .slice o3 m c3]] w fun e w' => e = .returned (.bool true) ∧ Below w.heap.size w w' := by
  have hl0 := row_len h0
  have hl1 := row_len h1
  have R0 := row_int h0
  have R1 := row_bool h1
  have R2 := row_int h2
  have R3 := row_bool h3
  have HR0 := (show Hid _ from R0)
  have HR1 := (show Hid _ from R1)
  have HR2 := (show Hid _ from R2)
  have HR3 := (show Hid _ from R3)
  have HL := (show Hid _ from And.intro hl0 hl1)
  have HN := (show Hid _ from hn)
  obtain ⟨hn1, hm1⟩ := hn
  clear h0 h1 h2 h3 hl0 hl1 R0 R1 R2 R3
  have HBP : Hid (Below w.heap.size w ((w.alloc (.cells #[.slice o0 n c0, .slice o1 m c1] 46)).alloc (.cells #[.slice o2 n c2, .slice o3 m c3] 46))) := by show Below _ _ _; exact (by repeat' (with_reducible first | exact Below.refl _ _ | refine Below.drew ?_ | refine _root_.Go.below_drewN ?_ _ | refine Below.alloc ?_ ?_ _ | refine Below.setCell ?_ ?_ _ | exact Nat.le_refl _ | (simp; done) | (simp; omega)))
  have H0 : Hid (((w.alloc (.cells #[.slice o0 n c0, .slice o1 m c1] 46)).alloc (.cells #[.slice o2 n c2, .slice o3 m c3] 46)).heap[w.heap.size]? = some (.cells #[.slice o0 n c0, .slice o1 m c1] 46 (0, 0))) := blk_old (blk_new _ _)
  have H1 : Hid (((w.alloc (.cells #[.slice o0 n c0, .slice o1 m c1] 46)).alloc (.cells #[.slice o2 n c2, .slice o3 m c3] 46)).heap[w.heap.size + 1]? = some (.cells #[.slice o2 n c2, .slice o3 m c3] 46 (0, 0))) := blk_at1 _ _ _
  obtain ⟨x0, x1⟩ := cells2 H0.out
  obtain ⟨x2, x3⟩ := cells2 H1.out
  go_enter Tryz.func13, Tryz.ntmps13
  go_wp2
  clear x0 x1 x2 x3
  generalize (w.alloc (.cells #[.slice o0 n c0, .slice o1 m c1] 46)).alloc (.cells #[.slice o2 n c2, .slice o3 m c3] 46) = w1 at *
  go_loopg [5] n (fun gk i wr => ∃ k : Nat, gk = n - k ∧ i = .int .i64 k ∧ k ≤ n ∧ Below w1.heap.size w1 wr)
  case atStart => exact ⟨0, rfl, rfl, by omega, Below.refl _ _⟩
  case round =>
    obtain ⟨k, rfl, rfl, hk, hb⟩ := hrel
    have HBR : Hid (Below w1.heap.size w1 wr) := hb
    clear hb
    obtain ⟨x0, x1⟩ := cells2 (blk_below HBR.out H0.out)
    obtain ⟨x2, x3⟩ := cells2 (blk_below HBR.out H1.out)
    by_cases hlt : k < n
    · have hki : (k : Int) < (n : Int) := by omega
      obtain ⟨z, hz⟩ : ∃ z, occ[k]? = some z := at_of (by rw [← HL.out.1]; exact hlt)
      obtain ⟨g0, f0, rfl, a0⟩ := HR0.out k z hz
      obtain ⟨g2, f2, rfl, a2⟩ := HR2.out k z hz
      have HBW : Hid (Below w.heap.size w wr) := HBP.out.trans (HBR.out.mono HBP.out.size)
      have d0 := up_cell HBW.out a0
      have d2 := up_cell HBW.out a2
      clear a0 a2 hz
      have y0 := ext_cell x0
      have y2 := ext_cell x2
      have y4 := ext_cell d0
      have y5 := ext_cell d2
      haveI := ext_some wr
      have HB3 : Hid (Below w1.heap.size w1 wr.drew) := HBR.out.drew
      go_wp2_with fail
      clear x0 x1 x2 x3 d0 d2
      refine wp_region_mix_seq (C := fun W => ∃ y : Ext wr, W = y.z) [0, 1, 2, 3, 4, 5, 6, 7, 8, 9, 10] (by kernel_rfl) (by kernel_rfl) (by kernel_rfl) (by kernel_rfl) (by simp only [List.filterMap_cons, List.getElem?_toArray, List.getElem?_cons_zero, List.getElem?_cons_succ, List.filterMap_nil]; rfl) ⟨⟨_, (Below.refl _ _).drew⟩, rfl⟩ ?_
      (repeat (first | (with_reducible refine mix_read (by kernel_rfl) ?_; go_big_quiet_want; go_big_quiet_op; go_big_quiet_on; with_reducible refine wpQuiet_nil ?_) | (with_reducible refine mix_pass (by kernel_rfl) ?_; go_big_quiet_skip; with_reducible refine wpQuiet_nil ?_)))
      with_reducible refine mix_end ?_
      intro _
      clear y0 y2 y4 y5
      go_wp2
      go_roundg (n - (k + 1))
      case rel => exact ⟨k + 1, rfl, by go_num, by omega, HB3.out⟩
      case measure => omega
    · have hki : ¬ (k : Int) < (n : Int) := by omega
      go_wp2
      clear x0 x1 x2 x3 hki hlt hk
      have HBZ : Hid (Below w1.heap.size w1 wr) := HBR.out
      clear HBR
      go_loopg [6] m (fun gk i wr => ∃ k : Nat, gk = m - k ∧ i = .int .i64 k ∧ k ≤ m ∧ Below w1.heap.size w1 wr)
      case atStart => exact ⟨0, rfl, rfl, by omega, HBZ.out⟩
      case round =>
        clear HBZ
        obtain ⟨k, rfl, rfl, hk, hb⟩ := hrel
        have HBR : Hid (Below w1.heap.size w1 wr) := hb
        clear hb
        obtain ⟨x0, x1⟩ := cells2 (blk_below HBR.out H0.out)
        obtain ⟨x2, x3⟩ := cells2 (blk_below HBR.out H1.out)
        by_cases hlt : k < m
        · have hki : (k : Int) < (m : Int) := by omega
          obtain ⟨z, hz⟩ : ∃ z, li[k]? = some z := at_of (by rw [← HL.out.2]; exact hlt)
          obtain ⟨g0, f0, rfl, a0⟩ := HR1.out k z hz
          obtain ⟨g2, f2, rfl, a2⟩ := HR3.out k z hz
          have HBW : Hid (Below w.heap.size w wr) := HBP.out.trans (HBR.out.mono HBP.out.size)
          have d0 := up_cell HBW.out a0
          have d2 := up_cell HBW.out a2
          clear a0 a2 hz
          have y1 := ext_cell x1
          have y3 := ext_cell x3
          have y4 := ext_cell d0
          have y5 := ext_cell d2
          haveI := ext_some wr
          have HB3 : Hid (Below w1.heap.size w1 wr.drew) := HBR.out.drew
          cases z
          all_goals
            go_wp2_with fail
            clear x0 x1 x2 x3 d0 d2
            refine wp_region_mix_seq (C := fun W => ∃ y : Ext wr, W = y.z) [0, 1, 2, 3, 4, 5, 6, 7, 8, 9, 10] (by kernel_rfl) (by kernel_rfl) (by kernel_rfl) (by kernel_rfl) (by simp only [List.filterMap_cons, List.getElem?_toArray, List.getElem?_cons_zero, List.getElem?_cons_succ, List.filterMap_nil]; rfl) ⟨⟨_, (Below.refl _ _).drew⟩, rfl⟩ ?_
            (repeat (first | (with_reducible refine mix_read (by kernel_rfl) ?_; go_big_quiet_want; go_big_quiet_op; go_big_quiet_on; with_reducible refine wpQuiet_nil ?_) | (with_reducible refine mix_pass (by kernel_rfl) ?_; go_big_quiet_skip; with_reducible refine wpQuiet_nil ?_)))
            with_reducible refine mix_end ?_
            intro _
            clear y1 y3 y4 y5
            go_wp2
            go_roundg (m - (k + 1))
            case rel => exact ⟨k + 1, rfl, by go_num, by omega, HB3.out⟩
            case measure => omega
        · have hki : ¬ (k : Int) < (m : Int) := by omega
          go_wp2
          go_ret
          exact ⟨rfl, HBP.out.trans (HBR.out.mono HBP.out.size)⟩


set_option maxRecDepth 1000000 in
set_option maxHeartbeats 8000000 in
theorem rfMayIn_any (v : Nat → Value) (l : Lay) (rs : List RtV) (u : Nat → Value) (occ : List Bool) (lies : List Int) (w : World) (h : LayRd w v l rs) (hin : InRd w u occ lies) (hl : lies.length ≤ 4294967296) :
    Calls Tryz.prog 12 #[.agg #[v 0, v 1, v 2, v 3], .agg #[u 0, u 1]] w fun e w' => e = .returned (.bool (inB2 occ lies l.sections.length l.points.length)) ∧ Below w.heap.size w w' := by
  obtain ⟨o0, c0, e0, _⟩ := h.s
  obtain ⟨o1, c1, e1, _⟩ := h.p
  obtain ⟨o2, c2, e2, _⟩ := h.g
  obtain ⟨o3, c3, e3, _⟩ := h.r
  obtain ⟨p0, d0, f0, _⟩ := hin.o
  have HL : Hid (rowAt w (u 1) 1 iC lies) := hin.l
  obtain ⟨p1, d1, f1, _⟩ := hin.l
  rw [f1] at HL
  rw [f0, f1]
  rw [e0, e1, e2, e3]
  have HF : Hid (inB2 occ lies l.sections.length l.points.length = (decide ((occ.length : Int) = l.sections.length) && (decide ((lies.length : Int) = l.points.length) && !(lies.any posB)))) := rfl
  clear h hin e0 e1 e2 e3 f0 f1
  generalize inB2 occ lies l.sections.length l.points.length = ans at *
  generalize l.sections.length = n0 at *
  generalize l.points.length = n1 at *
  generalize l.signals.length = n2 at *
  generalize rs.length = n3 at *
  generalize occ.length = m0 at *
  generalize hm1 : lies.length = m1 at *
  have HM : Hid (lies.length = m1) := hm1
  clear hm1
  generalize hch : (w.alloc (.cells #[.slice o0 n0 c0, .slice o1 n1 c1, .slice o2 n2 c2, .slice o3 n3 c3] 26)).alloc (.cells #[.slice p0 m0 d0, .slice p1 m1 d1] 38) = w1
  have HBP : Hid (Below w.heap.size w w1) := by show Below _ _ _; rw [← hch]; exact (by repeat' (with_reducible first | exact Below.refl _ _ | refine Below.drew ?_ | refine _root_.Go.below_drewN ?_ _ | refine Below.alloc ?_ ?_ _ | refine Below.setCell ?_ ?_ _ | exact Nat.le_refl _ | (simp; done) | (simp; omega)))
  have H0 : Hid (w1.heap[w.heap.size]? = some (.cells #[.slice o0 n0 c0, .slice o1 n1 c1, .slice o2 n2 c2, .slice o3 n3 c3] 26 (0, 0))) := by show _ = _; rw [← hch]; exact blk_old (blk_new _ _)
  have H1 : Hid (w1.heap[w.heap.size + 1]? = some (.cells #[.slice p0 m0 d0, .slice p1 m1 d1] 38 (0, 0))) := by show _ = _; rw [← hch]; exact blk_at1 _ _ _
  obtain ⟨⟨x0, x1, -, -⟩, -⟩ := cells4 H0.out
  obtain ⟨y0, y1⟩ := cells2 H1.out
  go_enter Tryz.func12, Tryz.ntmps12
  go_wp2
  clear hch
  go_loopg [5] m1 (fun gk i wr => ∃ k : Nat, gk = m1 - k ∧ i = .int .i64 k ∧ k ≤ m1 ∧ (∀ j q, j < k → lies[j]? = some q → posB q = false) ∧ wr = w1)
  case atStart => exact ⟨0, rfl, rfl, by omega, by omega, rfl⟩
  case round =>
    obtain ⟨k, rfl, rfl, hk, hno, rfl⟩ := hrel
    have HNO : Hid (∀ j q, j < k → lies[j]? = some q → posB q = false) := hno
    clear hno
    by_cases hlt : k < m1
    · obtain ⟨q, hq⟩ := at_of (l := lies) (k := k) (by rw [HM.out]; exact hlt)
      have HQ : Hid (lies[k]? = some q) := hq
      obtain ⟨g, f, e, a0⟩ := row_int HL.out k q hq
      subst e
      have d0 := up_cell HBP.out a0
      have hki : (k : Int) < (m1 : Int) := by omega
      clear hq a0
      by_cases h0 : q < 0
      · have HA : Hid (ans = false) := by
          have : lies.any posB = true := List.any_eq_true.2 ⟨q, List.mem_of_getElem? HQ.out, decide_eq_true (.inl h0)⟩
          show _ = _
          rw [HF.out, this]
          simp
        go_wp2
        go_ret
        exact ⟨ret_bool HA.out.symm, HBP.out⟩
      by_cases h2 : 2 < q
      · have HA : Hid (ans = false) := by
          have : lies.any posB = true := List.any_eq_true.2 ⟨q, List.mem_of_getElem? HQ.out, decide_eq_true (.inr h2)⟩
          show _ = _
          rw [HF.out, this]
          simp
        go_wp2
        go_ret
        exact ⟨ret_bool HA.out.symm, HBP.out⟩
      have HNX : Hid (∀ j z, j < k + 1 → lies[j]? = some z → posB z = false) := fun j z hj hz => by
        by_cases hjk : j < k
        · exact HNO.out j z hjk hz
        · have hj2 : j = k := by omega
          rw [hj2, HQ.out] at hz
          rw [← Option.some.inj hz]
          exact decide_eq_false (by omega)
      go_wp2
      go_roundg (m1 - (k + 1))
      case rel => exact ⟨k + 1, rfl, by go_num, by omega, HNX.out, rfl⟩
      case measure => omega
    · have hkm : k = m1 := by omega
      subst hkm
      have HA : Hid (ans = (decide ((m0 : Int) = n0) && decide ((k : Int) = n1))) := by
        have : lies.any posB = false := List.any_eq_false.2 fun z hz => by
          obtain ⟨j, hj⟩ := List.getElem?_of_mem hz
          rw [HNO.out j z (by rw [← HM.out]; exact (List.getElem?_eq_some_iff.1 hj).1) hj]
          decide
        show _ = _
        rw [HF.out, this]
        simp
      by_cases h0 : (m0 : Int) = (n0 : Int)
      · have d0 : ((m0 : Int) == (n0 : Int)) = true := by simp [h0]
        by_cases h1 : (k : Int) = (n1 : Int)
        · have d1 : ((k : Int) == (n1 : Int)) = true := by simp [h1]
          have HB : Hid (ans = true) := by show _ = _; rw [HA.out, decide_eq_true h0, decide_eq_true h1]; rfl
          clear h0 h1
          go_wp2
          go_ret
          exact ⟨ret_bool HB.out.symm, HBP.out⟩
        · have d1 : ((k : Int) == (n1 : Int)) = false := by simp [h1]
          have HB : Hid (ans = false) := by show _ = _; rw [HA.out, decide_eq_false h1, Bool.and_false]
          clear h0 h1
          go_wp2
          go_ret
          exact ⟨ret_bool HB.out.symm, HBP.out⟩
      · have d0 : ((m0 : Int) == (n0 : Int)) = false := by simp [h0]
        have HB : Hid (ans = false) := by show _ = _; rw [HA.out, decide_eq_false h0]; rfl
        clear h0
        go_wp2
        go_ret
        exact ⟨ret_bool HB.out.symm, HBP.out⟩
end Go.Proofs.YtceebimgfajbcaaGreatDoor
