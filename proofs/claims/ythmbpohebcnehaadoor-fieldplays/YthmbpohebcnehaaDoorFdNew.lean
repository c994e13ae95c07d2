/-
  Package field: New, by contracts.
-/
import Derived.Test.YthmbpohebcnehaaDoorFdIn
namespace Go.Proofs.YthmbpohebcnehaaDoor
open Go.RowKit

theorem infoPt : (Tryd.prog.info? 63).map (fun i => (i.zero, i.size, i.bytes)) = some (some (.agg #[.int .i64 0, .int .i64 0, .int .i64 0]), 3, 24) := by kernel_rfl
theorem made_pt (n : Nat) : madeCells #[Value.int .i64 0, .int .i64 0, .int .i64 0] (n * 3) = ((List.replicate n (restF 0)).flatMap ptC).toArray := by
  apply Array.ext
  · rw [size_madeCells, List.size_toArray, flat_pt_len, List.length_replicate]
  · intro i h1 h2
    rw [size_madeCells] at h1
    have hq : i / 3 < (List.replicate n (restF 0)).length := by rw [List.length_replicate]; omega
    have hi : i % 3 < 3 := Nat.mod_lt _ (by omega)
    have h3 := flat_pt_at hq hi
    rw [show i / 3 * 3 + i % 3 = i by omega] at h3
    have h4 : ((List.replicate n (restF 0)).flatMap ptC)[i]? = some (((List.replicate n (restF 0)).flatMap ptC).toArray[i]) := by
      rw [List.getElem_toArray]
      exact List.getElem?_eq_getElem _
    rw [h4, List.getElem_replicate] at h3
    have h5 : (ptC (restF 0))[i % 3]? = some ((madeCells #[Value.int .i64 0, .int .i64 0, .int .i64 0] (n * 3))[i]'(by rw [size_madeCells]; exact h1)) := by
      simp only [madeCells, Array.getElem_map, Array.getElem_range]
      generalize i % 3 = j at hi ⊢
      match j, hi with
      | 0, _ => rfl
      | 1, _ => rfl
      | 2, _ => rfl
    rw [h5] at h3
    exact (Option.some.inj h3).symm
theorem mk_pt (n : Nat) (hn : n ≤ 1000) (w : World) : (Instr.makeSlice 59 (.int .i64 (n : Int)) (.int .i64 (n : Int))).run Tryd.prog w = .ok (.slice (some ⟨w.heap.size, 0, none⟩) n n) (w.alloc (.cells ((List.replicate n (restF 0)).flatMap ptC).toArray 63)) := by
  obtain ⟨i, hi, hz, hs, hb⟩ := info_parts infoPt
  have := run_makeSlice (P := Tryd.prog) w 59 63 i (.agg #[.int .i64 0, .int .i64 0, .int .i64 0]) Tryd.underlying59 hi hz .i64 .i64 n n (by omega) (Int.le_refl _) (by rw [hs]; omega) (by rw [hb]; omega) (by omega)
  rw [this]
  simp only [Int.toNat_natCast, hs]
  rw [← made_pt]
  rfl

set_option maxRecDepth 1000000 in
set_option maxHeartbeats 16000000 in
theorem fdNew_no (v : Nat → Value) (l : Lay) (rs : List RtV) (w : World) (h : LayRd w v l rs) (hm : IsMid l rs v) (hi : isB l = false) :
    Calls Tryd.prog 6 #[.agg #[v 0, v 1, v 2, v 3]] w fun e w' => e = .returned (.tuple #[.pointer none, .int .i64 9]) ∧ Below w.heap.size w w' := by
  have IS : Hid (∀ W, Below w.heap.size w W → Calls Tryd.prog 19 #[.agg #[v 0, v 1, v 2, v 3]] W fun e w' => e = .returned (.bool false) ∧ Below W.heap.size W w') := fun W hW => by
    have := tableIs_any v l rs W (h.below hW) hm
    rw [hi] at this
    exact this
  obtain ⟨o0, c0, e0, _⟩ := h.s
  obtain ⟨o1, c1, e1, _⟩ := h.p
  obtain ⟨o2, c2, e2, _⟩ := h.g
  obtain ⟨o3, c3, e3, _⟩ := h.r
  rw [e0, e1, e2, e3] at IS ⊢
  clear h hm e0 e1 e2 e3 hi
  generalize l.sections.length = n0 at *
  generalize l.points.length = n1 at *
  generalize l.signals.length = n2 at *
  generalize rs.length = n3 at *
  generalize hch : w.alloc (.cells #[.slice o0 n0 c0, .slice o1 n1 c1, .slice o2 n2 c2, .slice o3 n3 c3] 26) = w1
  have HB1 : Hid (Below w.heap.size w w1) := by show Below _ _ _; rw [← hch]; exact (Below.refl _ _).alloc (Nat.le_refl _) _
  have H0 : Hid (w1.heap[w.heap.size]? = some (.cells #[.slice o0 n0 c0, .slice o1 n1 c1, .slice o2 n2 c2, .slice o3 n3 c3] 26 (0, 0))) := by show _ = _; rw [← hch]; exact blk_new _ _
  obtain ⟨⟨x0, x1, x2, x3⟩, _⟩ := cells4 H0.out
  go_enter Tryd.func6, Tryd.ntmps6
  go_wp2_with fail
  clear x0 x1 x2 x3 hch
  refine (IS.out _ HB1.out).mono ?_
  rintro e w2 ⟨rfl, hb2⟩
  have HB2 : Hid (Below w.heap.size w w2) := HB1.out.trans (hb2.mono HB1.out.size)
  clear hb2
  go_wp2
  go_ret2
  exact ⟨rfl, HB2.out⟩

set_option maxRecDepth 1000000 in
set_option maxHeartbeats 32000000 in
theorem fdNew_ok (v : Nat → Value) (l : Lay) (rs : List RtV) (w : World) (h : LayRd w v l rs) (hm : IsMid l rs v) (hi : isB l = true) (hb : l.sections.length ≤ 1000 ∧ l.points.length ≤ 1000) :
    Calls Tryd.prog 6 #[.agg #[v 0, v 1, v 2, v 3]] w fun e w' => ∃ fb bo bp, e = .returned (.tuple #[.pointer (some ⟨fb, 0, none⟩), .int .i64 0]) ∧ FdAt w' w.heap.size fb bo bp (List.replicate l.sections.length false) (List.replicate l.points.length (restF 1)) ∧ Below w.heap.size w w' := by
  have IS : Hid (∀ W, Below w.heap.size w W → Calls Tryd.prog 19 #[.agg #[v 0, v 1, v 2, v 3]] W fun e w' => e = .returned (.bool true) ∧ Below W.heap.size W w') := fun W hW => by
    have := tableIs_any v l rs W (h.below hW) hm
    rw [hi] at this
    exact this
  obtain ⟨o0, c0, e0, _⟩ := h.s
  obtain ⟨o1, c1, e1, _⟩ := h.p
  obtain ⟨o2, c2, e2, _⟩ := h.g
  obtain ⟨o3, c3, e3, _⟩ := h.r
  rw [e0, e1, e2, e3] at IS ⊢
  obtain ⟨hb1, hb2⟩ := hb
  clear h hm e0 e1 e2 e3 hi
  generalize l.sections.length = n0 at *
  generalize l.points.length = n1 at *
  generalize l.signals.length = n2 at *
  generalize rs.length = n3 at *
  have HBN : Hid (n0 ≤ 1000 ∧ n1 ≤ 1000) := ⟨hb1, hb2⟩
  have MB : Hid (∀ w : World, (Instr.makeSlice 44 (.int .i64 (n0 : Int)) (.int .i64 (n0 : Int))).run Tryd.prog w = .ok (.slice (some ⟨w.heap.size, 0, none⟩) n0 n0) (w.alloc (.cells ((List.replicate n0 false).map Value.bool).toArray 4))) := fun w => mk_bool n0 hb1 w
  have MP : Hid (∀ w : World, (Instr.makeSlice 59 (.int .i64 (n1 : Int)) (.int .i64 (n1 : Int))).run Tryd.prog w = .ok (.slice (some ⟨w.heap.size, 0, none⟩) n1 n1) (w.alloc (.cells ((List.replicate n1 (restF 0)).flatMap ptC).toArray 63))) := fun w => mk_pt n1 hb2 w
  generalize hcb : ((List.replicate n0 false).map Value.bool).toArray = cb at MB
  have HCB : Hid (((List.replicate n0 false).map Value.bool).toArray = cb) := hcb
  generalize hcp : ((List.replicate n1 (restF 0)).flatMap ptC).toArray = cp at MP
  have HCP : Hid (((List.replicate n1 (restF 0)).flatMap ptC).toArray = cp) := hcp
  generalize hch : w.alloc (.cells #[.slice o0 n0 c0, .slice o1 n1 c1, .slice o2 n2 c2, .slice o3 n3 c3] 26) = w1
  have HB1 : Hid (Below w.heap.size w w1) := by show Below _ _ _; rw [← hch]; exact (Below.refl _ _).alloc (Nat.le_refl _) _
  have H0 : Hid (w1.heap[w.heap.size]? = some (.cells #[.slice o0 n0 c0, .slice o1 n1 c1, .slice o2 n2 c2, .slice o3 n3 c3] 26 (0, 0))) := by show _ = _; rw [← hch]; exact blk_new _ _
  obtain ⟨⟨x0, x1, x2, x3⟩, _⟩ := cells4 H0.out
  clear hcb hcp
  go_enter Tryd.func6, Tryd.ntmps6
  go_wp2_with fail
  clear x0 x1 x2 x3 hch
  refine (IS.out _ HB1.out).mono ?_
  rintro e w2 ⟨rfl, hb2⟩
  have HB2 : Hid (Below w.heap.size w w2) := HB1.out.trans (hb2.mono HB1.out.size)
  have H02 : Hid (w2.heap[w.heap.size]? = some (.cells #[.slice o0 n0 c0, .slice o1 n1 c1, .slice o2 n2 c2, .slice o3 n3 c3] 26 (0, 0))) := blk_below hb2 H0.out
  clear hb2
  obtain ⟨⟨x0, x1, x2, x3⟩, _⟩ := cells4 H02.out
  go_upto_region 3 with fail
  go_cut [4] from 9 to 18 (fun s wc => ∃ fb bo bp, s = .pointer (some ⟨fb, 0, none⟩) ∧ FdAt wc w.heap.size fb bo bp (List.replicate n0 false) (List.replicate n1 (restF 0)) ∧ Below w.heap.size w wc)
  case first =>
    have y0 := ext_cell x0
    have y1 := ext_cell x1
    haveI := ext_some w2
    have HT : Hid (Below w2.heap.size w2 w2.drew) := (Below.refl _ _).drew
    clear x0 x1 x2 x3
    refine wp_region_tree (C := fun W => ∃ y : Ext w2, W = y.z) [0, 1, 2, 3, 4, 5, 6, 7, 8, 9, 10] (by kernel_rfl) (by kernel_rfl) rfl rfl ⟨⟨_, (Below.refl _ _).drew⟩, rfl⟩ ?_
    generalize w2.drew = w3 at *
    refine tree_seq [0, 1, 2, 4, 5, 6] (by kernel_rfl) (by kernel_rfl) (show 11 = 5 + 6 from rfl) (by kernel_rfl) (by simp only [List.filterMap_cons, List.getElem?_toArray, List.getElem?_cons_zero, List.getElem?_cons_succ, List.filterMap_nil]; rfl) rfl ?_
    (repeat (first | (with_reducible refine mix_read (by kernel_rfl) ?_; go_big_quiet_want; go_big_quiet_op; go_big_quiet_on; with_reducible refine wpQuiet_nil ?_) | (with_reducible refine mix_pass (by kernel_rfl) ?_; go_big_quiet_skip; with_reducible refine wpQuiet_nil ?_)))
    with_reducible refine mix_end ?_
    have HE : Hid (w2.heap.size ≤ w3.heap.size) := HT.out.size
    have HWE : Hid (w.heap.size ≤ w3.heap.size) := Nat.le_trans HB2.out.size HT.out.size
    have fin : ∀ (bo bp : Nat) (W : World), Below w2.heap.size w2 W → w.heap.size ≤ bo → w.heap.size ≤ bp → W.heap[bo]? = some (.cells cb 4 (0, 0)) → W.heap[bp]? = some (.cells cp 63 (0, 0)) → ∃ fb bo' bp', (.pointer (some ⟨W.heap.size, 0, none⟩) : Value) = .pointer (some ⟨fb, 0, none⟩) ∧ FdAt (W.alloc (.cells #[.slice (some ⟨bo, 0, none⟩) n0 n0, .slice (some ⟨bp, 0, none⟩) n1 n1] 61)) w.heap.size fb bo' bp' (List.replicate n0 false) (List.replicate n1 (restF 0)) ∧ Below w.heap.size w (W.alloc (.cells #[.slice (some ⟨bo, 0, none⟩) n0 n0, .slice (some ⟨bp, 0, none⟩) n1 n1] 61)) := fun bo bp W hW h1 h2 h3 h4 => by
      have hWW := HB2.out.trans (hW.mono HB2.out.size)
      refine ⟨_, bo, bp, rfl, ⟨by rw [List.length_replicate, List.length_replicate]; exact blk_new _ _, by rw [HCB.out]; exact blk_old h3, by rw [HCP.out]; exact blk_old h4, ⟨hWW.size, h1, h2⟩, fun p hp => by rw [List.eq_of_mem_replicate hp]; exact ptOk_rest 0, by rw [List.length_replicate, List.length_replicate]; exact HBN.out⟩, hWW.alloc hWW.size _⟩
    have FIN := (show Hid _ from fin)
    clear fin
    refine tree_two 3 7 (show 5 = 4 + 1 from rfl) (by kernel_rfl) (by kernel_rfl) (by simp only [List.getElem?_toArray, List.getElem?_cons_zero, List.getElem?_cons_succ]; rfl) (by simp only [List.getElem?_toArray, List.getElem?_cons_zero, List.getElem?_cons_succ]; rfl) rfl rfl ?_ ?_
    · have HC1 : Hid (Below w2.heap.size w2 (w3.alloc (.cells cb 4))) := HT.out.alloc HE.out _
      refine mix_does (by kernel_rfl) (by kernel_rfl) (run_does (MB.out w3)) ⟨⟨_, HC1.out⟩, rfl⟩ ?_
      simp only [Act.put, List.setIfInBounds_toArray, List.set_cons_zero, List.set_cons_succ]
      with_reducible refine mix_end ?_
      refine tree_seq [7, 8, 9, 10] (by kernel_rfl) (by kernel_rfl) (show 4 = 0 + 4 from rfl) (by kernel_rfl) (by simp only [List.filterMap_cons, List.getElem?_toArray, List.getElem?_cons_zero, List.getElem?_cons_succ, List.filterMap_nil]; rfl) rfl ?_
      have HC2 : Hid (Below w2.heap.size w2 ((w3.alloc (.cells cb 4)).alloc (.cells cp 63))) := HC1.out.alloc HC1.out.size _
      refine mix_does (by kernel_rfl) (by kernel_rfl) (run_does (MP.out (w3.alloc (.cells cb 4)))) ⟨⟨_, HC2.out⟩, rfl⟩ ?_
      simp only [Act.put, List.setIfInBounds_toArray, List.set_cons_zero, List.set_cons_succ]
      (repeat (first | (with_reducible refine mix_read (by kernel_rfl) ?_; go_big_quiet_want; go_big_quiet_op; go_big_quiet_on; with_reducible refine wpQuiet_nil ?_) | (with_reducible refine mix_pass (by kernel_rfl) ?_; go_big_quiet_skip; with_reducible refine wpQuiet_nil ?_)))
      have hx1 : ((w3.alloc (.cells cb 4)).alloc (.cells cp 63)).heap[w3.heap.size]? = some (.cells cb 4 (0, 0)) := blk_old (blk_new _ _)
      have hx2 := blk_at1 w3 (.cells cp 63) (.cells cb 4)
      have HR := FIN.out _ _ _ HC2.out HWE.out (Nat.le_trans HWE.out (Nat.le_succ _)) hx1 hx2
      have HRR := (show Hid _ from HR)
      clear HR hx1 hx2
      have HC3 : Hid (Below w2.heap.size w2 (((w3.alloc (.cells cb 4)).alloc (.cells cp 63)).alloc (.cells #[.slice (some ⟨w3.heap.size, 0, none⟩) n0 n0, .slice (some ⟨w3.heap.size + 1, 0, none⟩) n1 n1] 61))) := HC2.out.alloc HC2.out.size _
      refine mix_does (v := .pointer (some ⟨((w3.alloc (.cells cb 4)).alloc (.cells cp 63)).heap.size, 0, none⟩)) (w' := ((w3.alloc (.cells cb 4)).alloc (.cells cp 63)).alloc (.cells #[.slice (some ⟨w3.heap.size, 0, none⟩) n0 n0, .slice (some ⟨w3.heap.size + 1, 0, none⟩) n1 n1] 61)) (by kernel_rfl) (by kernel_rfl) (by kernel_rfl) ⟨⟨_, HC3.out⟩, rfl⟩ ?_
      simp only [Act.put, List.setIfInBounds_toArray, List.set_cons_zero, List.set_cons_succ]
      generalize ((w3.alloc (.cells cb 4)).alloc (.cells cp 63)).alloc (.cells #[.slice (some ⟨w3.heap.size, 0, none⟩) n0 n0, .slice (some ⟨w3.heap.size + 1, 0, none⟩) n1 n1] 61) = w9 at *
      generalize ((w3.alloc (.cells cb 4)).alloc (.cells cp 63)).heap.size = fb at *
      (repeat (first | (with_reducible refine mix_read (by kernel_rfl) ?_; go_big_quiet_want; go_big_quiet_op; go_big_quiet_on; with_reducible refine wpQuiet_nil ?_) | (with_reducible refine mix_pass (by kernel_rfl) ?_; go_big_quiet_skip; with_reducible refine wpQuiet_nil ?_)))
      with_reducible refine mix_end ?_
      refine tree_done rfl (by kernel_rfl) ?_
      go_wp2_with fail
      go_meet
      case rel => exact HRR.out
    · have HC1 : Hid (Below w2.heap.size w2 (w3.alloc (.cells cp 63))) := HT.out.alloc HE.out _
      refine mix_does (by kernel_rfl) (by kernel_rfl) (run_does (MP.out w3)) ⟨⟨_, HC1.out⟩, rfl⟩ ?_
      simp only [Act.put, List.setIfInBounds_toArray, List.set_cons_zero, List.set_cons_succ]
      with_reducible refine mix_end ?_
      refine tree_seq [3, 8, 9, 10] (by kernel_rfl) (by kernel_rfl) (show 4 = 0 + 4 from rfl) (by kernel_rfl) (by simp only [List.filterMap_cons, List.getElem?_toArray, List.getElem?_cons_zero, List.getElem?_cons_succ, List.filterMap_nil]; rfl) rfl ?_
      have HC2 : Hid (Below w2.heap.size w2 ((w3.alloc (.cells cp 63)).alloc (.cells cb 4))) := HC1.out.alloc HC1.out.size _
      refine mix_does (by kernel_rfl) (by kernel_rfl) (run_does (MB.out (w3.alloc (.cells cp 63)))) ⟨⟨_, HC2.out⟩, rfl⟩ ?_
      simp only [Act.put, List.setIfInBounds_toArray, List.set_cons_zero, List.set_cons_succ]
      (repeat (first | (with_reducible refine mix_read (by kernel_rfl) ?_; go_big_quiet_want; go_big_quiet_op; go_big_quiet_on; with_reducible refine wpQuiet_nil ?_) | (with_reducible refine mix_pass (by kernel_rfl) ?_; go_big_quiet_skip; with_reducible refine wpQuiet_nil ?_)))
      have hx1 : ((w3.alloc (.cells cp 63)).alloc (.cells cb 4)).heap[w3.heap.size]? = some (.cells cp 63 (0, 0)) := blk_old (blk_new _ _)
      have hx2 := blk_at1 w3 (.cells cb 4) (.cells cp 63)
      have HR := FIN.out _ _ _ HC2.out (Nat.le_trans HWE.out (Nat.le_succ _)) HWE.out hx2 hx1
      have HRR := (show Hid _ from HR)
      clear HR hx1 hx2
      have HC3 : Hid (Below w2.heap.size w2 (((w3.alloc (.cells cp 63)).alloc (.cells cb 4)).alloc (.cells #[.slice (some ⟨w3.heap.size + 1, 0, none⟩) n0 n0, .slice (some ⟨w3.heap.size, 0, none⟩) n1 n1] 61))) := HC2.out.alloc HC2.out.size _
      refine mix_does (v := .pointer (some ⟨((w3.alloc (.cells cp 63)).alloc (.cells cb 4)).heap.size, 0, none⟩)) (w' := ((w3.alloc (.cells cp 63)).alloc (.cells cb 4)).alloc (.cells #[.slice (some ⟨w3.heap.size + 1, 0, none⟩) n0 n0, .slice (some ⟨w3.heap.size, 0, none⟩) n1 n1] 61)) (by kernel_rfl) (by kernel_rfl) (by kernel_rfl) ⟨⟨_, HC3.out⟩, rfl⟩ ?_
      simp only [Act.put, List.setIfInBounds_toArray, List.set_cons_zero, List.set_cons_succ]
      generalize ((w3.alloc (.cells cp 63)).alloc (.cells cb 4)).alloc (.cells #[.slice (some ⟨w3.heap.size + 1, 0, none⟩) n0 n0, .slice (some ⟨w3.heap.size, 0, none⟩) n1 n1] 61) = w9 at *
      generalize ((w3.alloc (.cells cp 63)).alloc (.cells cb 4)).heap.size = fb at *
      (repeat (first | (with_reducible refine mix_read (by kernel_rfl) ?_; go_big_quiet_want; go_big_quiet_op; go_big_quiet_on; with_reducible refine wpQuiet_nil ?_) | (with_reducible refine mix_pass (by kernel_rfl) ?_; go_big_quiet_skip; with_reducible refine wpQuiet_nil ?_)))
      with_reducible refine mix_end ?_
      refine tree_done rfl (by kernel_rfl) ?_
      go_wp2_with fail
      go_meet
      case rel => exact HRR.out
  case rest =>
    obtain ⟨fb, bo, bp, rfl, hf, hbc⟩ := hcut
    have HFC : Hid (FdAt wc w.heap.size fb bo bp (List.replicate n0 false) (List.replicate n1 (restF 0)) ∧ Below w.heap.size w wc) := ⟨hf, hbc⟩
    have hcc := hf.cells
    rw [List.length_replicate, List.length_replicate] at hcc
    obtain ⟨z0, z1⟩ := hcc
    clear hf hbc x0 x1 x2 x3 IS MB MP
    go_wp2
    go_loopg [5, 24] n1 (fun gk a1 a2 wr => ∃ (k : Nat) (cur : List Pt), gk = n1 - k ∧ a2 = .int .i64 k ∧ k ≤ n1 ∧ cur.length = n1 ∧ (∀ j, j < k → cur[j]? = some (restF 1)) ∧ FdAt wr w.heap.size fb bo bp (List.replicate n0 false) cur ∧ Below w.heap.size w wr)
    case atStart => exact ⟨0, List.replicate n1 (restF 0), rfl, rfl, by omega, by simp, by omega, HFC.out⟩
    case round =>
      obtain ⟨k, cur, rfl, rfl, hk, hcl, hc, hf, hbw⟩ := hrel
      have HCL : Hid (cur.length = n1) := hcl
      have HC : Hid (∀ j, j < k → cur[j]? = some (restF 1)) := hc
      have HFR : Hid (FdAt wr w.heap.size fb bo bp (List.replicate n0 false) cur) := hf
      have HBW : Hid (Below w.heap.size w wr) := hbw
      clear hc hf hbw z0 z1
      by_cases hlt : k < n1
      · have hki : (k : Int) < (n1 : Int) := by omega
        have hcc := HFR.out.cells
        rw [List.length_replicate, hcl] at hcc
        obtain ⟨z0, z1⟩ := hcc
        clear hcl
        obtain ⟨ov, hov⟩ : ∃ v, cur[k]? = some v := at_of (by rw [HCL.out]; exact hlt)
        have HOV : Hid (cur[k]? = some ov) := hov
        clear hov
        have y1 := ext_cell z1
        haveI := ext_some wr
        have HB3 : Hid (Below wr.heap.size wr wr.drew) := (Below.refl _ _).drew
        go_wp2_with fail
        clear z0 z1
        refine wp_region_last (C := fun W => ∃ y : Ext wr, W = y.z) [0, 1, 2, 3, 4, 5] [6, 7] (by kernel_rfl) (by kernel_rfl) (by kernel_rfl) (by kernel_rfl) (by simp only [List.filterMap_cons, List.getElem?_toArray, List.getElem?_cons_zero, List.getElem?_cons_succ, List.filterMap_nil]; rfl) (by simp only [List.filterMap_cons, List.getElem?_toArray, List.getElem?_cons_zero, List.getElem?_cons_succ, List.filterMap_nil]; rfl) ⟨⟨_, (Below.refl _ _).drew⟩, rfl⟩ ?_
        (repeat (first | (with_reducible refine mix_read (by kernel_rfl) ?_; go_big_quiet_want; go_big_quiet_op; go_big_quiet_on; with_reducible refine wpQuiet_nil ?_) | (with_reducible refine mix_pass (by kernel_rfl) ?_; go_big_quiet_skip; with_reducible refine wpQuiet_nil ?_)))
        with_reducible refine mix_call (by kernel_rfl) (by kernel_rfl) ((resting_any 1 _).mono ?_) (by kernel_rfl)
        rintro e w5 ⟨rfl, hb5⟩
        have HB5 : Hid (Below wr.heap.size wr w5) := HB3.out.trans (hb5.mono HB3.out.size)
        clear hb5
        refine ⟨_, rfl, ⟨⟨_, HB5.out⟩, rfl⟩, ?_⟩
        simp only [Act.put, List.setIfInBounds_toArray, List.set_cons_zero, List.set_cons_succ]
        with_reducible refine mix_end ?_
        have HFD : Hid (FdAt w5 w.heap.size fb bo bp (List.replicate n0 false) cur) := HFR.out.below HB5.out
        have hbase := HFD.out.base
        have HPP : Hid (FdAt (((w5.setCell ⟨bp, k * 3, none⟩ (.int .i64 1)).setCell ⟨bp, k * 3 + 1, none⟩ (.int .i64 0)).setCell ⟨bp, k * 3 + 2, none⟩ (.int .i64 0)) w.heap.size fb bo bp (List.replicate n0 false) (cur.set k (restF 1)) ∧ Below w.heap.size w (((w5.setCell ⟨bp, k * 3, none⟩ (.int .i64 1)).setCell ⟨bp, k * 3 + 1, none⟩ (.int .i64 0)).setCell ⟨bp, k * 3 + 2, none⟩ (.int .i64 0))) := ⟨(HFD.out.put2 k (restF 1) (ptOk_rest 1)).1, (((HBW.out.trans (HB5.out.mono HBW.out.size)).setCell hbase.2.2 _).setCell hbase.2.2 _).setCell hbase.2.2 _⟩
        obtain ⟨⟨c0, c1, c2⟩, fz⟩ := HFD.out.ptAt HOV.out
        have f0 := fz (k * 3)
        have f1 := fz (k * 3 + 1)
        have f2 := fz (k * 3 + 2)
        clear y1 HFD HB3 HB5 fz hbase
        simp only [ptV, restF]
        go_wp2
        go_roundg (n1 - (k + 1))
        case rel => exact ⟨k + 1, cur.set k (restF 1), rfl, by go_num, by omega, by rw [List.length_set]; exact HCL.out, fun j hj => (by
          by_cases hjk : j = k
          · subst hjk
            rw [List.getElem?_set_self (by rw [HCL.out]; exact hlt)]
          · rw [List.getElem?_set_ne (Ne.symm hjk)]
            exact HC.out j (by omega)), HPP.out⟩
        case measure => omega
      · have hcs : cur = List.replicate n1 (restF 1) := by
          apply List.ext_getElem?
          intro j
          by_cases hj : j < k
          · rw [HC.out j hj, List.getElem?_replicate_of_lt (by omega)]
          · rw [List.getElem?_eq_none (by rw [HCL.out]; omega), List.getElem?_eq_none (by rw [List.length_replicate]; omega)]
        subst hcs
        go_wp2
        go_ret2
        exact ⟨fb, bo, bp, rfl, HFR.out, HBW.out⟩
end Go.Proofs.YthmbpohebcnehaaDoor
