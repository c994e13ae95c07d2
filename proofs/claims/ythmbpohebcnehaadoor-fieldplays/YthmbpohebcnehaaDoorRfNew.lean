/-
  The reference's field: New, by contracts.
-/
import Derived.Test.YthmbpohebcnehaaDoorRfStep
namespace Go.Proofs.YthmbpohebcnehaaDoor
open Go.RowKit

set_option maxRecDepth 1000000 in
set_option maxHeartbeats 16000000 in
theorem rfNew_no (v : Nat → Value) (l : Lay) (rs : List RtV) (w : World) (h : LayRd w v l rs) (hcap : ∀ x ∈ rs, capOk x.2.1) (hm : LayMid l) (hT : Lib.Utf8Tabs 0 1 w) (hi : isB l = false) :
    Calls Tryd.prog 7 #[.agg #[v 0, v 1, v 2, v 3]] w fun e w' => e = .returned (.tuple #[.pointer none, .int .i64 9]) ∧ Below w.heap.size w w' := by
  have IS : Hid (∀ W, Below w.heap.size w W → Calls Tryd.prog 18 #[.agg #[v 0, v 1, v 2, v 3]] W fun e w' => e = .returned (.bool false) ∧ Below W.heap.size W w') := fun W hW => by
    have := is_any v l rs W (h.below hW) hcap hm (tabs_below hT hW)
    rw [hi] at this
    exact this
  obtain ⟨o0, c0, e0, _⟩ := h.s
  obtain ⟨o1, c1, e1, _⟩ := h.p
  obtain ⟨o2, c2, e2, _⟩ := h.g
  obtain ⟨o3, c3, e3, _⟩ := h.r
  rw [e0, e1, e2, e3] at IS ⊢
  clear h hm e0 e1 e2 e3 hi hT hcap
  generalize l.sections.length = n0 at *
  generalize l.points.length = n1 at *
  generalize l.signals.length = n2 at *
  generalize rs.length = n3 at *
  generalize hch : w.alloc (.cells #[.slice o0 n0 c0, .slice o1 n1 c1, .slice o2 n2 c2, .slice o3 n3 c3] 26) = w1
  have HB1 : Hid (Below w.heap.size w w1) := by show Below _ _ _; rw [← hch]; exact (Below.refl _ _).alloc (Nat.le_refl _) _
  have H0 : Hid (w1.heap[w.heap.size]? = some (.cells #[.slice o0 n0 c0, .slice o1 n1 c1, .slice o2 n2 c2, .slice o3 n3 c3] 26 (0, 0))) := by show _ = _; rw [← hch]; exact blk_new _ _
  obtain ⟨⟨x0, x1, x2, x3⟩, _⟩ := cells4 H0.out
  go_enter Tryd.func7, Tryd.ntmps7
  go_wp2_with fail
  clear x0 x1 x2 x3 hch
  refine (IS.out _ HB1.out).mono ?_
  rintro e w2 ⟨rfl, hb2⟩
  have HB2 : Hid (Below w.heap.size w w2) := HB1.out.trans (hb2.mono HB1.out.size)
  clear hb2
  go_wp2
  go_ret2
  exact ⟨rfl, HB2.out⟩

theorem reps (n : Nat) : liesF (List.replicate n (restF 1)) = List.replicate n 1 ∧ towF (List.replicate n (restF 1)) = List.replicate n 0 ∧ drvF (List.replicate n (restF 1)) = List.replicate n 0 := by simp [liesF, towF, drvF, restF]

set_option maxRecDepth 1000000 in
set_option maxHeartbeats 32000000 in
theorem rfNew_ok (v : Nat → Value) (l : Lay) (rs : List RtV) (w : World) (h : LayRd w v l rs) (hcap : ∀ x ∈ rs, capOk x.2.1) (hm : LayMid l) (hT : Lib.Utf8Tabs 0 1 w) (hi : isB l = true) (hb : l.sections.length ≤ 1000 ∧ l.points.length ≤ 1000) :
    Calls Tryd.prog 7 #[.agg #[v 0, v 1, v 2, v 3]] w fun e w' => ∃ xb br bt bd vl, e = .returned (.tuple #[.pointer (some ⟨xb, 0, none⟩), .int .i64 0]) ∧ RfAt w' w.heap.size xb br bt bd vl (List.replicate l.sections.length false) (liesF (List.replicate l.points.length (restF 1))) (towF (List.replicate l.points.length (restF 1))) (drvF (List.replicate l.points.length (restF 1))) ∧ Below w.heap.size w w' := by
  obtain ⟨i0, hii, hz0, hz1, hz2⟩ := info_parts infoInt
  have IS : Hid (∀ W, Below w.heap.size w W → Calls Tryd.prog 18 #[.agg #[v 0, v 1, v 2, v 3]] W fun e w' => e = .returned (.bool true) ∧ Below W.heap.size W w') := fun W hW => by
    have := is_any v l rs W (h.below hW) hcap hm (tabs_below hT hW)
    rw [hi] at this
    exact this
  obtain ⟨o0, c0, e0, _⟩ := h.s
  obtain ⟨o1, c1, e1, _⟩ := h.p
  obtain ⟨o2, c2, e2, _⟩ := h.g
  obtain ⟨o3, c3, e3, _⟩ := h.r
  rw [e0, e1, e2, e3] at IS ⊢
  obtain ⟨hb1, hb2⟩ := hb
  clear h hm e0 e1 e2 e3 hi hT hcap
  generalize l.sections.length = n0 at *
  generalize l.points.length = n1 at *
  generalize l.signals.length = n2 at *
  generalize rs.length = n3 at *
  rw [(reps n1).1, (reps n1).2.1, (reps n1).2.2]
  have HBN : Hid (n0 ≤ 1000 ∧ n1 ≤ 1000) := ⟨hb1, hb2⟩
  have MI : Hid (∀ w : World, (Instr.makeSlice 40 (.int .i64 (n1 : Int)) (.int .i64 (n1 : Int))).run Tryd.prog w = .ok (.slice (some ⟨w.heap.size, 0, none⟩) n1 n1) (w.alloc (.cells ((List.replicate n1 (0 : Int)).map (Value.int .i64)).toArray 3))) := fun w => mk_int n1 hb2 w
  generalize hci : ((List.replicate n1 (0 : Int)).map (Value.int .i64)).toArray = ci at MI
  have HCI : Hid (((List.replicate n1 (0 : Int)).map (Value.int .i64)).toArray = ci) := hci
  generalize hch : w.alloc (.cells #[.slice o0 n0 c0, .slice o1 n1 c1, .slice o2 n2 c2, .slice o3 n3 c3] 26) = w1
  have HB1 : Hid (Below w.heap.size w w1) := by show Below _ _ _; rw [← hch]; exact (Below.refl _ _).alloc (Nat.le_refl _) _
  have H0 : Hid (w1.heap[w.heap.size]? = some (.cells #[.slice o0 n0 c0, .slice o1 n1 c1, .slice o2 n2 c2, .slice o3 n3 c3] 26 (0, 0))) := by show _ = _; rw [← hch]; exact blk_new _ _
  obtain ⟨⟨x0, x1, x2, x3⟩, _⟩ := cells4 H0.out
  clear hci
  go_enter Tryd.func7, Tryd.ntmps7
  go_wp2_with fail
  clear x0 x1 x2 x3 hch
  refine (IS.out _ HB1.out).mono ?_
  rintro e w2 ⟨rfl, hb2'⟩
  have HB2 : Hid (Below w.heap.size w w2) := HB1.out.trans (hb2'.mono HB1.out.size)
  have H02 : Hid (w2.heap[w.heap.size]? = some (.cells #[.slice o0 n0 c0, .slice o1 n1 c1, .slice o2 n2 c2, .slice o3 n3 c3] 26 (0, 0))) := blk_below hb2' H0.out
  clear hb2'
  obtain ⟨⟨x0, x1, x2, x3⟩, _⟩ := cells4 H02.out
  go_upto_region 3 with fail
  go_cut [4] from 9 to 18 (fun s wc => ∃ xb bt bd, s = .pointer (some ⟨xb, 0, none⟩) ∧ wc.heap[xb]? = some (.cells #[.slice none 0 0, .slice none 0 0, .slice (some ⟨bt, 0, none⟩) n1 n1, .slice (some ⟨bd, 0, none⟩) n1 n1] 49 (0, 0)) ∧ wc.heap[bt]? = some (.cells ci 3 (0, 0)) ∧ wc.heap[bd]? = some (.cells ci 3 (0, 0)) ∧ bt ≠ bd ∧ (w.heap.size < xb ∧ w.heap.size < bt ∧ w.heap.size < bd) ∧ Below w2.heap.size w2 wc)
  case first =>
    have y0 := ext_cell x0
    have y1 := ext_cell x1
    haveI := ext_some w2
    have HT : Hid (Below w2.heap.size w2 w2.drew) := (Below.refl _ _).drew
    have hlt : w.heap.size < w2.heap.size := (Array.getElem?_eq_some_iff.1 H02.out).1
    clear x0 x1 x2 x3
    refine wp_region_tree (C := fun W => ∃ y : Ext w2, W = y.z) [0, 1, 2, 3, 4, 5, 6, 7, 8, 9, 10] (by kernel_rfl) (by kernel_rfl) rfl rfl ⟨⟨_, (Below.refl _ _).drew⟩, rfl⟩ ?_
    generalize w2.drew = w3 at *
    refine tree_seq [0, 1, 2, 4, 5, 6] (by kernel_rfl) (by kernel_rfl) (show 11 = 5 + 6 from rfl) (by kernel_rfl) (by simp only [List.filterMap_cons, List.getElem?_toArray, List.getElem?_cons_zero, List.getElem?_cons_succ, List.filterMap_nil]; rfl) rfl ?_
    (repeat (first | (with_reducible refine mix_read (by kernel_rfl) ?_; go_big_quiet_want; go_big_quiet_op; go_big_quiet_on; with_reducible refine wpQuiet_nil ?_) | (with_reducible refine mix_pass (by kernel_rfl) ?_; go_big_quiet_skip; with_reducible refine wpQuiet_nil ?_)))
    with_reducible refine mix_end ?_
    have HE : Hid (w2.heap.size ≤ w3.heap.size) := HT.out.size
    have HWE : Hid (w.heap.size < w3.heap.size) := Nat.lt_of_lt_of_le hlt HT.out.size
    have fin : ∀ (bt bd : Nat) (W : World), Below w2.heap.size w2 W → bt ≠ bd → w.heap.size < bt → w.heap.size < bd → W.heap[bt]? = some (.cells ci 3 (0, 0)) → W.heap[bd]? = some (.cells ci 3 (0, 0)) → ∃ xb bt' bd', (.pointer (some ⟨W.heap.size, 0, none⟩) : Value) = .pointer (some ⟨xb, 0, none⟩) ∧ (W.alloc (.cells #[.slice none 0 0, .slice none 0 0, .slice (some ⟨bt, 0, none⟩) n1 n1, .slice (some ⟨bd, 0, none⟩) n1 n1] 49)).heap[xb]? = some (.cells #[.slice none 0 0, .slice none 0 0, .slice (some ⟨bt', 0, none⟩) n1 n1, .slice (some ⟨bd', 0, none⟩) n1 n1] 49 (0, 0)) ∧ (W.alloc (.cells #[.slice none 0 0, .slice none 0 0, .slice (some ⟨bt, 0, none⟩) n1 n1, .slice (some ⟨bd, 0, none⟩) n1 n1] 49)).heap[bt']? = some (.cells ci 3 (0, 0)) ∧ (W.alloc (.cells #[.slice none 0 0, .slice none 0 0, .slice (some ⟨bt, 0, none⟩) n1 n1, .slice (some ⟨bd, 0, none⟩) n1 n1] 49)).heap[bd']? = some (.cells ci 3 (0, 0)) ∧ bt' ≠ bd' ∧ (w.heap.size < xb ∧ w.heap.size < bt' ∧ w.heap.size < bd') ∧ Below w2.heap.size w2 (W.alloc (.cells #[.slice none 0 0, .slice none 0 0, .slice (some ⟨bt, 0, none⟩) n1 n1, .slice (some ⟨bd, 0, none⟩) n1 n1] 49)) := fun bt bd W hW h0 h1 h2 h3 h4 =>
      ⟨_, bt, bd, rfl, blk_new _ _, blk_old h3, blk_old h4, h0, ⟨Nat.lt_of_lt_of_le hlt hW.size, h1, h2⟩, hW.alloc hW.size _⟩
    have FIN := (show Hid _ from fin)
    clear fin hlt
    refine tree_two 3 7 (show 5 = 4 + 1 from rfl) (by kernel_rfl) (by kernel_rfl) (by simp only [List.getElem?_toArray, List.getElem?_cons_zero, List.getElem?_cons_succ]; rfl) (by simp only [List.getElem?_toArray, List.getElem?_cons_zero, List.getElem?_cons_succ]; rfl) rfl rfl ?_ ?_
    · have HC1 : Hid (Below w2.heap.size w2 (w3.alloc (.cells ci 3))) := HT.out.alloc HE.out _
      refine mix_does (by kernel_rfl) (by kernel_rfl) (run_does (MI.out w3)) ⟨⟨_, HC1.out⟩, rfl⟩ ?_
      simp only [Act.put, List.setIfInBounds_toArray, List.set_cons_zero, List.set_cons_succ]
      with_reducible refine mix_end ?_
      refine tree_seq [7, 8, 9, 10] (by kernel_rfl) (by kernel_rfl) (show 4 = 0 + 4 from rfl) (by kernel_rfl) (by simp only [List.filterMap_cons, List.getElem?_toArray, List.getElem?_cons_zero, List.getElem?_cons_succ, List.filterMap_nil]; rfl) rfl ?_
      have HC2 : Hid (Below w2.heap.size w2 ((w3.alloc (.cells ci 3)).alloc (.cells ci 3))) := HC1.out.alloc HC1.out.size _
      refine mix_does (by kernel_rfl) (by kernel_rfl) (run_does (MI.out (w3.alloc (.cells ci 3)))) ⟨⟨_, HC2.out⟩, rfl⟩ ?_
      simp only [Act.put, List.setIfInBounds_toArray, List.set_cons_zero, List.set_cons_succ]
      (repeat (first | (with_reducible refine mix_read (by kernel_rfl) ?_; go_big_quiet_want; go_big_quiet_op; go_big_quiet_on; with_reducible refine wpQuiet_nil ?_) | (with_reducible refine mix_pass (by kernel_rfl) ?_; go_big_quiet_skip; with_reducible refine wpQuiet_nil ?_)))
      have hx1 : ((w3.alloc (.cells ci 3)).alloc (.cells ci 3)).heap[w3.heap.size]? = some (.cells ci 3 (0, 0)) := blk_old (blk_new _ _)
      have hx2 : ((w3.alloc (.cells ci 3)).alloc (.cells ci 3)).heap[w3.heap.size + 1]? = some (.cells ci 3 (0, 0)) := blk_at1 w3 (.cells ci 3) (.cells ci 3)
      have HR := FIN.out (w3.heap.size) (w3.heap.size + 1) _ HC2.out (by omega) (by have := HWE.out; omega) (by have := HWE.out; omega) hx1 hx2
      have HRR := (show Hid _ from HR)
      clear HR hx1 hx2
      have HC3 : Hid (Below w2.heap.size w2 (((w3.alloc (.cells ci 3)).alloc (.cells ci 3)).alloc (.cells #[.slice none 0 0, .slice none 0 0, .slice (some ⟨w3.heap.size, 0, none⟩) n1 n1, .slice (some ⟨w3.heap.size + 1, 0, none⟩) n1 n1] 49))) := HC2.out.alloc HC2.out.size _
      refine mix_does (v := .pointer (some ⟨((w3.alloc (.cells ci 3)).alloc (.cells ci 3)).heap.size, 0, none⟩)) (w' := ((w3.alloc (.cells ci 3)).alloc (.cells ci 3)).alloc (.cells #[.slice none 0 0, .slice none 0 0, .slice (some ⟨w3.heap.size, 0, none⟩) n1 n1, .slice (some ⟨w3.heap.size + 1, 0, none⟩) n1 n1] 49)) (by kernel_rfl) (by kernel_rfl) (by kernel_rfl) ⟨⟨_, HC3.out⟩, rfl⟩ ?_
      simp only [Act.put, List.setIfInBounds_toArray, List.set_cons_zero, List.set_cons_succ]
      generalize ((w3.alloc (.cells ci 3)).alloc (.cells ci 3)).alloc (.cells #[.slice none 0 0, .slice none 0 0, .slice (some ⟨w3.heap.size, 0, none⟩) n1 n1, .slice (some ⟨w3.heap.size + 1, 0, none⟩) n1 n1] 49) = w9 at *
      generalize ((w3.alloc (.cells ci 3)).alloc (.cells ci 3)).heap.size = xb at *
      (repeat (first | (with_reducible refine mix_read (by kernel_rfl) ?_; go_big_quiet_want; go_big_quiet_op; go_big_quiet_on; with_reducible refine wpQuiet_nil ?_) | (with_reducible refine mix_pass (by kernel_rfl) ?_; go_big_quiet_skip; with_reducible refine wpQuiet_nil ?_)))
      with_reducible refine mix_end ?_
      refine tree_done rfl (by kernel_rfl) ?_
      go_wp2_with fail
      go_meet
      case rel => exact HRR.out
    · have HC1 : Hid (Below w2.heap.size w2 (w3.alloc (.cells ci 3))) := HT.out.alloc HE.out _
      refine mix_does (by kernel_rfl) (by kernel_rfl) (run_does (MI.out w3)) ⟨⟨_, HC1.out⟩, rfl⟩ ?_
      simp only [Act.put, List.setIfInBounds_toArray, List.set_cons_zero, List.set_cons_succ]
      with_reducible refine mix_end ?_
      refine tree_seq [3, 8, 9, 10] (by kernel_rfl) (by kernel_rfl) (show 4 = 0 + 4 from rfl) (by kernel_rfl) (by simp only [List.filterMap_cons, List.getElem?_toArray, List.getElem?_cons_zero, List.getElem?_cons_succ, List.filterMap_nil]; rfl) rfl ?_
      have HC2 : Hid (Below w2.heap.size w2 ((w3.alloc (.cells ci 3)).alloc (.cells ci 3))) := HC1.out.alloc HC1.out.size _
      refine mix_does (by kernel_rfl) (by kernel_rfl) (run_does (MI.out (w3.alloc (.cells ci 3)))) ⟨⟨_, HC2.out⟩, rfl⟩ ?_
      simp only [Act.put, List.setIfInBounds_toArray, List.set_cons_zero, List.set_cons_succ]
      (repeat (first | (with_reducible refine mix_read (by kernel_rfl) ?_; go_big_quiet_want; go_big_quiet_op; go_big_quiet_on; with_reducible refine wpQuiet_nil ?_) | (with_reducible refine mix_pass (by kernel_rfl) ?_; go_big_quiet_skip; with_reducible refine wpQuiet_nil ?_)))
      have hx1 : ((w3.alloc (.cells ci 3)).alloc (.cells ci 3)).heap[w3.heap.size]? = some (.cells ci 3 (0, 0)) := blk_old (blk_new _ _)
      have hx2 : ((w3.alloc (.cells ci 3)).alloc (.cells ci 3)).heap[w3.heap.size + 1]? = some (.cells ci 3 (0, 0)) := blk_at1 w3 (.cells ci 3) (.cells ci 3)
      have HR := FIN.out (w3.heap.size + 1) (w3.heap.size) _ HC2.out (by omega) (by have := HWE.out; omega) (by have := HWE.out; omega) hx2 hx1
      have HRR := (show Hid _ from HR)
      clear HR hx1 hx2
      have HC3 : Hid (Below w2.heap.size w2 (((w3.alloc (.cells ci 3)).alloc (.cells ci 3)).alloc (.cells #[.slice none 0 0, .slice none 0 0, .slice (some ⟨w3.heap.size + 1, 0, none⟩) n1 n1, .slice (some ⟨w3.heap.size, 0, none⟩) n1 n1] 49))) := HC2.out.alloc HC2.out.size _
      refine mix_does (v := .pointer (some ⟨((w3.alloc (.cells ci 3)).alloc (.cells ci 3)).heap.size, 0, none⟩)) (w' := ((w3.alloc (.cells ci 3)).alloc (.cells ci 3)).alloc (.cells #[.slice none 0 0, .slice none 0 0, .slice (some ⟨w3.heap.size + 1, 0, none⟩) n1 n1, .slice (some ⟨w3.heap.size, 0, none⟩) n1 n1] 49)) (by kernel_rfl) (by kernel_rfl) (by kernel_rfl) ⟨⟨_, HC3.out⟩, rfl⟩ ?_
      simp only [Act.put, List.setIfInBounds_toArray, List.set_cons_zero, List.set_cons_succ]
      generalize ((w3.alloc (.cells ci 3)).alloc (.cells ci 3)).alloc (.cells #[.slice none 0 0, .slice none 0 0, .slice (some ⟨w3.heap.size + 1, 0, none⟩) n1 n1, .slice (some ⟨w3.heap.size, 0, none⟩) n1 n1] 49) = w9 at *
      generalize ((w3.alloc (.cells ci 3)).alloc (.cells ci 3)).heap.size = xb at *
      (repeat (first | (with_reducible refine mix_read (by kernel_rfl) ?_; go_big_quiet_want; go_big_quiet_op; go_big_quiet_on; with_reducible refine wpQuiet_nil ?_) | (with_reducible refine mix_pass (by kernel_rfl) ?_; go_big_quiet_skip; with_reducible refine wpQuiet_nil ?_)))
      with_reducible refine mix_end ?_
      refine tree_done rfl (by kernel_rfl) ?_
      go_wp2_with fail
      go_meet
      case rel => exact HRR.out
  case rest =>
    obtain ⟨xb, bt, bd, rfl, hx, ht, hd, hne, hlt, hbc⟩ := hcut
    have HX : Hid (wc.heap[xb]? = some (.cells #[.slice none 0 0, .slice none 0 0, .slice (some ⟨bt, 0, none⟩) n1 n1, .slice (some ⟨bd, 0, none⟩) n1 n1] 49 (0, 0))) := hx
    have HTD : Hid (wc.heap[bt]? = some (.cells ci 3 (0, 0)) ∧ wc.heap[bd]? = some (.cells ci 3 (0, 0)) ∧ bt ≠ bd) := ⟨ht, hd, hne⟩
    have HLT := (show Hid _ from hlt)
    have HBC : Hid (Below w2.heap.size w2 wc) := hbc
    have H0C : Hid (wc.heap[w.heap.size]? = some (.cells #[.slice o0 n0 c0, .slice o1 n1 c1, .slice o2 n2 c2, .slice o3 n3 c3] 26 (0, 0))) := blk_below hbc H02.out
    clear hx ht hd hne hlt hbc x0 x1 x2 x3 IS MI
    obtain ⟨⟨x0, x1, x2, x3⟩, _⟩ := cells4 H0C.out
    have hmk := mk_bool n0 HBN.out.1 wc
    generalize hch : wc.alloc (.cells ((List.replicate n0 false).map Value.bool).toArray 4) = w4 at hmk
    have HB4 : Hid (Below wc.heap.size wc w4) := by show Below _ _ _; rw [← hch]; exact (Below.refl _ _).alloc (Nat.le_refl _) _
    have HR4 : Hid (w4.heap[wc.heap.size]? = some (.cells ((List.replicate n0 false).map Value.bool).toArray 4 (0, 0))) := by show _ = _; rw [← hch]; exact blk_new _ _
    have HX4 := (show Hid _ from blk_below HB4.out HX.out)
    obtain ⟨⟨y0, y1, y2, y3⟩, _⟩ := cells4 HX4.out
    have g0 := froz2 HX4.out 0
    have HLX : Hid (xb < wc.heap.size ∧ bt < wc.heap.size ∧ bd < wc.heap.size) := ⟨(Array.getElem?_eq_some_iff.1 HX.out).1, (Array.getElem?_eq_some_iff.1 HTD.out.1).1, (Array.getElem?_eq_some_iff.1 HTD.out.2.1).1⟩
    go_upto_region 5 with fail
    clear x0 x1 x2 x3 hmk hch y0 y1 y2 y3 g0
    have HX5 : Hid ((w4.setCell ⟨xb, 0, none⟩ (.slice (some ⟨wc.heap.size, 0, none⟩) n0 n0)).heap[xb]? = some (.cells #[.slice (some ⟨wc.heap.size, 0, none⟩) n0 n0, .slice none 0 0, .slice (some ⟨bt, 0, none⟩) n1 n1, .slice (some ⟨bd, 0, none⟩) n1 n1] 49 (0, 0))) := by show _ = _; rw [heap_put HX4.out]; rfl
    have oth : ∀ j, j ≠ xb → (w4.setCell ⟨xb, 0, none⟩ (.slice (some ⟨wc.heap.size, 0, none⟩) n0 n0)).heap[j]? = w4.heap[j]? := fun j hj => Below.heap_setCell _ _ _ _ (by exact hj)
    have HR5 := (show Hid _ from (oth wc.heap.size (by have := HLX.out; omega)).trans HR4.out)
    have HT5 := (show Hid _ from (oth bt (fun e => by have h1 := HX.out; rw [← e, HTD.out.1] at h1; injection h1 with h1; injection h1 with h1 h2 h3; revert h2; decide)).trans (blk_below HB4.out HTD.out.1))
    have HD5 := (show Hid _ from (oth bd (fun e => by have h1 := HX.out; rw [← e, HTD.out.2.1] at h1; injection h1 with h1; injection h1 with h1 h2 h3; revert h2; decide)).trans (blk_below HB4.out HTD.out.2.1))
    have H05 := (show Hid _ from (oth w.heap.size (by have := HLT.out; omega)).trans (blk_below HB4.out H0C.out))
    have HB5 : Hid (Below w.heap.size w (w4.setCell ⟨xb, 0, none⟩ (.slice (some ⟨wc.heap.size, 0, none⟩) n0 n0))) := by
      have h1 := HB2.out.trans (HBC.out.mono HB2.out.size)
      exact (h1.trans (HB4.out.mono h1.size)).setCell (by have := HLT.out; show w.heap.size ≤ xb; omega) _
    clear oth
    have HZ5 : Hid ((w4.setCell ⟨xb, 0, none⟩ (.slice (some ⟨wc.heap.size, 0, none⟩) n0 n0)).heap.size = w4.heap.size) := by show _ = _; simp [World.setCell]
    have HZ4 : Hid (wc.heap.size < w4.heap.size) := (Array.getElem?_eq_some_iff.1 HR4.out).1
    generalize w4.setCell ⟨xb, 0, none⟩ (.slice (some ⟨wc.heap.size, 0, none⟩) n0 n0) = w5 at *
    have HBRB : Hid (w.heap.size ≤ wc.heap.size) := by have h1 := HB2.out.size; have h2 := HBC.out.size; show _ ≤ _; omega
    generalize wc.heap.size = br at *
    have HBND : Hid (xb < w5.heap.size ∧ bt < w5.heap.size ∧ bd < w5.heap.size ∧ br < w5.heap.size) := by
      have h1 := HLX.out
      have h2 := HZ4.out
      have h3 := HZ5.out
      exact ⟨by omega, by omega, by omega, by omega⟩
    go_wp2
    go_loopg [5] n1 (fun gk i wr => ∃ (k : Nat) (vo : Value), gk = n1 - k ∧ i = .int .i64 k ∧ k ≤ n1 ∧ wr.ownsRow w5.heap.size 3 1 vo k ((List.replicate k (1 : Int)).flatMap iC) ∧ wr.heap[xb]? = some (.cells #[.slice (some ⟨br, 0, none⟩) n0 n0, vo, .slice (some ⟨bt, 0, none⟩) n1 n1, .slice (some ⟨bd, 0, none⟩) n1 n1] 49 (0, 0)) ∧ Chg (fun k => k = xb) w5 wr)
    case atStart => exact ⟨0, _, rfl, rfl, by omega, World.ownsRow_nil _ _ _ _, HX5.out, Chg.refl _ _⟩
    case round =>
      obtain ⟨k, vo, rfl, rfl, hk, hown, hbox, hcg⟩ := hrel
      have HOW : Hid (wr.ownsRow w5.heap.size 3 1 vo k ((List.replicate k (1 : Int)).flatMap iC)) := hown
      have HBX : Hid (wr.heap[xb]? = some (.cells #[.slice (some ⟨br, 0, none⟩) n0 n0, vo, .slice (some ⟨bt, 0, none⟩) n1 n1, .slice (some ⟨bd, 0, none⟩) n1 n1] 49 (0, 0))) := hbox
      have HCG : Hid (Chg (fun k => k = xb) w5 wr) := hcg
      have H0R := (show Hid _ from hcg.blk H05.out (by have := HLT.out; show ¬ w.heap.size = xb; omega))
      obtain ⟨ov, cv, hvo⟩ := owns_slice HOW.out
      subst hvo
      clear hown hbox hcg
      obtain ⟨⟨x0, x1, x2, x3⟩, _⟩ := cells4 H0R.out
      by_cases hlt : k < n1
      · have hki : (k : Int) < (n1 : Int) := by omega
        obtain ⟨⟨q0, q1, q2, q3⟩, _⟩ := cells4 HBX.out
        have HTKH : Hid ((List.replicate (k + 1) (1 : Int)).flatMap iC = (List.replicate k (1 : Int)).flatMap iC ++ [.int .i64 1]) := by show _ = _; rw [List.replicate_succ', List.flatMap_append]; rfl
        have hown5 := HOW.out
        have hsz5 : w5.heap.size ≤ wr.heap.size := HCG.out.size
        have HSZ5 : Hid (w5.heap.size ≤ wr.heap.size) := hsz5
        have hn1 := HBN.out.2
        generalize (List.replicate k (1 : Int)).flatMap iC = cells at *
        go_wp2_with (at_builtin; refine wpList_append_own _ rfl _ _ 40 rfl w5.heap.size 3 i0 (.int .i64 0) 1 8 Tryd.underlying40 hii hz0 hz1 hz2 rfl (by decide) _ _ _ rfl (hown5.alloc _) ⟨wr.heap.size, 0, none⟩ 1 1 [.int .i64 1] rfl rfl (by intro j u hj; match j, hj with | 0, hj => (simp at hj; subst hj; simp [addr_add]) | j + 1, hj => simp at hj) (one_int _) (by unfold maxLen; omega) (by omega) (by simp; omega) ?_)
        intro v' w6 hown6 hgrow _
        obtain ⟨ow, cw, rfl⟩ := owns_slice hown6
        have hsz6 := hgrow.size
        rw [World.size_alloc] at hsz6
        have keep6 : ∀ i, i < w5.heap.size → w6.heap[i]? = wr.heap[i]? := fun i hi => by
          rw [hgrow.block i (by simp; have := HSZ5.out; omega) (fun e => by have := (HOW.out.lt i e.symm).1; omega), Below.heap_alloc _ _ _ (by have := HSZ5.out; omega)]
        have HQ6 := (show Hid _ from (keep6 xb HBND.out.1).trans HBX.out)
        obtain ⟨⟨s0, s1, s2, s3⟩, _⟩ := cells4 HQ6.out
        have s4 := froz2 HQ6.out 1
        have HO6 : Hid (w6.ownsRow w5.heap.size 3 1 (.slice ow (k + 1) cw) (k + 1) (cells ++ [.int .i64 1])) := hown6
        have HR6 : Hid ((w6.setCell ⟨xb, 1, none⟩ (.slice ow (k + 1) cw)).ownsRow w5.heap.size 3 1 (.slice ow (k + 1) cw) (k + 1) (cells ++ [.int .i64 1]) ∧ (w6.setCell ⟨xb, 1, none⟩ (.slice ow (k + 1) cw)).heap[xb]? = some (.cells #[.slice (some ⟨br, 0, none⟩) n0 n0, .slice ow (k + 1) cw, .slice (some ⟨bt, 0, none⟩) n1 n1, .slice (some ⟨bd, 0, none⟩) n1 n1] 49 (0, 0)) ∧ Chg (fun k => k = xb) w5 (w6.setCell ⟨xb, 1, none⟩ (.slice ow (k + 1) cw))) := by
          refine ⟨owns_keep HO6.out fun i hi => Below.heap_setCell _ _ _ _ (by have := (HO6.out.lt i hi).1; have := HBND.out.1; show i ≠ xb; omega), ?_, ?_⟩
          · rw [heap_put HQ6.out]
            rfl
          · have h5 := HCG.out
            refine ⟨hgrow.os.trans h5.os, hgrow.tape.trans h5.tape, hgrow.output.trans h5.output, ?_, fun i hi hf => ?_⟩
            · have := HSZ5.out
              simp only [World.setCell, Array.size_modify]
              omega
            · rw [Below.heap_setCell _ _ _ _ (by exact hf), keep6 i hi]
              exact h5.block i hi hf
        clear hown5 hown6 hgrow keep6 hsz5 hsz6 q0 q1 q2 q3 x0 x1 x2 x3
        go_wp2
        go_roundg (n1 - (k + 1))
        case rel => exact ⟨k + 1, _, rfl, by go_num, by omega, by rw [HTKH.out]; exact HR6.out.1, HR6.out.2.1, HR6.out.2.2⟩
        case measure => omega
      · have hkn : k = n1 := by omega
        subst hkn
        go_wp2
        go_ret2
        have hbn := HBND.out
        have hlt' := HLT.out
        have nx : ∀ j, j < w5.heap.size → j ≠ xb → wr.heap[j]? = w5.heap[j]? := fun j hj hne => HCG.out.block j hj hne
        have hbt := HT5.out
        have hbd := HD5.out
        have hbr := HR5.out
        rw [← HCI.out] at hbt hbd
        have hxt : bt ≠ xb := blk_type hbt HX5.out (by decide)
        have hxd : bd ≠ xb := blk_type hbd HX5.out (by decide)
        have hxr : br ≠ xb := blk_type hbr HX5.out (by decide)
        refine ⟨xb, br, bt, bd, .slice ov k cv, rfl, ⟨?_, ?_, ?_, ?_, ?_, ⟨by omega, by have := HBRB.out; omega, by omega, by omega⟩, ⟨HTD.out.2.2, fun e => ?_, fun e => ?_⟩, ⟨by simp, by simp⟩, by rw [List.length_replicate, List.length_replicate]; exact HBN.out⟩, ?_⟩
        · rw [List.length_replicate, List.length_replicate]
          exact HBX.out
        · exact (nx br hbn.2.2.2 hxr).trans hbr
        · rw [List.length_replicate]
          exact owns_mono HOW.out HB5.out.size
        · exact (nx bt hbn.2.1 hxt).trans hbt
        · exact (nx bd hbn.2.2.1 hxd).trans hbd
        · have := (HOW.out.lt _ e).1
          omega
        · have := (HOW.out.lt _ e).1
          omega
        · exact HB5.out.trans (HCG.out.below (fun j (hj : j = xb) => by omega) HB5.out.size)
end Go.Proofs.YthmbpohebcnehaaDoor
