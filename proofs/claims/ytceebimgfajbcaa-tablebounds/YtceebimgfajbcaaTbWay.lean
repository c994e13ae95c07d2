/-
  Package table: may a route be? may a layout be? by contracts.
-/
import Derived.Test.YtceebimgfajbcaaTbPath
import Derived.Test.YtceebimgfajbcaaTbEq
import Derived.Test.YtceebimgfajbcaaTbNamed2
import Derived.Test.YtceebimgfajbcaaLyMix
import Derived.Test.YtceebimgfajbcaaLyExt
namespace Go.Proofs.Ytceebimgfajbcaa
open Go.RowKit

theorem routeB_parts (l : Lay) (r : Rt) : routeB l r = (decide ((0 : Int) ≤ r.frm ∧ r.frm < (l.signals.length : Nat)) && (decide ((0 : Int) ≤ r.to ∧ r.to < (l.signals.length : Nat)) && (decide (r.frm ≠ r.to) && ((decide (1 ≤ r.path.length ∧ r.path.length ≤ 5) && pathB l r.path) && (eqF r.points (ptsF r.path l.points 0) && needsF l r.path false none r.flank))))) := by
  rw [routeB, headB, restB, eqF_rest]
  generalize pathB l r.path = a
  generalize needsF l r.path false none r.flank = b
  generalize decide (r.points.length = countIn r.path l.points) = c
  generalize needsF l r.path true none r.points = d
  rw [Bool.eq_iff_iff]
  simp only [Bool.and_eq_true, decide_eq_true_eq]
  constructor
  · rintro ⟨⟨h1, h2, h3, h4⟩, h5, h6, h7, h8⟩
    exact ⟨h1, h2, h3, ⟨h4, h5⟩, ⟨h6, h7⟩, h8⟩
  · rintro ⟨h1, h2, h3, ⟨h4, h5⟩, ⟨h6, h7⟩, h8⟩
    exact ⟨⟨h1, h2, h3, h4⟩, h5, h6, h7, h8⟩

set_option maxRecDepth 1000000 in
set_option maxHeartbeats 16000000 in
theorem isWay_any (v : Nat → Value) (l : Lay) (rs : List RtV) (r : RtV) (w : World) (h : LayRd w v l rs) (hr : RtAt w r) (hcap : capOk r.2.1) (hm : l.points.length ≤ 4294967296 ∧ r.1.path.length ≤ 4294967296 ∧ r.1.points.length ≤ 4294967296 ∧ r.1.flank.length ≤ 4294967296) :
    Calls Try.prog 19 #[.agg #[v 0, v 1, v 2, v 3], .agg #[.string r.1.name, .int .i64 r.1.frm, .int .i64 r.1.to, r.2.1, r.2.2.1, r.2.2.2]] w fun e w' => e = .returned (.bool (routeB l r.1)) ∧ Below w.heap.size w w' := by
  obtain ⟨⟨nm, fr, tt, pa, po, fl⟩, v3, v4, v5⟩ := r
  simp only at *
  obtain ⟨hr3, hr4, hr5⟩ := hr
  simp only at hr3 hr4 hr5
  have HB := routeB_parts l ⟨nm, fr, tt, pa, po, fl⟩
  simp only at HB
  have P0 : Hid (∀ W, Calls Try.prog 18 #[.int .i64 fr, .int .i64 (l.signals.length : Nat)] W fun e w' => e = .returned (.bool (decide ((0 : Int) ≤ fr ∧ fr < (l.signals.length : Nat)))) ∧ w' = W) := fun W => isPlace_any _ _ W
  have P1 : Hid (∀ W, Calls Try.prog 18 #[.int .i64 tt, .int .i64 (l.signals.length : Nat)] W fun e w' => e = .returned (.bool (decide ((0 : Int) ≤ tt ∧ tt < (l.signals.length : Nat)))) ∧ w' = W) := fun W => isPlace_any _ _ W
  have PA : Hid (∀ W, Below w.heap.size w W → Calls Try.prog 25 #[v3, .int .i64 (l.sections.length : Nat)] W fun e w' => e = .returned (.bool (decide (1 ≤ pa.length ∧ pa.length ≤ 5) && pathB l pa)) ∧ w' = W) := fun W hW => isPath_any l v3 pa W (hr3.below hW) hcap hm.2.1
  have PT : Hid (∀ W, Below w.heap.size w W → Calls Try.prog 27 #[.agg #[v 0, v 1, v 2, v 3], v3] W fun e w' => ∃ u, e = .returned u ∧ rowAt w' u 1 iC (ptsF pa l.points 0) ∧ Below W.heap.size W w') := fun W hW => pointsIn_any v l rs v3 pa W (h.below hW) (hr3.below hW) hm.2.1 hm.1
  have HA : Hid (∀ u W, Below w.heap.size w W → rowAt W u 1 iC (ptsF pa l.points 0) → Calls Try.prog 26 #[v4, u] W fun e w' => e = .returned (.bool (eqF po (ptsF pa l.points 0))) ∧ Below W.heap.size W w') := fun u W hW hu => hasAll_any v4 u po _ W (hr4.below hW) hu hm.2.2.1
  have BE : Hid (∀ W, Below w.heap.size w W → Calls Try.prog 28 #[v5, .agg #[v 0, v 1, v 2, v 3], v3] W fun e w' => e = .returned (.bool (needsF l pa false none fl)) ∧ Below W.heap.size W w') := fun W hW => isBeside_any v l rs v5 v3 fl pa W (h.below hW) (hr5.below hW) (hr3.below hW) hm.2.2.2 hm.2.1 hm.1
  obtain ⟨o0, c0, e0, _⟩ := h.s
  obtain ⟨o1, c1, e1, _⟩ := h.p
  obtain ⟨o2, c2, e2, _⟩ := h.g
  obtain ⟨o3, c3, e3, _⟩ := h.r
  obtain ⟨p3, k3, f3, _⟩ := hr3
  obtain ⟨p4, k4, f4, _⟩ := hr4
  obtain ⟨p5, k5, f5, _⟩ := hr5
  have S := TwoAt.start w v #[.string nm, .int .i64 fr, .int .i64 tt, v3, v4, v5]
  have hsz1 : ((w.alloc (.cells #[v 0, v 1, v 2, v 3] 26)).alloc (.cells #[.string nm, .int .i64 fr, .int .i64 tt, v3, v4, v5] 33)).heap.size = w.heap.size + 2 := by simp
  have HV : Hid (v 0 = .slice o0 l.sections.length c0 ∧ v 1 = .slice o1 l.points.length c1 ∧ v 2 = .slice o2 l.signals.length c2 ∧ v 3 = .slice o3 rs.length c3) := ⟨e0, e1, e2, e3⟩
  rw [e0, e1, e2, e3, f3, f4, f5] at S hsz1 ⊢
  rw [f3] at PA
  rw [e0, e1, e2, e3, f3] at PT
  rw [f4] at HA
  rw [e0, e1, e2, e3, f3, f5] at BE
  clear h hcap hm e0 e1 e2 e3 f3 f4 f5
  generalize routeB l ⟨nm, fr, tt, pa, po, fl⟩ = B at *
  generalize hpts : ptsF pa l.points 0 = pts at *
  generalize (decide (1 ≤ pa.length ∧ pa.length ≤ 5) && pathB l pa) = b3 at *
  generalize eqF po pts = b4 at *
  generalize needsF l pa false none fl = b5 at *
  generalize l.sections.length = n0 at *
  generalize l.points.length = n1 at *
  generalize l.signals.length = n2 at *
  generalize rs.length = n3 at *
  generalize pa.length = np at *
  generalize po.length = nq at *
  generalize fl.length = nf at *
  generalize decide ((0 : Int) ≤ fr ∧ fr < (n2 : Nat)) = b0 at *
  generalize decide ((0 : Int) ≤ tt ∧ tt < (n2 : Nat)) = b1 at *
  have HBB : Hid (B = (b0 && (b1 && (decide (fr ≠ tt) && (b3 && (b4 && b5)))))) := HB
  clear HB hpts
  have TA : Hid (TwoAt w v #[.string nm, .int .i64 fr, .int .i64 tt, .slice p3 np k3, .slice p4 nq k4, .slice p5 nf k5] ((w.alloc (.cells #[.slice o0 n0 c0, .slice o1 n1 c1, .slice o2 n2 c2, .slice o3 n3 c3] 26)).alloc (.cells #[.string nm, .int .i64 fr, .int .i64 tt, .slice p3 np k3, .slice p4 nq k4, .slice p5 nf k5] 33))) := S
  clear S hsz1
  go_enter Try.func19, Try.ntmps19
  go_wp2_with fail
  generalize (w.alloc (.cells #[.slice o0 n0 c0, .slice o1 n1 c1, .slice o2 n2 c2, .slice o3 n3 c3] 26)).alloc (.cells #[.string nm, .int .i64 fr, .int .i64 tt, .slice p3 np k3, .slice p4 nq k4, .slice p5 nf k5] 33) = w1 at *
  have h2 := TA.out.1.cells
  rw [HV.out.1, HV.out.2.1, HV.out.2.2.1, HV.out.2.2.2] at h2
  have h3 := TA.out.six
  have x0 := ext_cell h2.1
  have x1 := ext_cell h2.2.1
  have x2 := ext_cell h2.2.2.1
  have x3 := ext_cell h2.2.2.2
  have y1 := ext_cell h3.2.1
  have y2 := ext_cell h3.2.2.1
  have y3 := ext_cell h3.2.2.2.1
  have y4 := ext_cell h3.2.2.2.2.1
  have y5 := ext_cell h3.2.2.2.2.2
  haveI := ext_some w1
  have HW : Hid (∀ W, Below w1.heap.size w1 W → Below w.heap.size w W) := fun W hW => TA.out.1.1.trans (hW.mono TA.out.1.1.size)
  have HB1 : Hid (Below w1.heap.size w1 w1.drew) := (Below.refl _ _).drew
  clear h2 h3
  refine wp_region_mix_lex (C := fun W => ∃ y : Ext w1, W = y.z) (by kernel_rfl) (by kernel_rfl) (by kernel_rfl) (by kernel_rfl) ⟨⟨_, (Below.refl _ _).drew⟩, rfl⟩ ?_
  (repeat (first
    | (with_reducible refine mix_read (by kernel_rfl) ?_; go_big_quiet_want; go_big_quiet_op; go_big_quiet_on; with_reducible refine wpQuiet_nil ?_)
    | (with_reducible refine mix_pass (by kernel_rfl) ?_; go_big_quiet_skip; with_reducible refine wpQuiet_nil ?_)))
  with_reducible refine mix_call (by kernel_rfl) (by kernel_rfl) ((P0.out _).mono ?_) (by kernel_rfl)
  rintro e w' ⟨rfl, rfl⟩
  refine ⟨_, rfl, ⟨⟨_, HB1.out⟩, rfl⟩, ?_⟩
  simp only [Act.put, List.setIfInBounds_toArray, List.set_cons_zero, List.set_cons_succ]
  cases b0
  · (repeat (first
    | (with_reducible refine mix_read (by kernel_rfl) ?_; go_big_quiet_want; go_big_quiet_op; go_big_quiet_on; with_reducible refine wpQuiet_nil ?_)
    | (with_reducible refine mix_pass (by kernel_rfl) ?_; go_big_quiet_skip; with_reducible refine wpQuiet_nil ?_)))
    with_reducible refine mix_end ?_
    intro _
    go_wp2
    go_ret
    exact ⟨ret_bool (by rw [HBB.out]; rfl), HW.out _ HB1.out⟩
  (repeat (first
    | (with_reducible refine mix_read (by kernel_rfl) ?_; go_big_quiet_want; go_big_quiet_op; go_big_quiet_on; with_reducible refine wpQuiet_nil ?_)
    | (with_reducible refine mix_pass (by kernel_rfl) ?_; go_big_quiet_skip; with_reducible refine wpQuiet_nil ?_)))
  with_reducible refine mix_call (by kernel_rfl) (by kernel_rfl) ((P1.out _).mono ?_) (by kernel_rfl)
  rintro e w' ⟨rfl, rfl⟩
  refine ⟨_, rfl, ⟨⟨_, HB1.out⟩, rfl⟩, ?_⟩
  simp only [Act.put, List.setIfInBounds_toArray, List.set_cons_zero, List.set_cons_succ]
  cases b1
  · (repeat (first
    | (with_reducible refine mix_read (by kernel_rfl) ?_; go_big_quiet_want; go_big_quiet_op; go_big_quiet_on; with_reducible refine wpQuiet_nil ?_)
    | (with_reducible refine mix_pass (by kernel_rfl) ?_; go_big_quiet_skip; with_reducible refine wpQuiet_nil ?_)))
    with_reducible refine mix_end ?_
    intro _
    go_wp2
    go_ret
    exact ⟨ret_bool (by rw [HBB.out]; rfl), HW.out _ HB1.out⟩
  by_cases hft : fr = tt
  · have hdd : (fr == tt) = true := by simp [hft]
    have hd2 : (fr != tt) = false := by simp [hft]
    have hd3 : decide (fr = tt) = true := decide_eq_true hft
    have HFT : Hid (fr = tt) := hft
    clear hft
    (repeat (first
    | (with_reducible refine mix_read (by kernel_rfl) ?_; go_big_quiet_want; go_big_quiet_op; go_big_quiet_on; with_reducible refine wpQuiet_nil ?_)
    | (with_reducible refine mix_pass (by kernel_rfl) ?_; go_big_quiet_skip; with_reducible refine wpQuiet_nil ?_)))
    with_reducible refine mix_end ?_
    intro _
    go_wp2
    go_ret
    exact ⟨ret_bool (by rw [HBB.out]; simp [HFT.out]), HW.out _ HB1.out⟩
  have hdd : (fr == tt) = false := by simp [hft]
  have hd2 : (fr != tt) = true := by simp [hft]
  have hd3 : decide (fr = tt) = false := decide_eq_false hft
  have HFT : Hid (¬ fr = tt) := hft
  clear hft
  (repeat (first
    | (with_reducible refine mix_read (by kernel_rfl) ?_; go_big_quiet_want; go_big_quiet_op; go_big_quiet_on; with_reducible refine wpQuiet_nil ?_)
    | (with_reducible refine mix_pass (by kernel_rfl) ?_; go_big_quiet_skip; with_reducible refine wpQuiet_nil ?_)))
  with_reducible refine mix_call (by kernel_rfl) (by kernel_rfl) ((PA.out _ (HW.out _ HB1.out)).mono ?_) (by kernel_rfl)
  rintro e w' ⟨rfl, rfl⟩
  refine ⟨_, rfl, ⟨⟨_, HB1.out⟩, rfl⟩, ?_⟩
  simp only [Act.put, List.setIfInBounds_toArray, List.set_cons_zero, List.set_cons_succ]
  cases b3
  · (repeat (first
    | (with_reducible refine mix_read (by kernel_rfl) ?_; go_big_quiet_want; go_big_quiet_op; go_big_quiet_on; with_reducible refine wpQuiet_nil ?_)
    | (with_reducible refine mix_pass (by kernel_rfl) ?_; go_big_quiet_skip; with_reducible refine wpQuiet_nil ?_)))
    with_reducible refine mix_end ?_
    intro _
    go_wp2
    go_ret
    exact ⟨ret_bool (by rw [HBB.out]; simp), HW.out _ HB1.out⟩
  (repeat (first
    | (with_reducible refine mix_read (by kernel_rfl) ?_; go_big_quiet_want; go_big_quiet_op; go_big_quiet_on; with_reducible refine wpQuiet_nil ?_)
    | (with_reducible refine mix_pass (by kernel_rfl) ?_; go_big_quiet_skip; with_reducible refine wpQuiet_nil ?_)))
  with_reducible refine mix_call (by kernel_rfl) (by kernel_rfl) ((PT.out _ (HW.out _ HB1.out)).mono ?_) (by kernel_rfl)
  rintro e w2 ⟨u2, rfl, r2, hb2⟩
  have HB2 : Hid (Below w1.heap.size w1 w2) := HB1.out.trans (hb2.mono HB1.out.size)
  have HR2 : Hid (rowAt w2 u2 1 iC pts) := r2
  clear hb2 r2
  refine ⟨_, rfl, ⟨⟨_, HB2.out⟩, rfl⟩, ?_⟩
  simp only [Act.put, List.setIfInBounds_toArray, List.set_cons_zero, List.set_cons_succ]
  with_reducible refine mix_call (by kernel_rfl) (by kernel_rfl) ((HA.out _ _ (HW.out _ HB2.out) HR2.out).mono ?_) (by kernel_rfl)
  rintro e w3 ⟨rfl, hb3⟩
  have HB3 : Hid (Below w1.heap.size w1 w3) := HB2.out.trans (hb3.mono HB2.out.size)
  clear hb3
  refine ⟨_, rfl, ⟨⟨_, HB3.out⟩, rfl⟩, ?_⟩
  simp only [Act.put, List.setIfInBounds_toArray, List.set_cons_zero, List.set_cons_succ]
  cases b4
  · (repeat (first
    | (with_reducible refine mix_read (by kernel_rfl) ?_; go_big_quiet_want; go_big_quiet_op; go_big_quiet_on; with_reducible refine wpQuiet_nil ?_)
    | (with_reducible refine mix_pass (by kernel_rfl) ?_; go_big_quiet_skip; with_reducible refine wpQuiet_nil ?_)))
    with_reducible refine mix_end ?_
    intro _
    go_wp2
    go_ret
    exact ⟨ret_bool (by rw [HBB.out]; simp), HW.out _ HB3.out⟩
  (repeat (first
    | (with_reducible refine mix_read (by kernel_rfl) ?_; go_big_quiet_want; go_big_quiet_op; go_big_quiet_on; with_reducible refine wpQuiet_nil ?_)
    | (with_reducible refine mix_pass (by kernel_rfl) ?_; go_big_quiet_skip; with_reducible refine wpQuiet_nil ?_)))
  with_reducible refine mix_call (by kernel_rfl) (by kernel_rfl) ((BE.out _ (HW.out _ HB3.out)).mono ?_) (by kernel_rfl)
  rintro e w4 ⟨rfl, hb4⟩
  have HB4 : Hid (Below w1.heap.size w1 w4) := HB3.out.trans (hb4.mono HB3.out.size)
  clear hb4
  refine ⟨_, rfl, ⟨⟨_, HB4.out⟩, rfl⟩, ?_⟩
  simp only [Act.put, List.setIfInBounds_toArray, List.set_cons_zero, List.set_cons_succ]
  (repeat (first
    | (with_reducible refine mix_read (by kernel_rfl) ?_; go_big_quiet_want; go_big_quiet_op; go_big_quiet_on; with_reducible refine wpQuiet_nil ?_)
    | (with_reducible refine mix_pass (by kernel_rfl) ?_; go_big_quiet_skip; with_reducible refine wpQuiet_nil ?_)))
  with_reducible refine mix_end ?_
  intro _
  go_wp2
  go_ret
  exact ⟨ret_bool (by rw [HBB.out]; simp [HFT.out]), HW.out _ HB4.out⟩
end Go.Proofs.Ytceebimgfajbcaa
