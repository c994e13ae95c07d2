/-
  Package table: Conflict, by a contract.
-/
import Derived.Test.YtceebimgfajbcaaTbShare
import Derived.Test.YtceebimgfajbcaaTbNeed2
import Derived.Deep.RegionHeld
import Derived.Deep.CutBlock
namespace Go.Proofs.Ytceebimgfajbcaa
open Go.RowKit

/-- Two routes exclude one another. -/
def confB (r s : Nat) (a b : Rt) : Bool := decide (r = s) || (decide (a.frm = b.frm) || (shareB a.path b.path || pullB (a.points ++ a.flank) (b.points ++ b.flank)))

/-- A route's three cells that are read. -/
def Rt3 (b : Nat) (f p : Value) (w : World) : Prop := w.cell? ⟨b, 1, none⟩ = some f ∧ w.cell? ⟨b, 3, none⟩ = some p
theorem Rt3.ext {b : Nat} {f p : Value} {w : World} (h : Rt3 b f p w) (y : Ext w) : y.z.cell? ⟨b, 1, none⟩ = some f ∧ y.z.cell? ⟨b, 3, none⟩ = some p := ⟨ext_cell h.1 y, ext_cell h.2 y⟩

set_option maxRecDepth 1000000 in
set_option maxHeartbeats 8000000 in
theorem conflict_any (v : Nat → Value) (l : Lay) (rs : List RtV) (r s : Nat) (x y : RtV) (w : World) (h : LayRd w v l rs) (hx : rs[r]? = some x) (hy : rs[s]? = some y)
    (hmx : x.1.path.length ≤ 1000000 ∧ x.1.points.length + x.1.flank.length ≤ 1000000) (hmy : y.1.path.length ≤ 1000000 ∧ y.1.points.length + y.1.flank.length ≤ 1000000) :
    Calls Try.prog 11 #[.agg #[v 0, v 1, v 2, v 3], .int .i64 r, .int .i64 s] w fun e w' => e = .returned (.bool (confB r s x.1 y.1)) ∧ Below w.heap.size w w' := by
  have NR : Hid (∀ W, Below w.heap.size w W → Calls Try.prog 22 #[.agg #[v 0, v 1, v 2, v 3], .int .i64 r] W fun e w' => ∃ u, e = .returned u ∧ rowAt w' u 2 nC (x.1.points ++ x.1.flank) ∧ Below W.heap.size W w') := fun W hW => tableNeeds_any v l rs r x W (h.below hW) hx hmx.2
  have NS : Hid (∀ W, Below w.heap.size w W → Calls Try.prog 22 #[.agg #[v 0, v 1, v 2, v 3], .int .i64 s] W fun e w' => ∃ u, e = .returned u ∧ rowAt w' u 2 nC (y.1.points ++ y.1.flank) ∧ Below W.heap.size W w') := fun W hW => tableNeeds_any v l rs s y W (h.below hW) hy hmy.2
  have PU : Hid (∀ ua ub W, rowAt W ua 2 nC (x.1.points ++ x.1.flank) → rowAt W ub 2 nC (y.1.points ++ y.1.flank) → Calls Try.prog 21 #[ua, ub] W fun e w' => e = .returned (.bool (pullB (x.1.points ++ x.1.flank) (y.1.points ++ y.1.flank))) ∧ Below W.heap.size W w') := fun ua ub W h1 h2 => pullApart_any ua ub _ _ W h1 h2 (by rw [List.length_append]; omega) (by rw [List.length_append]; omega)
  have SH : Hid (∀ W, Below w.heap.size w W → Calls Try.prog 20 #[x.2.1, y.2.1] W fun e w' => e = .returned (.bool (shareB x.1.path y.1.path)) ∧ Below W.heap.size W w') := fun W hW => shareSection_any _ _ _ _ W ((h.x x (List.mem_of_getElem? hx)).path.below hW) ((h.x y (List.mem_of_getElem? hy)).path.below hW) (by omega) (by omega)
  obtain ⟨⟨o3x, n3x, k3x, fx3⟩, ⟨o4x, n4x, k4x, fx4⟩, o5x, n5x, k5x, fx5⟩ := (h.x x (List.mem_of_getElem? hx)).slices
  obtain ⟨⟨o3y, n3y, k3y, fy3⟩, ⟨o4y, n4y, k4y, fy4⟩, o5y, n5y, k5y, fy5⟩ := (h.x y (List.mem_of_getElem? hy)).slices
  obtain ⟨o0, c0, e0, _⟩ := h.s
  obtain ⟨o1, c1, e1, _⟩ := h.p
  obtain ⟨o2, c2, e2, _⟩ := h.g
  obtain ⟨o3, c3, e3, r3⟩ := h.r
  have S := BoxAt.start w v
  obtain ⟨g, off, rfl, hcx⟩ := r3 r _ hx
  obtain ⟨g', off', e', hcy⟩ := r3 s _ hy
  injection e' with e'
  injection e' with e1' e2'
  subst e1' e2'
  have hrl : r < rs.length := (List.getElem?_eq_some_iff.1 hx).1
  have hsl : s < rs.length := (List.getElem?_eq_some_iff.1 hy).1
  have xa0 := hcx 0 _ rfl
  have xa1 := hcx 1 _ rfl
  have xa2 := hcx 2 _ rfl
  have xa3 := hcx 3 _ rfl
  have xa4 := hcx 4 _ rfl
  have xa5 := hcx 5 _ rfl
  have ya0 := hcy 0 _ rfl
  have ya1 := hcy 1 _ rfl
  have ya2 := hcy 2 _ rfl
  have ya3 := hcy 3 _ rfl
  have ya4 := hcy 4 _ rfl
  have ya5 := hcy 5 _ rfl
  rw [Nat.add_zero] at xa0 ya0
  rw [fx3] at xa3 SH
  rw [fy3] at ya3 SH
  rw [fx4] at xa4
  rw [fx5] at xa5
  rw [fy4] at ya4
  rw [fy5] at ya5
  have HV : Hid (v 0 = .slice o0 l.sections.length c0 ∧ v 1 = .slice o1 l.points.length c1 ∧ v 2 = .slice o2 l.signals.length c2 ∧ v 3 = .slice (some ⟨g, off, none⟩) rs.length c3) := ⟨e0, e1, e2, e3⟩
  have HCF : Hid (confB r s x.1 y.1 = (decide (r = s) || (decide (x.1.frm = y.1.frm) || (shareB x.1.path y.1.path || pullB (x.1.points ++ x.1.flank) (y.1.points ++ y.1.flank))))) := rfl
  rw [e0, e1, e2, e3] at S ⊢
  rw [e0, e1, e2, e3] at NR NS
  clear h hmx hmy hx hy hcx hcy r3 e0 e1 e2 e3 fx3 fx4 fx5 fy3 fy4 fy5
  generalize confB r s x.1 y.1 = B at *
  generalize shareB x.1.path y.1.path = b2 at *
  generalize pullB (x.1.points ++ x.1.flank) (y.1.points ++ y.1.flank) = b3 at *
  generalize x.1.points ++ x.1.flank = nx at *
  generalize y.1.points ++ y.1.flank = ny at *
  generalize x.1.frm = fx at *
  generalize y.1.frm = fy at *
  generalize x.1.name = xn at *
  generalize y.1.name = yn at *
  generalize x.1.to = xt at *
  generalize y.1.to = yt at *
  generalize l.sections.length = n0 at *
  generalize l.points.length = n1 at *
  generalize l.signals.length = n2 at *
  generalize rs.length = n3 at *
  have C1 := fun W => isPlace_any (r : Int) n3 W
  rw [decide_eq_true (show (0 : Int) ≤ (r : Int) ∧ (r : Int) < (n3 : Int) by omega)] at C1
  have C2 := fun W => isPlace_any (s : Int) n3 W
  rw [decide_eq_true (show (0 : Int) ≤ (s : Int) ∧ (s : Int) < (n3 : Int) by omega)] at C2
  have hri : (r : Int) < (n3 : Int) := by omega
  have hsi : (s : Int) < (n3 : Int) := by omega
  have TA : Hid (BoxAt w v (w.alloc (.cells #[.slice o0 n0 c0, .slice o1 n1 c1, .slice o2 n2 c2, .slice (some ⟨g, off, none⟩) n3 c3] 26))) := S
  clear S
  go_enter Try.func11, Try.ntmps11
  go_wp2_with fail
  refine (C1 _).mono ?_
  rintro e w' ⟨rfl, rfl⟩
  go_wp2_with fail
  refine (C2 _).mono ?_
  rintro e w' ⟨rfl, rfl⟩
  clear C1 C2
  generalize w.alloc (.cells #[.slice o0 n0 c0, .slice o1 n1 c1, .slice o2 n2 c2, .slice (some ⟨g, off, none⟩) n3 c3] 26) = w1 at *
  have h2 := TA.out.cells
  rw [HV.out.1, HV.out.2.1, HV.out.2.2.1, HV.out.2.2.2] at h2
  have up : ∀ {p : Addr} {u : Value}, w.cell? p = some u → w1.cell? p = some u := fun h => (TA.out.1.cell (World.block_lt_of_cell? _ _ h)).trans h
  have xb0 := up xa0
  have xb1 := up xa1
  have xb2 := up xa2
  have xb3 := up xa3
  have xb4 := up xa4
  have xb5 := up xa5
  have yb0 := up ya0
  have yb1 := up ya1
  have yb2 := up ya2
  have yb3 := up ya3
  have yb4 := up ya4
  have yb5 := up ya5
  have q3 := h2.2.2.2
  have HW : Hid (∀ W, Below w1.heap.size w1 W → Below w.heap.size w W) := fun W hW => TA.out.1.trans (hW.mono TA.out.1.size)
  have KEEP : Hid (∀ W : World, Below w1.heap.size w1 W → W.cell? ⟨w.heap.size, 3, none⟩ = some (.slice (some ⟨g, off, none⟩) n3 c3) ∧ (W.cell? ⟨g, off + r * 6, none⟩ = some (.string xn) ∧ W.cell? ⟨g, off + r * 6 + 1, none⟩ = some (.int .i64 fx) ∧ W.cell? ⟨g, off + r * 6 + 2, none⟩ = some (.int .i64 xt) ∧ W.cell? ⟨g, off + r * 6 + 3, none⟩ = some (.slice o3x n3x k3x) ∧ W.cell? ⟨g, off + r * 6 + 4, none⟩ = some (.slice o4x n4x k4x) ∧ W.cell? ⟨g, off + r * 6 + 5, none⟩ = some (.slice o5x n5x k5x)) ∧ W.cell? ⟨g, off + s * 6, none⟩ = some (.string yn) ∧ W.cell? ⟨g, off + s * 6 + 1, none⟩ = some (.int .i64 fy) ∧ W.cell? ⟨g, off + s * 6 + 2, none⟩ = some (.int .i64 yt) ∧ W.cell? ⟨g, off + s * 6 + 3, none⟩ = some (.slice o3y n3y k3y) ∧ W.cell? ⟨g, off + s * 6 + 4, none⟩ = some (.slice o4y n4y k4y) ∧ W.cell? ⟨g, off + s * 6 + 5, none⟩ = some (.slice o5y n5y k5y)) := fun W hW => by
    have up : ∀ {p : Addr} {u : Value}, w1.cell? p = some u → W.cell? p = some u := fun h => (hW.cell (World.block_lt_of_cell? _ _ h)).trans h
    exact ⟨up q3, ⟨up xb0, up xb1, up xb2, up xb3, up xb4, up xb5⟩, up yb0, up yb1, up yb2, up yb3, up yb4, up yb5⟩
  clear up xa0 xa1 xa2 xa3 xa4 xa5 ya0 ya1 ya2 ya3 ya4 ya5 h2
  go_upto_region 3 with fail
  go_cut [7, 8] from 23 to 58 (fun sx sy wc => ∃ b c, sx = .pointer (some ⟨b, 0, none⟩) ∧ sy = .pointer (some ⟨c, 0, none⟩) ∧ Rt3 b (.int .i64 fx) (.slice o3x n3x k3x) wc ∧ Rt3 c (.int .i64 fy) (.slice o3y n3y k3y) wc ∧ Below w1.heap.size w1 wc)
  case first =>
    clear hrl hsl
    go_region_held (fun W => W.cell? ⟨w.heap.size, 3, none⟩ = some (.slice (some ⟨g, off, none⟩) n3 c3) ∧ (W.cell? ⟨g, off + r * 6, none⟩ = some (.string xn) ∧ W.cell? ⟨g, off + r * 6 + 1, none⟩ = some (.int .i64 fx) ∧ W.cell? ⟨g, off + r * 6 + 2, none⟩ = some (.int .i64 xt) ∧ W.cell? ⟨g, off + r * 6 + 3, none⟩ = some (.slice o3x n3x k3x) ∧ W.cell? ⟨g, off + r * 6 + 4, none⟩ = some (.slice o4x n4x k4x) ∧ W.cell? ⟨g, off + r * 6 + 5, none⟩ = some (.slice o5x n5x k5x)) ∧ W.cell? ⟨g, off + s * 6, none⟩ = some (.string yn) ∧ W.cell? ⟨g, off + s * 6 + 1, none⟩ = some (.int .i64 fy) ∧ W.cell? ⟨g, off + s * 6 + 2, none⟩ = some (.int .i64 yt) ∧ W.cell? ⟨g, off + s * 6 + 3, none⟩ = some (.slice o3y n3y k3y) ∧ W.cell? ⟨g, off + s * 6 + 4, none⟩ = some (.slice o4y n4y k4y) ∧ W.cell? ⟨g, off + s * 6 + 5, none⟩ = some (.slice o5y n5y k5y)) (exact KEEP.out _ (by repeat' (with_reducible first | exact Below.refl _ _ | refine Below.drew ?_ | refine Below.alloc ?_ ?_ _ | refine Below.setCell ?_ ?_ _ | exact Nat.le_refl _ | (simp; done) | (simp; omega)))) (fail)
    all_goals
      go_wp2_with fail
      go_meet
      case rel =>
        refine ⟨_, _, rfl, rfl, ⟨by go_simp, by go_simp⟩, ⟨by go_simp, by go_simp⟩, ?_⟩
        repeat' (with_reducible first | exact Below.refl _ _ | refine Below.drew ?_ | refine Below.alloc ?_ ?_ _ | refine Below.setCell ?_ ?_ _ | exact Nat.le_refl _ | (simp; done) | (simp; omega))
  case rest =>
    obtain ⟨b, c, rfl, rfl, rx, ry, hbc⟩ := hcut
    have HWC : Hid (∀ W, Below wc.heap.size wc W → Below w.heap.size w W) := fun W hW => HW.out _ (hbc.trans (hW.mono hbc.size))
    have h2 := (TA.out.step hbc).cells
    rw [HV.out.1, HV.out.2.1, HV.out.2.2.1, HV.out.2.2.2] at h2
    have z0 := ext_cell h2.1
    have z1 := ext_cell h2.2.1
    have z2 := ext_cell h2.2.2.1
    have z3 := ext_cell h2.2.2.2
    have xf := ext_cell rx.1
    have xp := ext_cell rx.2
    have yf := ext_cell ry.1
    have yp := ext_cell ry.2
    haveI := ext_some wc
    have HB1 : Hid (Below wc.heap.size wc wc.drew) := (Below.refl _ _).drew
    clear KEEP xb0 xb1 xb2 xb3 xb4 xb5 yb0 yb1 yb2 yb3 yb4 yb5 q3 h2 rx ry hbc
    go_wp2_with fail
    refine wp_region_mix_seq (C := fun W => ∃ y : Ext wc, W = y.z) [0, 1, 2, 3, 4, 5, 6, 7, 8, 9, 10, 11, 12, 13, 14, 15, 16, 17, 18, 19, 21, 22, 20, 23, 24, 25, 26] (by kernel_rfl) (by kernel_rfl) (by kernel_rfl) (by kernel_rfl) (by simp only [List.filterMap_cons, List.getElem?_toArray, List.getElem?_cons_zero, List.getElem?_cons_succ, List.filterMap_nil]; rfl) ⟨⟨_, (Below.refl _ _).drew⟩, rfl⟩ ?_
    by_cases hrs : r = s
    · subst hrs
      (repeat (first | (with_reducible refine mix_read (by kernel_rfl) ?_; go_big_quiet_want; go_big_quiet_op; go_big_quiet_on; with_reducible refine wpQuiet_nil ?_) | (with_reducible refine mix_pass (by kernel_rfl) ?_; go_big_quiet_skip; with_reducible refine wpQuiet_nil ?_)))
      with_reducible refine mix_end ?_
      intro _
      go_wp2
      go_ret
      exact ⟨ret_bool (by rw [HCF.out]; simp), HWC.out _ HB1.out⟩
    have hd1 : ((r : Int) == (s : Int)) = false := by simp; omega
    have hd2 : decide ((r : Int) = (s : Int)) = false := decide_eq_false (by omega)
    have HRS : Hid (¬ r = s) := hrs
    by_cases hff : fx = fy
    · have hd3 : (fx == fy) = true := by simp [hff]
      have hd4 : decide (fx = fy) = true := decide_eq_true hff
      have HFF : Hid (fx = fy) := hff
      clear hff hrs
      (repeat (first | (with_reducible refine mix_read (by kernel_rfl) ?_; go_big_quiet_want; go_big_quiet_op; go_big_quiet_on; with_reducible refine wpQuiet_nil ?_) | (with_reducible refine mix_pass (by kernel_rfl) ?_; go_big_quiet_skip; with_reducible refine wpQuiet_nil ?_)))
      with_reducible refine mix_end ?_
      intro _
      go_wp2
      go_ret
      exact ⟨ret_bool (by rw [HCF.out]; simp [HFF.out]), HWC.out _ HB1.out⟩
    have hd3 : (fx == fy) = false := by simp [hff]
    have hd4 : decide (fx = fy) = false := decide_eq_false hff
    have HFF : Hid (¬ fx = fy) := hff
    clear hff hrs
    (repeat (first | (with_reducible refine mix_read (by kernel_rfl) ?_; go_big_quiet_want; go_big_quiet_op; go_big_quiet_on; with_reducible refine wpQuiet_nil ?_) | (with_reducible refine mix_pass (by kernel_rfl) ?_; go_big_quiet_skip; with_reducible refine wpQuiet_nil ?_)))
    with_reducible refine mix_call (by kernel_rfl) (by kernel_rfl) ((SH.out _ (HWC.out _ HB1.out)).mono ?_) (by kernel_rfl)
    rintro e w2 ⟨rfl, hb2⟩
    have HB2 : Hid (Below wc.heap.size wc w2) := HB1.out.trans (hb2.mono HB1.out.size)
    clear hb2
    refine ⟨_, rfl, ⟨⟨_, HB2.out⟩, rfl⟩, ?_⟩
    simp only [Act.put, List.setIfInBounds_toArray, List.set_cons_zero, List.set_cons_succ]
    cases b2
    · (repeat (first | (with_reducible refine mix_read (by kernel_rfl) ?_; go_big_quiet_want; go_big_quiet_op; go_big_quiet_on; with_reducible refine wpQuiet_nil ?_) | (with_reducible refine mix_pass (by kernel_rfl) ?_; go_big_quiet_skip; with_reducible refine wpQuiet_nil ?_)))
      with_reducible refine mix_call (by kernel_rfl) (by kernel_rfl) ((NR.out _ (HWC.out _ HB2.out)).mono ?_) (by kernel_rfl)
      rintro e w3 ⟨u3, rfl, r3, hb3⟩
      have HB3 : Hid (Below wc.heap.size wc w3) := HB2.out.trans (hb3.mono HB2.out.size)
      have HR3 : Hid (rowAt w3 u3 2 nC nx) := r3
      clear hb3 r3
      refine ⟨_, rfl, ⟨⟨_, HB3.out⟩, rfl⟩, ?_⟩
      simp only [Act.put, List.setIfInBounds_toArray, List.set_cons_zero, List.set_cons_succ]
      (repeat (first | (with_reducible refine mix_read (by kernel_rfl) ?_; go_big_quiet_want; go_big_quiet_op; go_big_quiet_on; with_reducible refine wpQuiet_nil ?_) | (with_reducible refine mix_pass (by kernel_rfl) ?_; go_big_quiet_skip; with_reducible refine wpQuiet_nil ?_)))
      with_reducible refine mix_call (by kernel_rfl) (by kernel_rfl) ((NS.out _ (HWC.out _ HB3.out)).mono ?_) (by kernel_rfl)
      rintro e w4 ⟨u4, rfl, r4, hb4⟩
      have HB4 : Hid (Below wc.heap.size wc w4) := HB3.out.trans (hb4.mono HB3.out.size)
      have HR4 : Hid (rowAt w4 u4 2 nC ny) := r4
      have HR3' : Hid (rowAt w4 u3 2 nC nx) := HR3.out.below hb4
      clear hb4 r4
      refine ⟨_, rfl, ⟨⟨_, HB4.out⟩, rfl⟩, ?_⟩
      simp only [Act.put, List.setIfInBounds_toArray, List.set_cons_zero, List.set_cons_succ]
      (repeat (first | (with_reducible refine mix_read (by kernel_rfl) ?_; go_big_quiet_want; go_big_quiet_op; go_big_quiet_on; with_reducible refine wpQuiet_nil ?_) | (with_reducible refine mix_pass (by kernel_rfl) ?_; go_big_quiet_skip; with_reducible refine wpQuiet_nil ?_)))
      with_reducible refine mix_call (by kernel_rfl) (by kernel_rfl) ((PU.out _ _ _ HR3'.out HR4.out).mono ?_) (by kernel_rfl)
      rintro e w5 ⟨rfl, hb5⟩
      have HB5 : Hid (Below wc.heap.size wc w5) := HB4.out.trans (hb5.mono HB4.out.size)
      clear hb5
      refine ⟨_, rfl, ⟨⟨_, HB5.out⟩, rfl⟩, ?_⟩
      simp only [Act.put, List.setIfInBounds_toArray, List.set_cons_zero, List.set_cons_succ]
      (repeat (first | (with_reducible refine mix_read (by kernel_rfl) ?_; go_big_quiet_want; go_big_quiet_op; go_big_quiet_on; with_reducible refine wpQuiet_nil ?_) | (with_reducible refine mix_pass (by kernel_rfl) ?_; go_big_quiet_skip; with_reducible refine wpQuiet_nil ?_)))
      with_reducible refine mix_end ?_
      intro _
      go_wp2
      go_ret
      exact ⟨ret_bool (by rw [HCF.out]; simp [HFF.out, HRS.out]), HWC.out _ HB5.out⟩
    · (repeat (first | (with_reducible refine mix_read (by kernel_rfl) ?_; go_big_quiet_want; go_big_quiet_op; go_big_quiet_on; with_reducible refine wpQuiet_nil ?_) | (with_reducible refine mix_pass (by kernel_rfl) ?_; go_big_quiet_skip; with_reducible refine wpQuiet_nil ?_)))
      with_reducible refine mix_end ?_
      intro _
      go_wp2
      go_ret
      exact ⟨ret_bool (by rw [HCF.out]; simp), HWC.out _ HB2.out⟩
end Go.Proofs.Ytceebimgfajbcaa
