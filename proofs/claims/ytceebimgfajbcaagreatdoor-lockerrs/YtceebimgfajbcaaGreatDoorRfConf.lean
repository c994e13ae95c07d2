/-
  The reference's Conflict, by a contract.
-/
import Derived.Test.YtceebimgfajbcaaGreatDoorRfTab2
namespace Go.Proofs.YtceebimgfajbcaaGreatDoor
open Go.RowKit

set_option maxRecDepth 1000000 in
set_option maxHeartbeats 16000000 in
theorem rfConflict_any (v : Nat → Value) (l : Lay) (rs : List RtV) (r s : Nat) (x y : RtV) (w : World) (h : LayRd w v l rs) (hx : rs[r]? = some x) (hy : rs[s]? = some y)
    (hmx : x.1.path.length ≤ 1000000 ∧ x.1.points.length + x.1.flank.length ≤ 1000000) (hmy : y.1.path.length ≤ 1000000 ∧ y.1.points.length + y.1.flank.length ≤ 1000000) :
    Calls Tryz.prog 35 #[.agg #[v 0, v 1, v 2, v 3], .int .i64 r, .int .i64 s] w fun e w' => e = .returned (.bool (confB r s x.1 y.1)) ∧ Below w.heap.size w w' := by
  have NR : Hid (∀ W, Below w.heap.size w W → Calls Tryz.prog 44 #[.agg #[v 0, v 1, v 2, v 3], .int .i64 r] W fun e w' => ∃ u, e = .returned u ∧ rowAt w' u 2 nC (x.1.points ++ x.1.flank) ∧ Below W.heap.size W w') := fun W hW => rfNeeds_any v l rs r x W (h.below hW) hx hmx.2
  have NS : Hid (∀ W, Below w.heap.size w W → Calls Tryz.prog 44 #[.agg #[v 0, v 1, v 2, v 3], .int .i64 s] W fun e w' => ∃ u, e = .returned u ∧ rowAt w' u 2 nC (y.1.points ++ y.1.flank) ∧ Below W.heap.size W w') := fun W hW => rfNeeds_any v l rs s y W (h.below hW) hy hmy.2
  obtain ⟨⟨o3x, n3x, k3x, fx3⟩, ⟨o4x, n4x, k4x, fx4⟩, o5x, n5x, k5x, fx5⟩ := (h.x x (List.mem_of_getElem? hx)).slices
  obtain ⟨⟨o3y, n3y, k3y, fy3⟩, ⟨o4y, n4y, k4y, fy4⟩, o5y, n5y, k5y, fy5⟩ := (h.x y (List.mem_of_getElem? hy)).slices
  obtain ⟨o0, c0, e0, _⟩ := h.s
  obtain ⟨o1, c1, e1, _⟩ := h.p
  obtain ⟨o2, c2, e2, _⟩ := h.g
  obtain ⟨o3, c3, e3, r3⟩ := h.r
  have S := BoxAt.start w v
  obtain ⟨g, off, rfl, hcx⟩ := r3 r _ hx
  obtain ⟨g', off', e', hcy⟩ := r3 s _ hy
  injection e' with e'
  injection e' with e1' e2'
  subst e1' e2'
  have hrl : r < rs.length := (List.getElem?_eq_some_iff.1 hx).1
  have hsl : s < rs.length := (List.getElem?_eq_some_iff.1 hy).1
  have xa0 := hcx 0 _ rfl
  have xa1 := hcx 1 _ rfl
  have xa2 := hcx 2 _ rfl
  have xa3 := hcx 3 _ rfl
  have xa4 := hcx 4 _ rfl
  have xa5 := hcx 5 _ rfl
  have ya0 := hcy 0 _ rfl
  have ya1 := hcy 1 _ rfl
  have ya2 := hcy 2 _ rfl
  have ya3 := hcy 3 _ rfl
  have ya4 := hcy 4 _ rfl
  have ya5 := hcy 5 _ rfl
  rw [Nat.add_zero] at xa0 ya0
  rw [fx3] at xa3
  rw [fy3] at ya3
  rw [fx4] at xa4
  rw [fx5] at xa5
  rw [fy4] at ya4
  rw [fy5] at ya5
  have HV : Hid (v 0 = .slice o0 l.sections.length c0 ∧ v 1 = .slice o1 l.points.length c1 ∧ v 2 = .slice o2 l.signals.length c2 ∧ v 3 = .slice (some ⟨g, off, none⟩) rs.length c3) := ⟨e0, e1, e2, e3⟩
  have HCF : Hid (confB r s x.1 y.1 = (decide (r = s) || (decide (x.1.frm = y.1.frm) || (shareB x.1.path y.1.path || pullB (x.1.points ++ x.1.flank) (y.1.points ++ y.1.flank))))) := rfl
  rw [e0, e1, e2, e3] at S ⊢
  rw [e0, e1, e2, e3] at NR NS
  have HPX : Hid (rowAt w (.slice o3x n3x k3x) 1 iC x.1.path ∧ rowAt w (.slice o3y n3y k3y) 1 iC y.1.path ∧ x.1.path.length ≤ 1000000 ∧ y.1.path.length ≤ 1000000) := ⟨by rw [← fx3]; exact (h.x x (List.mem_of_getElem? hx)).path, by rw [← fy3]; exact (h.x y (List.mem_of_getElem? hy)).path, hmx.1, hmy.1⟩
  have HNX : Hid ((x.1.points ++ x.1.flank).length ≤ 1000000 ∧ (y.1.points ++ y.1.flank).length ≤ 1000000) := ⟨by rw [List.length_append]; exact hmx.2, by rw [List.length_append]; exact hmy.2⟩
  clear h hmx hmy hx hy hcx hcy r3 e0 e1 e2 e3 fx3 fx4 fx5 fy3 fy4 fy5
  generalize confB r s x.1 y.1 = B at *
  generalize x.1.path = px at *
  generalize y.1.path = py at *
  generalize x.1.points ++ x.1.flank = nx at *
  generalize y.1.points ++ y.1.flank = ny at *
  generalize x.1.frm = fx at *
  generalize y.1.frm = fy at *
  generalize x.1.name = xn at *
  generalize y.1.name = yn at *
  generalize x.1.to = xt at *
  generalize y.1.to = yt at *
  generalize l.sections.length = n0 at *
  generalize l.points.length = n1 at *
  generalize l.signals.length = n2 at *
  generalize rs.length = n3 at *
  have hri : (r : Int) < (n3 : Int) := by omega
  have hsi : (s : Int) < (n3 : Int) := by omega
  have TA : Hid (BoxAt w v (w.alloc (.cells #[.slice o0 n0 c0, .slice o1 n1 c1, .slice o2 n2 c2, .slice (some ⟨g, off, none⟩) n3 c3] 26))) := S
  clear S
  go_enter Tryz.func35, Tryz.ntmps35
  go_upto_region 1 with fail
  generalize w.alloc (.cells #[.slice o0 n0 c0, .slice o1 n1 c1, .slice o2 n2 c2, .slice (some ⟨g, off, none⟩) n3 c3] 26) = w1 at *
  have h2 := TA.out.cells
  rw [HV.out.1, HV.out.2.1, HV.out.2.2.1, HV.out.2.2.2] at h2
  have up : ∀ {p : Addr} {u : Value}, w.cell? p = some u → w1.cell? p = some u := fun h => (TA.out.1.cell (World.block_lt_of_cell? _ _ h)).trans h
  have xb0 := up xa0
  have xb1 := up xa1
  have xb2 := up xa2
  have xb3 := up xa3
  have xb4 := up xa4
  have xb5 := up xa5
  have yb0 := up ya0
  have yb1 := up ya1
  have yb2 := up ya2
  have yb3 := up ya3
  have yb4 := up ya4
  have yb5 := up ya5
  have q3 := h2.2.2.2
  have HW : Hid (∀ W, Below w1.heap.size w1 W → Below w.heap.size w W) := fun W hW => TA.out.1.trans (hW.mono TA.out.1.size)
  have KEEP : Hid (∀ W : World, Below w1.heap.size w1 W → W.cell? ⟨w.heap.size, 3, none⟩ = some (.slice (some ⟨g, off, none⟩) n3 c3) ∧ (W.cell? ⟨g, off + r * 6, none⟩ = some (.string xn) ∧ W.cell? ⟨g, off + r * 6 + 1, none⟩ = some (.int .i64 fx) ∧ W.cell? ⟨g, off + r * 6 + 2, none⟩ = some (.int .i64 xt) ∧ W.cell? ⟨g, off + r * 6 + 3, none⟩ = some (.slice o3x n3x k3x) ∧ W.cell? ⟨g, off + r * 6 + 4, none⟩ = some (.slice o4x n4x k4x) ∧ W.cell? ⟨g, off + r * 6 + 5, none⟩ = some (.slice o5x n5x k5x)) ∧ W.cell? ⟨g, off + s * 6, none⟩ = some (.string yn) ∧ W.cell? ⟨g, off + s * 6 + 1, none⟩ = some (.int .i64 fy) ∧ W.cell? ⟨g, off + s * 6 + 2, none⟩ = some (.int .i64 yt) ∧ W.cell? ⟨g, off + s * 6 + 3, none⟩ = some (.slice o3y n3y k3y) ∧ W.cell? ⟨g, off + s * 6 + 4, none⟩ = some (.slice o4y n4y k4y) ∧ W.cell? ⟨g, off + s * 6 + 5, none⟩ = some (.slice o5y n5y k5y)) := fun W hW => by
    have up : ∀ {p : Addr} {u : Value}, w1.cell? p = some u → W.cell? p = some u := fun h => (hW.cell (World.block_lt_of_cell? _ _ h)).trans h
    exact ⟨up q3, ⟨up xb0, up xb1, up xb2, up xb3, up xb4, up xb5⟩, up yb0, up yb1, up yb2, up yb3, up yb4, up yb5⟩
  clear up xa0 xa1 xa2 xa3 xa4 xa5 ya0 ya1 ya2 ya3 ya4 ya5 h2
  go_cut [7, 8] from 14 to 24 (fun sx sy wc => ∃ b c, sx = .pointer (some ⟨b, 0, none⟩) ∧ sy = .pointer (some ⟨c, 0, none⟩) ∧ Rt3 b (.int .i64 fx) (.slice o3x n3x k3x) wc ∧ Rt3 c (.int .i64 fy) (.slice o3y n3y k3y) wc ∧ Below w1.heap.size w1 wc)
  case first =>
    clear hrl hsl
    go_region_held (fun W => W.cell? ⟨w.heap.size, 3, none⟩ = some (.slice (some ⟨g, off, none⟩) n3 c3) ∧ (W.cell? ⟨g, off + r * 6, none⟩ = some (.string xn) ∧ W.cell? ⟨g, off + r * 6 + 1, none⟩ = some (.int .i64 fx) ∧ W.cell? ⟨g, off + r * 6 + 2, none⟩ = some (.int .i64 xt) ∧ W.cell? ⟨g, off + r * 6 + 3, none⟩ = some (.slice o3x n3x k3x) ∧ W.cell? ⟨g, off + r * 6 + 4, none⟩ = some (.slice o4x n4x k4x) ∧ W.cell? ⟨g, off + r * 6 + 5, none⟩ = some (.slice o5x n5x k5x)) ∧ W.cell? ⟨g, off + s * 6, none⟩ = some (.string yn) ∧ W.cell? ⟨g, off + s * 6 + 1, none⟩ = some (.int .i64 fy) ∧ W.cell? ⟨g, off + s * 6 + 2, none⟩ = some (.int .i64 yt) ∧ W.cell? ⟨g, off + s * 6 + 3, none⟩ = some (.slice o3y n3y k3y) ∧ W.cell? ⟨g, off + s * 6 + 4, none⟩ = some (.slice o4y n4y k4y) ∧ W.cell? ⟨g, off + s * 6 + 5, none⟩ = some (.slice o5y n5y k5y)) (exact KEEP.out _ (by repeat' (with_reducible first | exact Below.refl _ _ | refine Below.drew ?_ | refine Below.alloc ?_ ?_ _ | refine Below.setCell ?_ ?_ _ | exact Nat.le_refl _ | (simp; done) | (simp; omega)))) (fail)
    all_goals
      go_wp2_with fail
      go_meet
      case rel =>
        refine ⟨_, _, rfl, rfl, ⟨by go_simp, by go_simp⟩, ⟨by go_simp, by go_simp⟩, ?_⟩
        repeat' (with_reducible first | exact Below.refl _ _ | refine Below.drew ?_ | refine Below.alloc ?_ ?_ _ | refine Below.setCell ?_ ?_ _ | exact Nat.le_refl _ | (simp; done) | (simp; omega))
  case rest =>
    obtain ⟨b, c, rfl, rfl, rx, ry, hbc⟩ := hcut
    have HWC : Hid (∀ W, Below wc.heap.size wc W → Below w.heap.size w W) := fun W hW => HW.out _ (hbc.trans (hW.mono hbc.size))
    have h2 := (TA.out.step hbc).cells
    rw [HV.out.1, HV.out.2.1, HV.out.2.2.1, HV.out.2.2.2] at h2
    have HH2 : Hid (wc.cell? ⟨w.heap.size, 0, none⟩ = some (.slice o0 n0 c0) ∧ wc.cell? ⟨w.heap.size, 1, none⟩ = some (.slice o1 n1 c1) ∧ wc.cell? ⟨w.heap.size, 2, none⟩ = some (.slice o2 n2 c2) ∧ wc.cell? ⟨w.heap.size, 3, none⟩ = some (.slice (some ⟨g, off, none⟩) n3 c3)) := h2
    have HRX : Hid (Rt3 b (.int .i64 fx) (.slice o3x n3x k3x) wc ∧ Rt3 c (.int .i64 fy) (.slice o3y n3y k3y) wc) := ⟨rx, ry⟩
    have xf := rx.1
    have yf := ry.1
    clear KEEP xb0 xb1 xb2 xb3 xb4 xb5 yb0 yb1 yb2 yb3 yb4 yb5 q3 h2 rx ry hbc hrl hsl
    by_cases hrs : r = s
    · subst hrs
      have hd1 : ((r : Int) == (r : Int)) = true := by simp
      go_wp2
      go_ret
      exact ⟨ret_bool (by rw [HCF.out]; simp), HWC.out _ (Below.refl _ _)⟩
    have hd1 : ((r : Int) == (s : Int)) = false := by simp; omega
    have HRS : Hid (¬ r = s) := hrs
    by_cases hff : fx = fy
    · have hd3 : (fx == fy) = true := by simp [hff]
      have HFF : Hid (fx = fy) := hff
      clear hff hrs
      go_wp2
      go_ret
      exact ⟨ret_bool (by rw [HCF.out]; simp [HFF.out]), HWC.out _ (Below.refl _ _)⟩
    have hd3 : (fx == fy) = false := by simp [hff]
    have HFF : Hid (¬ fx = fy) := hff
    have HAN : Hid (B = (shareB px py || pullB nx ny)) := by show _ = _; rw [HCF.out, decide_eq_false HRS.out, decide_eq_false HFF.out]; rfl
    clear hff hrs
    go_wp2
    clear xf yf hd1 hd3
    have hlx := row_len HPX.out.1
    have hly := row_len HPX.out.2.1
    have HLX : Hid (n3x = px.length ∧ n3y = py.length) := ⟨hlx, hly⟩
    have hnx6 : n3x ≤ 1000000 := by have := HPX.out.2.2.1; omega
    have hny6 : n3y ≤ 1000000 := by have := HPX.out.2.2.2; omega
    have xp := HRX.out.1.2
    clear hlx hly
    go_loopg [9] n3x (fun gk i wr => ∃ k : Nat, gk = n3x - k ∧ i = .int .i64 k ∧ k ≤ n3x ∧ (∀ j q, j < k → px[j]? = some q → inB py q = false) ∧ Below wc.heap.size wc wr)
    case atStart => exact ⟨0, rfl, rfl, by omega, by omega, Below.refl _ _⟩
    case round =>
      obtain ⟨k, rfl, rfl, hk, hno, hb⟩ := hrel
      have HNO : Hid (∀ j q, j < k → px[j]? = some q → inB py q = false) := hno
      have HB : Hid (Below wc.heap.size wc wr) := hb
      clear hno hb xp
      have xp := up_cell HB.out HRX.out.1.2
      by_cases hlt : k < n3x
      · obtain ⟨q, hq⟩ := at_of (l := px) (k := k) (by rw [← HLX.out.1]; exact hlt)
        have HQ : Hid (px[k]? = some q) := hq
        have hrow := HPX.out.1.below (HWC.out _ HB.out)
        obtain ⟨gp, fp, e, a0⟩ := row_int hrow k q hq
        subst e
        have hki : (k : Int) < (n3x : Int) := by omega
        have yp := up_cell HB.out HRX.out.2.2
        have IN : Hid (∀ W, Below wc.heap.size wc W → Calls Tryz.prog 49 #[.slice o3y n3y k3y, .int .i64 q] W fun e w' => e = .returned (.bool (inB py q)) ∧ w' = W) := fun W hW => in_any _ py q W (HPX.out.2.1.below (HWC.out _ hW)) (by have := HPX.out.2.2.2; omega)
        clear hq hrow
        go_wp2_with fail
        have y0 := ext_cell xp
        have y1 := ext_cell yp
        have y2 := ext_cell a0
        haveI := ext_some wr
        have HT : Hid (Below wr.heap.size wr wr.drew) := (Below.refl _ _).drew
        clear xp yp a0
        refine wp_region_mix_seq (C := fun W => ∃ y : Ext wr, W = y.z) [0, 1, 2, 3, 4, 5, 6, 7] (by kernel_rfl) (by kernel_rfl) (by kernel_rfl) (by kernel_rfl) (by simp only [List.filterMap_cons, List.getElem?_toArray, List.getElem?_cons_zero, List.getElem?_cons_succ, List.filterMap_nil]; rfl) ⟨⟨_, (Below.refl _ _).drew⟩, rfl⟩ ?_
        (repeat (first | (with_reducible refine mix_read (by kernel_rfl) ?_; go_big_quiet_want; go_big_quiet_op; go_big_quiet_on; with_reducible refine wpQuiet_nil ?_) | (with_reducible refine mix_pass (by kernel_rfl) ?_; go_big_quiet_skip; with_reducible refine wpQuiet_nil ?_)))
        with_reducible refine mix_call (by kernel_rfl) (by kernel_rfl) ((IN.out _ (HB.out.trans (HT.out.mono HB.out.size))).mono ?_) (by kernel_rfl)
        rintro e w2 ⟨rfl, rfl⟩
        refine ⟨_, rfl, ⟨⟨_, HT.out⟩, rfl⟩, ?_⟩
        simp only [Act.put, List.setIfInBounds_toArray, List.set_cons_zero, List.set_cons_succ]
        with_reducible refine mix_end ?_
        intro _
        clear y0 y1 y2
        have HB2 : Hid (Below wc.heap.size wc wr.drew) := HB.out.drew
        generalize wr.drew = wd at *
        cases hin : inB py q
        · have HNX2 : Hid (∀ j z, j < k + 1 → px[j]? = some z → inB py z = false) := fun j z hj hz => by
            by_cases hjk : j < k
            · exact HNO.out j z hjk hz
            · obtain rfl : j = k := by omega
              obtain rfl := Option.some.inj (HQ.out.symm.trans hz)
              exact hin
          clear hin
          have xp := up_cell HB2.out HRX.out.1.2
          go_wp2
          go_roundg (n3x - (k + 1))
          case rel => exact ⟨k + 1, rfl, by go_num, by omega, HNX2.out, HB2.out⟩
          case measure => omega
        · have HA : Hid (B = true) := by
            show _ = _
            rw [HAN.out, shareB, Bool.or_eq_true]
            exact .inl (List.any_eq_true.2 ⟨q, List.mem_of_getElem? HQ.out, hin⟩)
          clear hin
          go_wp2
          go_ret
          exact ⟨ret_bool HA.out.symm, HWC.out _ HB2.out⟩
      · have hkn : k = n3x := by omega
        subst hkn
        have HSH : Hid (B = pullB nx ny) := by
          show _ = _
          have h0 : shareB px py = false := by
            rw [shareB]
            refine List.any_eq_false.2 fun z hz => ?_
            obtain ⟨j, hj⟩ := List.getElem?_of_mem hz
            have hjl := (List.getElem?_eq_some_iff.1 hj).1
            rw [HNO.out j z (by rw [HLX.out.1]; exact hjl) hj]
            decide
          rw [HAN.out, h0, Bool.false_or]
        have hz := (fun {p : Addr} {u : Value} (h : wc.cell? p = some u) => up_cell HB.out h)
        have z0 := hz HH2.out.1
        have z1 := hz HH2.out.2.1
        have z2 := hz HH2.out.2.2.1
        have z3 := hz HH2.out.2.2.2
        clear hz
        go_wp2_with fail
        clear xp
        have y0 := ext_cell z0
        have y1 := ext_cell z1
        have y2 := ext_cell z2
        have y3 := ext_cell z3
        haveI := ext_some wr
        have HT : Hid (Below wr.heap.size wr wr.drew) := (Below.refl _ _).drew
        clear z0 z1 z2 z3
        refine wp_region_mix_seq (C := fun W => ∃ y : Ext wr, W = y.z) [0, 1, 3, 4, 2, 5, 6, 7] (by kernel_rfl) (by kernel_rfl) (by kernel_rfl) (by kernel_rfl) (by simp only [List.filterMap_cons, List.getElem?_toArray, List.getElem?_cons_zero, List.getElem?_cons_succ, List.filterMap_nil]; rfl) ⟨⟨_, (Below.refl _ _).drew⟩, rfl⟩ ?_
        (repeat (first | (with_reducible refine mix_read (by kernel_rfl) ?_; go_big_quiet_want; go_big_quiet_op; go_big_quiet_on; with_reducible refine wpQuiet_nil ?_) | (with_reducible refine mix_pass (by kernel_rfl) ?_; go_big_quiet_skip; with_reducible refine wpQuiet_nil ?_)))
        with_reducible refine mix_call (by kernel_rfl) (by kernel_rfl) ((NR.out _ (HWC.out _ (HB.out.trans (HT.out.mono HB.out.size)))).mono ?_) (by kernel_rfl)
        rintro e w3 ⟨ua, rfl, ra, hb3⟩
        have HB3 : Hid (Below wr.heap.size wr w3) := HT.out.trans (hb3.mono HT.out.size)
        have HRA : Hid (rowAt w3 ua 2 nC nx) := ra
        clear hb3 ra
        refine ⟨_, rfl, ⟨⟨_, HB3.out⟩, rfl⟩, ?_⟩
        simp only [Act.put, List.setIfInBounds_toArray, List.set_cons_zero, List.set_cons_succ]
        (repeat (first | (with_reducible refine mix_read (by kernel_rfl) ?_; go_big_quiet_want; go_big_quiet_op; go_big_quiet_on; with_reducible refine wpQuiet_nil ?_) | (with_reducible refine mix_pass (by kernel_rfl) ?_; go_big_quiet_skip; with_reducible refine wpQuiet_nil ?_)))
        with_reducible refine mix_call (by kernel_rfl) (by kernel_rfl) ((NS.out _ (HWC.out _ (HB.out.trans (HB3.out.mono HB.out.size)))).mono ?_) (by kernel_rfl)
        rintro e w4 ⟨ub, rfl, rb, hb4⟩
        have HB4 : Hid (Below wr.heap.size wr w4) := HB3.out.trans (hb4.mono HB3.out.size)
        have HRB : Hid (rowAt w4 ua 2 nC nx ∧ rowAt w4 ub 2 nC ny) := ⟨HRA.out.below hb4, rb⟩
        clear hb4 rb
        refine ⟨_, rfl, ⟨⟨_, HB4.out⟩, rfl⟩, ?_⟩
        simp only [Act.put, List.setIfInBounds_toArray, List.set_cons_zero, List.set_cons_succ]
        (repeat (first | (with_reducible refine mix_read (by kernel_rfl) ?_; go_big_quiet_want; go_big_quiet_op; go_big_quiet_on; with_reducible refine wpQuiet_nil ?_) | (with_reducible refine mix_pass (by kernel_rfl) ?_; go_big_quiet_skip; with_reducible refine wpQuiet_nil ?_)))
        with_reducible refine mix_end ?_
        intro _
        clear y0 y1 y2 y3
        have HB5 : Hid (Below wc.heap.size wc w4) := HB.out.trans (HB4.out.mono HB.out.size)
        clear HB HB3 HB4 HRA HT
        obtain ⟨oa, ca, ea, -⟩ := HRB.out.1
        obtain ⟨ob, cb, eb, -⟩ := HRB.out.2
        subst ea eb
        generalize hla : nx.length = na at *
        generalize hlb : ny.length = nb at *
        have HLN : Hid (nx.length = na ∧ ny.length = nb) := ⟨hla, hlb⟩
        have hna : na ≤ 1000000 := HNX.out.1
        have hnb : nb ≤ 1000000 := HNX.out.2
        clear hla hlb
        go_wp2
        go_loopg [12] na (fun gk i wr => ∃ k : Nat, gk = na - k ∧ i = .int .i64 k ∧ k ≤ na ∧ (∀ j (q : Int × Bool), j < k → nx[j]? = some q → (ny.any fun m => needEq (q.1, !q.2) m) = false) ∧ Below w4.heap.size w4 wr)
        case atStart => exact ⟨0, rfl, rfl, by omega, by omega, Below.refl _ _⟩
        case round =>
          obtain ⟨k, rfl, rfl, hk, hno, hb⟩ := hrel
          have HNO : Hid (∀ j (q : Int × Bool), j < k → nx[j]? = some q → (ny.any fun m => needEq (q.1, !q.2) m) = false) := hno
          have HB : Hid (Below w4.heap.size w4 wr) := hb
          clear hno hb
          by_cases hlt : k < na
          · obtain ⟨⟨q1, q2⟩, hq⟩ := at_of (l := nx) (k := k) (by rw [HLN.out.1]; exact hlt)
            have HQ : Hid (nx[k]? = some (q1, q2)) := hq
            obtain ⟨ga, fa, ea, -, -⟩ := row_need (HRB.out.1) k _ hq
            subst ea
            have hki : (k : Int) < (na : Int) := by omega
            clear hq
            go_wp2
            go_loopg [13] nb (fun gk i wr' => ∃ m : Nat, gk = nb - m ∧ i = .int .i64 m ∧ m ≤ nb ∧ (∀ j z, j < m → ny[j]? = some z → needEq (q1, !q2) z = false) ∧ Below w4.heap.size w4 wr')
            case atStart => exact ⟨0, rfl, rfl, by omega, by omega, HB.out⟩
            case round =>
              clear HB
              obtain ⟨m, rfl, rfl, hm, hno, hb⟩ := hrel
              have HNM : Hid (∀ j z, j < m → ny[j]? = some z → needEq (q1, !q2) z = false) := hno
              have HBI : Hid (Below w4.heap.size w4 wr) := hb
              clear hno hb
              by_cases hmt : m < nb
              · obtain ⟨⟨z1, z2⟩, hz⟩ := at_of (l := ny) (k := m) (by rw [HLN.out.2]; exact hmt)
                have HZ : Hid (ny[m]? = some (z1, z2)) := hz
                obtain ⟨gb, fb, eb, b0, b1⟩ := row_need (HRB.out.2.below HBI.out) m _ hz
                obtain ⟨ga', fa', ea', a0, a1⟩ := row_need (HRB.out.1.below HBI.out) k _ HQ.out
                subst eb
                injection ea' with ea'
                injection ea' with e1 e2
                subst e1 e2
                have hmi : (m : Int) < (nb : Int) := by omega
                have HNEXT : Hid (needEq (q1, !q2) (z1, z2) = false → ∀ j z, j < m + 1 → ny[j]? = some z → needEq (q1, !q2) z = false) := fun he j z hj hjz => by
                  by_cases hjm : j < m
                  · exact HNM.out j z hjm hjz
                  · have hj2 : j = m := by omega
                    rw [hj2, HZ.out] at hjz
                    rw [← Option.some.inj hjz]
                    exact he
                have HYES : Hid (needEq (q1, !q2) (z1, z2) = true → B = true) := fun he => by
                  rw [HSH.out, pullB]
                  exact List.any_eq_true.2 ⟨(q1, q2), List.mem_of_getElem? HQ.out, List.any_eq_true.2 ⟨(z1, z2), List.mem_of_getElem? HZ.out, he⟩⟩
                clear hz
                by_cases hp : q1 = z1
                · have hpd : (q1 == z1) = true := by simp [hp]
                  have hpd2 : decide (q1 = z1) = true := decide_eq_true hp
                  have HP : Hid (q1 = z1) := hp
                  clear hp
                  go_wp2_with fail
                  go_quiet (fail)
                  clear a0 a1 b0 b1
                  have HBJ : Hid (Below w4.heap.size w4 (wr.drewN nq)) := _root_.Go.below_drewN HBI.out nq
                  generalize wr.drewN nq = wn at *
                  cases q2 <;> cases z2
                  · have HE := HNEXT.out (by rw [needEq]; simp)
                    have HEE := (show Hid _ from HE)
                    clear HE
                    go_wp2
                    go_roundg (nb - (m + 1))
                    case rel => exact ⟨m + 1, rfl, by go_num, by omega, HEE.out, HBJ.out⟩
                    case measure => omega
                  · have HA : Hid (B = true) := HYES.out (by rw [needEq]; simp [HP.out])
                    go_wp2
                    go_ret
                    exact ⟨ret_bool HA.out.symm, HWC.out _ (HB5.out.trans (HBJ.out.mono HB5.out.size))⟩
                  · have HA : Hid (B = true) := HYES.out (by rw [needEq]; simp [HP.out])
                    go_wp2
                    go_ret
                    exact ⟨ret_bool HA.out.symm, HWC.out _ (HB5.out.trans (HBJ.out.mono HB5.out.size))⟩
                  · have HE := HNEXT.out (by rw [needEq]; simp)
                    have HEE := (show Hid _ from HE)
                    clear HE
                    go_wp2
                    go_roundg (nb - (m + 1))
                    case rel => exact ⟨m + 1, rfl, by go_num, by omega, HEE.out, HBJ.out⟩
                    case measure => omega
                · have hpd : (q1 == z1) = false := by simp [hp]
                  have hpd2 : decide (q1 = z1) = false := decide_eq_false hp
                  have HE := HNEXT.out (by rw [needEq]; simp [hp])
                  have HEE := (show Hid _ from HE)
                  clear HE hp
                  go_wp2_with fail
                  go_quiet (fail)
                  clear a0 a1 b0 b1
                  have HBJ : Hid (Below w4.heap.size w4 (wr.drewN nq)) := _root_.Go.below_drewN HBI.out nq
                  generalize wr.drewN nq = wn at *
                  go_wp2
                  go_roundg (nb - (m + 1))
                  case rel => exact ⟨m + 1, rfl, by go_num, by omega, HEE.out, HBJ.out⟩
                  case measure => omega
              · have hmn : m = nb := by omega
                subst hmn
                have HNK : Hid (∀ j (q : Int × Bool), j < k + 1 → nx[j]? = some q → (ny.any fun m => needEq (q.1, !q.2) m) = false) := fun j q hj hq => by
                  by_cases hjk : j < k
                  · exact HNO.out j q hjk hq
                  · obtain rfl : j = k := by omega
                    have e := Option.some.inj (HQ.out.symm.trans hq)
                    rw [← e]
                    refine List.any_eq_false.2 fun z hz => ?_
                    obtain ⟨i, hi⟩ := List.getElem?_of_mem hz
                    rw [HNM.out i z (by rw [← HLN.out.2]; exact (List.getElem?_eq_some_iff.1 hi).1) hi]
                    decide
                go_wp2
                go_roundg (na - (k + 1))
                case rel => exact ⟨k + 1, rfl, by go_num, by omega, HNK.out, HBI.out⟩
                case measure => omega
          · have hkn : k = na := by omega
            subst hkn
            have HA : Hid (B = false) := by
              show _ = _
              rw [HSH.out, pullB]
              refine List.any_eq_false.2 fun q hq => ?_
              obtain ⟨j, hj⟩ := List.getElem?_of_mem hq
              rw [HNO.out j q (by rw [← HLN.out.1]; exact (List.getElem?_eq_some_iff.1 hj).1) hj]
              decide
            go_wp2
            go_ret
            exact ⟨ret_bool HA.out.symm, HWC.out _ (HB5.out.trans (HB.out.mono HB5.out.size))⟩
end Go.Proofs.YtceebimgfajbcaaGreatDoor
