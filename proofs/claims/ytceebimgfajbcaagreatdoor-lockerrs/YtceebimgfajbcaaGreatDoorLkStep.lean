/-
  Package lock: wait, entered, follow, step, by contracts.
-/
import Derived.Test.YtceebimgfajbcaaGreatDoorLkLeaf
namespace Go.Proofs.YtceebimgfajbcaaGreatDoor
open Go.RowKit

set_option maxRecDepth 1000000 in
set_option maxHeartbeats 2000000 in
theorem wait_any (m t g : Int) (b : Bool) (most : Int) (w : World) (ht : 0 ≤ t ∧ t ≤ 100) :
    Calls Tryz.prog 63 #[.agg #[.int .i64 m, .int .i64 t, .int .i64 g, .bool b], .int .i64 most] w fun e w' => e = .returned (stV (waitF (m, t, g, b) most)) ∧ Below w.heap.size w w' := by
  by_cases h : most < t + 1
  · have hF : waitF (m, t, g, b) most = idleS := if_pos h
    rw [hF]
    clear hF
    go_enter Tryz.func63, Tryz.ntmps63
    go_wp2
    exact bodyPost_ret (v := stV idleS) (by simp [results, Tryz.results63, go_sem, stV, idleS]) rfl ⟨rfl, (by repeat' (with_reducible first | exact Below.refl _ _ | refine Below.drew ?_ | refine _root_.Go.below_drewN ?_ _ | refine Below.alloc ?_ ?_ _ | refine Below.setCell ?_ ?_ _ | exact Nat.le_refl _ | (simp; done) | (simp; omega)))⟩
  · have hF : waitF (m, t, g, b) most = (m, t + 1, g, b) := if_neg h
    rw [hF]
    clear hF
    go_enter Tryz.func63, Tryz.ntmps63
    go_wp2
    exact bodyPost_ret (v := stV (m, t + 1, g, b)) (by simp [results, Tryz.results63, go_sem, stV]) rfl ⟨rfl, (by repeat' (with_reducible first | exact Below.refl _ _ | refine Below.drew ?_ | refine _root_.Go.below_drewN ?_ _ | refine Below.alloc ?_ ?_ _ | refine Below.setCell ?_ ?_ _ | exact Nat.le_refl _ | (simp; done) | (simp; omega)))⟩

theorem entered_any (w : World) :
    Calls Tryz.prog 64 #[] w fun e w' => e = .returned (stV (3, 0, 0, true)) ∧ Below w.heap.size w w' := by
  go_enter Tryz.func64, Tryz.ntmps64
  go_wp2
  exact bodyPost_ret (v := stV (3, 0, 0, true)) (by simp [results, Tryz.results64, go_sem, stV]) rfl ⟨rfl, (by repeat' (with_reducible first | exact Below.refl _ _ | refine Below.drew ?_ | refine _root_.Go.below_drewN ?_ _ | refine Below.alloc ?_ ?_ _ | refine Below.setCell ?_ ?_ _ | exact Nat.le_refl _ | (simp; done) | (simp; omega)))⟩


set_option maxRecDepth 1000000 in
set_option maxHeartbeats 4000000 in
theorem follow_any (v : Nat → Value) (occ : List Bool) (lies : List Int) (u : Value) (pa : List Int) (m t g : Int) (b : Bool) (w : World) (h : InRd w v occ lies) (hu : rowAt w u 1 iC pa) (hp : ∀ s ∈ pa, 0 ≤ s ∧ s < (occ.length : Nat)) (hg : 0 ≤ g ∧ g < (pa.length : Nat)) (hl : pa.length ≤ 1000000) :
    Calls Tryz.prog 65 #[.agg #[.int .i64 m, .int .i64 t, .int .i64 g, .bool b], u, .agg #[v 0, v 1]] w fun e w' => e = .returned (stV (followF (m, t, g, b) pa occ)) ∧ Below w.heap.size w w' := by
  obtain ⟨o0, c0, e0, r0⟩ := h.o
  obtain ⟨o1, c1, e1, _⟩ := h.l
  obtain ⟨p1, k1, rfl, q1⟩ := hu
  rw [e0, e1]
  obtain ⟨kg, rfl, hkg⟩ := nat_of hg
  obtain ⟨s, hs⟩ : ∃ s, pa[kg]? = some s := at_of hkg
  obtain ⟨gb, off, rfl, a0⟩ := row_int (w := w) ⟨p1, k1, rfl, q1⟩ kg s hs
  obtain ⟨ks, rfl, hks⟩ := nat_of (hp s (List.mem_of_getElem? hs))
  obtain ⟨oc, hoc⟩ : ∃ oc, occ[ks]? = some oc := at_of hks
  obtain ⟨gb', off', rfl, a1⟩ := row_bool (w := w) ⟨o0, c0, rfl, r0⟩ ks oc hoc
  have hF : followF (m, t, kg, b) pa occ = if oc = true then (m, t, (kg : Int), true) else if b = false then (m, t, (kg : Int), b) else if (kg : Int) + 1 = pa.length then idleS else (m, t, (kg : Int) + 1, false) := by
    rw [followF]
    simp only [nthI_at hs, occF_at hoc]
  rw [hF]
  have hki : (kg : Int) < (pa.length : Int) := by omega
  have hksi : (ks : Int) < (occ.length : Int) := by omega
  clear hF h hp hs hoc r0 q1 e0 e1 hkg hks
  generalize pa.length = n at *
  generalize occ.length = n0 at *
  generalize lies.length = n1 at *
  have hb1 : Below w.heap.size w (((w.alloc (.cells #[.int .i64 m, .int .i64 t, .int .i64 kg, .bool b] 80)).alloc (.cells #[.slice (some ⟨gb', off', none⟩) n0 c0, .slice o1 n1 c1] 38)).alloc (.cells #[.int .i64 0, .int .i64 0, .int .i64 0, .bool false] 80)) := (by repeat' (with_reducible first | exact Below.refl _ _ | refine Below.drew ?_ | refine _root_.Go.below_drewN ?_ _ | refine Below.alloc ?_ ?_ _ | refine Below.setCell ?_ ?_ _ | exact Nat.le_refl _ | (simp; done) | (simp; omega)))
  have b0 := (hb1.cell (World.block_lt_of_cell? _ _ a0)).trans a0
  have b1 := (hb1.cell (World.block_lt_of_cell? _ _ a1)).trans a1
  clear a0 a1 hb1
  cases oc
  · cases b
    · go_enter Tryz.func65, Tryz.ntmps65
      go_wp2_with fail
      go_quiet (fail)
      go_wp2
      exact bodyPost_ret (v := stV (m, t, (kg : Int), false)) (by simp [results, Tryz.results65, go_sem, stV]) rfl ⟨rfl, (by repeat' (with_reducible first | exact Below.refl _ _ | refine Below.drew ?_ | refine _root_.Go.below_drewN ?_ _ | refine Below.alloc ?_ ?_ _ | refine Below.setCell ?_ ?_ _ | exact Nat.le_refl _ | (simp; done) | (simp; omega)))⟩
    · by_cases hn : (kg : Int) + 1 = n
      · go_enter Tryz.func65, Tryz.ntmps65
        go_wp2_with fail
        go_quiet (fail)
        have HBD : Hid (Below w.heap.size w (w.drewN nq)) := _root_.Go.below_drewN (Below.refl _ _) nq
        simp only [drewN_alloc]
        rw [← drewN_size w nq]
        generalize w.drewN nq = W at *
        go_wp2
        exact bodyPost_ret (v := stV idleS) (by simp [results, Tryz.results65, go_sem, stV, idleS]) rfl ⟨by simp, (HBD.out.trans (Below.mono (B := W.heap.size) (by repeat' (with_reducible first | exact Below.refl _ _ | refine Below.drew ?_ | refine _root_.Go.below_drewN ?_ _ | refine Below.alloc ?_ ?_ _ | refine Below.setCell ?_ ?_ _ | exact Nat.le_refl _ | (simp; done) | (simp; omega))) HBD.out.size))⟩
      · go_enter Tryz.func65, Tryz.ntmps65
        go_wp2_with fail
        go_quiet (fail)
        have HBD : Hid (Below w.heap.size w (w.drewN nq)) := _root_.Go.below_drewN (Below.refl _ _) nq
        simp only [drewN_alloc]
        rw [← drewN_size w nq]
        generalize w.drewN nq = W at *
        go_wp2
        exact bodyPost_ret (v := stV (m, t, (kg : Int) + 1, false)) (by simp [results, Tryz.results65, go_sem, stV]) rfl ⟨by simp, (HBD.out.trans (Below.mono (B := W.heap.size) (by repeat' (with_reducible first | exact Below.refl _ _ | refine Below.drew ?_ | refine _root_.Go.below_drewN ?_ _ | refine Below.alloc ?_ ?_ _ | refine Below.setCell ?_ ?_ _ | exact Nat.le_refl _ | (simp; done) | (simp; omega))) HBD.out.size))⟩
  · go_enter Tryz.func65, Tryz.ntmps65
    go_wp2_with fail
    go_quiet (fail)
    have HBD : Hid (Below w.heap.size w (w.drewN nq)) := _root_.Go.below_drewN (Below.refl _ _) nq
    simp only [drewN_alloc]
    rw [← drewN_size w nq]
    generalize w.drewN nq = W at *
    go_wp2
    exact bodyPost_ret (v := stV (m, t, (kg : Int), true)) (by simp [results, Tryz.results65, go_sem, stV]) rfl ⟨rfl, (HBD.out.trans (Below.mono (B := W.heap.size) (by repeat' (with_reducible first | exact Below.refl _ _ | refine Below.drew ?_ | refine _root_.Go.below_drewN ?_ _ | refine Below.alloc ?_ ?_ _ | refine Below.setCell ?_ ?_ _ | exact Nat.le_refl _ | (simp; done) | (simp; omega))) HBD.out.size))⟩


set_option maxRecDepth 1000000 in
set_option maxHeartbeats 4000000 in
theorem step_any (v : Nat → Value) (occ : List Bool) (lies : List Int) (ng : Nat) (x : WyV) (m t g : Int) (b : Bool) (w : World) (h : InRd w v occ lies) (hx : WyAt w x) (hok : WyOk occ.length lies.length ng x.1) (hs : mayBeF (m, t, g, b) x.1.path.length = true) :
    Calls Tryz.prog 31 #[.agg #[.int .i64 m, .int .i64 t, .int .i64 g, .bool b], .agg #[.int .i64 x.1.frm, x.2.1, x.2.2.1, x.2.2.2], .agg #[v 0, v 1]] w fun e w' => e = .returned (stV (stepF (m, t, g, b) x.1 occ lies)) ∧ Below w.heap.size w w' := by
  have hbd := mayBe_bounds hs hok.some_
  have hfew := hok.few
  have LR : Hid (∀ W, Below w.heap.size w W → Calls Tryz.prog 62 #[.agg #[.int .i64 x.1.frm, x.2.1, x.2.2.1, x.2.2.2], .agg #[v 0, v 1]] W fun e w' => e = .returned (.bool (rightB lies x.1.needs)) ∧ Below W.heap.size W w') := fun W hW => liesRight_any v occ lies x W (h.below hW) (hx.below hW) hok.needs (by omega)
  have FO : Hid (∀ W, Below w.heap.size w W → Calls Tryz.prog 65 #[.agg #[.int .i64 m, .int .i64 t, .int .i64 g, .bool b], x.2.1, .agg #[v 0, v 1]] W fun e w' => e = .returned (stV (followF (m, t, g, b) x.1.path occ)) ∧ Below W.heap.size W w') := fun W hW => follow_any v occ lies x.2.1 x.1.path m t g b W (h.below hW) (hx.below hW).path hok.path (by simp only at hbd; omega) (by omega)
  have WA : Hid (∀ W most, Calls Tryz.prog 63 #[.agg #[.int .i64 m, .int .i64 t, .int .i64 g, .bool b], .int .i64 most] W fun e w' => e = .returned (stV (waitF (m, t, g, b) most)) ∧ Below W.heap.size W w') := fun W most => wait_any m t g b most W (by simp only at hbd; omega)
  have HF : Hid (stepF (m, t, g, b) x.1 occ lies = if m = 1 then (if rightB lies x.1.needs = true then (2, 0, 0, false) else waitF (m, t, g, b) 8)
      else if m = 2 then (if occF occ (nthI x.1.path 0) = true then (3, 0, 0, true) else (m, t, g, b))
      else if m = 4 then (if occF occ (nthI x.1.path 0) = true then (3, 0, 0, true) else waitF (m, t, g, b) 5)
      else if m = 3 then followF (m, t, g, b) x.1.path occ
      else (m, t, g, b)) := rfl
  generalize stepF (m, t, g, b) x.1 occ lies = ans at *
  obtain ⟨⟨fr, pa, ne, fo⟩, v1, v2, v3⟩ := x
  obtain ⟨hx1, hx2, hx3, _⟩ := hx
  simp only at *
  obtain ⟨o0, c0, e0, r0⟩ := h.o
  obtain ⟨o1, c1, e1, _⟩ := h.l
  obtain ⟨p1, k1, rfl, q1⟩ := hx1
  obtain ⟨p2, k2, rfl, q2⟩ := hx2
  obtain ⟨p3, k3, rfl, _⟩ := hx3
  obtain ⟨s, hs0⟩ : ∃ s, pa[0]? = some s := at_of hok.some_
  obtain ⟨gb, off, rfl, a0⟩ := row_int (w := w) ⟨p1, k1, rfl, q1⟩ 0 s hs0
  obtain ⟨ks, rfl, hks⟩ := nat_of (hok.path s (List.mem_of_getElem? hs0))
  obtain ⟨oc, hoc⟩ : ∃ oc, occ[ks]? = some oc := at_of hks
  obtain ⟨gb', off', rfl, a1⟩ := row_bool (w := w) ⟨o0, c0, rfl, r0⟩ ks oc hoc
  have h0 : nthI pa 0 = (ks : Int) := nthI_at (k := 0) hs0
  rw [h0, occF_at hoc] at HF
  rw [Nat.add_zero] at a0
  have hn0 : (0 : Int) < (pa.length : Int) := by have := hok.some_; simp only at this; omega
  have hksi : (ks : Int) < (occ.length : Int) := by omega
  rw [e0, e1] at LR FO ⊢
  clear h hok q1 q2 r0 e0 e1 hs0 hoc hks h0 hs hbd hfew
  generalize pa.length = n1 at *
  generalize ne.length = n2 at *
  generalize fo.length = n3 at *
  generalize occ.length = m0 at *
  generalize lies.length = m1 at *
  generalize hch : (((w.alloc (.cells #[.int .i64 m, .int .i64 t, .int .i64 g, .bool b] 80)).alloc (.cells #[.int .i64 fr, .slice (some ⟨gb, off, none⟩) n1 k1, .slice p2 n2 k2, .slice p3 n3 k3] 74)).alloc (.cells #[.slice (some ⟨gb', off', none⟩) m0 c0, .slice o1 m1 c1] 38)).alloc (.cells #[.int .i64 0, .int .i64 0, .int .i64 0, .bool false] 80) = w1
  have hb1 : Below w.heap.size w w1 := by rw [← hch]; exact (by repeat' (with_reducible first | exact Below.refl _ _ | refine Below.drew ?_ | refine _root_.Go.below_drewN ?_ _ | refine Below.alloc ?_ ?_ _ | refine Below.setCell ?_ ?_ _ | exact Nat.le_refl _ | (simp; done) | (simp; omega)))
  have H0 : Hid (w1.heap[w.heap.size]? = some (.cells #[.int .i64 m, .int .i64 t, .int .i64 g, .bool b] 80 (0, 0))) := by show _ = _; rw [← hch]; exact blk_old (blk_old (blk_old (blk_new _ _)))
  have H1 : Hid (w1.heap[w.heap.size + 1]? = some (.cells #[.int .i64 fr, .slice (some ⟨gb, off, none⟩) n1 k1, .slice p2 n2 k2, .slice p3 n3 k3] 74 (0, 0))) := by show _ = _; rw [← hch]; exact blk_old (blk_old (by exact blk_at1 _ _ _))
  have H2 : Hid (w1.heap[w.heap.size + 1 + 1]? = some (.cells #[.slice (some ⟨gb', off', none⟩) m0 c0, .slice o1 m1 c1] 38 (0, 0))) := by show _ = _; rw [← hch]; exact blk_old (blk_at2 _ _ _ _)
  have H3 : Hid (w1.heap[w.heap.size + 1 + 1 + 1]? = some (.cells #[.int .i64 0, .int .i64 0, .int .i64 0, .bool false] 80 (0, 0))) := by show _ = _; rw [← hch]; exact blk_at3 _ _ _ _ _
  have HB1 : Hid (Below w.heap.size w w1) := hb1
  clear hb1
  by_cases hm1 : m = 1
  · subst hm1
    have HF1 : Hid (ans = if rightB lies ne = true then (2, 0, 0, false) else waitF (1, t, g, b) 8) := by
      show _ = _
      rw [HF.out, if_pos rfl]
    clear HF
    go_enter Tryz.func31, Tryz.ntmps31
    obtain ⟨⟨r0, r1, r2, r3⟩, z0, z1, z2, z3⟩ := cells4 H3.out
    obtain ⟨⟨s0, s1, s2, s3⟩, _⟩ := cells4 H0.out
    obtain ⟨⟨t0, t1, t2, t3⟩, _⟩ := cells4 H1.out
    obtain ⟨y0, y1⟩ := cells2 H2.out
    go_wp2_with fail
    clear r0 r1 r2 r3 z0 z1 z2 z3 s0 s1 s2 s3 t0 t1 t2 t3 y0 y1
    refine (LR.out _ HB1.out).mono ?_
    rintro e w2 ⟨rfl, hb2⟩
    have HB2 : Hid (Below w1.heap.size w1 w2) := hb2
    clear hb2 hch
    obtain ⟨⟨r0, r1, r2, r3⟩, z0, z1, z2, z3⟩ := cells4 (blk_below HB2.out H3.out)
    obtain ⟨⟨s0, s1, s2, s3⟩, _⟩ := cells4 (blk_below HB2.out H0.out)
    generalize rightB lies ne = rb at *
    cases rb
    · go_wp2_with fail
      refine (WA.out _ 8).mono ?_
      rintro e w3 ⟨he, hb3⟩
      have HB3 : Hid (Below w1.heap.size w1 w3) := HB2.out.trans (hb3.mono HB2.out.size)
      clear hb3 r0 r1 r2 r3 z0 z1 z2 z3 s0 s1 s2 s3
      have HA : Hid (ans = waitF (1, t, g, b) 8) := HF1.out
      generalize waitF (1, t, g, b) 8 = q at *
      obtain ⟨qm, qt, qg, qb⟩ := q
      simp only [stV] at he
      subst he
      obtain ⟨⟨r0, r1, r2, r3⟩, z0, z1, z2, z3⟩ := cells4 (blk_below HB3.out H3.out)
      obtain ⟨⟨s0, s1, s2, s3⟩, _⟩ := cells4 (blk_below HB3.out H0.out)
      go_wp2
      obtain ⟨⟨x0, x1, x2, x3⟩, _⟩ := cells4 (set4 (blk_below HB3.out H3.out) (.int .i64 qm) (.int .i64 qt) (.int .i64 qg) (.bool qb))
      exact bodyPost_ret (v := stV (qm, qt, qg, qb)) (by simp [results, Tryz.results31, go_sem, stV, x0, x1, x2, x3]) rfl ⟨by rw [HA.out], below_set4 (HB1.out.trans (HB3.out.mono HB1.out.size)) (by omega) _ _ _ _⟩
    · go_wp2
      obtain ⟨⟨x0, x1, x2, x3⟩, _⟩ := cells4 (set4 (blk_below HB2.out H3.out) (.int .i64 2) (.int .i64 0) (.int .i64 0) (.bool false))
      exact bodyPost_ret (v := stV (2, 0, 0, false)) (by simp [results, Tryz.results31, go_sem, stV, x0, x1, x2, x3]) rfl ⟨by rw [HF1.out]; rfl, below_set4 (HB1.out.trans (HB2.out.mono HB1.out.size)) (by omega) _ _ _ _⟩
  by_cases hm2 : m = 2
  · subst hm2
    have HF1 : Hid (ans = if oc = true then (3, 0, 0, true) else (2, t, g, b)) := by
      show _ = _
      rw [HF.out, if_neg (by decide), if_pos rfl]
    clear HF
    have b0 := (HB1.out.cell (World.block_lt_of_cell? _ _ a0)).trans a0
    have b1 := (HB1.out.cell (World.block_lt_of_cell? _ _ a1)).trans a1
    obtain ⟨⟨r0, r1, r2, r3⟩, z0, z1, z2, z3⟩ := cells4 H3.out
    obtain ⟨⟨s0, s1, s2, s3⟩, _⟩ := cells4 H0.out
    obtain ⟨⟨t0, t1, t2, t3⟩, _⟩ := cells4 H1.out
    obtain ⟨y0, y1⟩ := cells2 H2.out
    go_enter Tryz.func31, Tryz.ntmps31
    go_wp2_with fail
    go_quiet (fail)
    have HB2 : Hid (Below w1.heap.size w1 (w1.drewN nq)) := _root_.Go.below_drewN (Below.refl _ _) nq
    generalize w1.drewN nq = w2 at *
    clear hch r0 r1 r2 r3 z0 z1 z2 z3 s0 s1 s2 s3 t0 t1 t2 t3 y0 y1 b0 b1
    obtain ⟨⟨r0, r1, r2, r3⟩, z0, z1, z2, z3⟩ := cells4 (blk_below HB2.out H3.out)
    obtain ⟨⟨s0, s1, s2, s3⟩, _⟩ := cells4 (blk_below HB2.out H0.out)
    cases oc
    · go_wp2
      obtain ⟨⟨x0, x1, x2, x3⟩, _⟩ := cells4 (set4 (blk_below HB2.out H3.out) (.int .i64 2) (.int .i64 t) (.int .i64 g) (.bool b))
      exact bodyPost_ret (v := stV (2, t, g, b)) (by simp [results, Tryz.results31, go_sem, stV, x0, x1, x2, x3]) rfl ⟨by rw [HF1.out]; rfl, below_set4 (HB1.out.trans (HB2.out.mono HB1.out.size)) (by omega) _ _ _ _⟩
    · go_wp2_with fail
      refine (entered_any _).mono ?_
      rintro e w3 ⟨he, hb3⟩
      simp only [stV] at he
      subst he
      have HB3 : Hid (Below w1.heap.size w1 w3) := HB2.out.trans (hb3.mono HB2.out.size)
      clear hb3 r0 r1 r2 r3 z0 z1 z2 z3 s0 s1 s2 s3
      obtain ⟨⟨r0, r1, r2, r3⟩, z0, z1, z2, z3⟩ := cells4 (blk_below HB3.out H3.out)
      obtain ⟨⟨s0, s1, s2, s3⟩, _⟩ := cells4 (blk_below HB3.out H0.out)
      go_wp2
      obtain ⟨⟨x0, x1, x2, x3⟩, _⟩ := cells4 (set4 (blk_below HB3.out H3.out) (.int .i64 3) (.int .i64 0) (.int .i64 0) (.bool true))
      exact bodyPost_ret (v := stV (3, 0, 0, true)) (by simp [results, Tryz.results31, go_sem, stV, x0, x1, x2, x3]) rfl ⟨by rw [HF1.out]; rfl, below_set4 (HB1.out.trans (HB3.out.mono HB1.out.size)) (by omega) _ _ _ _⟩
  by_cases hm4 : m = 4
  · subst hm4
    have HF1 : Hid (ans = if oc = true then (3, 0, 0, true) else waitF (4, t, g, b) 5) := by
      show _ = _
      rw [HF.out, if_neg (by decide), if_neg (by decide), if_pos rfl]
    clear HF
    have b0 := (HB1.out.cell (World.block_lt_of_cell? _ _ a0)).trans a0
    have b1 := (HB1.out.cell (World.block_lt_of_cell? _ _ a1)).trans a1
    obtain ⟨⟨r0, r1, r2, r3⟩, z0, z1, z2, z3⟩ := cells4 H3.out
    obtain ⟨⟨s0, s1, s2, s3⟩, _⟩ := cells4 H0.out
    obtain ⟨⟨t0, t1, t2, t3⟩, _⟩ := cells4 H1.out
    obtain ⟨y0, y1⟩ := cells2 H2.out
    go_enter Tryz.func31, Tryz.ntmps31
    go_wp2_with fail
    go_quiet (fail)
    have HB2 : Hid (Below w1.heap.size w1 (w1.drewN nq)) := _root_.Go.below_drewN (Below.refl _ _) nq
    generalize w1.drewN nq = w2 at *
    clear hch r0 r1 r2 r3 z0 z1 z2 z3 s0 s1 s2 s3 t0 t1 t2 t3 y0 y1 b0 b1
    obtain ⟨⟨r0, r1, r2, r3⟩, z0, z1, z2, z3⟩ := cells4 (blk_below HB2.out H3.out)
    obtain ⟨⟨s0, s1, s2, s3⟩, _⟩ := cells4 (blk_below HB2.out H0.out)
    cases oc
    · go_wp2_with fail
      refine (WA.out _ 5).mono ?_
      rintro e w3 ⟨he, hb3⟩
      have HB3 : Hid (Below w1.heap.size w1 w3) := HB2.out.trans (hb3.mono HB2.out.size)
      clear hb3 r0 r1 r2 r3 z0 z1 z2 z3 s0 s1 s2 s3
      have HA : Hid (ans = waitF (4, t, g, b) 5) := HF1.out
      generalize waitF (4, t, g, b) 5 = q at *
      obtain ⟨qm, qt, qg, qb⟩ := q
      simp only [stV] at he
      subst he
      obtain ⟨⟨r0, r1, r2, r3⟩, z0, z1, z2, z3⟩ := cells4 (blk_below HB3.out H3.out)
      obtain ⟨⟨s0, s1, s2, s3⟩, _⟩ := cells4 (blk_below HB3.out H0.out)
      go_wp2
      obtain ⟨⟨x0, x1, x2, x3⟩, _⟩ := cells4 (set4 (blk_below HB3.out H3.out) (.int .i64 qm) (.int .i64 qt) (.int .i64 qg) (.bool qb))
      exact bodyPost_ret (v := stV (qm, qt, qg, qb)) (by simp [results, Tryz.results31, go_sem, stV, x0, x1, x2, x3]) rfl ⟨by rw [HA.out], below_set4 (HB1.out.trans (HB3.out.mono HB1.out.size)) (by omega) _ _ _ _⟩
    · go_wp2_with fail
      refine (entered_any _).mono ?_
      rintro e w3 ⟨he, hb3⟩
      simp only [stV] at he
      subst he
      have HB3 : Hid (Below w1.heap.size w1 w3) := HB2.out.trans (hb3.mono HB2.out.size)
      clear hb3 r0 r1 r2 r3 z0 z1 z2 z3 s0 s1 s2 s3
      obtain ⟨⟨r0, r1, r2, r3⟩, z0, z1, z2, z3⟩ := cells4 (blk_below HB3.out H3.out)
      obtain ⟨⟨s0, s1, s2, s3⟩, _⟩ := cells4 (blk_below HB3.out H0.out)
      go_wp2
      obtain ⟨⟨x0, x1, x2, x3⟩, _⟩ := cells4 (set4 (blk_below HB3.out H3.out) (.int .i64 3) (.int .i64 0) (.int .i64 0) (.bool true))
      exact bodyPost_ret (v := stV (3, 0, 0, true)) (by simp [results, Tryz.results31, go_sem, stV, x0, x1, x2, x3]) rfl ⟨by rw [HF1.out]; rfl, below_set4 (HB1.out.trans (HB3.out.mono HB1.out.size)) (by omega) _ _ _ _⟩
  by_cases hm3 : m = 3
  · subst hm3
    have HF1 : Hid (ans = followF (3, t, g, b) pa occ) := by
      show _ = _
      rw [HF.out, if_neg (by decide), if_neg (by decide), if_neg (by decide), if_pos rfl]
    clear HF
    obtain ⟨⟨r0, r1, r2, r3⟩, z0, z1, z2, z3⟩ := cells4 H3.out
    obtain ⟨⟨s0, s1, s2, s3⟩, _⟩ := cells4 H0.out
    obtain ⟨⟨t0, t1, t2, t3⟩, _⟩ := cells4 H1.out
    obtain ⟨y0, y1⟩ := cells2 H2.out
    go_enter Tryz.func31, Tryz.ntmps31
    go_wp2_with fail
    clear hch r0 r1 r2 r3 z0 z1 z2 z3 s0 s1 s2 s3 t0 t1 t2 t3 y0 y1
    refine (FO.out _ HB1.out).mono ?_
    rintro e w3 ⟨he, hb3⟩
    have HB3 : Hid (Below w1.heap.size w1 w3) := hb3
    clear hb3
    generalize followF (3, t, g, b) pa occ = q at *
    obtain ⟨qm, qt, qg, qb⟩ := q
    simp only [stV] at he
    subst he
    obtain ⟨⟨r0, r1, r2, r3⟩, z0, z1, z2, z3⟩ := cells4 (blk_below HB3.out H3.out)
    obtain ⟨⟨s0, s1, s2, s3⟩, _⟩ := cells4 (blk_below HB3.out H0.out)
    go_wp2
    obtain ⟨⟨x0, x1, x2, x3⟩, _⟩ := cells4 (set4 (blk_below HB3.out H3.out) (.int .i64 qm) (.int .i64 qt) (.int .i64 qg) (.bool qb))
    exact bodyPost_ret (v := stV (qm, qt, qg, qb)) (by simp [results, Tryz.results31, go_sem, stV, x0, x1, x2, x3]) rfl ⟨by rw [HF1.out], below_set4 (HB1.out.trans (HB3.out.mono HB1.out.size)) (by omega) _ _ _ _⟩
  have HF1 : Hid (ans = (m, t, g, b)) := by
    show _ = _
    rw [HF.out, if_neg hm1, if_neg hm2, if_neg hm4, if_neg hm3]
  clear HF
  have d1 : (m == 1) = false := by simp [hm1]
  have d2 : (m == 2) = false := by simp [hm2]
  have d3 : (m == 3) = false := by simp [hm3]
  have d4 : (m == 4) = false := by simp [hm4]
  clear hm1 hm2 hm3 hm4
  have HB2 : Hid (Below w1.heap.size w1 w1) := Below.refl _ _
  obtain ⟨⟨r0, r1, r2, r3⟩, z0, z1, z2, z3⟩ := cells4 H3.out
  obtain ⟨⟨s0, s1, s2, s3⟩, _⟩ := cells4 H0.out
  obtain ⟨⟨t0, t1, t2, t3⟩, _⟩ := cells4 H1.out
  obtain ⟨y0, y1⟩ := cells2 H2.out
  go_enter Tryz.func31, Tryz.ntmps31
  go_wp2
  obtain ⟨⟨x0, x1, x2, x3⟩, _⟩ := cells4 (set4 (blk_below HB2.out H3.out) (.int .i64 m) (.int .i64 t) (.int .i64 g) (.bool b))
  exact bodyPost_ret (v := stV (m, t, g, b)) (by simp [results, Tryz.results31, go_sem, stV, x0, x1, x2, x3]) rfl ⟨by rw [HF1.out], below_set4 (HB1.out.trans (HB2.out.mono HB1.out.size)) (by omega) _ _ _ _⟩
end Go.Proofs.YtceebimgfajbcaaGreatDoor
