/-
  The program's Same: are two layouts one? by a contract.
-/
import Derived.Test.YtgiaicmhnkhbnaaDoorPlSameR
namespace Go.Proofs.YtgiaicmhnkhbnaaDoor
open Go.RowKit

def rtsB (a b : List Rt) : Bool := @decide (a = b) (@instDecidableEqList Rt decRt a b)
theorem rtsB_yes {a b : List Rt} (h : a = b) : rtsB a b = true := @decide_eq_true _ (@instDecidableEqList Rt decRt a b) h
theorem rtsB_no {a b : List Rt} (h : ¬ a = b) : rtsB a b = false := @decide_eq_false _ (@instDecidableEqList Rt decRt a b) h
theorem rts_no {rs qs : List RtV} {k : Nat} {x y : RtV} (hx : rs[k]? = some x) (hy : qs[k]? = some y) (h : ¬ x.1 = y.1) : rtsB (rs.map (·.1)) (qs.map (·.1)) = false := by
  refine rtsB_no fun hh => h ?_
  have h1 : (rs.map (·.1))[k]? = some x.1 := by rw [List.getElem?_map, hx]; rfl
  have h2 : (qs.map (·.1))[k]? = some y.1 := by rw [List.getElem?_map, hy]; rfl
  rw [hh, h2] at h1
  exact (Option.some.inj h1).symm
theorem rts_step {rs qs : List RtV} {k : Nat} {x y : RtV} (hx : rs[k]? = some x) (hy : qs[k]? = some y) (h : (rs.take k).map (·.1) = (qs.take k).map (·.1)) (he : x.1 = y.1) : (rs.take (k + 1)).map (·.1) = (qs.take (k + 1)).map (·.1) := by
  rw [take_one hx, take_one hy, List.map_append, List.map_append, h]
  simp [he]

set_option maxRecDepth 1000000 in
set_option maxHeartbeats 8000000 in
theorem equalR_any (v u : Value) (rs qs : List RtV) (w : World) (h : rowAt w v 6 rC rs) (hu : rowAt w u 6 rC qs) (hn : rs.length ≤ 4294967296) (hx : ∀ x ∈ rs, RtAt w x) (hy : ∀ x ∈ qs, RtAt w x)
    (hb : ∀ x ∈ rs, x.1.path.length ≤ 4294967296 ∧ x.1.points.length ≤ 4294967296 ∧ x.1.flank.length ≤ 4294967296) :
    Calls Tryd.prog 13 #[v, u, .func (.func 14) #[] #[]] w fun e w' => e = .returned (.bool (rtsB (rs.map (·.1)) (qs.map (·.1)))) ∧ Below w.heap.size w w' := by
  obtain ⟨oa, cap, rfl, h2⟩ := h
  obtain ⟨ob, cbp, rfl, h3⟩ := hu
  have H2 : Hid (∀ j y, rs[j]? = some y → ∃ g off, oa = some ⟨g, off, none⟩ ∧ ∀ i u, (rC y)[i]? = some u → w.cell? ⟨g, off + j * 6 + i, none⟩ = some u) := h2
  have H3 : Hid (∀ j y, qs[j]? = some y → ∃ g off, ob = some ⟨g, off, none⟩ ∧ ∀ i u, (rC y)[i]? = some u → w.cell? ⟨g, off + j * 6 + i, none⟩ = some u) := h3
  have HXA : Hid (∀ x ∈ rs, RtAt w x) := hx
  have HYA : Hid (∀ x ∈ qs, RtAt w x) := hy
  have HB : Hid (∀ x ∈ rs, x.1.path.length ≤ 4294967296 ∧ x.1.points.length ≤ 4294967296 ∧ x.1.flank.length ≤ 4294967296) := hb
  clear h2 h3 hx hy hb
  by_cases hlen : rs.length = qs.length
  · rw [← hlen]
    have HL : Hid (rs.length = qs.length) := hlen
    clear hlen
    generalize hsn : rs.length = n at *
    have HN : Hid (rs.length = n) := hsn
    clear hsn
    go_enter Tryd.func13, Tryd.ntmps13
    go_wp2
    go_loopg [7, 8, 9, 17] n (fun gk a b c i wr => ∃ k : Nat, gk = n - k ∧ k ≤ n ∧ i = .int .i64 k ∧ (rs.take k).map (·.1) = (qs.take k).map (·.1) ∧ Below w.heap.size w wr)
    case atStart => exact ⟨0, rfl, by omega, rfl, by simp, Below.refl _ _⟩
    case round =>
      obtain ⟨k, rfl, hk, rfl, hc, hbl⟩ := hrel
      have HC : Hid ((rs.take k).map (·.1) = (qs.take k).map (·.1)) := hc
      have hsz := hbl.size
      clear hc
      by_cases hlt : k < n
      · have hki : (k : Int) < (n : Int) := by omega
        obtain ⟨x, hx⟩ : ∃ x, rs[k]? = some x := ⟨rs[k]'(by rw [HN.out]; exact hlt), List.getElem?_eq_getElem _⟩
        obtain ⟨y, hy⟩ : ∃ y, qs[k]? = some y := ⟨qs[k]'(by rw [← HL.out]; exact hlt), List.getElem?_eq_getElem _⟩
        have hxa := HXA.out x (List.mem_of_getElem? hx)
        have hya := HYA.out y (List.mem_of_getElem? hy)
        obtain ⟨hb3, hb4, hb5⟩ := HB.out x (List.mem_of_getElem? hx)
        have CL : Hid (∀ W, Below w.heap.size w W → Calls Tryd.prog 14 #[rtV x, rtV y] W fun e w' => e = .returned (.bool (rtB x.1 y.1)) ∧ Below W.heap.size W w') := fun W hW => sameRoute_any x y W (hxa.below hW) (hya.below hW) hb3 hb4 hb5
        have YES : Hid (x.1 = y.1 → (rs.take (k + 1)).map (·.1) = (qs.take (k + 1)).map (·.1)) := fun he => rts_step hx hy HC.out he
        have NO : Hid (¬ x.1 = y.1 → rtsB (rs.map (·.1)) (qs.map (·.1)) = false) := fun he => rts_no hx hy he
        obtain ⟨⟨p3, k3, e3, _⟩, ⟨p4, k4, e4, _⟩, ⟨p5, k5, e5, _⟩⟩ := hxa
        obtain ⟨⟨q3, z3, f3, _⟩, ⟨q4, z4, f4, _⟩, ⟨q5, z5, f5, _⟩⟩ := hya
        obtain ⟨g, off, rfl, hcell⟩ := H2.out k _ hx
        obtain ⟨g1, off1, rfl, hcell1⟩ := H3.out k _ hy
        have up : ∀ {p : Addr} {u : Value}, w.cell? p = some u → wr.cell? p = some u := fun h => (hbl.cell (World.block_lt_of_cell? _ _ h)).trans h
        have d0 := up (hcell 0 _ rfl)
        have d1 := up (hcell 1 _ rfl)
        have d2 := up (hcell 2 _ rfl)
        have d3 := up (hcell 3 _ rfl)
        have d4 := up (hcell 4 _ rfl)
        have d5 := up (hcell 5 _ rfl)
        have s0 := up (hcell1 0 _ rfl)
        have s1 := up (hcell1 1 _ rfl)
        have s2 := up (hcell1 2 _ rfl)
        have s3 := up (hcell1 3 _ rfl)
        have s4 := up (hcell1 4 _ rfl)
        have s5 := up (hcell1 5 _ rfl)
        rw [Nat.add_zero] at d0 s0
        rw [e3] at d3
        rw [e4] at d4
        rw [e5] at d5
        rw [f3] at s3
        rw [f4] at s4
        rw [f5] at s5
        simp only [rtV, e3, e4, e5, f3, f4, f5] at CL
        have zz : ∀ {p : Addr} {u : Value}, wr.cell? p = some u → ∀ o, (wr.alloc o).cell? p = some u := fun h o => (Below.cell (Below.alloc (Below.refl wr.heap.size wr) (Nat.le_refl _) o) (World.block_lt_of_cell? _ _ h)).trans h
        have t0 := zz s0
        have t1 := zz s1
        have t2 := zz s2
        have t3 := zz s3
        have t4 := zz s4
        have t5 := zz s5
        clear hcell hcell1 hx hy e3 e4 e5 f3 f4 f5 up zz
        generalize x.1.path.length = l3 at *
        generalize x.1.points.length = l4 at *
        generalize x.1.flank.length = l5 at *
        generalize y.1.path.length = r3 at *
        generalize y.1.points.length = r4 at *
        generalize y.1.flank.length = r5 at *
        by_cases he : x.1 = y.1
        · rw [rtB_yes he] at CL
          have HE : Hid ((rs.take (k + 1)).map (·.1) = (qs.take (k + 1)).map (·.1)) := YES.out he
          clear he YES NO
          generalize x.1.name = xn at *
          generalize x.1.frm = xf at *
          generalize x.1.to = xt at *
          generalize y.1.name = yn at *
          generalize y.1.frm = yf at *
          generalize y.1.to = yt at *
          go_wp2_with fail
          refine (CL.out _ (hbl.trans (Below.mono (by repeat' (with_reducible first | exact Below.refl _ _ | refine _root_.Go.below_drewN ?_ _ | refine Below.drew ?_ | refine Below.alloc ?_ ?_ _ | refine Below.setCell ?_ ?_ _ | exact Nat.le_refl _ | (simp; done) | (simp; omega))) hbl.size))).mono ?_
          rintro e w1 ⟨rfl, hb1⟩
          have hb0 : Below wr.heap.size wr w1 := Below.trans (by repeat' (with_reducible first | exact Below.refl _ _ | refine _root_.Go.below_drewN ?_ _ | refine Below.drew ?_ | refine Below.alloc ?_ ?_ _ | refine Below.setCell ?_ ?_ _ | exact Nat.le_refl _ | (simp; done) | (simp; omega))) (hb1.mono (by simp; omega))
          have hb2 := hbl.trans (hb0.mono hbl.size)
          clear hb1 hb0
          go_wp2
          go_roundg (n - (k + 1))
          case rel => exact ⟨k + 1, rfl, by omega, by go_num, HE.out, hb2⟩
          case measure => omega
        · rw [rtB_no he] at CL
          have HF : Hid (rtsB (rs.map (·.1)) (qs.map (·.1)) = false) := NO.out he
          clear he YES NO
          generalize x.1.name = xn at *
          generalize x.1.frm = xf at *
          generalize x.1.to = xt at *
          generalize y.1.name = yn at *
          generalize y.1.frm = yf at *
          generalize y.1.to = yt at *
          go_wp2_with fail
          refine (CL.out _ (hbl.trans (Below.mono (by repeat' (with_reducible first | exact Below.refl _ _ | refine _root_.Go.below_drewN ?_ _ | refine Below.drew ?_ | refine Below.alloc ?_ ?_ _ | refine Below.setCell ?_ ?_ _ | exact Nat.le_refl _ | (simp; done) | (simp; omega))) hbl.size))).mono ?_
          rintro e w1 ⟨rfl, hb1⟩
          have hb0 : Below wr.heap.size wr w1 := Below.trans (by repeat' (with_reducible first | exact Below.refl _ _ | refine _root_.Go.below_drewN ?_ _ | refine Below.drew ?_ | refine Below.alloc ?_ ?_ _ | refine Below.setCell ?_ ?_ _ | exact Nat.le_refl _ | (simp; done) | (simp; omega))) (hb1.mono (by simp; omega))
          have hb2 := hbl.trans (hb0.mono hbl.size)
          clear hb1 hb0
          go_wp2
          go_ret
          exact ⟨ret_bool HF.out.symm, hb2⟩
      · have HF : Hid (rtsB (rs.map (·.1)) (qs.map (·.1)) = true) := by
          have := HC.out
          rw [List.take_of_length_le (by rw [HN.out]; omega), List.take_of_length_le (by rw [← HL.out]; omega)] at this
          exact rtsB_yes this
        go_wp2
        go_ret
        exact ⟨ret_bool HF.out.symm, hbl⟩
  · have HF : Hid (rtsB (rs.map (·.1)) (qs.map (·.1)) = false) := rtsB_no fun h => hlen (by have := congrArg List.length h; rwa [List.length_map, List.length_map] at this)
    have hne : ¬ ((rs.length : Int) = (qs.length : Int)) := by omega
    generalize rs.length = n at *
    generalize qs.length = m at *
    clear hlen
    go_enter Tryd.func13, Tryd.ntmps13
    go_wp2
    go_ret
    exact ⟨ret_bool HF.out.symm, Below.refl _ _⟩

set_option maxRecDepth 1000000 in
set_option maxHeartbeats 8000000 in
theorem planSame_any (v u : Nat → Value) (l m : Lay) (rs qs : List RtV) (w : World) (h : LayRd w v l rs) (h' : LayRd w u m qs) (hm : LayMid l) :
    Calls Tryd.prog 5 #[.agg #[v 0, v 1, v 2, v 3], .agg #[u 0, u 1, u 2, u 3]] w fun e w' => e = .returned (.bool (sameB l m)) ∧ Below w.heap.size w w' := by
  have hlr : l.routes.length = rs.length := by rw [← h.m, List.length_map]
  have C0 : Hid (∀ W, Below w.heap.size w W → Calls Tryd.prog 11 #[v 0, u 0] W fun e w' => e = .returned (.bool (decide (l.sections = m.sections))) ∧ ∃ n, w' = W.drewN n) := fun W hW => equalS_any _ _ _ _ W (h.s.below hW) (h'.s.below hW) hm.s.1
  have C1 : Hid (∀ W, Below w.heap.size w W → Calls Tryd.prog 12 #[v 1, u 1] W fun e w' => e = .returned (.bool (decide (l.points = m.points))) ∧ ∃ n, w' = W.drewN n) := fun W hW => equalP_any _ _ _ _ W (h.p.below hW) (h'.p.below hW) hm.p.1
  have C2 : Hid (∀ W, Below w.heap.size w W → Calls Tryd.prog 11 #[v 2, u 2] W fun e w' => e = .returned (.bool (decide (l.signals = m.signals))) ∧ ∃ n, w' = W.drewN n) := fun W hW => equalS_any _ _ _ _ W (h.g.below hW) (h'.g.below hW) hm.g.1
  have C3 : Hid (∀ W, Below w.heap.size w W → Calls Tryd.prog 13 #[v 3, u 3, .func (.func 14) #[] #[]] W fun e w' => e = .returned (.bool (rtsB l.routes m.routes)) ∧ Below W.heap.size W w') := fun W hW => by
    rw [← h.m, ← h'.m]
    exact equalR_any _ _ _ _ W (h.r.below hW) (h'.r.below hW) (by have := hm.r.1; omega) (fun x hx => (h.x x hx).below hW) (fun x hx => (h'.x x hx).below hW) (fun x hx => by
      obtain ⟨_, _, _, a, b, c⟩ := hm.r.2 x.1 (by rw [← h.m]; exact List.mem_map.2 ⟨x, hx, rfl⟩)
      exact ⟨a.1, b.1, c.1⟩)
  have RES : Hid (sameB l m = (decide (l.sections = m.sections ∧ l.signals = m.signals ∧ l.points = m.points) && rtsB l.routes m.routes)) := rfl
  obtain ⟨o0, c0, e0, _⟩ := h.s
  obtain ⟨o1, c1, e1, _⟩ := h.p
  obtain ⟨o2, c2, e2, _⟩ := h.g
  obtain ⟨o3, c3, e3, _⟩ := h.r
  obtain ⟨p0, d0, f0, _⟩ := h'.s
  obtain ⟨p1, d1, f1, _⟩ := h'.p
  obtain ⟨p2, d2, f2, _⟩ := h'.g
  obtain ⟨p3, d3, f3, _⟩ := h'.r
  rw [e0, f0] at C0
  rw [e1, f1] at C1
  rw [e2, f2] at C2
  rw [e3, f3] at C3
  rw [e0, e1, e2, e3, f0, f1, f2, f3]
  clear h h' hm hlr e0 e1 e2 e3 f0 f1 f2 f3
  generalize sameB l m = ans at *
  generalize rtsB l.routes m.routes = rb at *
  generalize l.sections.length = n0 at *
  generalize l.points.length = n1 at *
  generalize l.signals.length = n2 at *
  generalize rs.length = n3 at *
  generalize m.sections.length = m0 at *
  generalize m.points.length = m1 at *
  generalize m.signals.length = m2 at *
  generalize qs.length = m3 at *
  by_cases h0 : ¬ (l.sections = m.sections)
  · rw [decide_eq_false h0] at C0
    have HF : Hid (ans = false) := by
      show _ = _
      rw [RES.out, decide_eq_false (fun e => h0 e.1), Bool.false_and]
    clear h0 RES
    go_enter Tryd.func5, Tryd.ntmps5
    go_wp2_with fail
    refine (C0.out _ (by repeat' (with_reducible first | exact Below.refl _ _ | refine _root_.Go.below_drewN ?_ _ | refine Below.drew ?_ | refine Below.alloc ?_ ?_ _ | refine Below.setCell ?_ ?_ _ | exact Nat.le_refl _ | (simp; done) | (simp; omega)))).mono ?_
    rintro e w1 ⟨rfl, k0, rfl⟩
    go_wp2_with fail
    go_ret
    exact ⟨ret_bool HF.out.symm, (by repeat' (with_reducible first | exact Below.refl _ _ | refine _root_.Go.below_drewN ?_ _ | refine Below.drew ?_ | refine Below.alloc ?_ ?_ _ | refine Below.setCell ?_ ?_ _ | exact Nat.le_refl _ | (simp; done) | (simp; omega)))⟩
  replace h0 := Classical.not_not.1 h0
  rw [decide_eq_true h0] at C0
  by_cases h1 : ¬ (l.points = m.points)
  · rw [decide_eq_false h1] at C1
    have HF : Hid (ans = false) := by
      show _ = _
      rw [RES.out, decide_eq_false (fun e => h1 e.2.2), Bool.false_and]
    clear h0 h1 RES
    go_enter Tryd.func5, Tryd.ntmps5
    go_wp2_with fail
    refine (C0.out _ (by repeat' (with_reducible first | exact Below.refl _ _ | refine _root_.Go.below_drewN ?_ _ | refine Below.drew ?_ | refine Below.alloc ?_ ?_ _ | refine Below.setCell ?_ ?_ _ | exact Nat.le_refl _ | (simp; done) | (simp; omega)))).mono ?_
    rintro e w1 ⟨rfl, k0, rfl⟩
    go_wp2_with fail
    refine (C1.out _ (by repeat' (with_reducible first | exact Below.refl _ _ | refine _root_.Go.below_drewN ?_ _ | refine Below.drew ?_ | refine Below.alloc ?_ ?_ _ | refine Below.setCell ?_ ?_ _ | exact Nat.le_refl _ | (simp; done) | (simp; omega)))).mono ?_
    rintro e w2 ⟨rfl, k1, rfl⟩
    go_wp2_with fail
    go_ret
    exact ⟨ret_bool HF.out.symm, (by repeat' (with_reducible first | exact Below.refl _ _ | refine _root_.Go.below_drewN ?_ _ | refine Below.drew ?_ | refine Below.alloc ?_ ?_ _ | refine Below.setCell ?_ ?_ _ | exact Nat.le_refl _ | (simp; done) | (simp; omega)))⟩
  replace h1 := Classical.not_not.1 h1
  rw [decide_eq_true h1] at C1
  by_cases h2 : ¬ (l.signals = m.signals)
  · rw [decide_eq_false h2] at C2
    have HF : Hid (ans = false) := by
      show _ = _
      rw [RES.out, decide_eq_false (fun e => h2 e.2.1), Bool.false_and]
    clear h0 h1 h2 RES
    go_enter Tryd.func5, Tryd.ntmps5
    go_wp2_with fail
    refine (C0.out _ (by repeat' (with_reducible first | exact Below.refl _ _ | refine _root_.Go.below_drewN ?_ _ | refine Below.drew ?_ | refine Below.alloc ?_ ?_ _ | refine Below.setCell ?_ ?_ _ | exact Nat.le_refl _ | (simp; done) | (simp; omega)))).mono ?_
    rintro e w1 ⟨rfl, k0, rfl⟩
    go_wp2_with fail
    refine (C1.out _ (by repeat' (with_reducible first | exact Below.refl _ _ | refine _root_.Go.below_drewN ?_ _ | refine Below.drew ?_ | refine Below.alloc ?_ ?_ _ | refine Below.setCell ?_ ?_ _ | exact Nat.le_refl _ | (simp; done) | (simp; omega)))).mono ?_
    rintro e w2 ⟨rfl, k1, rfl⟩
    go_wp2_with fail
    refine (C2.out _ (by repeat' (with_reducible first | exact Below.refl _ _ | refine _root_.Go.below_drewN ?_ _ | refine Below.drew ?_ | refine Below.alloc ?_ ?_ _ | refine Below.setCell ?_ ?_ _ | exact Nat.le_refl _ | (simp; done) | (simp; omega)))).mono ?_
    rintro e w3 ⟨rfl, k2, rfl⟩
    go_wp2_with fail
    go_ret
    exact ⟨ret_bool HF.out.symm, (by repeat' (with_reducible first | exact Below.refl _ _ | refine _root_.Go.below_drewN ?_ _ | refine Below.drew ?_ | refine Below.alloc ?_ ?_ _ | refine Below.setCell ?_ ?_ _ | exact Nat.le_refl _ | (simp; done) | (simp; omega)))⟩
  replace h2 := Classical.not_not.1 h2
  rw [decide_eq_true h2] at C2
  have HF : Hid (ans = rb) := by
    show _ = _
    rw [RES.out, decide_eq_true ⟨h0, h2, h1⟩, Bool.true_and]
  clear h0 h1 h2 RES
  go_enter Tryd.func5, Tryd.ntmps5
  go_wp2_with fail
  refine (C0.out _ (by repeat' (with_reducible first | exact Below.refl _ _ | refine _root_.Go.below_drewN ?_ _ | refine Below.drew ?_ | refine Below.alloc ?_ ?_ _ | refine Below.setCell ?_ ?_ _ | exact Nat.le_refl _ | (simp; done) | (simp; omega)))).mono ?_
  rintro e w1 ⟨rfl, k0, rfl⟩
  go_wp2_with fail
  refine (C1.out _ (by repeat' (with_reducible first | exact Below.refl _ _ | refine _root_.Go.below_drewN ?_ _ | refine Below.drew ?_ | refine Below.alloc ?_ ?_ _ | refine Below.setCell ?_ ?_ _ | exact Nat.le_refl _ | (simp; done) | (simp; omega)))).mono ?_
  rintro e w2 ⟨rfl, k1, rfl⟩
  go_wp2_with fail
  refine (C2.out _ (by repeat' (with_reducible first | exact Below.refl _ _ | refine _root_.Go.below_drewN ?_ _ | refine Below.drew ?_ | refine Below.alloc ?_ ?_ _ | refine Below.setCell ?_ ?_ _ | exact Nat.le_refl _ | (simp; done) | (simp; omega)))).mono ?_
  rintro e w3 ⟨rfl, k2, rfl⟩
  go_wp2_with fail
  refine (C3.out _ (by repeat' (with_reducible first | exact Below.refl _ _ | refine _root_.Go.below_drewN ?_ _ | refine Below.drew ?_ | refine Below.alloc ?_ ?_ _ | refine Below.setCell ?_ ?_ _ | exact Nat.le_refl _ | (simp; done) | (simp; omega)))).mono ?_
  rintro e w4 ⟨rfl, hb4⟩
  have hb5 : Below w.heap.size w w4 := Below.trans (by repeat' (with_reducible first | exact Below.refl _ _ | refine _root_.Go.below_drewN ?_ _ | refine Below.drew ?_ | refine Below.alloc ?_ ?_ _ | refine Below.setCell ?_ ?_ _ | exact Nat.le_refl _ | (simp; done) | (simp; omega))) (hb4.mono (by simp; omega))
  clear hb4
  go_wp2_with fail
  go_ret
  exact ⟨ret_bool HF.out.symm, hb5⟩
end Go.Proofs.YtgiaicmhnkhbnaaDoor
