/-
  The reference's Same: are two layouts one? by a contract.
-/
import Derived.Test.YtgiaicmhnkhbnaaDoorJoin3
import Derived.Test.YtgiaicmhnkhbnaaDoorLyIs
import Derived.Test.YtgiaicmhnkhbnaaDoorLyPrintV
import Derived.Deep.CutBlock
import Derived.Deep.RegionHeld
namespace Go.Proofs.YtgiaicmhnkhbnaaDoor
open Go.RowKit

theorem rt_ext {a b : Rt} (h : (a.name = b.name ∧ a.frm = b.frm ∧ a.to = b.to) ∧ (a.path = b.path ∧ a.points = b.points ∧ a.flank = b.flank)) : a = b := by
  obtain ⟨a1, a2, a3, a4, a5, a6⟩ := a
  obtain ⟨b1, b2, b3, b4, b5, b6⟩ := b
  simp only at h
  obtain ⟨⟨rfl, rfl, rfl⟩, rfl, rfl, rfl⟩ := h
  rfl
def decRt : DecidableEq Rt := fun a b => decidable_of_iff ((a.name = b.name ∧ a.frm = b.frm ∧ a.to = b.to) ∧ (a.path = b.path ∧ a.points = b.points ∧ a.flank = b.flank)) ⟨rt_ext, fun h => by rw [h]; exact ⟨⟨rfl, rfl, rfl⟩, rfl, rfl, rfl⟩⟩
/-- Are two layouts one? -/
def sameB (l m : Lay) : Bool := decide (l.sections = m.sections ∧ l.signals = m.signals ∧ l.points = m.points) && @decide (l.routes = m.routes) (@instDecidableEqList Rt decRt l.routes m.routes)
theorem sameB_yes {l m : Lay} (h1 : l.sections = m.sections) (h2 : l.signals = m.signals) (h3 : l.points = m.points) (h4 : l.routes = m.routes) : sameB l m = true := by
  rw [sameB, decide_eq_true ⟨h1, h2, h3⟩, Bool.true_and]
  exact @decide_eq_true _ (@instDecidableEqList Rt decRt l.routes m.routes) h4
theorem sameB_self (l : Lay) : sameB l l = true := sameB_yes rfl rfl rfl rfl
theorem sameB_no {l m : Lay} (h : ¬ l = m) : sameB l m = false := by
  cases e : sameB l m with
  | false => rfl
  | true =>
    rw [sameB, Bool.and_eq_true, decide_eq_true_eq] at e
    obtain ⟨⟨h1, h2, h3⟩, h4⟩ := e
    have h5 := @of_decide_eq_true _ (@instDecidableEqList Rt decRt l.routes m.routes) h4
    clear h4
    obtain ⟨a1, a2, a3, a4⟩ := l
    obtain ⟨b1, b2, b3, b4⟩ := m
    simp only at h1 h2 h3 h5
    subst h1 h2 h3 h5
    exact absurd rfl h
theorem sameB_routes {l m : Lay} {rs rs' : List RtV} (h : rs.map (·.1) = l.routes) (h' : rs'.map (·.1) = m.routes) {k : Nat} {x y : RtV} (hx : rs[k]? = some x) (hy : rs'[k]? = some y) (hne : ¬ x.1 = y.1) : sameB l m = false := by
  refine sameB_no fun hh => hne ?_
  have h1 : l.routes[k]? = some x.1 := by rw [← h, List.getElem?_map, hx]; rfl
  have h2 : m.routes[k]? = some y.1 := by rw [← h', List.getElem?_map, hy]; rfl
  rw [hh, h2] at h1
  exact (Option.some.inj h1).symm

/-- Two layouts that were put into memory. -/
def LayTwo (w0 : World) (v u : Nat → Value) (w : World) : Prop := BoxAt w0 v w ∧ w.heap[w0.heap.size + 1]? = some (.cells #[u 0, u 1, u 2, u 3] 26 (0, 0))
theorem LayTwo.lt {w0 : World} {v u : Nat → Value} {w : World} (h : LayTwo w0 v u w) : w0.heap.size + 1 < w.heap.size := (Array.getElem?_eq_some_iff.1 h.2).1
theorem LayTwo.step {w0 : World} {v u : Nat → Value} {w w' : World} (h : LayTwo w0 v u w) (hb : Below w.heap.size w w') : LayTwo w0 v u w' := ⟨h.1.step hb, (hb.block _ h.lt).trans h.2⟩
theorem LayTwo.start (w : World) (v u : Nat → Value) : LayTwo w v u ((w.alloc (.cells #[v 0, v 1, v 2, v 3] 26)).alloc (.cells #[u 0, u 1, u 2, u 3] 26)) := by
  have h1 := BoxAt.start w v
  have hs : (w.alloc (.cells #[v 0, v 1, v 2, v 3] 26)).heap.size = w.heap.size + 1 := by simp
  generalize w.alloc (.cells #[v 0, v 1, v 2, v 3] 26) = w1 at *
  refine ⟨h1.step ((Below.refl _ _).alloc (Nat.le_refl _) _), ?_⟩
  rw [← hs]
  exact blk_new _ _
theorem LayTwo.cells {w0 : World} {v u : Nat → Value} {w : World} (h : LayTwo w0 v u w) : w.cell? ⟨w0.heap.size + 1, 0, none⟩ = some (u 0) ∧ w.cell? ⟨w0.heap.size + 1, 1, none⟩ = some (u 1) ∧ w.cell? ⟨w0.heap.size + 1, 2, none⟩ = some (u 2) ∧ w.cell? ⟨w0.heap.size + 1, 3, none⟩ = some (u 3) := by
  have hh := h.2
  refine ⟨?_, ?_, ?_, ?_⟩ <;> simp [World.cell?, hh]

set_option maxRecDepth 1000000 in
set_option maxHeartbeats 16000000 in
theorem refSame_any (v u : Nat → Value) (l m : Lay) (rs qs : List RtV) (w : World) (h : LayRd w v l rs) (h' : LayRd w u m qs) (hm : LayMid l) (hm' : LayMid m) :
    Calls Tryd.prog 6 #[.agg #[v 0, v 1, v 2, v 3], .agg #[u 0, u 1, u 2, u 3]] w fun e w' => e = .returned (.bool (sameB l m)) ∧ Below w.heap.size w w' := by
  have HLR : Hid (LayRd w v l rs) := h
  have HLQ : Hid (LayRd w u m qs) := h'
  have HML : Hid (LayMid l) := hm
  have HMM : Hid (LayMid m) := hm'
  have hlr : l.routes.length = rs.length := by rw [← h.m, List.length_map]
  have hlq : m.routes.length = qs.length := by rw [← h'.m, List.length_map]
  obtain ⟨o0, c0, e0, _⟩ := h.s
  obtain ⟨o1, c1, e1, r1⟩ := h.p
  obtain ⟨o2, c2, e2, _⟩ := h.g
  obtain ⟨o3, c3, e3, r3⟩ := h.r
  obtain ⟨p0, d0, f0, _⟩ := h'.s
  obtain ⟨p1, d1, f1, t1⟩ := h'.p
  obtain ⟨p2, d2, f2, _⟩ := h'.g
  obtain ⟨p3, d3, f3, t3⟩ := h'.r
  have R1 : Hid (∀ j x, l.points[j]? = some x → ∃ g off, o1 = some ⟨g, off, none⟩ ∧ ∀ i u, (pC x)[i]? = some u → w.cell? ⟨g, off + j * 2 + i, none⟩ = some u) := r1
  have R3 : Hid (∀ j x, rs[j]? = some x → ∃ g off, o3 = some ⟨g, off, none⟩ ∧ ∀ i u, (rC x)[i]? = some u → w.cell? ⟨g, off + j * 6 + i, none⟩ = some u) := r3
  have T1 : Hid (∀ j x, m.points[j]? = some x → ∃ g off, p1 = some ⟨g, off, none⟩ ∧ ∀ i u, (pC x)[i]? = some u → w.cell? ⟨g, off + j * 2 + i, none⟩ = some u) := t1
  have T3 : Hid (∀ j x, qs[j]? = some x → ∃ g off, p3 = some ⟨g, off, none⟩ ∧ ∀ i u, (rC x)[i]? = some u → w.cell? ⟨g, off + j * 6 + i, none⟩ = some u) := t3
  have b1 := hm.p.1
  have b3 := hm.r.1
  have b1' := hm'.p.1
  have b3' := hm'.r.1
  rw [hlr] at b3
  rw [hlq] at b3'
  have S := LayTwo.start w v u
  have X0 : Hid (∀ W, Below w.heap.size w W → Calls Tryd.prog 15 #[v 0, u 0] W fun e w' => e = .returned (.bool (decide (l.sections = m.sections))) ∧ ∃ n, w' = W.drewN n) := fun W hW => refTexts_any _ _ _ _ W (h.s.below hW) (h'.s.below hW) hm.s.1
  have X2 : Hid (∀ W, Below w.heap.size w W → Calls Tryd.prog 15 #[v 2, u 2] W fun e w' => e = .returned (.bool (decide (l.signals = m.signals))) ∧ ∃ n, w' = W.drewN n) := fun W hW => refTexts_any _ _ _ _ W (h.g.below hW) (h'.g.below hW) hm.g.1
  have HV : Hid (v 0 = .slice o0 l.sections.length c0 ∧ v 1 = .slice o1 l.points.length c1 ∧ v 2 = .slice o2 l.signals.length c2 ∧ v 3 = .slice o3 rs.length c3) := ⟨e0, e1, e2, e3⟩
  have HU : Hid (u 0 = .slice p0 m.sections.length d0 ∧ u 1 = .slice p1 m.points.length d1 ∧ u 2 = .slice p2 m.signals.length d2 ∧ u 3 = .slice p3 qs.length d3) := ⟨f0, f1, f2, f3⟩
  have HLN : Hid (l.routes.length = rs.length ∧ m.routes.length = qs.length) := ⟨hlr, hlq⟩
  rw [e0, f0] at X0
  rw [e2, f2] at X2
  rw [e0, e1, e2, e3, f0, f1, f2, f3] at S ⊢
  clear h h' r1 r3 t1 t3 e0 e1 e2 e3 f0 f1 f2 f3 hm hm' hlr hlq
  generalize hs0 : l.sections.length = n0 at *
  generalize hs1 : l.points.length = n1 at *
  generalize hs2 : l.signals.length = n2 at *
  generalize hs3 : rs.length = n3 at *
  generalize ht0 : m.sections.length = m0 at *
  generalize ht1 : m.points.length = m1 at *
  generalize ht2 : m.signals.length = m2 at *
  generalize ht3 : qs.length = m3 at *
  have HS1 : Hid (l.points.length = n1) := hs1
  have HS3 : Hid (rs.length = n3) := hs3
  have HT1 : Hid (m.points.length = m1) := ht1
  have HT3 : Hid (qs.length = m3) := ht3
  clear hs0 hs1 hs2 hs3 ht0 ht1 ht2 ht3
  have SB : Hid (LayTwo w v u ((w.alloc (.cells #[.slice o0 n0 c0, .slice o1 n1 c1, .slice o2 n2 c2, .slice o3 n3 c3] 26)).alloc (.cells #[.slice p0 m0 d0, .slice p1 m1 d1, .slice p2 m2 d2, .slice p3 m3 d3] 26))) := S
  have hcc := S.1.cells
  have hdd := S.cells
  rw [HV.out.1, HV.out.2.1, HV.out.2.2.1, HV.out.2.2.2] at hcc
  rw [HU.out.1, HU.out.2.1, HU.out.2.2.1, HU.out.2.2.2] at hdd
  obtain ⟨q0, q1, q2, q3⟩ := hcc
  obtain ⟨y0, y1, y2, y3⟩ := hdd
  clear S
  generalize hw1 : (w.alloc (.cells #[.slice o0 n0 c0, .slice o1 n1 c1, .slice o2 n2 c2, .slice o3 n3 c3] 26)).alloc (.cells #[.slice p0 m0 d0, .slice p1 m1 d1, .slice p2 m2 d2, .slice p3 m3 d3] 26) = w1 at *
  have HW1 : Hid ((w.alloc (.cells #[.slice o0 n0 c0, .slice o1 n1 c1, .slice o2 n2 c2, .slice o3 n3 c3] 26)).alloc (.cells #[.slice p0 m0 d0, .slice p1 m1 d1, .slice p2 m2 d2, .slice p3 m3 d3] 26) = w1) := hw1
  clear hw1
  have D0 := X0.out _ SB.out.1.1
  go_enter Tryd.func6, Tryd.ntmps6
  go_upto_region 1 with fail
  rw [HW1.out]
  clear HW1
  by_cases g0 : ¬ (l.sections = m.sections)
  · rw [decide_eq_false g0] at D0
    have HF : Hid (sameB l m = false) := by
      show _ = _
      exact sameB_no (fun hh => g0 (by rw [hh]))
    clear g0
    go_wp2_with fail
    refine D0.mono ?_
    rintro e w2 ⟨rfl, k2, rfl⟩
    go_wp2_with fail
    go_ret
    exact ⟨ret_bool HF.out.symm, _root_.Go.below_drewN SB.out.1.1 _⟩
  replace g0 := Classical.not_not.1 g0
  rw [decide_eq_true g0] at D0
  have G0 : Hid (l.sections = m.sections) := g0
  clear g0
  go_wp2_with fail
  refine D0.mono ?_
  rintro e w2 ⟨rfl, k2, rfl⟩
  have D2 := X2.out _ (_root_.Go.below_drewN SB.out.1.1 k2)
  by_cases g2 : ¬ (l.signals = m.signals)
  · rw [decide_eq_false g2] at D2
    have HF : Hid (sameB l m = false) := by
      show _ = _
      exact sameB_no (fun hh => g2 (by rw [hh]))
    clear g2
    go_wp2_with fail
    refine D2.mono ?_
    rintro e w3 ⟨rfl, k3, rfl⟩
    go_wp2_with fail
    go_ret
    exact ⟨ret_bool HF.out.symm, _root_.Go.below_drewN SB.out.1.1 _⟩
  replace g2 := Classical.not_not.1 g2
  rw [decide_eq_true g2] at D2
  have G2 : Hid (l.signals = m.signals) := g2
  clear g2
  go_wp2_with fail
  refine D2.mono ?_
  rintro e w3 ⟨rfl, k3, rfl⟩
  have SB3 : Hid (LayTwo w v u (w1.drewN (k2 + k3))) := SB.out.step (_root_.Go.below_drewN (Below.refl _ _) _)
  by_cases g1 : ¬ (n1 = m1)
  · have hbl : ((n1 : Int) == (m1 : Int)) = false := by simp; omega
    have HF : Hid (sameB l m = false) := by
      show _ = _
      exact sameB_no (fun hh => g1 (by rw [← HS1.out, ← HT1.out, hh]))
    clear g1
    go_wp2_with fail
    go_ret
    exact ⟨ret_bool HF.out.symm, SB3.out.1.1⟩
  replace g1 := Classical.not_not.1 g1
  subst g1
  by_cases g3 : ¬ (n3 = m3)
  · have hbl : ((n3 : Int) == (m3 : Int)) = false := by simp; omega
    have HF : Hid (sameB l m = false) := by
      show _ = _
      exact sameB_no (fun hh => g3 (by rw [← HLN.out.1, ← HLN.out.2, hh]))
    clear g3
    go_wp2_with fail
    go_ret
    exact ⟨ret_bool HF.out.symm, SB3.out.1.1⟩
  replace g3 := Classical.not_not.1 g3
  subst g3
  clear X0 X2 D0 D2
  go_wp2_with fail
  clear q0 q1 q2 q3 y0 y1 y2 y3
  go_loopg [5] n1 (fun gk i wr => ∃ k : Nat, gk = n1 - k ∧ k ≤ n1 ∧ i = .int .i64 k ∧ l.points.take k = m.points.take k ∧ LayTwo w v u wr)
  case atStart => exact ⟨0, rfl, by omega, rfl, by simp, SB3.out⟩
  case round =>
    clear SB3 SB
    obtain ⟨k, rfl, hk, rfl, hc, hbx⟩ := hrel
    have HC : Hid (l.points.take k = m.points.take k) := hc
    have HBX : Hid (LayTwo w v u wr) := hbx
    have hcc := hbx.1.cells
    have hdd := hbx.cells
    have hbl := hbx.1.1
    rw [HV.out.1, HV.out.2.1, HV.out.2.2.1, HV.out.2.2.2] at hcc
    rw [HU.out.1, HU.out.2.1, HU.out.2.2.1, HU.out.2.2.2] at hdd
    obtain ⟨q0, q1, q2, q3⟩ := hcc
    obtain ⟨y0, y1, y2, y3⟩ := hdd
    clear hc hbx
    by_cases hlt : k < n1
    · have hki : (k : Int) < (n1 : Int) := by omega
      have hkm : (k : Int) < (n1 : Int) := by omega
      have hkn : k < n1 := by omega
      obtain ⟨⟨xn, xs⟩, hx⟩ : ∃ x, l.points[k]? = some x := ⟨l.points[k]'(by rw [HS1.out]; exact hlt), List.getElem?_eq_getElem _⟩
      obtain ⟨⟨yn, ys⟩, hy⟩ : ∃ x, m.points[k]? = some x := ⟨m.points[k]'(by rw [HT1.out]; exact hkn), List.getElem?_eq_getElem _⟩
      obtain ⟨g, off, rfl, hcx⟩ := R1.out k _ hx
      obtain ⟨g', off', rfl, hcy⟩ := T1.out k _ hy
      have up : ∀ {p : Addr} {u : Value}, w.cell? p = some u → wr.cell? p = some u := fun h => (hbl.cell (World.block_lt_of_cell? _ _ h)).trans h
      have a0 := up (hcx 0 _ rfl)
      have a1 := up (hcx 1 _ rfl)
      have z0 := up (hcy 0 _ rfl)
      have z1 := up (hcy 1 _ rfl)
      rw [Nat.add_zero] at a0 z0
      have HX : Hid (l.points[k]? = some (xn, xs)) := hx
      have HY : Hid (m.points[k]? = some (yn, ys)) := hy
      have e1 := run_neqPt xn yn xs ys
      have e2 := eqGuardPt
      clear hx hy hcx hcy up
      by_cases hxy : xn = yn ∧ xs = ys
      · rw [decide_eq_true hxy] at e1
        have HXY : Hid (xn = yn ∧ xs = ys) := hxy
        clear hxy
        go_wp2_with fail
        go_quiet (fail)
        go_wp2
        go_roundg (n1 - (k + 1))
        case rel => exact ⟨k + 1, rfl, by omega, by go_num, by rw [take_one HX.out, take_one HY.out, HC.out, HXY.out.1, HXY.out.2], HBX.out.step (_root_.Go.below_drewN (Below.refl _ _) _)⟩
        case measure => omega
      · rw [decide_eq_false hxy] at e1
        have HF : Hid (sameB l m = false) := by
          show _ = _
          exact sameB_no (fun hh => rows_no HX.out HY.out (fun e => hxy (by simpa using e)) (by rw [hh]))
        clear hxy
        go_wp2_with fail
        go_quiet (fail)
        go_wp2
        go_ret
        exact ⟨ret_bool HF.out.symm, _root_.Go.below_drewN hbl _⟩
    · have hki : ¬ (k : Int) < (n1 : Int) := by omega
      have HPT : Hid (l.points = m.points) := by
        have := HC.out
        rw [take_all HS1.out (by omega), take_all HT1.out (by omega)] at this
        exact this
      go_wp2_with fail
      clear q0 q1 q2 q3 y0 y1 y2 y3 HC hki hlt hk hbl R1 T1
      go_loopg [6] n3 (fun gk i wq => ∃ j : Nat, gk = n3 - j ∧ j ≤ n3 ∧ i = .int .i64 j ∧ (rs.take j).map (·.1) = (qs.take j).map (·.1) ∧ LayTwo w v u wq)
      case atStart => exact ⟨0, rfl, by omega, rfl, by simp, HBX.out⟩
      case round =>
        clear HBX
        obtain ⟨j, rfl, hj, rfl, hc, hbx⟩ := hrel
        have HC : Hid ((rs.take j).map (·.1) = (qs.take j).map (·.1)) := hc
        have HBX : Hid (LayTwo w v u wr) := hbx
        have hcc := hbx.1.cells
        have hdd := hbx.cells
        have hbl := hbx.1.1
        rw [HV.out.1, HV.out.2.1, HV.out.2.2.1, HV.out.2.2.2] at hcc
        rw [HU.out.1, HU.out.2.1, HU.out.2.2.1, HU.out.2.2.2] at hdd
        obtain ⟨q0, q1, q2, q3⟩ := hcc
        obtain ⟨y0, y1, y2, y3⟩ := hdd
        clear hc hbx
        by_cases hlt : j < n3
        · have hji : (j : Int) < (n3 : Int) := by omega
          have hjm : (j : Int) < (n3 : Int) := by omega
          have hjn : j < n3 := by omega
          obtain ⟨x, hx⟩ : ∃ x, rs[j]? = some x := ⟨rs[j]'(by rw [HS3.out]; exact hlt), List.getElem?_eq_getElem _⟩
          obtain ⟨y, hy⟩ : ∃ x, qs[j]? = some x := ⟨qs[j]'(by rw [HT3.out]; exact hjn), List.getElem?_eq_getElem _⟩
          have hxm : x.1 ∈ l.routes := by rw [← HLR.out.m]; exact List.mem_map.2 ⟨x, List.mem_of_getElem? hx, rfl⟩
          have hym : y.1 ∈ m.routes := by rw [← HLQ.out.m]; exact List.mem_map.2 ⟨y, List.mem_of_getElem? hy, rfl⟩
          obtain ⟨_, _, _, bx3, bx4, bx5⟩ := HML.out.r.2 _ hxm
          have NO : Hid (¬ x.1 = y.1 → sameB l m = false) := fun hne => sameB_routes HLR.out.m HLQ.out.m hx hy hne
          have GO : Hid (x.1 = y.1 → (rs.take (j + 1)).map (·.1) = (qs.take (j + 1)).map (·.1)) := fun e => by rw [take_one hx, take_one hy, List.map_append, List.map_append, HC.out, List.map_singleton, List.map_singleton, e]
          have RX := HLR.out.x x (List.mem_of_getElem? hx)
          have RY := HLQ.out.x y (List.mem_of_getElem? hy)
          obtain ⟨g, off, rfl, hcx⟩ := R3.out j _ hx
          obtain ⟨g', off', rfl, hcy⟩ := T3.out j _ hy
          obtain ⟨⟨xa, xf, xt, xp, xq, xr⟩, v3, v4, v5⟩ := x
          obtain ⟨⟨ya, yf, yt, yp, yq, yr⟩, u3, u4, u5⟩ := y
          obtain ⟨rx3, rx4, rx5⟩ := RX
          obtain ⟨ry3, ry4, ry5⟩ := RY
          simp only at rx3 rx4 rx5 ry3 ry4 ry5 bx3 bx4 bx5
          have I3 : Hid (∀ W, Below w.heap.size w W → Calls Tryd.prog 16 #[v3, u3] W fun e w' => e = .returned (.bool (decide (xp = yp))) ∧ ∃ n, w' = W.drewN n) := fun W hW => refInts_any _ _ _ _ W (rx3.below hW) (ry3.below hW) bx3.1
          have I4 : Hid (∀ W, Below w.heap.size w W → Calls Tryd.prog 17 #[v4, u4] W fun e w' => e = .returned (.bool (decide (xq = yq))) ∧ ∃ n, w' = W.drewN n) := fun W hW => refSameN_any _ _ _ _ W (rx4.below hW) (ry4.below hW) bx4.1
          have I5 : Hid (∀ W, Below w.heap.size w W → Calls Tryd.prog 17 #[v5, u5] W fun e w' => e = .returned (.bool (decide (xr = yr))) ∧ ∃ n, w' = W.drewN n) := fun W hW => refSameN_any _ _ _ _ W (rx5.below hW) (ry5.below hW) bx5.1
          have NOX : Hid (¬ ((xa = ya ∧ xf = yf ∧ xt = yt) ∧ xp = yp ∧ xq = yq ∧ xr = yr) → sameB l m = false) := fun hne => NO.out (fun e => hne (by
            simp only [Rt.mk.injEq] at e
            exact ⟨⟨e.1, e.2.1, e.2.2.1⟩, e.2.2.2.1, e.2.2.2.2.1, e.2.2.2.2.2⟩))
          have GOX : Hid ((xa = ya ∧ xf = yf ∧ xt = yt) ∧ xp = yp ∧ xq = yq ∧ xr = yr → (rs.take (j + 1)).map (·.1) = (qs.take (j + 1)).map (·.1)) := fun hh => GO.out (rt_ext hh)
          obtain ⟨g3, s3, e3, _⟩ := rx3
          obtain ⟨g4, s4, e4, _⟩ := rx4
          obtain ⟨g5, s5, e5, _⟩ := rx5
          obtain ⟨k3, z3, f3, _⟩ := ry3
          obtain ⟨k4, z4, f4, _⟩ := ry4
          obtain ⟨k5, z5, f5, _⟩ := ry5
          have up : ∀ {p : Addr} {u : Value}, w.cell? p = some u → wr.cell? p = some u := fun h => (hbl.cell (World.block_lt_of_cell? _ _ h)).trans h
          have x0 := up (hcx 0 _ rfl)
          have x1 := up (hcx 1 _ rfl)
          have x2 := up (hcx 2 _ rfl)
          have x3 := up (hcx 3 _ rfl)
          have x4 := up (hcx 4 _ rfl)
          have x5 := up (hcx 5 _ rfl)
          have c0' := up (hcy 0 _ rfl)
          have c1' := up (hcy 1 _ rfl)
          have c2' := up (hcy 2 _ rfl)
          have c3' := up (hcy 3 _ rfl)
          have c4' := up (hcy 4 _ rfl)
          have c5' := up (hcy 5 _ rfl)
          rw [Nat.add_zero] at x0 c0'
          rw [e3] at x3 I3
          rw [e4] at x4 I4
          rw [e5] at x5 I5
          rw [f3] at c3' I3
          rw [f4] at c4' I4
          rw [f5] at c5' I5
          clear hcx hcy hx hy hxm hym bx3 bx4 bx5 up e3 e4 e5 f3 f4 f5 NO GO HC
          generalize xp.length = l3 at *
          generalize xq.length = l4 at *
          generalize xr.length = l5 at *
          generalize yp.length = r3 at *
          generalize yq.length = r4 at *
          generalize yr.length = r5 at *
          have KEEP : Hid (∀ W : World, Below wr.heap.size wr W → W.cell? ⟨w.heap.size, 3, none⟩ = some (.slice (some ⟨g, off, none⟩) n3 c3) ∧ W.cell? ⟨w.heap.size + 1, 3, none⟩ = some (.slice (some ⟨g', off', none⟩) n3 d3) ∧ W.cell? ⟨g, off + j * 6, none⟩ = some (.string xa) ∧ W.cell? ⟨g, off + j * 6 + 1, none⟩ = some (.int .i64 xf) ∧ W.cell? ⟨g, off + j * 6 + 2, none⟩ = some (.int .i64 xt) ∧ W.cell? ⟨g, off + j * 6 + 3, none⟩ = some (.slice g3 l3 s3) ∧ W.cell? ⟨g, off + j * 6 + 4, none⟩ = some (.slice g4 l4 s4) ∧ W.cell? ⟨g, off + j * 6 + 5, none⟩ = some (.slice g5 l5 s5) ∧ W.cell? ⟨g', off' + j * 6, none⟩ = some (.string ya) ∧ W.cell? ⟨g', off' + j * 6 + 1, none⟩ = some (.int .i64 yf) ∧ W.cell? ⟨g', off' + j * 6 + 2, none⟩ = some (.int .i64 yt) ∧ W.cell? ⟨g', off' + j * 6 + 3, none⟩ = some (.slice k3 r3 z3) ∧ W.cell? ⟨g', off' + j * 6 + 4, none⟩ = some (.slice k4 r4 z4) ∧ W.cell? ⟨g', off' + j * 6 + 5, none⟩ = some (.slice k5 r5 z5)) := fun W hW => by
            have up : ∀ {p : Addr} {u : Value}, wr.cell? p = some u → W.cell? p = some u := fun h => (hW.cell (World.block_lt_of_cell? _ _ h)).trans h
            exact ⟨up q3, up y3, up x0, up x1, up x2, up x3, up x4, up x5, up c0', up c1', up c2', up c3', up c4', up c5'⟩
          go_upto_region 11 with fail
          go_cut [7, 8] from 59 to 118 (fun sx sy wc => ∃ b c, sx = .pointer (some ⟨b, 0, none⟩) ∧ sy = .pointer (some ⟨c, 0, none⟩) ∧ RouteAt b (.string xa) (.int .i64 xf) (.int .i64 xt) (.slice g3 l3 s3) (.slice g4 l4 s4) (.slice g5 l5 s5) wc ∧ RouteAt c (.string ya) (.int .i64 yf) (.int .i64 yt) (.slice k3 r3 z3) (.slice k4 r4 z4) (.slice k5 r5 z5) wc ∧ Below wr.heap.size wr wc)
          case first =>
            clear hlt hjn
            go_region_held (fun W => W.cell? ⟨w.heap.size, 3, none⟩ = some (.slice (some ⟨g, off, none⟩) n3 c3) ∧ W.cell? ⟨w.heap.size + 1, 3, none⟩ = some (.slice (some ⟨g', off', none⟩) n3 d3) ∧ W.cell? ⟨g, off + j * 6, none⟩ = some (.string xa) ∧ W.cell? ⟨g, off + j * 6 + 1, none⟩ = some (.int .i64 xf) ∧ W.cell? ⟨g, off + j * 6 + 2, none⟩ = some (.int .i64 xt) ∧ W.cell? ⟨g, off + j * 6 + 3, none⟩ = some (.slice g3 l3 s3) ∧ W.cell? ⟨g, off + j * 6 + 4, none⟩ = some (.slice g4 l4 s4) ∧ W.cell? ⟨g, off + j * 6 + 5, none⟩ = some (.slice g5 l5 s5) ∧ W.cell? ⟨g', off' + j * 6, none⟩ = some (.string ya) ∧ W.cell? ⟨g', off' + j * 6 + 1, none⟩ = some (.int .i64 yf) ∧ W.cell? ⟨g', off' + j * 6 + 2, none⟩ = some (.int .i64 yt) ∧ W.cell? ⟨g', off' + j * 6 + 3, none⟩ = some (.slice k3 r3 z3) ∧ W.cell? ⟨g', off' + j * 6 + 4, none⟩ = some (.slice k4 r4 z4) ∧ W.cell? ⟨g', off' + j * 6 + 5, none⟩ = some (.slice k5 r5 z5)) (exact KEEP.out _ (by repeat' (with_reducible first | exact Below.refl _ _ | refine Below.drew ?_ | refine Below.alloc ?_ ?_ _ | refine Below.setCell ?_ ?_ _ | exact Nat.le_refl _ | (simp; done) | (simp; omega)))) (fail)
            all_goals
              go_wp2_with fail
              go_meet
              case rel =>
                refine ⟨_, _, rfl, rfl, ⟨by go_simp, by go_simp, by go_simp, by go_simp, by go_simp, by go_simp⟩, ⟨by go_simp, by go_simp, by go_simp, by go_simp, by go_simp, by go_simp⟩, ?_⟩
                repeat' (with_reducible first | exact Below.refl _ _ | refine Below.drew ?_ | refine Below.alloc ?_ ?_ _ | refine Below.setCell ?_ ?_ _ | exact Nat.le_refl _ | (simp; done) | (simp; omega))
          case rest =>
            obtain ⟨b, c, rfl, rfl, rx, ry, hbc⟩ := hcut
            have HB5 : Hid (LayTwo w v u wc) := HBX.out.step hbc
            have hblc := HB5.out.1.1
            clear x0 x1 x2 x3 x4 x5 c0' c1' c2' c3' c4' c5' q0 q1 q2 q3 y0 y1 y2 y3 KEEP hbc HBX hbl hjm hji hjn
            obtain ⟨x0, x1, x2, x3, x4, x5⟩ := rx
            obtain ⟨z0', z1', z2', z3', z4', z5'⟩ := ry
            by_cases h0 : ¬ (xa = ya)
            · have hb : (xa.toList == ya.toList) = false := by rw [toList_eq, decide_eq_false h0]
              have HF : Hid (sameB l m = false) := NOX.out (fun e => h0 e.1.1)
              clear h0
              go_wp2_with fail
              go_ret
              exact ⟨ret_bool HF.out.symm, hblc⟩
            replace h0 := Classical.not_not.1 h0
            subst h0
            by_cases h1 : ¬ (xf = yf)
            · have hb : ((xf : Int) == yf) = false := by simp [h1]
              have hb2 : ((xf : Int) != yf) = true := by simp [h1]
              have HF : Hid (sameB l m = false) := NOX.out (fun e => h1 e.1.2.1)
              go_wp2_with fail
              go_ret
              exact ⟨ret_bool HF.out.symm, hblc⟩
            replace h1 := Classical.not_not.1 h1
            subst h1
            by_cases h2 : ¬ (xt = yt)
            · have hb : ((xt : Int) == yt) = false := by simp [h2]
              have hb2 : ((xt : Int) != yt) = true := by simp [h2]
              have HF : Hid (sameB l m = false) := NOX.out (fun e => h2 e.1.2.2)
              go_wp2_with fail
              go_ret
              exact ⟨ret_bool HF.out.symm, hblc⟩
            replace h2 := Classical.not_not.1 h2
            subst h2
            have D3 := I3.out _ hblc
            by_cases h3 : ¬ (xp = yp)
            · rw [decide_eq_false h3] at D3
              have HF : Hid (sameB l m = false) := NOX.out (fun e => h3 e.2.1)
              clear h3
              go_wp2_with fail
              refine D3.mono ?_
              rintro e w6 ⟨rfl, t3, rfl⟩
              go_wp2_with fail
              go_ret
              exact ⟨ret_bool HF.out.symm, _root_.Go.below_drewN hblc _⟩
            replace h3 := Classical.not_not.1 h3
            rw [decide_eq_true h3] at D3
            have H3 : Hid (xp = yp) := h3
            clear h3
            go_wp2_with fail
            refine D3.mono ?_
            rintro e w6 ⟨rfl, t3, rfl⟩
            clear D3
            have D4 := I4.out _ (_root_.Go.below_drewN hblc t3)
            by_cases h4 : ¬ (xq = yq)
            · rw [decide_eq_false h4] at D4
              have HF : Hid (sameB l m = false) := NOX.out (fun e => h4 e.2.2.1)
              clear h4
              go_wp2_with fail
              refine D4.mono ?_
              rintro e w7 ⟨rfl, t4, rfl⟩
              go_wp2_with fail
              go_ret
              exact ⟨ret_bool HF.out.symm, _root_.Go.below_drewN hblc _⟩
            replace h4 := Classical.not_not.1 h4
            rw [decide_eq_true h4] at D4
            have H4 : Hid (xq = yq) := h4
            clear h4
            go_wp2_with fail
            refine D4.mono ?_
            rintro e w7 ⟨rfl, t4, rfl⟩
            clear D4
            have D5 := I5.out _ (_root_.Go.below_drewN hblc (t3 + t4))
            by_cases h5 : ¬ (xr = yr)
            · rw [decide_eq_false h5] at D5
              have HF : Hid (sameB l m = false) := NOX.out (fun e => h5 e.2.2.2)
              clear h5
              go_wp2_with fail
              refine D5.mono ?_
              rintro e w8 ⟨rfl, t5, rfl⟩
              go_wp2_with fail
              go_ret
              exact ⟨ret_bool HF.out.symm, _root_.Go.below_drewN hblc _⟩
            replace h5 := Classical.not_not.1 h5
            rw [decide_eq_true h5] at D5
            have H5 : Hid (xr = yr) := h5
            clear h5
            go_wp2_with fail
            refine D5.mono ?_
            rintro e w8 ⟨rfl, t5, rfl⟩
            clear D5
            go_wp2_with fail
            go_roundg (n3 - (j + 1))
            case rel => exact ⟨j + 1, rfl, by omega, by go_num, GOX.out ⟨⟨by first | rfl | trivial, by first | rfl | trivial, by first | rfl | trivial⟩, H3.out, H4.out, H5.out⟩, HB5.out.step (_root_.Go.below_drewN (Below.refl _ _) _)⟩
            case measure => omega
        · have hji : ¬ (j : Int) < (n3 : Int) := by omega
          have HF : Hid (sameB l m = true) := by
            show _ = _
            refine sameB_yes G0.out G2.out HPT.out ?_
            have := HC.out
            rw [take_all HS3.out (by omega), take_all HT3.out (by omega)] at this
            rw [← HLR.out.m, ← HLQ.out.m]
            exact this
          go_wp2
          go_ret
          exact ⟨ret_bool HF.out.symm, hbl⟩
end Go.Proofs.YtgiaicmhnkhbnaaDoor
