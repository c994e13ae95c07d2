/-
  The law's size of a layout, by a contract: below 3000 all of it is small.
-/
import Derived.Test.YtgiaicmhnkhbnaaDoorPlOpen
import Derived.Deep.LoopGhost
import Derived.Deep.CutBlock
namespace Go.Proofs.YtgiaicmhnkhbnaaDoor
open Go.RowKit

structure LaySmall (l : Lay) : Prop where
  s : l.sections.length < 3000 ∧ ∀ x ∈ l.sections, x.size < 3000
  p : l.points.length < 3000 ∧ ∀ x ∈ l.points, x.1.size < 3000
  g : l.signals.length < 3000 ∧ ∀ x ∈ l.signals, x.size < 3000
  r : l.routes.length < 3000 ∧ ∀ x ∈ l.routes, x.name.size < 3000 ∧ x.path.length < 3000 ∧ x.points.length < 3000 ∧ x.flank.length < 3000

/-- A layout that was put into memory: where it lies. -/
def BoxAt (w0 : World) (v : Nat → Value) (w : World) : Prop :=
  Below w0.heap.size w0 w ∧ w.heap[w0.heap.size]? = some (.cells #[v 0, v 1, v 2, v 3] 26 (0, 0))
theorem BoxAt.cells {w0 : World} {v : Nat → Value} {w : World} (h : BoxAt w0 v w) : w.cell? ⟨w0.heap.size, 0, none⟩ = some (v 0) ∧ w.cell? ⟨w0.heap.size, 1, none⟩ = some (v 1) ∧ w.cell? ⟨w0.heap.size, 2, none⟩ = some (v 2) ∧ w.cell? ⟨w0.heap.size, 3, none⟩ = some (v 3) := by
  have hh := h.2
  refine ⟨?_, ?_, ?_, ?_⟩ <;> simp [World.cell?, hh]
theorem BoxAt.lt {w0 : World} {v : Nat → Value} {w : World} (h : BoxAt w0 v w) : w0.heap.size < w.heap.size := (Array.getElem?_eq_some_iff.1 h.2).1
theorem BoxAt.start (w : World) (v : Nat → Value) : BoxAt w v (w.alloc (.cells #[v 0, v 1, v 2, v 3] 26)) :=
  ⟨(Below.refl _ _).alloc (Nat.le_refl _) _, blk_new _ _⟩
theorem BoxAt.step {w0 : World} {v : Nat → Value} {w w' : World} (h : BoxAt w0 v w) (hb : Below w.heap.size w w') : BoxAt w0 v w' :=
  ⟨h.1.trans (hb.mono h.1.size), (hb.block _ h.lt).trans h.2⟩
theorem take_more {α : Type} {l : List α} {k : Nat} {x : α} (h : l[k]? = some x) {P : α → Prop} (hP : ∀ y ∈ l.take k, P y) (hx : P x) : ∀ y ∈ l.take (k + 1), P y := by
  rw [List.take_add_one, h]
  intro y hy
  rcases List.mem_append.1 hy with hy | hy
  · exact hP y hy
  · simp at hy
    rw [hy]
    exact hx

set_option maxRecDepth 1000000 in
set_option maxHeartbeats 4000000 in
theorem size_any (v : Nat → Value) (l : Lay) (rs : List RtV) (w : World) (h : LayRd w v l rs) (hB : LayBig l) :
    Calls Tryd.prog 4 #[.agg #[v 0, v 1, v 2, v 3]] w fun e w' => ∃ n : Int, e = .returned (.int .i64 n) ∧ 0 ≤ n ∧ n ≤ 1125899906842624 ∧ (n < 3000 → LaySmall l) ∧ Below w.heap.size w w' := by
  obtain ⟨o0, c0, e0, r0⟩ := h.s
  obtain ⟨o1, c1, e1, r1⟩ := h.p
  obtain ⟨o2, c2, e2, r2⟩ := h.g
  obtain ⟨o3, c3, e3, r3⟩ := h.r
  have HM : Hid (rs.map (·.1) = l.routes) := h.m
  have HX : Hid (∀ x ∈ rs, RtAt w x) := h.x
  have hlr : l.routes.length = rs.length := by rw [← h.m, List.length_map]
  have S := BoxAt.start w v
  have b0 := hB.s.1
  have b1 := hB.p.1
  have b2 := hB.g.1
  have b3 := hB.r.1
  rw [hlr] at b3
  have HBG : Hid (LayBig l) := hB
  clear h hB
  obtain ⟨secs, pts, sigs, rts⟩ := l
  simp only at *
  have HRT : Hid (rts.length = rs.length) := hlr
  clear hlr
  have R0 : Hid (∀ j x, secs[j]? = some x → ∃ g off, o0 = some ⟨g, off, none⟩ ∧ ∀ i u, (sC x)[i]? = some u → w.cell? ⟨g, off + j * 1 + i, none⟩ = some u) := r0
  have R1 : Hid (∀ j x, pts[j]? = some x → ∃ g off, o1 = some ⟨g, off, none⟩ ∧ ∀ i u, (pC x)[i]? = some u → w.cell? ⟨g, off + j * 2 + i, none⟩ = some u) := r1
  have R2 : Hid (∀ j x, sigs[j]? = some x → ∃ g off, o2 = some ⟨g, off, none⟩ ∧ ∀ i u, (sC x)[i]? = some u → w.cell? ⟨g, off + j * 1 + i, none⟩ = some u) := r2
  have R3 : Hid (∀ j x, rs[j]? = some x → ∃ g off, o3 = some ⟨g, off, none⟩ ∧ ∀ i u, (rC x)[i]? = some u → w.cell? ⟨g, off + j * 6 + i, none⟩ = some u) := r3
  clear r0 r1 r2 r3
  generalize hs0 : secs.length = n0 at *
  have HS0 : Hid (secs.length = n0) := hs0
  generalize hs1 : pts.length = n1 at *
  have HS1 : Hid (pts.length = n1) := hs1
  generalize hs2 : sigs.length = n2 at *
  have HS2 : Hid (sigs.length = n2) := hs2
  generalize hs3 : rs.length = n3 at *
  have HS3 : Hid (rs.length = n3) := hs3
  clear hs0 hs1 hs2 hs3
  have HV : Hid (v 0 = .slice o0 n0 c0 ∧ v 1 = .slice o1 n1 c1 ∧ v 2 = .slice o2 n2 c2 ∧ v 3 = .slice o3 n3 c3) := ⟨e0, e1, e2, e3⟩
  rw [e0, e1, e2, e3] at S ⊢
  clear e0 e1 e2 e3
  go_enter Tryd.func4, Tryd.ntmps4
  go_upto_block 0 with fail
  go_cut [3] from 9 (fun s wc => ∃ N : Int, s = .int .i64 N ∧ ((n0 : Int) + n1 + n2 + n3 ≤ N) ∧ N ≤ 1125899906842624 ∧ (N < 3000 → (∀ x ∈ secs, x.size < 3000)) ∧ BoxAt w v wc)
  case first =>
    go_wp2_with fail
    go_loopg [3, 4] n0 (fun gk s i wr => ∃ (k : Nat) (N : Int), gk = n0 - k ∧ k ≤ n0 ∧ i = .int .i64 k ∧ s = .int .i64 N ∧ ((n0 : Int) + n1 + n2 + n3 ≤ N) ∧ N ≤ 1125899906842624 ∧ (N < 3000 → (∀ x ∈ secs.take k, x.size < 3000)) ∧ BoxAt w v wr)
    case atStart => exact ⟨0, _, rfl, by omega, rfl, rfl, by omega, by omega, fun _ => by simp, S⟩
    case round =>
      obtain ⟨k, N, rfl, hk, rfl, rfl, hN0, hN1, hN2, hbx⟩ := hrel
      have HN2 : Hid (N < 3000 → (∀ x ∈ secs.take k, x.size < 3000)) := hN2
      have HBX : Hid (BoxAt w v wr) := hbx
      have hcc := hbx.cells
      have hbl := hbx.1
      rw [HV.out.1, HV.out.2.1, HV.out.2.2.1, HV.out.2.2.2] at hcc
      obtain ⟨q0, q1, q2, q3⟩ := hcc
      clear hN2 hbx
      by_cases hlt : k < n0
      · have hki : (k : Int) < (n0 : Int) := by omega
        by_cases hNN : N < 3000
        · obtain ⟨x, hx⟩ : ∃ x, secs[k]? = some x := ⟨secs[k]'(by rw [HS0.out]; exact hlt), List.getElem?_eq_getElem _⟩
          obtain ⟨g, off, rfl, hc⟩ := R0.out k x hx
          have c0' := hc 0 (.string x) rfl
          rw [show off + k * 1 + 0 = off + k by omega] at c0'
          have c00 := (hbl.cell (World.block_lt_of_cell? w _ c0')).trans c0'
          have hz := HBG.out.s.2 x (List.mem_of_getElem? hx)
          have HXK : Hid (secs[k]? = some x) := hx
          clear hc hx c0' hbl
          go_wp2
          go_roundg (n0 - (k + 1))
          case rel => exact ⟨k + 1, N + x.size, rfl, by omega, by go_num, by go_num, by omega, by omega, fun hh => by have := HN2.out (by omega); exact take_more HXK.out this (by omega), HBX.out⟩
          case measure => omega
        · go_wp2
          go_meet
          case rel => exact ⟨N, rfl, hN0, hN1, fun hh => by omega, HBX.out⟩
      · have hki : ¬ (k : Int) < (n0 : Int) := by omega
        go_wp2
        go_meet
        case rel => exact ⟨N, rfl, hN0, hN1, fun hh => by have := HN2.out hh; rw [List.take_of_length_le (by rw [HS0.out]; omega)] at this; exact this, HBX.out⟩
  case rest =>
  clear S
  obtain ⟨N, rfl, hN0, hN1, hN, hbx⟩ := hcut
  have HN : Hid (N < 3000 → (∀ x ∈ secs, x.size < 3000)) := hN
  have hcc := hbx.cells
  rw [HV.out.1, HV.out.2.1, HV.out.2.2.1, HV.out.2.2.2] at hcc
  obtain ⟨q0, q1, q2, q3⟩ := hcc
  clear hN
  go_upto_block 2 with fail
  go_cut [3] from 9 (fun s wc => ∃ N : Int, s = .int .i64 N ∧ ((n0 : Int) + n1 + n2 + n3 ≤ N) ∧ N ≤ 1125899906842624 ∧ (N < 3000 → (∀ x ∈ secs, x.size < 3000) ∧ (∀ x ∈ pts, x.1.size < 3000)) ∧ BoxAt w v wc)
  case first =>
    go_wp2_with fail
    go_loopg [3, 5] n1 (fun gk s i wr => ∃ (k : Nat) (N : Int), gk = n1 - k ∧ k ≤ n1 ∧ i = .int .i64 k ∧ s = .int .i64 N ∧ ((n0 : Int) + n1 + n2 + n3 ≤ N) ∧ N ≤ 1125899906842624 ∧ (N < 3000 → (∀ x ∈ secs, x.size < 3000) ∧ (∀ x ∈ pts.take k, x.1.size < 3000)) ∧ BoxAt w v wr)
    case atStart => exact ⟨0, N, rfl, by omega, rfl, rfl, hN0, hN1, fun hh => ⟨(HN.out hh), by simp⟩, hbx⟩
    case round =>
      clear hN0 hN1 HN hbx N
      obtain ⟨k, N, rfl, hk, rfl, rfl, hN0, hN1, hN2, hbx⟩ := hrel
      have HN2 : Hid (N < 3000 → (∀ x ∈ secs, x.size < 3000) ∧ (∀ x ∈ pts.take k, x.1.size < 3000)) := hN2
      have HBX : Hid (BoxAt w v wr) := hbx
      have hcc := hbx.cells
      have hbl := hbx.1
      rw [HV.out.1, HV.out.2.1, HV.out.2.2.1, HV.out.2.2.2] at hcc
      obtain ⟨q0, q1, q2, q3⟩ := hcc
      clear hN2 hbx
      by_cases hlt : k < n1
      · have hki : (k : Int) < (n1 : Int) := by omega
        by_cases hNN : N < 3000
        · obtain ⟨x, hx⟩ : ∃ x, pts[k]? = some x := ⟨pts[k]'(by rw [HS1.out]; exact hlt), List.getElem?_eq_getElem _⟩
          obtain ⟨g, off, rfl, hc⟩ := R1.out k x hx
          have c0' := hc 0 (.string x.1) rfl
          rw [show off + k * 2 + 0 = off + k * 2 by omega] at c0'
          have c00 := (hbl.cell (World.block_lt_of_cell? w _ c0')).trans c0'
          have hz := (HBG.out.p.2 x (List.mem_of_getElem? hx)).1
          have HXK : Hid (pts[k]? = some x) := hx
          clear hc hx c0' hbl
          go_wp2
          go_roundg (n1 - (k + 1))
          case rel => exact ⟨k + 1, N + x.1.size, rfl, by omega, by go_num, by go_num, by omega, by omega, fun hh => by have := HN2.out (by omega); exact ⟨this.1, take_more (P := fun x : ByteArray × Int => x.1.size < 3000) HXK.out this.2 (by show x.1.size < 3000; omega)⟩, HBX.out⟩
          case measure => omega
        · go_wp2
          go_meet
          case rel => exact ⟨N, rfl, hN0, hN1, fun hh => by omega, HBX.out⟩
      · have hki : ¬ (k : Int) < (n1 : Int) := by omega
        go_wp2
        go_meet
        case rel => exact ⟨N, rfl, hN0, hN1, fun hh => by have := HN2.out hh; rw [List.take_of_length_le (by rw [HS1.out]; omega)] at this; exact this, HBX.out⟩
  case rest =>
  clear hN0 hN1 HN hbx N
  obtain ⟨N, rfl, hN0, hN1, hN, hbx⟩ := hcut
  have HN : Hid (N < 3000 → (∀ x ∈ secs, x.size < 3000) ∧ (∀ x ∈ pts, x.1.size < 3000)) := hN
  have hcc := hbx.cells
  rw [HV.out.1, HV.out.2.1, HV.out.2.2.1, HV.out.2.2.2] at hcc
  obtain ⟨q0, q1, q2, q3⟩ := hcc
  clear hN
  go_upto_block 4 with fail
  go_cut [3] from 9 (fun s wc => ∃ N : Int, s = .int .i64 N ∧ ((n0 : Int) + n1 + n2 + n3 ≤ N) ∧ N ≤ 1125899906842624 ∧ (N < 3000 → (∀ x ∈ secs, x.size < 3000) ∧ (∀ x ∈ pts, x.1.size < 3000) ∧ (∀ x ∈ sigs, x.size < 3000)) ∧ BoxAt w v wc)
  case first =>
    go_wp2_with fail
    go_loopg [3, 6] n2 (fun gk s i wr => ∃ (k : Nat) (N : Int), gk = n2 - k ∧ k ≤ n2 ∧ i = .int .i64 k ∧ s = .int .i64 N ∧ ((n0 : Int) + n1 + n2 + n3 ≤ N) ∧ N ≤ 1125899906842624 ∧ (N < 3000 → (∀ x ∈ secs, x.size < 3000) ∧ (∀ x ∈ pts, x.1.size < 3000) ∧ (∀ x ∈ sigs.take k, x.size < 3000)) ∧ BoxAt w v wr)
    case atStart => exact ⟨0, N, rfl, by omega, rfl, rfl, hN0, hN1, fun hh => ⟨(HN.out hh).1, (HN.out hh).2, by simp⟩, hbx⟩
    case round =>
      clear hN0 hN1 HN hbx N
      obtain ⟨k, N, rfl, hk, rfl, rfl, hN0, hN1, hN2, hbx⟩ := hrel
      have HN2 : Hid (N < 3000 → (∀ x ∈ secs, x.size < 3000) ∧ (∀ x ∈ pts, x.1.size < 3000) ∧ (∀ x ∈ sigs.take k, x.size < 3000)) := hN2
      have HBX : Hid (BoxAt w v wr) := hbx
      have hcc := hbx.cells
      have hbl := hbx.1
      rw [HV.out.1, HV.out.2.1, HV.out.2.2.1, HV.out.2.2.2] at hcc
      obtain ⟨q0, q1, q2, q3⟩ := hcc
      clear hN2 hbx
      by_cases hlt : k < n2
      · have hki : (k : Int) < (n2 : Int) := by omega
        by_cases hNN : N < 3000
        · obtain ⟨x, hx⟩ : ∃ x, sigs[k]? = some x := ⟨sigs[k]'(by rw [HS2.out]; exact hlt), List.getElem?_eq_getElem _⟩
          obtain ⟨g, off, rfl, hc⟩ := R2.out k x hx
          have c0' := hc 0 (.string x) rfl
          rw [show off + k * 1 + 0 = off + k by omega] at c0'
          have c00 := (hbl.cell (World.block_lt_of_cell? w _ c0')).trans c0'
          have hz := HBG.out.g.2 x (List.mem_of_getElem? hx)
          have HXK : Hid (sigs[k]? = some x) := hx
          clear hc hx c0' hbl
          go_wp2
          go_roundg (n2 - (k + 1))
          case rel => exact ⟨k + 1, N + x.size, rfl, by omega, by go_num, by go_num, by omega, by omega, fun hh => by have := HN2.out (by omega); exact ⟨this.1, this.2.1, take_more HXK.out this.2.2 (by omega)⟩, HBX.out⟩
          case measure => omega
        · go_wp2
          go_meet
          case rel => exact ⟨N, rfl, hN0, hN1, fun hh => by omega, HBX.out⟩
      · have hki : ¬ (k : Int) < (n2 : Int) := by omega
        go_wp2
        go_meet
        case rel => exact ⟨N, rfl, hN0, hN1, fun hh => by have := HN2.out hh; rw [List.take_of_length_le (by rw [HS2.out]; omega)] at this; exact this, HBX.out⟩
  case rest =>
  clear hN0 hN1 HN hbx N
  obtain ⟨N, rfl, hN0, hN1, hN, hbx⟩ := hcut
  have HN : Hid (N < 3000 → (∀ x ∈ secs, x.size < 3000) ∧ (∀ x ∈ pts, x.1.size < 3000) ∧ (∀ x ∈ sigs, x.size < 3000)) := hN
  have hcc := hbx.cells
  rw [HV.out.1, HV.out.2.1, HV.out.2.2.1, HV.out.2.2.2] at hcc
  obtain ⟨q0, q1, q2, q3⟩ := hcc
  clear hN
  go_upto_block 6 with fail
  go_cut [3] from 9 (fun s wc => ∃ N : Int, s = .int .i64 N ∧ ((n0 : Int) + n1 + n2 + n3 ≤ N) ∧ N ≤ 1125899906842624 ∧ (N < 3000 → (∀ x ∈ secs, x.size < 3000) ∧ (∀ x ∈ pts, x.1.size < 3000) ∧ (∀ x ∈ sigs, x.size < 3000) ∧ (∀ x ∈ rs, x.1.name.size < 3000 ∧ x.1.path.length < 3000 ∧ x.1.points.length < 3000 ∧ x.1.flank.length < 3000)) ∧ BoxAt w v wc)
  case first =>
    go_wp2_with fail
    go_loopg [3, 7] n3 (fun gk s i wr => ∃ (k : Nat) (N : Int), gk = n3 - k ∧ k ≤ n3 ∧ i = .int .i64 k ∧ s = .int .i64 N ∧ ((n0 : Int) + n1 + n2 + n3 ≤ N) ∧ N ≤ 1125899906842624 ∧ (N < 3000 → (∀ x ∈ secs, x.size < 3000) ∧ (∀ x ∈ pts, x.1.size < 3000) ∧ (∀ x ∈ sigs, x.size < 3000) ∧ (∀ x ∈ rs.take k, x.1.name.size < 3000 ∧ x.1.path.length < 3000 ∧ x.1.points.length < 3000 ∧ x.1.flank.length < 3000)) ∧ BoxAt w v wr)
    case atStart => exact ⟨0, N, rfl, by omega, rfl, rfl, hN0, hN1, fun hh => ⟨(HN.out hh).1, (HN.out hh).2.1, (HN.out hh).2.2, by simp⟩, hbx⟩
    case round =>
      clear hN0 hN1 HN hbx N
      obtain ⟨k, N, rfl, hk, rfl, rfl, hN0, hN1, hN2, hbx⟩ := hrel
      have HN2 : Hid (N < 3000 → (∀ x ∈ secs, x.size < 3000) ∧ (∀ x ∈ pts, x.1.size < 3000) ∧ (∀ x ∈ sigs, x.size < 3000) ∧ (∀ x ∈ rs.take k, x.1.name.size < 3000 ∧ x.1.path.length < 3000 ∧ x.1.points.length < 3000 ∧ x.1.flank.length < 3000)) := hN2
      have HBX : Hid (BoxAt w v wr) := hbx
      have hcc := hbx.cells
      have hbl := hbx.1
      rw [HV.out.1, HV.out.2.1, HV.out.2.2.1, HV.out.2.2.2] at hcc
      obtain ⟨q0, q1, q2, q3⟩ := hcc
      clear hN2 hbx
      by_cases hlt : k < n3
      · have hki : (k : Int) < (n3 : Int) := by omega
        by_cases hNN : N < 3000
        · obtain ⟨x, hx⟩ : ∃ x, rs[k]? = some x := ⟨rs[k]'(by rw [HS3.out]; exact hlt), List.getElem?_eq_getElem _⟩
          obtain ⟨g, off, rfl, hc⟩ := R3.out k x hx
          obtain ⟨⟨nm, fr, tt, pa, po, fl⟩, v3, v4, v5⟩ := x
          obtain ⟨⟨o3', k3, e3, _⟩, ⟨o4', k4, e4, _⟩, ⟨o5', k5, e5, _⟩⟩ := HX.out _ (List.mem_of_getElem? hx)
          simp only at e3 e4 e5
          have hbig := HBG.out.r.2 ⟨nm, fr, tt, pa, po, fl⟩ (by rw [← HM.out]; exact List.mem_map.2 ⟨_, List.mem_of_getElem? hx, rfl⟩)
          obtain ⟨z0, _, _, ⟨z3, _⟩, ⟨z4, _⟩, ⟨z5, _⟩⟩ := hbig
          simp only at z0 z3 z4 z5
          have HXK : Hid (rs[k]? = some (⟨nm, fr, tt, pa, po, fl⟩, v3, v4, v5)) := hx
          have d0 := hc 0 _ rfl
          have d1 := hc 1 _ rfl
          have d2 := hc 2 _ rfl
          have d3 := hc 3 _ rfl
          have d4 := hc 4 _ rfl
          have d5 := hc 5 _ rfl
          rw [Nat.add_zero] at d0
          have up : ∀ {p : Addr} {u : Value}, w.cell? p = some u → wr.cell? p = some u := fun h => (hbl.cell (World.block_lt_of_cell? _ _ h)).trans h
          have f0 := up d0
          have f1 := up d1
          have f2 := up d2
          have f3 := up d3
          have f4 := up d4
          have f5 := up d5
          rw [e3] at f3
          rw [e4] at f4
          rw [e5] at f5
          have E3 : Hid (v3 = .slice o3' pa.length k3 ∧ v4 = .slice o4' po.length k4 ∧ v5 = .slice o5' fl.length k5) := ⟨e3, e4, e5⟩
          generalize hp : pa.length = p3 at *
          generalize hq : po.length = p4 at *
          generalize hr : fl.length = p5 at *
          have HPL : Hid (pa.length = p3 ∧ po.length = p4 ∧ fl.length = p5) := ⟨hp, hq, hr⟩
          clear hc hx d0 d1 d2 d3 d4 d5 up hbl e3 e4 e5 hp hq hr
          have hal : Below wr.heap.size wr ((wr.alloc (.cells #[.string ⟨#[]⟩, .int .i64 0, .int .i64 0, .slice none 0 0, .slice none 0 0, .slice none 0 0] 37))) := (Below.refl _ _).alloc (Nat.le_refl _) _
          go_wp2
          go_roundg (n3 - (k + 1))
          case rel =>
            refine ⟨k + 1, N + nm.size + p3 + p4 + p5, rfl, by omega, by go_num, by go_num, by omega, by omega, fun hh => ?_, ?_⟩
            · have := HN2.out (by omega)
              obtain ⟨g3, g4, g5⟩ := HPL.out
              refine ⟨this.1, this.2.1, this.2.2.1, take_more (P := fun x : RtV => x.1.name.size < 3000 ∧ x.1.path.length < 3000 ∧ x.1.points.length < 3000 ∧ x.1.flank.length < 3000) HXK.out this.2.2.2 ⟨?_, ?_, ?_, ?_⟩⟩
              · show nm.size < 3000; omega
              · show pa.length < 3000; omega
              · show po.length < 3000; omega
              · show fl.length < 3000; omega
            · refine HBX.out.step ?_
              repeat' (with_reducible first | exact Below.refl _ _ | refine Below.drew ?_ | refine Below.alloc ?_ ?_ _ | refine Below.setCell ?_ ?_ _ | exact Nat.le_refl _ | (simp; done) | (simp; omega))
          case measure => omega
        · go_wp2
          go_meet
          case rel => exact ⟨N, rfl, hN0, hN1, fun hh => by omega, HBX.out⟩
      · have hki : ¬ (k : Int) < (n3 : Int) := by omega
        go_wp2
        go_meet
        case rel => exact ⟨N, rfl, hN0, hN1, fun hh => by have := HN2.out hh; rw [List.take_of_length_le (by rw [HS3.out]; omega)] at this; exact this, HBX.out⟩
  case rest =>
  clear hN0 hN1 HN hbx N
  obtain ⟨N, rfl, hN0, hN1, hN, hbx⟩ := hcut
  have HN : Hid (N < 3000 → (∀ x ∈ secs, x.size < 3000) ∧ (∀ x ∈ pts, x.1.size < 3000) ∧ (∀ x ∈ sigs, x.size < 3000) ∧ (∀ x ∈ rs, x.1.name.size < 3000 ∧ x.1.path.length < 3000 ∧ x.1.points.length < 3000 ∧ x.1.flank.length < 3000)) := hN
  have hcc := hbx.cells
  rw [HV.out.1, HV.out.2.1, HV.out.2.2.1, HV.out.2.2.2] at hcc
  obtain ⟨q0, q1, q2, q3⟩ := hcc
  clear hN
  go_wp2
  go_ret
  refine ⟨N, rfl, by omega, hN1, fun hh => ?_, hbx.1⟩
  obtain ⟨a1, a2, a3, a4⟩ := HN.out hh
  have w0 := HS0.out
  have w1 := HS1.out
  have w2 := HS2.out
  have w3 := HS3.out
  have w4 := HRT.out
  refine ⟨⟨by show secs.length < 3000; omega, a1⟩, ⟨by show pts.length < 3000; omega, a2⟩, ⟨by show sigs.length < 3000; omega, a3⟩, ⟨by show rts.length < 3000; omega, fun x hx => ?_⟩⟩
  have hx' : x ∈ rs.map (·.1) := by rw [HM.out]; exact hx
  obtain ⟨y, hy, rfl⟩ := List.mem_map.1 hx'
  exact a4 y hy
end Go.Proofs.YtgiaicmhnkhbnaaDoor
