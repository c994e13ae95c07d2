/-
  Texts of this proof, joined: LySize, LyNeeds, LyExt, LyRoute.
-/
import Derived.Test.YtceebimgfajbcaaGreatDoorJoin1
import Derived.Deep.LoopGhost
import Derived.Deep.CutBlock
import Derived.Deep.QuietTactic
import Derived.BigQuiet
namespace Go.Proofs.YtceebimgfajbcaaGreatDoor
open Go.RowKit

structure LaySmall (l : Lay) : Prop where
  s : l.sections.length < 3000 ∧ ∀ x ∈ l.sections, x.size < 3000
  p : l.points.length < 3000 ∧ ∀ x ∈ l.points, x.1.size < 3000
  g : l.signals.length < 3000 ∧ ∀ x ∈ l.signals, x.size < 3000
  r : l.routes.length < 3000 ∧ ∀ x ∈ l.routes, x.name.size < 3000 ∧ x.path.length < 3000 ∧ x.points.length < 3000 ∧ x.flank.length < 3000

/-- A layout that was put into memory: where it lies. -/
def BoxAt (w0 : World) (v : Nat → Value) (w : World) : Prop :=
  Below w0.heap.size w0 w ∧ w.heap[w0.heap.size]? = some (.cells #[v 0, v 1, v 2, v 3] 26 (0, 0))
theorem BoxAt.cells {w0 : World} {v : Nat → Value} {w : World} (h : BoxAt w0 v w) : w.cell? ⟨w0.heap.size, 0, none⟩ = some (v 0) ∧ w.cell? ⟨w0.heap.size, 1, none⟩ = some (v 1) ∧ w.cell? ⟨w0.heap.size, 2, none⟩ = some (v 2) ∧ w.cell? ⟨w0.heap.size, 3, none⟩ = some (v 3) := by
  have hh := h.2
  refine ⟨?_, ?_, ?_, ?_⟩ <;> simp [World.cell?, hh]
theorem BoxAt.lt {w0 : World} {v : Nat → Value} {w : World} (h : BoxAt w0 v w) : w0.heap.size < w.heap.size := (Array.getElem?_eq_some_iff.1 h.2).1
theorem BoxAt.start (w : World) (v : Nat → Value) : BoxAt w v (w.alloc (.cells #[v 0, v 1, v 2, v 3] 26)) :=
  ⟨(Below.refl _ _).alloc (Nat.le_refl _) _, blk_new _ _⟩
theorem BoxAt.step {w0 : World} {v : Nat → Value} {w w' : World} (h : BoxAt w0 v w) (hb : Below w.heap.size w w') : BoxAt w0 v w' :=
  ⟨h.1.trans (hb.mono h.1.size), (hb.block _ h.lt).trans h.2⟩
theorem take_more {α : Type} {l : List α} {k : Nat} {x : α} (h : l[k]? = some x) {P : α → Prop} (hP : ∀ y ∈ l.take k, P y) (hx : P x) : ∀ y ∈ l.take (k + 1), P y := by
  rw [List.take_add_one, h]
  intro y hy
  rcases List.mem_append.1 hy with hy | hy
  · exact hP y hy
  · simp at hy
    rw [hy]
    exact hx

set_option maxRecDepth 1000000 in
set_option maxHeartbeats 4000000 in
theorem size_any (v : Nat → Value) (l : Lay) (rs : List RtV) (w : World) (h : LayRd w v l rs) (hB : LayBig l) :
    Calls Tryz.prog 5 #[.agg #[v 0, v 1, v 2, v 3]] w fun e w' => ∃ n : Int, e = .returned (.int .i64 n) ∧ 0 ≤ n ∧ n ≤ 1125899906842624 ∧ (n < 3000 → LaySmall l) ∧ Below w.heap.size w w' := by
  obtain ⟨o0, c0, e0, r0⟩ := h.s
  obtain ⟨o1, c1, e1, r1⟩ := h.p
  obtain ⟨o2, c2, e2, r2⟩ := h.g
  obtain ⟨o3, c3, e3, r3⟩ := h.r
  have HM : Hid (rs.map (·.1) = l.routes) := h.m
  have HX : Hid (∀ x ∈ rs, RtAt w x) := h.x
  have hlr : l.routes.length = rs.length := by rw [← h.m, List.length_map]
  have S := BoxAt.start w v
  have b0 := hB.s.1
  have b1 := hB.p.1
  have b2 := hB.g.1
  have b3 := hB.r.1
  rw [hlr] at b3
  have HBG : Hid (LayBig l) := hB
  clear h hB
  obtain ⟨secs, pts, sigs, rts⟩ := l
  simp only at *
  have HRT : Hid (rts.length = rs.length) := hlr
  clear hlr
  have R0 : Hid (∀ j x, secs[j]? = some x → ∃ g off, o0 = some ⟨g, off, none⟩ ∧ ∀ i u, (sC x)[i]? = some u → w.cell? ⟨g, off + j * 1 + i, none⟩ = some u) := r0
  have R1 : Hid (∀ j x, pts[j]? = some x → ∃ g off, o1 = some ⟨g, off, none⟩ ∧ ∀ i u, (pC x)[i]? = some u → w.cell? ⟨g, off + j * 2 + i, none⟩ = some u) := r1
  have R2 : Hid (∀ j x, sigs[j]? = some x → ∃ g off, o2 = some ⟨g, off, none⟩ ∧ ∀ i u, (sC x)[i]? = some u → w.cell? ⟨g, off + j * 1 + i, none⟩ = some u) := r2
  have R3 : Hid (∀ j x, rs[j]? = some x → ∃ g off, o3 = some ⟨g, off, none⟩ ∧ ∀ i u, (rC x)[i]? = some u → w.cell? ⟨g, off + j * 6 + i, none⟩ = some u) := r3
  clear r0 r1 r2 r3
  generalize hs0 : secs.length = n0 at *
  have HS0 : Hid (secs.length = n0) := hs0
  generalize hs1 : pts.length = n1 at *
  have HS1 : Hid (pts.length = n1) := hs1
  generalize hs2 : sigs.length = n2 at *
  have HS2 : Hid (sigs.length = n2) := hs2
  generalize hs3 : rs.length = n3 at *
  have HS3 : Hid (rs.length = n3) := hs3
  clear hs0 hs1 hs2 hs3
  have HV : Hid (v 0 = .slice o0 n0 c0 ∧ v 1 = .slice o1 n1 c1 ∧ v 2 = .slice o2 n2 c2 ∧ v 3 = .slice o3 n3 c3) := ⟨e0, e1, e2, e3⟩
  rw [e0, e1, e2, e3] at S ⊢
  clear e0 e1 e2 e3
  go_enter Tryz.func5, Tryz.ntmps5
  go_upto_block 0 with fail
  go_cut [3] from 9 (fun s wc => ∃ N : Int, s = .int .i64 N ∧ ((n0 : Int) + n1 + n2 + n3 ≤ N) ∧ N ≤ 1125899906842624 ∧ (N < 3000 → (∀ x ∈ secs, x.size < 3000)) ∧ BoxAt w v wc)
  case first =>
    go_wp2_with fail
    go_loopg [3, 4] n0 (fun gk s i wr => ∃ (k : Nat) (N : Int), gk = n0 - k ∧ k ≤ n0 ∧ i = .int .i64 k ∧ s = .int .i64 N ∧ ((n0 : Int) + n1 + n2 + n3 ≤ N) ∧ N ≤ 1125899906842624 ∧ (N < 3000 → (∀ x ∈ secs.take k, x.size < 3000)) ∧ BoxAt w v wr)
    case atStart => exact ⟨0, _, rfl, by omega, rfl, rfl, by omega, by omega, fun _ => by simp, S⟩
    case round =>
      obtain ⟨k, N, rfl, hk, rfl, rfl, hN0, hN1, hN2, hbx⟩ := hrel
      have HN2 : Hid (N < 3000 → (∀ x ∈ secs.take k, x.size < 3000)) := hN2
      have HBX : Hid (BoxAt w v wr) := hbx
      have hcc := hbx.cells
      have hbl := hbx.1
      rw [HV.out.1, HV.out.2.1, HV.out.2.2.1, HV.out.2.2.2] at hcc
      obtain ⟨q0, q1, q2, q3⟩ := hcc
      clear hN2 hbx
      by_cases hlt : k < n0
      · have hki : (k : Int) < (n0 : Int) := by omega
        by_cases hNN : N < 3000
        · obtain ⟨x, hx⟩ : ∃ x, secs[k]? = some x := ⟨secs[k]'(by rw [HS0.out]; exact hlt), List.getElem?_eq_getElem _⟩
          obtain ⟨g, off, rfl, hc⟩ := R0.out k x hx
          have c0' := hc 0 (.string x) rfl
          rw [show off + k * 1 + 0 = off + k by omega] at c0'
          have c00 := (hbl.cell (World.block_lt_of_cell? w _ c0')).trans c0'
          have hz := HBG.out.s.2 x (List.mem_of_getElem? hx)
          have HXK : Hid (secs[k]? = some x) := hx
          clear hc hx c0' hbl
          go_wp2
          go_roundg (n0 - (k + 1))
          case rel => exact ⟨k + 1, N + x.size, rfl, by omega, by go_num, by go_num, by omega, by omega, fun hh => by have := HN2.out (by omega); exact take_more HXK.out this (by omega), HBX.out⟩
          case measure => omega
        · go_wp2
          go_meet
          case rel => exact ⟨N, rfl, hN0, hN1, fun hh => by omega, HBX.out⟩
      · have hki : ¬ (k : Int) < (n0 : Int) := by omega
        go_wp2
        go_meet
        case rel => exact ⟨N, rfl, hN0, hN1, fun hh => by have := HN2.out hh; rw [List.take_of_length_le (by rw [HS0.out]; omega)] at this; exact this, HBX.out⟩
  case rest =>
  clear S
  obtain ⟨N, rfl, hN0, hN1, hN, hbx⟩ := hcut
  have HN : Hid (N < 3000 → (∀ x ∈ secs, x.size < 3000)) := hN
  have hcc := hbx.cells
  rw [HV.out.1, HV.out.2.1, HV.out.2.2.1, HV.out.2.2.2] at hcc
  obtain ⟨q0, q1, q2, q3⟩ := hcc
  clear hN
  go_upto_block 2 with fail
  go_cut [3] from 9 (fun s wc => ∃ N : Int, s = .int .i64 N ∧ ((n0 : Int) + n1 + n2 + n3 ≤ N) ∧ N ≤ 1125899906842624 ∧ (N < 3000 → (∀ x ∈ secs, x.size < 3000) ∧ (∀ x ∈ pts, x.1.size < 3000)) ∧ BoxAt w v wc)
  case first =>
    go_wp2_with fail
    go_loopg [3, 5] n1 (fun gk s i wr => ∃ (k : Nat) (N : Int), gk = n1 - k ∧ k ≤ n1 ∧ i = .int .i64 k ∧ s = .int .i64 N ∧ ((n0 : Int) + n1 + n2 + n3 ≤ N) ∧ N ≤ 1125899906842624 ∧ (N < 3000 → (∀ x ∈ secs, x.size < 3000) ∧ (∀ x ∈ pts.take k, x.1.size < 3000)) ∧ BoxAt w v wr)
    case atStart => exact ⟨0, N, rfl, by omega, rfl, rfl, hN0, hN1, fun hh => ⟨(HN.out hh), by simp⟩, hbx⟩
    case round =>
      clear hN0 hN1 HN hbx N
      obtain ⟨k, N, rfl, hk, rfl, rfl, hN0, hN1, hN2, hbx⟩ := hrel
      have HN2 : Hid (N < 3000 → (∀ x ∈ secs, x.size < 3000) ∧ (∀ x ∈ pts.take k, x.1.size < 3000)) := hN2
      have HBX : Hid (BoxAt w v wr) := hbx
      have hcc := hbx.cells
      have hbl := hbx.1
      rw [HV.out.1, HV.out.2.1, HV.out.2.2.1, HV.out.2.2.2] at hcc
      obtain ⟨q0, q1, q2, q3⟩ := hcc
      clear hN2 hbx
      by_cases hlt : k < n1
      · have hki : (k : Int) < (n1 : Int) := by omega
        by_cases hNN : N < 3000
        · obtain ⟨x, hx⟩ : ∃ x, pts[k]? = some x := ⟨pts[k]'(by rw [HS1.out]; exact hlt), List.getElem?_eq_getElem _⟩
          obtain ⟨g, off, rfl, hc⟩ := R1.out k x hx
          have c0' := hc 0 (.string x.1) rfl
          rw [show off + k * 2 + 0 = off + k * 2 by omega] at c0'
          have c00 := (hbl.cell (World.block_lt_of_cell? w _ c0')).trans c0'
          have hz := (HBG.out.p.2 x (List.mem_of_getElem? hx)).1
          have HXK : Hid (pts[k]? = some x) := hx
          clear hc hx c0' hbl
          go_wp2
          go_roundg (n1 - (k + 1))
          case rel => exact ⟨k + 1, N + x.1.size, rfl, by omega, by go_num, by go_num, by omega, by omega, fun hh => by have := HN2.out (by omega); exact ⟨this.1, take_more (P := fun x : ByteArray × Int => x.1.size < 3000) HXK.out this.2 (by show x.1.size < 3000; omega)⟩, HBX.out⟩
          case measure => omega
        · go_wp2
          go_meet
          case rel => exact ⟨N, rfl, hN0, hN1, fun hh => by omega, HBX.out⟩
      · have hki : ¬ (k : Int) < (n1 : Int) := by omega
        go_wp2
        go_meet
        case rel => exact ⟨N, rfl, hN0, hN1, fun hh => by have := HN2.out hh; rw [List.take_of_length_le (by rw [HS1.out]; omega)] at this; exact this, HBX.out⟩
  case rest =>
  clear hN0 hN1 HN hbx N
  obtain ⟨N, rfl, hN0, hN1, hN, hbx⟩ := hcut
  have HN : Hid (N < 3000 → (∀ x ∈ secs, x.size < 3000) ∧ (∀ x ∈ pts, x.1.size < 3000)) := hN
  have hcc := hbx.cells
  rw [HV.out.1, HV.out.2.1, HV.out.2.2.1, HV.out.2.2.2] at hcc
  obtain ⟨q0, q1, q2, q3⟩ := hcc
  clear hN
  go_upto_block 4 with fail
  go_cut [3] from 9 (fun s wc => ∃ N : Int, s = .int .i64 N ∧ ((n0 : Int) + n1 + n2 + n3 ≤ N) ∧ N ≤ 1125899906842624 ∧ (N < 3000 → (∀ x ∈ secs, x.size < 3000) ∧ (∀ x ∈ pts, x.1.size < 3000) ∧ (∀ x ∈ sigs, x.size < 3000)) ∧ BoxAt w v wc)
  case first =>
    go_wp2_with fail
    go_loopg [3, 6] n2 (fun gk s i wr => ∃ (k : Nat) (N : Int), gk = n2 - k ∧ k ≤ n2 ∧ i = .int .i64 k ∧ s = .int .i64 N ∧ ((n0 : Int) + n1 + n2 + n3 ≤ N) ∧ N ≤ 1125899906842624 ∧ (N < 3000 → (∀ x ∈ secs, x.size < 3000) ∧ (∀ x ∈ pts, x.1.size < 3000) ∧ (∀ x ∈ sigs.take k, x.size < 3000)) ∧ BoxAt w v wr)
    case atStart => exact ⟨0, N, rfl, by omega, rfl, rfl, hN0, hN1, fun hh => ⟨(HN.out hh).1, (HN.out hh).2, by simp⟩, hbx⟩
    case round =>
      clear hN0 hN1 HN hbx N
      obtain ⟨k, N, rfl, hk, rfl, rfl, hN0, hN1, hN2, hbx⟩ := hrel
      have HN2 : Hid (N < 3000 → (∀ x ∈ secs, x.size < 3000) ∧ (∀ x ∈ pts, x.1.size < 3000) ∧ (∀ x ∈ sigs.take k, x.size < 3000)) := hN2
      have HBX : Hid (BoxAt w v wr) := hbx
      have hcc := hbx.cells
      have hbl := hbx.1
      rw [HV.out.1, HV.out.2.1, HV.out.2.2.1, HV.out.2.2.2] at hcc
      obtain ⟨q0, q1, q2, q3⟩ := hcc
      clear hN2 hbx
      by_cases hlt : k < n2
      · have hki : (k : Int) < (n2 : Int) := by omega
        by_cases hNN : N < 3000
        · obtain ⟨x, hx⟩ : ∃ x, sigs[k]? = some x := ⟨sigs[k]'(by rw [HS2.out]; exact hlt), List.getElem?_eq_getElem _⟩
          obtain ⟨g, off, rfl, hc⟩ := R2.out k x hx
          have c0' := hc 0 (.string x) rfl
          rw [show off + k * 1 + 0 = off + k by omega] at c0'
          have c00 := (hbl.cell (World.block_lt_of_cell? w _ c0')).trans c0'
          have hz := HBG.out.g.2 x (List.mem_of_getElem? hx)
          have HXK : Hid (sigs[k]? = some x) := hx
          clear hc hx c0' hbl
          go_wp2
          go_roundg (n2 - (k + 1))
          case rel => exact ⟨k + 1, N + x.size, rfl, by omega, by go_num, by go_num, by omega, by omega, fun hh => by have := HN2.out (by omega); exact ⟨this.1, this.2.1, take_more HXK.out this.2.2 (by omega)⟩, HBX.out⟩
          case measure => omega
        · go_wp2
          go_meet
          case rel => exact ⟨N, rfl, hN0, hN1, fun hh => by omega, HBX.out⟩
      · have hki : ¬ (k : Int) < (n2 : Int) := by omega
        go_wp2
        go_meet
        case rel => exact ⟨N, rfl, hN0, hN1, fun hh => by have := HN2.out hh; rw [List.take_of_length_le (by rw [HS2.out]; omega)] at this; exact this, HBX.out⟩
  case rest =>
  clear hN0 hN1 HN hbx N
  obtain ⟨N, rfl, hN0, hN1, hN, hbx⟩ := hcut
  have HN : Hid (N < 3000 → (∀ x ∈ secs, x.size < 3000) ∧ (∀ x ∈ pts, x.1.size < 3000) ∧ (∀ x ∈ sigs, x.size < 3000)) := hN
  have hcc := hbx.cells
  rw [HV.out.1, HV.out.2.1, HV.out.2.2.1, HV.out.2.2.2] at hcc
  obtain ⟨q0, q1, q2, q3⟩ := hcc
  clear hN
  go_upto_block 6 with fail
  go_cut [3] from 9 (fun s wc => ∃ N : Int, s = .int .i64 N ∧ ((n0 : Int) + n1 + n2 + n3 ≤ N) ∧ N ≤ 1125899906842624 ∧ (N < 3000 → (∀ x ∈ secs, x.size < 3000) ∧ (∀ x ∈ pts, x.1.size < 3000) ∧ (∀ x ∈ sigs, x.size < 3000) ∧ (∀ x ∈ rs, x.1.name.size < 3000 ∧ x.1.path.length < 3000 ∧ x.1.points.length < 3000 ∧ x.1.flank.length < 3000)) ∧ BoxAt w v wc)
  case first =>
    go_wp2_with fail
    go_loopg [3, 7] n3 (fun gk s i wr => ∃ (k : Nat) (N : Int), gk = n3 - k ∧ k ≤ n3 ∧ i = .int .i64 k ∧ s = .int .i64 N ∧ ((n0 : Int) + n1 + n2 + n3 ≤ N) ∧ N ≤ 1125899906842624 ∧ (N < 3000 → (∀ x ∈ secs, x.size < 3000) ∧ (∀ x ∈ pts, x.1.size < 3000) ∧ (∀ x ∈ sigs, x.size < 3000) ∧ (∀ x ∈ rs.take k, x.1.name.size < 3000 ∧ x.1.path.length < 3000 ∧ x.1.points.length < 3000 ∧ x.1.flank.length < 3000)) ∧ BoxAt w v wr)
    case atStart => exact ⟨0, N, rfl, by omega, rfl, rfl, hN0, hN1, fun hh => ⟨(HN.out hh).1, (HN.out hh).2.1, (HN.out hh).2.2, by simp⟩, hbx⟩
    case round =>
      clear hN0 hN1 HN hbx N
      obtain ⟨k, N, rfl, hk, rfl, rfl, hN0, hN1, hN2, hbx⟩ := hrel
      have HN2 : Hid (N < 3000 → (∀ x ∈ secs, x.size < 3000) ∧ (∀ x ∈ pts, x.1.size < 3000) ∧ (∀ x ∈ sigs, x.size < 3000) ∧ (∀ x ∈ rs.take k, x.1.name.size < 3000 ∧ x.1.path.length < 3000 ∧ x.1.points.length < 3000 ∧ x.1.flank.length < 3000)) := hN2
      have HBX : Hid (BoxAt w v wr) := hbx
      have hcc := hbx.cells
      have hbl := hbx.1
      rw [HV.out.1, HV.out.2.1, HV.out.2.2.1, HV.out.2.2.2] at hcc
      obtain ⟨q0, q1, q2, q3⟩ := hcc
      clear hN2 hbx
      by_cases hlt : k < n3
      · have hki : (k : Int) < (n3 : Int) := by omega
        by_cases hNN : N < 3000
        · obtain ⟨x, hx⟩ : ∃ x, rs[k]? = some x := ⟨rs[k]'(by rw [HS3.out]; exact hlt), List.getElem?_eq_getElem _⟩
          obtain ⟨g, off, rfl, hc⟩ := R3.out k x hx
          obtain ⟨⟨nm, fr, tt, pa, po, fl⟩, v3, v4, v5⟩ := x
          obtain ⟨⟨o3', k3, e3, _⟩, ⟨o4', k4, e4, _⟩, ⟨o5', k5, e5, _⟩⟩ := HX.out _ (List.mem_of_getElem? hx)
          simp only at e3 e4 e5
          have hbig := HBG.out.r.2 ⟨nm, fr, tt, pa, po, fl⟩ (by rw [← HM.out]; exact List.mem_map.2 ⟨_, List.mem_of_getElem? hx, rfl⟩)
          obtain ⟨z0, _, _, ⟨z3, _⟩, ⟨z4, _⟩, ⟨z5, _⟩⟩ := hbig
          simp only at z0 z3 z4 z5
          have HXK : Hid (rs[k]? = some (⟨nm, fr, tt, pa, po, fl⟩, v3, v4, v5)) := hx
          have d0 := hc 0 _ rfl
          have d1 := hc 1 _ rfl
          have d2 := hc 2 _ rfl
          have d3 := hc 3 _ rfl
          have d4 := hc 4 _ rfl
          have d5 := hc 5 _ rfl
          rw [Nat.add_zero] at d0
          have up : ∀ {p : Addr} {u : Value}, w.cell? p = some u → wr.cell? p = some u := fun h => (hbl.cell (World.block_lt_of_cell? _ _ h)).trans h
          have f0 := up d0
          have f1 := up d1
          have f2 := up d2
          have f3 := up d3
          have f4 := up d4
          have f5 := up d5
          rw [e3] at f3
          rw [e4] at f4
          rw [e5] at f5
          have E3 : Hid (v3 = .slice o3' pa.length k3 ∧ v4 = .slice o4' po.length k4 ∧ v5 = .slice o5' fl.length k5) := ⟨e3, e4, e5⟩
          generalize hp : pa.length = p3 at *
          generalize hq : po.length = p4 at *
          generalize hr : fl.length = p5 at *
          have HPL : Hid (pa.length = p3 ∧ po.length = p4 ∧ fl.length = p5) := ⟨hp, hq, hr⟩
          clear hc hx d0 d1 d2 d3 d4 d5 up hbl e3 e4 e5 hp hq hr
          have hal : Below wr.heap.size wr ((wr.alloc (.cells #[.string ⟨#[]⟩, .int .i64 0, .int .i64 0, .slice none 0 0, .slice none 0 0, .slice none 0 0] 66))) := (Below.refl _ _).alloc (Nat.le_refl _) _
          go_wp2
          go_roundg (n3 - (k + 1))
          case rel =>
            refine ⟨k + 1, N + nm.size + p3 + p4 + p5, rfl, by omega, by go_num, by go_num, by omega, by omega, fun hh => ?_, ?_⟩
            · have := HN2.out (by omega)
              obtain ⟨g3, g4, g5⟩ := HPL.out
              refine ⟨this.1, this.2.1, this.2.2.1, take_more (P := fun x : RtV => x.1.name.size < 3000 ∧ x.1.path.length < 3000 ∧ x.1.points.length < 3000 ∧ x.1.flank.length < 3000) HXK.out this.2.2.2 ⟨?_, ?_, ?_, ?_⟩⟩
              · show nm.size < 3000; omega
              · show pa.length < 3000; omega
              · show po.length < 3000; omega
              · show fl.length < 3000; omega
            · refine HBX.out.step ?_
              repeat' (with_reducible first | exact Below.refl _ _ | refine Below.drew ?_ | refine Below.alloc ?_ ?_ _ | refine Below.setCell ?_ ?_ _ | exact Nat.le_refl _ | (simp; done) | (simp; omega))
          case measure => omega
        · go_wp2
          go_meet
          case rel => exact ⟨N, rfl, hN0, hN1, fun hh => by omega, HBX.out⟩
      · have hki : ¬ (k : Int) < (n3 : Int) := by omega
        go_wp2
        go_meet
        case rel => exact ⟨N, rfl, hN0, hN1, fun hh => by have := HN2.out hh; rw [List.take_of_length_le (by rw [HS3.out]; omega)] at this; exact this, HBX.out⟩
  case rest =>
  clear hN0 hN1 HN hbx N
  obtain ⟨N, rfl, hN0, hN1, hN, hbx⟩ := hcut
  have HN : Hid (N < 3000 → (∀ x ∈ secs, x.size < 3000) ∧ (∀ x ∈ pts, x.1.size < 3000) ∧ (∀ x ∈ sigs, x.size < 3000) ∧ (∀ x ∈ rs, x.1.name.size < 3000 ∧ x.1.path.length < 3000 ∧ x.1.points.length < 3000 ∧ x.1.flank.length < 3000)) := hN
  have hcc := hbx.cells
  rw [HV.out.1, HV.out.2.1, HV.out.2.2.1, HV.out.2.2.2] at hcc
  obtain ⟨q0, q1, q2, q3⟩ := hcc
  clear hN
  go_wp2
  go_ret
  refine ⟨N, rfl, by omega, hN1, fun hh => ?_, hbx.1⟩
  obtain ⟨a1, a2, a3, a4⟩ := HN.out hh
  have w0 := HS0.out
  have w1 := HS1.out
  have w2 := HS2.out
  have w3 := HS3.out
  have w4 := HRT.out
  refine ⟨⟨by show secs.length < 3000; omega, a1⟩, ⟨by show pts.length < 3000; omega, a2⟩, ⟨by show sigs.length < 3000; omega, a3⟩, ⟨by show rts.length < 3000; omega, fun x hx => ?_⟩⟩
  have hx' : x ∈ rs.map (·.1) := by rw [HM.out]; exact hx
  obtain ⟨y, hy, rfl⟩ := List.mem_map.1 hx'
  exact a4 y hy
end Go.Proofs.YtceebimgfajbcaaGreatDoor

namespace Go.Proofs.YtceebimgfajbcaaGreatDoor
open Go.RowKit

/-- The section of the point at a place. -/
def secAt (l : Lay) (p : Int) : Int := ((l.points[p.toNat]?).map (·.2)).getD 0
def prevB : Option Int → Int → Bool
  | none, _ => true
  | some q, p => decide (q < p)
def needOk (l : Lay) (path : List Int) (b : Bool) (pr : Option Int) (p : Int) : Bool :=
  decide (0 ≤ p ∧ p < l.points.length) && (prevB pr p && (inB path (secAt l p) == b))
def needsF (l : Lay) (path : List Int) (b : Bool) : Option Int → List (Int × Bool) → Bool
  | _, [] => true
  | pr, x :: ns => needOk l path b pr x.1 && needsF l path b (some x.1) ns
def prevOf (ns : List (Int × Bool)) (k : Nat) : Option Int := if k = 0 then none else (ns[k - 1]?).map (·.1)

set_option maxRecDepth 1000000 in
set_option maxHeartbeats 4000000 in
theorem refNeeds_any (v : Nat → Value) (l : Lay) (rs : List RtV) (u p : Value) (ns : List (Int × Bool)) (path : List Int) (b : Bool) (w : World) (h : LayRd w v l rs) (hu : rowAt w u 2 nC ns) (hp : rowAt w p 1 iC path)
    (hn : ns.length ≤ 4294967296) (hq : path.length ≤ 4294967296) (_ : l.points.length ≤ 4294967296) (hi : ∀ x ∈ ns, okI x.1) :
    Calls Tryz.prog 50 #[.agg #[v 0, v 1, v 2, v 3], u, p, .bool b] w fun e w' => e = .returned (.bool (needsF l path b none ns)) ∧ Below w.heap.size w w' := by
  obtain ⟨o0, c0, e0, _⟩ := h.s
  obtain ⟨o1, c1, e1, r1⟩ := h.p
  obtain ⟨o2, c2, e2, _⟩ := h.g
  obtain ⟨o3, c3, e3, _⟩ := h.r
  obtain ⟨ou, cu, rfl, ru⟩ := hu
  obtain ⟨op, cp, rfl, rp⟩ := hp
  have HP : Hid (rowAt w (.slice op path.length cp) 1 iC path) := ⟨op, cp, rfl, rp⟩
  have S := BoxAt.start w v
  have HI : Hid (∀ x ∈ ns, okI x.1) := hi
  have R1 : Hid (∀ j x, l.points[j]? = some x → ∃ g off, o1 = some ⟨g, off, none⟩ ∧ ∀ i u, (pC x)[i]? = some u → w.cell? ⟨g, off + j * 2 + i, none⟩ = some u) := r1
  have RU : Hid (∀ j x, ns[j]? = some x → ∃ g off, ou = some ⟨g, off, none⟩ ∧ ∀ i u, (nC x)[i]? = some u → w.cell? ⟨g, off + j * 2 + i, none⟩ = some u) := ru
  have HV : Hid (v 0 = .slice o0 l.sections.length c0 ∧ v 1 = .slice o1 l.points.length c1 ∧ v 2 = .slice o2 l.signals.length c2 ∧ v 3 = .slice o3 rs.length c3) := ⟨e0, e1, e2, e3⟩
  rw [e0, e1, e2, e3] at S ⊢
  clear h r1 ru rp hi e0 e1 e2 e3
  generalize hs1 : l.points.length = n1 at *
  generalize hs0 : l.sections.length = n0 at *
  generalize hs2 : l.signals.length = n2 at *
  generalize hs3 : rs.length = n3 at *
  generalize hsu : ns.length = nu at *
  generalize hsp : path.length = np at *
  have HS1 : Hid (l.points.length = n1) := hs1
  have HSU : Hid (ns.length = nu) := hsu
  have HSP : Hid (path.length = np) := hsp
  clear hs0 hs1 hs2 hs3 hsu hsp
  go_enter Tryz.func50, Tryz.ntmps50
  go_wp2
  go_loopg [9] nu (fun gk i wr => ∃ k : Nat, gk = nu - k ∧ k ≤ nu ∧ i = .int .i64 k ∧ needsF l path b (prevOf ns k) (ns.drop k) = needsF l path b none ns ∧ BoxAt w v wr)
  case atStart => exact ⟨0, rfl, by omega, rfl, by simp [prevOf], S⟩
  case round =>
    clear S
    obtain ⟨k, rfl, hk, rfl, hc, hbx⟩ := hrel
    have HC : Hid (needsF l path b (prevOf ns k) (ns.drop k) = needsF l path b none ns) := hc
    have HBX : Hid (BoxAt w v wr) := hbx
    have hcc := hbx.cells
    have hbl := hbx.1
    rw [HV.out.1, HV.out.2.1, HV.out.2.2.1, HV.out.2.2.2] at hcc
    obtain ⟨q0, q1, q2, q3⟩ := hcc
    clear hc hbx
    by_cases hlt : k < nu
    · obtain ⟨⟨x, rv⟩, hx⟩ : ∃ x, ns[k]? = some x := ⟨ns[k]'(by rw [HSU.out]; exact hlt), List.getElem?_eq_getElem _⟩
      obtain ⟨g, off, rfl, hcell⟩ := RU.out k _ hx
      have a0 := hcell 0 _ rfl
      rw [Nat.add_zero] at a0
      have a1 := (hbl.cell (World.block_lt_of_cell? _ _ a0)).trans a0
      have hki : (k : Int) < (nu : Int) := by omega
      have hxi := HI.out _ (List.mem_of_getElem? hx)
      simp only [okI] at hxi
      rw [drop_at hx, needsF] at HC
      have HX : Hid (ns[k]? = some (x, rv)) := hx
      clear hcell a0
      have stop : ∀ (hno : needOk l path b (prevOf ns k) x = false), needsF l path b none ns = false := fun hno => by
        have := HC.out
        rw [hno, Bool.false_and] at this
        exact this.symm
      have STOP : Hid (needOk l path b (prevOf ns k) x = false → needsF l path b none ns = false) := stop
      clear stop
      by_cases h0 : x < 0
      · have HF : Hid (needsF l path b none ns = false) := STOP.out (by rw [needOk, decide_eq_false (by omega), Bool.false_and])
        go_wp2
        go_ret
        exact ⟨ret_bool HF.out.symm, hbl⟩
      · by_cases h1 : (n1 : Int) ≤ x
        · have HF : Hid (needsF l path b none ns = false) := STOP.out (by rw [needOk, HS1.out, decide_eq_false (by omega), Bool.false_and])
          go_wp2
          go_ret
          exact ⟨ret_bool HF.out.symm, hbl⟩
        · obtain ⟨m, rfl⟩ : ∃ m : Nat, x = m := ⟨x.toNat, by omega⟩
          have hm1 : m < n1 := by omega
          obtain ⟨⟨pn, ps⟩, hpm⟩ : ∃ y, l.points[m]? = some y := ⟨l.points[m]'(by rw [HS1.out]; omega), List.getElem?_eq_getElem _⟩
          have hsec : secAt l m = ps := by rw [secAt, Int.toNat_natCast, hpm]; rfl
          obtain ⟨g1, off1, rfl, hc1⟩ := R1.out m _ hpm
          have b0 := hc1 1 _ rfl
          have b1 := (hbl.cell (World.block_lt_of_cell? _ _ b0)).trans b0
          have HIN : Hid (∀ W, Below w.heap.size w W → Calls Tryz.prog 49 #[.slice op np cp, .int .i64 ps] W fun e w' => e = .returned (.bool (inB path ps)) ∧ w' = W) := fun W hW => by
            have := in_any _ path ps W (HP.out.below hW) (by rw [HSP.out]; exact hq)
            exact this
          have HRG : Hid (needOk l path b (prevOf ns k) m = (prevB (prevOf ns k) m && (inB path ps == b))) := by
            show _ = _
            rw [needOk, HS1.out, decide_eq_true (by omega), Bool.true_and, hsec]
          clear hc1 b0 hpm hsec
          cases k with
          | zero =>
            have HPR : Hid (prevB (prevOf ns 0) m = true) := rfl
            rw [Nat.zero_mul, Nat.add_zero] at a1
            have IN := HIN.out _ hbl
            cases hin : inB path ps <;> cases b
            · rw [hin] at IN HRG
              have GO : Hid (needsF l path false (prevOf ns (0 + 1)) (ns.drop (0 + 1)) = needsF l path false none ns) := by
                have := HC.out
                rw [HRG.out] at this
                rw [← this, prevOf, if_neg (by omega), Nat.add_sub_cancel, HX.out, HPR.out]
                rfl
              go_wp2_with (go_at_call 49; refine IN.mono ?_; rintro e w1 ⟨rfl, rfl⟩)
              go_roundg (nu - (0 + 1))
              case rel => exact ⟨0 + 1, rfl, by omega, by go_num, GO.out, HBX.out⟩
              case measure => omega
            · rw [hin] at IN HRG
              have HF : Hid (needsF l path true none ns = false) := STOP.out (by rw [HRG.out]; simp)
              go_wp2_with (go_at_call 49; refine IN.mono ?_; rintro e w1 ⟨rfl, rfl⟩)
              go_ret
              exact ⟨ret_bool HF.out.symm, hbl⟩
            · rw [hin] at IN HRG
              have HF : Hid (needsF l path false none ns = false) := STOP.out (by rw [HRG.out]; simp)
              go_wp2_with (go_at_call 49; refine IN.mono ?_; rintro e w1 ⟨rfl, rfl⟩)
              go_ret
              exact ⟨ret_bool HF.out.symm, hbl⟩
            · rw [hin] at IN HRG
              have GO : Hid (needsF l path true (prevOf ns (0 + 1)) (ns.drop (0 + 1)) = needsF l path true none ns) := by
                have := HC.out
                rw [HRG.out] at this
                rw [← this, prevOf, if_neg (by omega), Nat.add_sub_cancel, HX.out, HPR.out]
                rfl
              go_wp2_with (go_at_call 49; refine IN.mono ?_; rintro e w1 ⟨rfl, rfl⟩)
              go_roundg (nu - (0 + 1))
              case rel => exact ⟨0 + 1, rfl, by omega, by go_num, GO.out, HBX.out⟩
              case measure => omega
          | succ k =>
            obtain ⟨⟨q, qb⟩, hqk⟩ : ∃ y, ns[k]? = some y := ⟨ns[k]'(by rw [HSU.out]; omega), List.getElem?_eq_getElem _⟩
            obtain ⟨g', off', hg, hcq⟩ := RU.out k _ hqk
            injection hg with hg
            injection hg with hg ho _
            subst hg ho
            have d0 := hcq 0 _ rfl
            rw [Nat.add_zero] at d0
            have d1 := (hbl.cell (World.block_lt_of_cell? _ _ d0)).trans d0
            have hpv : prevOf ns (k + 1) = some q := by rw [prevOf, if_neg (by omega), Nat.add_sub_cancel, hqk]; rfl
            have hk1 : ((k + 1 : Nat) : Int) - 1 = (k : Int) := by omega
            have hku : k < nu := by omega
            have HQ : Hid (prevOf ns (k + 1) = some q) := hpv
            clear hcq d0 hqk hpv
            by_cases hqm : (m : Int) ≤ q
            · have HF : Hid (needsF l path b none ns = false) := STOP.out (by rw [HRG.out, HQ.out, prevB, decide_eq_false (by omega), Bool.false_and])
              go_wp2
              go_ret
              exact ⟨ret_bool HF.out.symm, hbl⟩
            · have HPR : Hid (prevB (prevOf ns (k + 1)) m = true) := by rw [HQ.out, prevB]; exact decide_eq_true (by omega)
              have IN := HIN.out _ hbl
              cases hin : inB path ps <;> cases b
              · rw [hin] at IN HRG
                have GO : Hid (needsF l path false (prevOf ns (k + 1 + 1)) (ns.drop (k + 1 + 1)) = needsF l path false none ns) := by
                  have := HC.out
                  rw [HRG.out] at this
                  rw [← this, prevOf, if_neg (by omega), Nat.add_sub_cancel, HX.out, HPR.out]
                  rfl
                go_wp2_with (go_at_call 49; refine IN.mono ?_; rintro e w1 ⟨rfl, rfl⟩)
                go_roundg (nu - (k + 1 + 1))
                case rel => exact ⟨k + 1 + 1, rfl, by omega, by go_num, GO.out, HBX.out⟩
                case measure => omega
              · rw [hin] at IN HRG
                have HF : Hid (needsF l path true none ns = false) := STOP.out (by rw [HRG.out]; simp)
                go_wp2_with (go_at_call 49; refine IN.mono ?_; rintro e w1 ⟨rfl, rfl⟩)
                go_ret
                exact ⟨ret_bool HF.out.symm, hbl⟩
              · rw [hin] at IN HRG
                have HF : Hid (needsF l path false none ns = false) := STOP.out (by rw [HRG.out]; simp)
                go_wp2_with (go_at_call 49; refine IN.mono ?_; rintro e w1 ⟨rfl, rfl⟩)
                go_ret
                exact ⟨ret_bool HF.out.symm, hbl⟩
              · rw [hin] at IN HRG
                have GO : Hid (needsF l path true (prevOf ns (k + 1 + 1)) (ns.drop (k + 1 + 1)) = needsF l path true none ns) := by
                  have := HC.out
                  rw [HRG.out] at this
                  rw [← this, prevOf, if_neg (by omega), Nat.add_sub_cancel, HX.out, HPR.out]
                  rfl
                go_wp2_with (go_at_call 49; refine IN.mono ?_; rintro e w1 ⟨rfl, rfl⟩)
                go_roundg (nu - (k + 1 + 1))
                case rel => exact ⟨k + 1 + 1, rfl, by omega, by go_num, GO.out, HBX.out⟩
                case measure => omega
    · have HF : Hid (needsF l path b none ns = true) := by
        have := HC.out
        rw [List.drop_of_length_le (by rw [HSU.out]; omega)] at this
        exact this.symm
      go_wp2
      go_ret
      exact ⟨ret_bool HF.out.symm, hbl⟩
end Go.Proofs.YtceebimgfajbcaaGreatDoor

namespace Go.Proofs.YtceebimgfajbcaaGreatDoor
open Go.RowKit

/-- A world in which nothing old has turned. -/
structure Ext (W : World) where
  z : World
  h : Below W.heap.size W z

theorem wp_region_ext {P : Program} {id : Nat} {Q : Exit → Act → World → Prop} {a : Act} {w : World} {l : List Oper} (hm : P.follows .mixedOrders = true) (hB : Region.lexB .any l.toArray = true)
    (h : wpQuiet P l.toArray (fun w' => ∃ y : Ext w, w' = y.z) (fun a' => ∀ w', (∃ y : Ext w, w' = y.z) → Q .normal a' w') l a) : (Code.region id l.toArray true).wp P Q a w :=
  wp_region_quiet (C := fun w' => ∃ y : Ext w, w' = y.z) hm hB ⟨⟨w.drew, (Below.refl _ _).drew⟩, rfl⟩ h
theorem ext_of {P : Program} {f : FuncId} {args : Array Value} {w : World} {y : Ext w} {v : Value}
    (h : Calls P f args y.z fun e w' => e = .returned v ∧ Below y.z.heap.size y.z w') : Calls P f args y.z fun e w'' => e = .returned v ∧ ∃ x : Ext w, w'' = x.z :=
  h.mono fun _ w' ⟨he, hb⟩ => ⟨he, ⟨w', y.h.trans (hb.mono y.h.size)⟩, rfl⟩
theorem ext_of_same {P : Program} {f : FuncId} {args : Array Value} {w : World} {y : Ext w} {v : Value}
    (h : Calls P f args y.z fun e w' => e = .returned v ∧ w' = y.z) : Calls P f args y.z fun e w'' => e = .returned v ∧ ∃ x : Ext w, w'' = x.z :=
  h.mono fun _ _ ⟨he, hw⟩ => ⟨he, y, hw⟩
theorem ext_cell {w : World} {p : Addr} {v : Value} (h : w.cell? p = some v) (y : Ext w) : y.z.cell? p = some v := (y.h.cell (World.block_lt_of_cell? w p h)).trans h

theorem ext_of_draws {P : Program} {f : FuncId} {args : Array Value} {w : World} {y : Ext w} {v : Value}
    (h : Calls P f args y.z fun e w' => e = .returned v ∧ ∃ n, w' = y.z.drewN n) : Calls P f args y.z fun e w'' => e = .returned v ∧ ∃ x : Ext w, w'' = x.z :=
  h.mono fun _ _ ⟨he, n, hw⟩ => ⟨he, ⟨y.z.drewN n, _root_.Go.below_drewN y.h n⟩, hw⟩
theorem ext_some (w : World) : Nonempty (Ext w) := ⟨⟨w, Below.refl _ _⟩⟩
end Go.Proofs.YtceebimgfajbcaaGreatDoor

namespace Go.Proofs.YtceebimgfajbcaaGreatDoor
open Go.RowKit

def countIn (path : List Int) (ps : List (ByteArray × Int)) : Nat := (ps.filter fun p => inB path p.2).length
def pathB (l : Lay) (path : List Int) : Bool := decide (path.Nodup ∧ ∀ i ∈ path, 0 ≤ i ∧ i < l.sections.length)
def headB (l : Lay) (r : Rt) : Bool := decide ((0 ≤ r.frm ∧ r.frm < l.signals.length) ∧ (0 ≤ r.to ∧ r.to < l.signals.length) ∧ r.frm ≠ r.to ∧ 1 ≤ r.path.length ∧ r.path.length ≤ 5)
def restB (l : Lay) (r : Rt) : Bool := decide (r.points.length = countIn r.path l.points) && (needsF l r.path true none r.points && needsF l r.path false none r.flank)
def routeB (l : Lay) (r : Rt) : Bool := headB l r && (pathB l r.path && restB l r)

theorem inB_iff (l : List Int) (n : Int) : inB l n = true ↔ n ∈ l := by
  rw [inB, List.any_eq_true]
  constructor
  · rintro ⟨x, hx, e⟩
    rw [← of_decide_eq_true e]
    exact hx
  · intro h
    exact ⟨n, h, decide_eq_true rfl⟩
theorem take_snocI {α : Type} {l : List α} {k : Nat} {x : α} (h : l[k]? = some x) : l.take (k + 1) = l.take k ++ [x] := by
  rw [List.take_add_one, h]
  rfl
theorem path_more {l : Lay} {p : List Int} {k : Nat} {x : Int} (h : p[k]? = some x) (h1 : (p.take k).Nodup ∧ ∀ y ∈ p.take k, 0 ≤ y ∧ y < l.sections.length) (h2 : 0 ≤ x ∧ x < l.sections.length) (h3 : inB (p.take k) x = false) : (p.take (k + 1)).Nodup ∧ ∀ y ∈ p.take (k + 1), 0 ≤ y ∧ y < l.sections.length := by
  have h3' : x ∉ p.take k := fun hm => by rw [(inB_iff _ _).2 hm] at h3; exact absurd h3 (by simp)
  rw [take_snocI h]
  refine ⟨List.nodup_append.2 ⟨h1.1, by simp, fun a ha b hb => ?_⟩, fun y hy => ?_⟩
  · simp at hb
    subst hb
    intro e
    subst e
    exact h3' ha
  · rcases List.mem_append.1 hy with hy | hy
    · exact h1.2 y hy
    · simp at hy
      rw [hy]
      exact h2
theorem path_no {l : Lay} {p : List Int} {k : Nat} {x : Int} (h : p[k]? = some x) (h2 : ¬ (0 ≤ x ∧ x < l.sections.length) ∨ inB (p.take k) x = true) : pathB l p = false := by
  refine decide_eq_false fun hh => ?_
  rcases h2 with h2 | h2
  · exact h2 (hh.2 x (List.mem_of_getElem? h))
  · have hm := (inB_iff _ _).1 h2
    have h3 : (p.take (k + 1)).Nodup := hh.1.sublist (List.take_sublist _ _)
    rw [take_snocI h] at h3
    exact (List.nodup_append.1 h3).2.2 x hm x (by simp) rfl

/-- A layout and a route that were put into memory. -/
def TwoAt (w0 : World) (v : Nat → Value) (c : Array Value) (w : World) : Prop := BoxAt w0 v w ∧ w.heap[w0.heap.size + 1]? = some (.cells c 66 (0, 0))
theorem TwoAt.lt {w0 : World} {v : Nat → Value} {c : Array Value} {w : World} (h : TwoAt w0 v c w) : w0.heap.size + 1 < w.heap.size := (Array.getElem?_eq_some_iff.1 h.2).1
theorem TwoAt.step {w0 : World} {v : Nat → Value} {c : Array Value} {w w' : World} (h : TwoAt w0 v c w) (hb : Below w.heap.size w w') : TwoAt w0 v c w' := ⟨h.1.step hb, (hb.block _ h.lt).trans h.2⟩
theorem TwoAt.drewN {w0 : World} {v : Nat → Value} {c : Array Value} {w : World} (h : TwoAt w0 v c w) (n : Nat) : TwoAt w0 v c (w.drewN n) := h.step (_root_.Go.below_drewN (Below.refl _ _) n)
theorem TwoAt.start (w : World) (v : Nat → Value) (c : Array Value) : TwoAt w v c ((w.alloc (.cells #[v 0, v 1, v 2, v 3] 26)).alloc (.cells c 66)) := by
  have h1 := BoxAt.start w v
  have hs : (w.alloc (.cells #[v 0, v 1, v 2, v 3] 26)).heap.size = w.heap.size + 1 := by simp
  generalize w.alloc (.cells #[v 0, v 1, v 2, v 3] 26) = w1 at *
  refine ⟨h1.step ((Below.refl _ _).alloc (Nat.le_refl _) _), ?_⟩
  rw [← hs]
  exact blk_new _ _
theorem TwoAt.six {w0 : World} {v : Nat → Value} {c0 c1 c2 c3 c4 c5 : Value} {w : World} (h : TwoAt w0 v #[c0, c1, c2, c3, c4, c5] w) : w.cell? ⟨w0.heap.size + 1, 0, none⟩ = some c0 ∧ w.cell? ⟨w0.heap.size + 1, 1, none⟩ = some c1 ∧ w.cell? ⟨w0.heap.size + 1, 2, none⟩ = some c2 ∧ w.cell? ⟨w0.heap.size + 1, 3, none⟩ = some c3 ∧ w.cell? ⟨w0.heap.size + 1, 4, none⟩ = some c4 ∧ w.cell? ⟨w0.heap.size + 1, 5, none⟩ = some c5 := by
  have hh := h.2
  refine ⟨?_, ?_, ?_, ?_, ?_, ?_⟩ <;> simp [World.cell?, hh]
theorem row_take {w : World} {o : Option Addr} {n c : Nat} {l : List Int} (h : rowAt w (.slice o n c) 1 iC l) (k : Nat) (hk : k ≤ l.length) (c' : Nat) : rowAt w (.slice o k c') 1 iC (l.take k) := by
  obtain ⟨oa, cap, e, h2⟩ := h
  injection e with e1 e2 e3
  subst e1
  refine ⟨o, c', by rw [List.length_take, Nat.min_eq_left hk], fun j x hj => ?_⟩
  rw [List.getElem?_take] at hj
  split at hj
  · exact h2 j x hj
  · exact absurd hj (by simp)

/-- How great what is asked may be. -/
structure RtMid (l : Lay) (r : Rt) : Prop where
  a : l.sections.length ≤ 4294967296
  b : l.points.length ≤ 4294967296 ∧ ∀ x ∈ l.points, okI x.2
  c : l.signals.length ≤ 4294967296
  frm : okI r.frm
  tt : okI r.to
  path : r.path.length ≤ 4294967296 ∧ ∀ i ∈ r.path, okI i
  points : r.points.length ≤ 4294967296 ∧ ∀ n ∈ r.points, okI n.1
  flank : r.flank.length ≤ 4294967296 ∧ ∀ n ∈ r.flank, okI n.1

theorem headB_no {l : Lay} {r : Rt} (h : ¬ ((0 ≤ r.frm ∧ r.frm < l.signals.length) ∧ (0 ≤ r.to ∧ r.to < l.signals.length) ∧ r.frm ≠ r.to ∧ 1 ≤ r.path.length ∧ r.path.length ≤ 5)) : routeB l r = false := by
  rw [routeB, headB, decide_eq_false h, Bool.false_and]

set_option maxRecDepth 1000000 in
set_option maxHeartbeats 8000000 in
theorem refRoute_any (v : Nat → Value) (l : Lay) (rs : List RtV) (r : RtV) (w : World) (h : LayRd w v l rs) (hr : RtAt w r) (hcap : capOk r.2.1) (hm : RtMid l r.1) :
    Calls Tryz.prog 24 #[.agg #[v 0, v 1, v 2, v 3], .agg #[.string r.1.name, .int .i64 r.1.frm, .int .i64 r.1.to, r.2.1, r.2.2.1, r.2.2.2]] w fun e w' => e = .returned (.bool (routeB l r.1)) ∧ Below w.heap.size w w' := by
  obtain ⟨⟨nm, fr, tt, pa, po, fl⟩, v3, v4, v5⟩ := r
  simp only at *
  have HLR : Hid (LayRd w v l rs) := h
  obtain ⟨o0, c0, e0, _⟩ := h.s
  obtain ⟨o1, c1, e1, r1⟩ := h.p
  obtain ⟨o2, c2, e2, _⟩ := h.g
  obtain ⟨o3, c3, e3, _⟩ := h.r
  obtain ⟨hr3, hr4, hr5⟩ := hr
  simp only at hr3 hr4 hr5
  have HR3 : Hid (rowAt w v3 1 iC pa) := hr3
  have HR4 : Hid (rowAt w v4 2 nC po) := hr4
  have HR5 : Hid (rowAt w v5 2 nC fl) := hr5
  obtain ⟨p3, k3, f3, s3⟩ := hr3
  have hk3 : pa.length ≤ k3 := hcap _ _ _ f3
  clear hcap
  obtain ⟨p4, k4, f4, _⟩ := hr4
  obtain ⟨p5, k5, f5, _⟩ := hr5
  have S := TwoAt.start w v #[.string nm, .int .i64 fr, .int .i64 tt, v3, v4, v5]
  have R1 : Hid (∀ j x, l.points[j]? = some x → ∃ g off, o1 = some ⟨g, off, none⟩ ∧ ∀ i u, (pC x)[i]? = some u → w.cell? ⟨g, off + j * 2 + i, none⟩ = some u) := r1
  have R3 : Hid (∀ j x, pa[j]? = some x → ∃ g off, p3 = some ⟨g, off, none⟩ ∧ ∀ i u, (iC x)[i]? = some u → w.cell? ⟨g, off + j * 1 + i, none⟩ = some u) := s3
  have hba := hm.a
  have hbb := hm.b.1
  have hbc := hm.c
  have hpf := hm.frm
  have hpt := hm.tt
  have hp3 := hm.path.1
  have hp4 := hm.points.1
  have hp5 := hm.flank.1
  have HMI : Hid (RtMid l ⟨nm, fr, tt, pa, po, fl⟩) := hm
  simp only [okI] at hpf hpt hp3 hp4 hp5
  rw [f3] at HR3
  rw [f4] at HR4
  rw [f5] at HR5
  have HV : Hid (v 0 = .slice o0 l.sections.length c0 ∧ v 1 = .slice o1 l.points.length c1 ∧ v 2 = .slice o2 l.signals.length c2 ∧ v 3 = .slice o3 rs.length c3) := ⟨e0, e1, e2, e3⟩
  rw [e0, e1, e2, e3, f3, f4, f5] at S ⊢
  clear h r1 s3 e0 e1 e2 e3 hm f3 f4 f5
  generalize hs0 : l.sections.length = n0 at *
  generalize hs1 : l.points.length = n1 at *
  generalize hs2 : l.signals.length = n2 at *
  generalize hs3 : rs.length = n3 at *
  generalize hsp : pa.length = np at *
  generalize hsq : po.length = nq at *
  generalize hsf : fl.length = nf at *
  have HS0 : Hid (l.sections.length = n0) := hs0
  have HS1 : Hid (l.points.length = n1) := hs1
  have HS2 : Hid (l.signals.length = n2) := hs2
  have HSP : Hid (pa.length = np) := hsp
  have HSQ : Hid (po.length = nq) := hsq
  have HSF : Hid (fl.length = nf) := hsf
  clear hs0 hs1 hs2 hs3 hsp hsq hsf
  have no : ∀ (hh : ¬ ((0 ≤ fr ∧ fr < n2) ∧ (0 ≤ tt ∧ tt < n2) ∧ fr ≠ tt ∧ 1 ≤ np ∧ np ≤ 5)), routeB l ⟨nm, fr, tt, pa, po, fl⟩ = false := fun hh => headB_no (by simp only [HS2.out, HSP.out]; exact hh)
  have NO : Hid (¬ ((0 ≤ fr ∧ fr < n2) ∧ (0 ≤ tt ∧ tt < n2) ∧ fr ≠ tt ∧ 1 ≤ np ∧ np ≤ 5) → routeB l ⟨nm, fr, tt, pa, po, fl⟩ = false) := no
  clear no
  have SB : Hid (TwoAt w v #[.string nm, .int .i64 fr, .int .i64 tt, .slice p3 np k3, .slice p4 nq k4, .slice p5 nf k5] ((w.alloc (.cells #[.slice o0 n0 c0, .slice o1 n1 c1, .slice o2 n2 c2, .slice o3 n3 c3] 26)).alloc (.cells #[.string nm, .int .i64 fr, .int .i64 tt, .slice p3 np k3, .slice p4 nq k4, .slice p5 nf k5] 66))) := S
  clear S
  by_cases a1 : fr < 0
  · have HF : Hid (routeB l ⟨nm, fr, tt, pa, po, fl⟩ = false) := NO.out (by omega)
    go_enter Tryz.func24, Tryz.ntmps24
    go_wp2
    go_ret
    exact ⟨ret_bool HF.out.symm, SB.out.1.1⟩
  by_cases a2 : (n2 : Int) ≤ fr
  · have HF : Hid (routeB l ⟨nm, fr, tt, pa, po, fl⟩ = false) := NO.out (by omega)
    go_enter Tryz.func24, Tryz.ntmps24
    go_wp2
    go_ret
    exact ⟨ret_bool HF.out.symm, SB.out.1.1⟩
  by_cases a3 : tt < 0
  · have HF : Hid (routeB l ⟨nm, fr, tt, pa, po, fl⟩ = false) := NO.out (by omega)
    go_enter Tryz.func24, Tryz.ntmps24
    go_wp2
    go_ret
    exact ⟨ret_bool HF.out.symm, SB.out.1.1⟩
  by_cases a4 : (n2 : Int) ≤ tt
  · have HF : Hid (routeB l ⟨nm, fr, tt, pa, po, fl⟩ = false) := NO.out (by omega)
    go_enter Tryz.func24, Tryz.ntmps24
    go_wp2
    go_ret
    exact ⟨ret_bool HF.out.symm, SB.out.1.1⟩
  by_cases a5 : fr = tt
  · have HF : Hid (routeB l ⟨nm, fr, tt, pa, po, fl⟩ = false) := NO.out (by omega)
    have hb : ((fr : Int) == tt) = true := by simp [a5]
    clear a5
    go_enter Tryz.func24, Tryz.ntmps24
    go_wp2
    go_ret
    exact ⟨ret_bool HF.out.symm, SB.out.1.1⟩
  have a5' : ((fr : Int) == tt) = false := by simp [a5]
  have A5 : Hid (¬ fr = tt) := a5
  clear a5
  by_cases a6 : np < 1
  · have HF : Hid (routeB l ⟨nm, fr, tt, pa, po, fl⟩ = false) := NO.out (by omega)
    have hb : (np : Int) < 1 := by omega
    go_enter Tryz.func24, Tryz.ntmps24
    go_wp2
    go_ret
    exact ⟨ret_bool HF.out.symm, SB.out.1.1⟩
  by_cases a7 : 5 < np
  · have HF : Hid (routeB l ⟨nm, fr, tt, pa, po, fl⟩ = false) := NO.out (by omega)
    have hb : ¬ (np : Int) < 1 := by omega
    have hb2 : (5 : Int) < (np : Int) := by omega
    go_enter Tryz.func24, Tryz.ntmps24
    go_wp2
    go_ret
    exact ⟨ret_bool HF.out.symm, SB.out.1.1⟩
  have b6 : ¬ (np : Int) < 1 := by omega
  have b7 : ¬ (5 : Int) < (np : Int) := by omega
  have HH : Hid (routeB l ⟨nm, fr, tt, pa, po, fl⟩ = (pathB l pa && restB l ⟨nm, fr, tt, pa, po, fl⟩)) := by
    have := A5.out
    rw [routeB, headB]
    simp only [HS2.out, HSP.out]
    rw [decide_eq_true (by omega), Bool.true_and]
    rfl
  clear NO
  go_enter Tryz.func24, Tryz.ntmps24
  go_wp2
  go_loopg [5] np (fun gk i wr => ∃ k : Nat, gk = np - k ∧ k ≤ np ∧ i = .int .i64 k ∧ ((pa.take k).Nodup ∧ ∀ y ∈ pa.take k, 0 ≤ y ∧ y < l.sections.length) ∧ TwoAt w v #[.string nm, .int .i64 fr, .int .i64 tt, .slice p3 np k3, .slice p4 nq k4, .slice p5 nf k5] wr)
  case atStart => exact ⟨0, rfl, by omega, rfl, by simp, SB.out⟩
  case round =>
    clear SB
    obtain ⟨k, rfl, hk, rfl, hc, htw⟩ := hrel
    have HC : Hid ((pa.take k).Nodup ∧ ∀ y ∈ pa.take k, 0 ≤ y ∧ y < l.sections.length) := hc
    have HTW : Hid (TwoAt w v #[.string nm, .int .i64 fr, .int .i64 tt, .slice p3 np k3, .slice p4 nq k4, .slice p5 nf k5] wr) := htw
    have hcc := htw.1.cells
    have hbl := htw.1.1
    rw [HV.out.1, HV.out.2.1, HV.out.2.2.1, HV.out.2.2.2] at hcc
    obtain ⟨q0, q1, q2, q3⟩ := hcc
    obtain ⟨g0, g1, g2, g3, g4, g5⟩ := htw.six
    clear hc htw
    by_cases hlt : k < np
    · have hki : (k : Int) < (np : Int) := by omega
      obtain ⟨x, hx⟩ : ∃ x, pa[k]? = some x := ⟨pa[k]'(by rw [HSP.out]; exact hlt), List.getElem?_eq_getElem _⟩
      obtain ⟨g, off, rfl, hcell⟩ := R3.out k x hx
      have d0 := hcell 0 _ rfl
      rw [show off + k * 1 + 0 = off + k by omega] at d0
      have d1 := (hbl.cell (World.block_lt_of_cell? _ _ d0)).trans d0
      have hxi := HMI.out.path.2 x (List.mem_of_getElem? hx)
      simp only [okI] at hxi
      have HX : Hid (pa[k]? = some x) := hx
      clear hcell d0 hx
      have zg := ext_cell g3
      have zq := ext_cell q0
      have zd := ext_cell d1
      haveI := ext_some wr
      by_cases h0 : x < 0
      · have HF : Hid (routeB l ⟨nm, fr, tt, pa, po, fl⟩ = false) := by rw [HH.out, path_no HX.out (.inl (by omega)), Bool.false_and]; rfl
        go_wp2_with fail
        refine wp_region_ext (by kernel_rfl) (by kernel_rfl) ?_
        repeat (first | go_big_quiet_skip | (go_big_quiet_want; go_big_quiet_op; first | go_big_quiet_on | (apply Exists.intro; refine ⟨fun _ => ?_, ?_⟩; (go_at_call 49; fail); go_big_quiet_on)))
        refine wpQuiet_nil ?_
        intro _ hw'
        obtain ⟨z, hw''⟩ := hw'
        subst hw''
        go_wp2
        go_ret
        exact ⟨ret_bool HF.out.symm, hbl.trans (z.h.mono hbl.size)⟩
      · have hd0 : decide (x < 0) = false := decide_eq_false h0
        by_cases h1 : (n0 : Int) ≤ x
        · have HF : Hid (routeB l ⟨nm, fr, tt, pa, po, fl⟩ = false) := by rw [HH.out, path_no HX.out (.inl (by rw [HS0.out]; omega)), Bool.false_and]; rfl
          go_wp2_with fail
          refine wp_region_ext (by kernel_rfl) (by kernel_rfl) ?_
          repeat (first | go_big_quiet_skip | (go_big_quiet_want; go_big_quiet_op; first | go_big_quiet_on | (apply Exists.intro; refine ⟨fun _ => ?_, ?_⟩; (go_at_call 49; fail); go_big_quiet_on)))
          refine wpQuiet_nil ?_
          intro _ hw'
          obtain ⟨z, hw''⟩ := hw'
          subst hw''
          go_wp2
          go_ret
          exact ⟨ret_bool HF.out.symm, hbl.trans (z.h.mono hbl.size)⟩
        · have IN : Hid (∀ z : Ext wr, Calls Tryz.prog 49 #[.slice (some ⟨g, off, none⟩) k k3, .int .i64 x] z.z fun e w' => e = .returned (.bool (inB (pa.take k) x)) ∧ w' = z.z) := fun z =>
            in_any _ (pa.take k) x _ (row_take (HR3.out.below (hbl.trans (z.h.mono hbl.size))) k (by rw [HSP.out]; omega) k3) (by rw [List.length_take, HSP.out]; omega)
          have hkc : (k : Int) ≤ (k3 : Int) := by omega
          have hd1 : decide ((n0 : Int) ≤ x) = false := decide_eq_false h1
          cases hin : inB (pa.take k) x
          · rw [hin] at IN
            go_wp2_with fail
            refine wp_region_ext (by kernel_rfl) (by kernel_rfl) ?_
            repeat (first | go_big_quiet_skip | (go_big_quiet_want; go_big_quiet_op; first | go_big_quiet_on | (apply Exists.intro; refine ⟨fun _ => ?_, ?_⟩; (go_at_call 49; exact ext_of_same (IN.out _)); go_big_quiet_on)))
            refine wpQuiet_nil ?_
            intro _ hw'
            obtain ⟨z, hw''⟩ := hw'
            subst hw''
            go_wp2
            go_roundg (np - (k + 1))
            case rel => exact ⟨k + 1, rfl, by omega, by go_num, path_more HX.out HC.out (by rw [HS0.out]; omega) hin, HTW.out.step z.h⟩
            case measure => omega
          · rw [hin] at IN
            have HF : Hid (routeB l ⟨nm, fr, tt, pa, po, fl⟩ = false) := by rw [HH.out, path_no HX.out (.inr hin), Bool.false_and]; rfl
            go_wp2_with fail
            refine wp_region_ext (by kernel_rfl) (by kernel_rfl) ?_
            repeat (first | go_big_quiet_skip | (go_big_quiet_want; go_big_quiet_op; first | go_big_quiet_on | (apply Exists.intro; refine ⟨fun _ => ?_, ?_⟩; (go_at_call 49; exact ext_of_same (IN.out _)); go_big_quiet_on)))
            refine wpQuiet_nil ?_
            intro _ hw'
            obtain ⟨z, hw''⟩ := hw'
            subst hw''
            go_wp2
            go_ret
            exact ⟨ret_bool HF.out.symm, hbl.trans (z.h.mono hbl.size)⟩
    · have hki : ¬ (k : Int) < (np : Int) := by omega
      have HPB : Hid (routeB l ⟨nm, fr, tt, pa, po, fl⟩ = restB l ⟨nm, fr, tt, pa, po, fl⟩) := by
        have := HC.out
        rw [List.take_of_length_le (by rw [HSP.out]; omega)] at this
        rw [HH.out, show pathB l pa = true from decide_eq_true this, Bool.true_and]
        rfl
      clear HC HH
      go_wp2_with fail
      go_loopg [6, 7] n1 (fun gk c i wr => ∃ j : Nat, gk = n1 - j ∧ j ≤ n1 ∧ i = .int .i64 j ∧ c = .int .i64 (countIn pa (l.points.take j)) ∧ TwoAt w v #[.string nm, .int .i64 fr, .int .i64 tt, .slice p3 np k3, .slice p4 nq k4, .slice p5 nf k5] wr)
      case atStart => exact ⟨0, rfl, by omega, rfl, rfl, HTW.out⟩
      case round =>
        clear HTW hbl q0 q1 q2 q3 g0 g1 g2 g3 g4 g5 hki hlt hk
        obtain ⟨j, rfl, hj, rfl, rfl, htw⟩ := hrel
        have hcn : countIn pa (l.points.take j) ≤ j := Nat.le_trans (List.length_filter_le _ _) (by rw [List.length_take]; omega)
        have HTW : Hid (TwoAt w v #[.string nm, .int .i64 fr, .int .i64 tt, .slice p3 np k3, .slice p4 nq k4, .slice p5 nf k5] wr) := htw
        have hcc := htw.1.cells
        have hbl := htw.1.1
        rw [HV.out.1, HV.out.2.1, HV.out.2.2.1, HV.out.2.2.2] at hcc
        obtain ⟨q0, q1, q2, q3⟩ := hcc
        obtain ⟨g0, g1, g2, g3, g4, g5⟩ := htw.six
        clear htw
        by_cases hlt : j < n1
        · have hji : (j : Int) < (n1 : Int) := by omega
          obtain ⟨⟨pn, ps⟩, hx⟩ : ∃ x, l.points[j]? = some x := ⟨l.points[j]'(by rw [HS1.out]; exact hlt), List.getElem?_eq_getElem _⟩
          obtain ⟨g, off, rfl, hcell⟩ := R1.out j _ hx
          have d0 := hcell 1 _ rfl
          have d1 := (hbl.cell (World.block_lt_of_cell? _ _ d0)).trans d0
          have HX : Hid (l.points[j]? = some (pn, ps)) := hx
          clear hcell d0 hx
          have zg := ext_cell g3
          have zq := ext_cell q1
          have zd := ext_cell d1
          haveI := ext_some wr
          have IN : Hid (∀ z : Ext wr, Calls Tryz.prog 49 #[.slice p3 np k3, .int .i64 ps] z.z fun e w' => e = .returned (.bool (inB pa ps)) ∧ w' = z.z) := fun z =>
            in_any _ pa ps _ (HR3.out.below (hbl.trans (z.h.mono hbl.size))) (by rw [HSP.out]; omega)
          cases hin : inB pa ps
          · rw [hin] at IN
            have GO : Hid (countIn pa (l.points.take j) = countIn pa (l.points.take (j + 1))) := by
              show _ = _
              rw [take_snocI HX.out, countIn, countIn, List.filter_append, List.filter_cons_of_neg (by simp [hin])]
              simp
            go_wp2_with fail
            refine wp_region_ext (by kernel_rfl) (by kernel_rfl) ?_
            repeat (first | go_big_quiet_skip | (go_big_quiet_want; go_big_quiet_op; first | go_big_quiet_on | (apply Exists.intro; refine ⟨fun _ => ?_, ?_⟩; (go_at_call 49; exact ext_of_same (IN.out _)); go_big_quiet_on)))
            refine wpQuiet_nil ?_
            intro _ hw'
            obtain ⟨z, hw''⟩ := hw'
            subst hw''
            go_wp2
            go_roundg (n1 - (j + 1))
            case rel => exact ⟨j + 1, rfl, by omega, by go_num, by rw [GO.out], HTW.out.step z.h⟩
            case measure => omega
          · rw [hin] at IN
            have GO : Hid (countIn pa (l.points.take j) + 1 = countIn pa (l.points.take (j + 1))) := by
              show _ = _
              rw [take_snocI HX.out, countIn, countIn, List.filter_append, List.filter_cons_of_pos (by simp [hin])]
              simp
            generalize hcnt : countIn pa (l.points.take j) = cnt at *
            clear hcnt
            go_wp2_with fail
            refine wp_region_ext (by kernel_rfl) (by kernel_rfl) ?_
            repeat (first | go_big_quiet_skip | (go_big_quiet_want; go_big_quiet_op; first | go_big_quiet_on | (apply Exists.intro; refine ⟨fun _ => ?_, ?_⟩; (go_at_call 49; exact ext_of_same (IN.out _)); go_big_quiet_on)))
            refine wpQuiet_nil ?_
            intro _ hw'
            obtain ⟨z, hw''⟩ := hw'
            subst hw''
            go_wp2
            go_roundg (n1 - (j + 1))
            case rel => exact ⟨j + 1, rfl, by omega, by go_num, by rw [← GO.out]; go_num, HTW.out.step z.h⟩
            case measure => omega
        · have hji : ¬ (j : Int) < (n1 : Int) := by omega
          rw [List.take_of_length_le (by rw [HS1.out]; omega)] at hcn ⊢
          have HR : Hid (restB l ⟨nm, fr, tt, pa, po, fl⟩ = (decide (nq = countIn pa l.points) && (needsF l pa true none po && needsF l pa false none fl))) := by
            show _ = _
            rw [restB]
            simp only [HSQ.out]
          generalize hcnt : countIn pa l.points = cnt at *
          clear hcnt
          have N1 : Hid (∀ W, Below w.heap.size w W → Calls Tryz.prog 50 #[.agg #[.slice o0 n0 c0, .slice o1 n1 c1, .slice o2 n2 c2, .slice o3 n3 c3], .slice p4 nq k4, .slice p3 np k3, .bool true] W fun e w' => e = .returned (.bool (needsF l pa true none po)) ∧ Below W.heap.size W w') := fun W hW => by
            have := refNeeds_any v l rs _ _ po pa true W (HLR.out.below hW) (HR4.out.below hW) (HR3.out.below hW) (by rw [HSQ.out]; omega) (by rw [HSP.out]; omega) (by rw [HS1.out]; omega) HMI.out.points.2
            rw [HV.out.1, HV.out.2.1, HV.out.2.2.1, HV.out.2.2.2] at this
            exact this
          have N2 : Hid (∀ W, Below w.heap.size w W → Calls Tryz.prog 50 #[.agg #[.slice o0 n0 c0, .slice o1 n1 c1, .slice o2 n2 c2, .slice o3 n3 c3], .slice p5 nf k5, .slice p3 np k3, .bool false] W fun e w' => e = .returned (.bool (needsF l pa false none fl)) ∧ Below W.heap.size W w') := fun W hW => by
            have := refNeeds_any v l rs _ _ fl pa false W (HLR.out.below hW) (HR5.out.below hW) (HR3.out.below hW) (by rw [HSF.out]; omega) (by rw [HSP.out]; omega) (by rw [HS1.out]; omega) HMI.out.flank.2
            rw [HV.out.1, HV.out.2.1, HV.out.2.2.1, HV.out.2.2.2] at this
            exact this
          by_cases hq : nq = cnt
          · have hqb : ((nq : Int) == (cnt : Int)) = true := by simp [hq]
            rw [decide_eq_true hq, Bool.true_and] at HR
            clear hq
            have M1 := N1.out _ hbl
            cases hn1 : needsF l pa true none po
            · rw [hn1] at M1
              have HF : Hid (routeB l ⟨nm, fr, tt, pa, po, fl⟩ = false) := by rw [HPB.out, HR.out, hn1, Bool.false_and]; rfl
              go_wp2_with fail
              refine M1.mono ?_
              rintro e w1 ⟨rfl, hb1⟩
              go_wp2_with fail
              go_ret
              exact ⟨ret_bool HF.out.symm, hbl.trans (hb1.mono hbl.size)⟩
            · rw [hn1] at M1
              have HF : Hid (routeB l ⟨nm, fr, tt, pa, po, fl⟩ = needsF l pa false none fl) := by rw [HPB.out, HR.out, hn1, Bool.true_and]; rfl
              go_wp2_with fail
              refine M1.mono ?_
              rintro e w1 ⟨rfl, hb1⟩
              have htw1 := HTW.out.step hb1
              have hcc := htw1.1.cells
              have hbl1 := htw1.1.1
              rw [HV.out.1, HV.out.2.1, HV.out.2.2.1, HV.out.2.2.2] at hcc
              obtain ⟨q0', q1', q2', q3'⟩ := hcc
              obtain ⟨g0', g1', g2', g3', g4', g5'⟩ := htw1.six
              clear htw1
              have M2 := N2.out _ hbl1
              clear N1 N2 M1
              go_wp2_with fail
              refine M2.mono ?_
              rintro e w2 ⟨rfl, hb2⟩
              go_wp2_with fail
              go_ret
              exact ⟨ret_bool HF.out.symm, hbl1.trans (hb2.mono hbl1.size)⟩
          · have hqb : ((nq : Int) == (cnt : Int)) = false := by simp; omega
            have HF : Hid (routeB l ⟨nm, fr, tt, pa, po, fl⟩ = false) := by rw [HPB.out, HR.out, decide_eq_false hq, Bool.false_and]; rfl
            clear hq
            go_wp2_with fail
            go_ret
            exact ⟨ret_bool HF.out.symm, hbl⟩
end Go.Proofs.YtceebimgfajbcaaGreatDoor
