/-
  plan's pointName and sign, each by a contract.
-/
import Derived.Test.YtgiaicmhnkhbnaaDoorLyPrintP
namespace Go.Proofs.YtgiaicmhnkhbnaaDoor
open Go.RowKit

set_option maxRecDepth 1000000 in
set_option maxHeartbeats 4000000 in
theorem pointName_any (v : Nat → Value) (l : Lay) (rs : List RtV) (i : Int) (w : World) (h : LayRd w v l rs) (hi : 0 ≤ i ∧ i < l.points.length) :
    Calls Tryd.prog 41 #[.agg #[v 0, v 1, v 2, v 3], .int .i64 i] w fun e w' => e = .returned (.string (nth (l.points.map (·.1)) i)) ∧ Below w.heap.size w w' := by
  obtain ⟨o0, c0, e0, _⟩ := h.s
  obtain ⟨o1, c1, e1, r1⟩ := h.p
  obtain ⟨o2, c2, e2, _⟩ := h.g
  obtain ⟨o3, c3, e3, _⟩ := h.r
  obtain ⟨m, rfl⟩ : ∃ m : Nat, i = m := ⟨i.toNat, by omega⟩
  obtain ⟨⟨pn, ps⟩, hp⟩ : ∃ y, l.points[m]? = some y := ⟨l.points[m]'(by omega), List.getElem?_eq_getElem _⟩
  rw [nth_at (x := pn) (by rw [List.getElem?_map, hp]; rfl)]
  obtain ⟨g, off, rfl, hc⟩ := r1 m _ hp
  have S := BoxAt.start w v
  have d0 := hc 0 _ rfl
  rw [Nat.add_zero] at d0
  have d1 := (S.1.cell (World.block_lt_of_cell? _ _ d0)).trans d0
  have hcc := S.cells
  rw [e0, e1, e2, e3] at S hcc d1 ⊢
  have SB : Hid (Below w.heap.size w (w.alloc (.cells #[.slice o0 l.sections.length c0, .slice (some ⟨g, off, none⟩) l.points.length c1, .slice o2 l.signals.length c2, .slice o3 rs.length c3] 26))) := S.1
  obtain ⟨q0, q1, q2, q3⟩ := hcc
  have hmi : (m : Int) < (l.points.length : Int) := hi.2
  clear h r1 hc hp d0 S e0 e1 e2 e3 hi
  generalize l.sections.length = n0 at *
  generalize l.points.length = n1 at *
  generalize l.signals.length = n2 at *
  generalize rs.length = n3 at *
  have hmn : m < n1 := by omega
  go_enter Tryd.func41, Tryd.ntmps41
  go_wp2
  go_ret
  exact ⟨rfl, SB.out⟩

set_option maxRecDepth 1000000 in
set_option maxHeartbeats 4000000 in
theorem sign_any (n : Int) (b : Bool) (w : World) : Calls Tryd.prog 42 #[.agg #[.int .i64 n, .bool b]] w fun e w' => e = .returned (.int .i32 (if b = true then 45 else 43)) ∧ Below w.heap.size w w' := by
  have hb : Hid (Below w.heap.size w (w.alloc (.cells #[.int .i64 n, .bool b] 60))) := (Below.refl _ _).alloc (Nat.le_refl _) _
  cases b
  · go_enter Tryd.func42, Tryd.ntmps42
    go_wp2
    go_ret
    exact ⟨rfl, hb.out⟩
  · go_enter Tryd.func42, Tryd.ntmps42
    go_wp2
    go_ret
    exact ⟨rfl, hb.out⟩
end Go.Proofs.YtgiaicmhnkhbnaaDoor
