/-
  The reference's route: may a route be? by a contract.
-/
import Derived.Test.YtgiaicmhnkhbnaaDoorLyNeeds
import Derived.Test.YtgiaicmhnkhbnaaDoorLyExt
import Derived.Deep.CutBlock
namespace Go.Proofs.YtgiaicmhnkhbnaaDoor
open Go.RowKit

def countIn (path : List Int) (ps : List (ByteArray × Int)) : Nat := (ps.filter fun p => inB path p.2).length
def pathB (l : Lay) (path : List Int) : Bool := decide (path.Nodup ∧ ∀ i ∈ path, 0 ≤ i ∧ i < l.sections.length)
def headB (l : Lay) (r : Rt) : Bool := decide ((0 ≤ r.frm ∧ r.frm < l.signals.length) ∧ (0 ≤ r.to ∧ r.to < l.signals.length) ∧ r.frm ≠ r.to ∧ 1 ≤ r.path.length ∧ r.path.length ≤ 5)
def restB (l : Lay) (r : Rt) : Bool := decide (r.points.length = countIn r.path l.points) && (needsF l r.path true none r.points && needsF l r.path false none r.flank)
def routeB (l : Lay) (r : Rt) : Bool := headB l r && (pathB l r.path && restB l r)

theorem inB_iff (l : List Int) (n : Int) : inB l n = true ↔ n ∈ l := by
  rw [inB, List.any_eq_true]
  constructor
  · rintro ⟨x, hx, e⟩
    rw [← of_decide_eq_true e]
    exact hx
  · intro h
    exact ⟨n, h, decide_eq_true rfl⟩
theorem take_snocI {α : Type} {l : List α} {k : Nat} {x : α} (h : l[k]? = some x) : l.take (k + 1) = l.take k ++ [x] := by
  rw [List.take_add_one, h]
  rfl
theorem path_more {l : Lay} {p : List Int} {k : Nat} {x : Int} (h : p[k]? = some x) (h1 : (p.take k).Nodup ∧ ∀ y ∈ p.take k, 0 ≤ y ∧ y < l.sections.length) (h2 : 0 ≤ x ∧ x < l.sections.length) (h3 : inB (p.take k) x = false) : (p.take (k + 1)).Nodup ∧ ∀ y ∈ p.take (k + 1), 0 ≤ y ∧ y < l.sections.length := by
  have h3' : x ∉ p.take k := fun hm => by rw [(inB_iff _ _).2 hm] at h3; exact absurd h3 (by simp)
  rw [take_snocI h]
  refine ⟨List.nodup_append.2 ⟨h1.1, by simp, fun a ha b hb => ?_⟩, fun y hy => ?_⟩
  · simp at hb
    subst hb
    intro e
    subst e
    exact h3' ha
  · rcases List.mem_append.1 hy with hy | hy
    · exact h1.2 y hy
    · simp at hy
      rw [hy]
      exact h2
theorem path_no {l : Lay} {p : List Int} {k : Nat} {x : Int} (h : p[k]? = some x) (h2 : ¬ (0 ≤ x ∧ x < l.sections.length) ∨ inB (p.take k) x = true) : pathB l p = false := by
  refine decide_eq_false fun hh => ?_
  rcases h2 with h2 | h2
  · exact h2 (hh.2 x (List.mem_of_getElem? h))
  · have hm := (inB_iff _ _).1 h2
    have h3 : (p.take (k + 1)).Nodup := hh.1.sublist (List.take_sublist _ _)
    rw [take_snocI h] at h3
    exact (List.nodup_append.1 h3).2.2 x hm x (by simp) rfl

/-- A layout and a route that were put into memory. -/
def TwoAt (w0 : World) (v : Nat → Value) (c : Array Value) (w : World) : Prop := BoxAt w0 v w ∧ w.heap[w0.heap.size + 1]? = some (.cells c 37 (0, 0))
theorem TwoAt.lt {w0 : World} {v : Nat → Value} {c : Array Value} {w : World} (h : TwoAt w0 v c w) : w0.heap.size + 1 < w.heap.size := (Array.getElem?_eq_some_iff.1 h.2).1
theorem TwoAt.step {w0 : World} {v : Nat → Value} {c : Array Value} {w w' : World} (h : TwoAt w0 v c w) (hb : Below w.heap.size w w') : TwoAt w0 v c w' := ⟨h.1.step hb, (hb.block _ h.lt).trans h.2⟩
theorem TwoAt.drewN {w0 : World} {v : Nat → Value} {c : Array Value} {w : World} (h : TwoAt w0 v c w) (n : Nat) : TwoAt w0 v c (w.drewN n) := h.step (_root_.Go.below_drewN (Below.refl _ _) n)
theorem TwoAt.start (w : World) (v : Nat → Value) (c : Array Value) : TwoAt w v c ((w.alloc (.cells #[v 0, v 1, v 2, v 3] 26)).alloc (.cells c 37)) := by
  have h1 := BoxAt.start w v
  have hs : (w.alloc (.cells #[v 0, v 1, v 2, v 3] 26)).heap.size = w.heap.size + 1 := by simp
  generalize w.alloc (.cells #[v 0, v 1, v 2, v 3] 26) = w1 at *
  refine ⟨h1.step ((Below.refl _ _).alloc (Nat.le_refl _) _), ?_⟩
  rw [← hs]
  exact blk_new _ _
theorem TwoAt.six {w0 : World} {v : Nat → Value} {c0 c1 c2 c3 c4 c5 : Value} {w : World} (h : TwoAt w0 v #[c0, c1, c2, c3, c4, c5] w) : w.cell? ⟨w0.heap.size + 1, 0, none⟩ = some c0 ∧ w.cell? ⟨w0.heap.size + 1, 1, none⟩ = some c1 ∧ w.cell? ⟨w0.heap.size + 1, 2, none⟩ = some c2 ∧ w.cell? ⟨w0.heap.size + 1, 3, none⟩ = some c3 ∧ w.cell? ⟨w0.heap.size + 1, 4, none⟩ = some c4 ∧ w.cell? ⟨w0.heap.size + 1, 5, none⟩ = some c5 := by
  have hh := h.2
  refine ⟨?_, ?_, ?_, ?_, ?_, ?_⟩ <;> simp [World.cell?, hh]
theorem row_take {w : World} {o : Option Addr} {n c : Nat} {l : List Int} (h : rowAt w (.slice o n c) 1 iC l) (k : Nat) (hk : k ≤ l.length) (c' : Nat) : rowAt w (.slice o k c') 1 iC (l.take k) := by
  obtain ⟨oa, cap, e, h2⟩ := h
  injection e with e1 e2 e3
  subst e1
  refine ⟨o, c', by rw [List.length_take, Nat.min_eq_left hk], fun j x hj => ?_⟩
  rw [List.getElem?_take] at hj
  split at hj
  · exact h2 j x hj
  · exact absurd hj (by simp)

/-- How great what is asked may be. -/
structure RtMid (l : Lay) (r : Rt) : Prop where
  a : l.sections.length ≤ 4294967296
  b : l.points.length ≤ 4294967296 ∧ ∀ x ∈ l.points, okI x.2
  c : l.signals.length ≤ 4294967296
  frm : okI r.frm
  tt : okI r.to
  path : r.path.length ≤ 4294967296 ∧ ∀ i ∈ r.path, okI i
  points : r.points.length ≤ 4294967296 ∧ ∀ n ∈ r.points, okI n.1
  flank : r.flank.length ≤ 4294967296 ∧ ∀ n ∈ r.flank, okI n.1

theorem headB_no {l : Lay} {r : Rt} (h : ¬ ((0 ≤ r.frm ∧ r.frm < l.signals.length) ∧ (0 ≤ r.to ∧ r.to < l.signals.length) ∧ r.frm ≠ r.to ∧ 1 ≤ r.path.length ∧ r.path.length ≤ 5)) : routeB l r = false := by
  rw [routeB, headB, decide_eq_false h, Bool.false_and]

end Go.Proofs.YtgiaicmhnkhbnaaDoor
