/-
  Plain: what a layout has of which the reference's May is true.
-/
import Derived.Test.YtgiaicmhnkhbnaaDoorPlRun
namespace Go.Proofs.YtgiaicmhnkhbnaaDoor
open Go.RowKit

structure RtP (l : Lay) (r : Rt) : Prop where
  frm : 0 ≤ r.frm ∧ r.frm < l.signals.length
  to : 0 ≤ r.to ∧ r.to < l.signals.length
  path : True ∧ r.path.length ≤ 3000 ∧ ∀ i ∈ r.path, 0 ≤ i ∧ i < l.sections.length
  points : r.points.length ≤ 3000 ∧ ∀ n ∈ r.points, 0 ≤ n.1 ∧ n.1 < l.points.length
  flank : r.flank.length ≤ 3000 ∧ ∀ n ∈ r.flank, 0 ≤ n.1 ∧ n.1 < l.points.length
structure IsP (l : Lay) : Prop where
  s : l.sections.length ≤ 3000 ∧ True ∧ True
  g : l.signals.length ≤ 3000 ∧ True ∧ True
  p : l.points.length ≤ 3000 ∧ True ∧ ∀ x ∈ l.points, True ∧ 0 ≤ x.2 ∧ x.2 < l.sections.length
  r : l.routes.length ≤ 3000 ∧ True ∧ ∀ x ∈ l.routes, True ∧ RtP l x

def placesB (p : List Int) (n : Nat) : Bool := decide (∀ i ∈ p, 0 ≤ i ∧ i < n)
def wantsB (p : List (Int × Bool)) (n : Nat) : Bool := decide (∀ x ∈ p, 0 ≤ x.1 ∧ x.1 < n)
def headP (l : Lay) (r : Rt) : Bool := decide ((0 ≤ r.frm ∧ r.frm < l.signals.length) ∧ (0 ≤ r.to ∧ r.to < l.signals.length))
def routeP (l : Lay) (r : Rt) : Bool := capB r.name && (headP l r && (placesB r.path l.sections.length && (wantsB r.points l.points.length && wantsB r.flank l.points.length)))
def pointP (l : Lay) (x : ByteArray × Int) : Bool := capB x.1 && decide (0 ≤ x.2 ∧ x.2 < l.sections.length)
/-- Of which the reference's May is true. -/
def mayB (l : Lay) : Bool := l.sections.all capB && (l.signals.all capB && (l.points.all (pointP l) && l.routes.all (routeP l)))

theorem mayB_sec {l : Lay} {k : Nat} {x : ByteArray} (hx : l.sections[k]? = some x) (h : capB x = false) : mayB l = false := by
  rw [mayB, show l.sections.all capB = false from List.all_eq_false.2 ⟨x, List.mem_of_getElem? hx, by simp [h]⟩, Bool.false_and]
theorem mayB_sig {l : Lay} {k : Nat} {x : ByteArray} (hx : l.signals[k]? = some x) (h : capB x = false) : mayB l = false := by
  rw [mayB, show l.signals.all capB = false from List.all_eq_false.2 ⟨x, List.mem_of_getElem? hx, by simp [h]⟩, Bool.false_and, Bool.and_false]
theorem mayB_pt {l : Lay} {k : Nat} {x : ByteArray × Int} (hx : l.points[k]? = some x) (h : pointP l x = false) : mayB l = false := by
  rw [mayB, show l.points.all (pointP l) = false from List.all_eq_false.2 ⟨x, List.mem_of_getElem? hx, by simp [h]⟩, Bool.false_and, Bool.and_false, Bool.and_false]
theorem mayB_rt {l : Lay} {x : Rt} (hx : x ∈ l.routes) (h : routeP l x = false) : mayB l = false := by
  rw [mayB, show l.routes.all (routeP l) = false from List.all_eq_false.2 ⟨x, hx, by simp [h]⟩, Bool.and_false, Bool.and_false, Bool.and_false]
theorem all_more {α : Type} {f : α → Bool} {l : List α} {k : Nat} {x : α} (h : l[k]? = some x) (h1 : (l.take k).all f = true) (h2 : f x = true) : (l.take (k + 1)).all f = true := by
  rw [List.take_add_one, h, List.all_append, h1]
  simp [h2]
end Go.Proofs.YtgiaicmhnkhbnaaDoor
