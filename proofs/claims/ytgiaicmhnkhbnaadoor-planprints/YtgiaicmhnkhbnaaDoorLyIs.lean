/-
  The reference's Is: may a layout be? by a contract.
-/
import Derived.Test.YtgiaicmhnkhbnaaDoorLyRoute
import Derived.Test.YtgiaicmhnkhbnaaDoorLyNames
import Derived.Deep.CutBlock
namespace Go.Proofs.YtgiaicmhnkhbnaaDoor
open Go.RowKit

def boundsB (l : Lay) : Bool := decide (1 ≤ l.sections.length ∧ l.sections.length ≤ 10 ∧ 1 ≤ l.signals.length ∧ l.signals.length ≤ 6 ∧ l.points.length ≤ 5 ∧ l.routes.length ≤ 6)
def secsB (l : Lay) : Bool := decide (∀ x ∈ l.points, 0 ≤ x.2 ∧ x.2 < l.sections.length)
def namesAll (l : Lay) : Bool := namesB l.sections && (namesB l.signals && (namesB (l.points.map (·.1)) && namesB (l.routes.map (·.name))))
/-- May a layout be? -/
def isB (l : Lay) : Bool := boundsB l && (secsB l && (namesAll l && l.routes.all (routeB l)))

/-- How great a layout that is asked about may be. -/
structure LayMid (l : Lay) : Prop where
  s : l.sections.length ≤ 4294967296 ∧ ∀ x ∈ l.sections, x.size ≤ 4294967296
  p : l.points.length ≤ 4294967296 ∧ ∀ x ∈ l.points, x.1.size ≤ 4294967296 ∧ okI x.2
  g : l.signals.length ≤ 4294967296 ∧ ∀ x ∈ l.signals, x.size ≤ 4294967296
  r : l.routes.length ≤ 4294967296 ∧ ∀ x ∈ l.routes, x.name.size ≤ 4294967296 ∧ okI x.frm ∧ okI x.to ∧ (x.path.length ≤ 4294967296 ∧ ∀ i ∈ x.path, okI i) ∧ (x.points.length ≤ 4294967296 ∧ ∀ n ∈ x.points, okI n.1) ∧ (x.flank.length ≤ 4294967296 ∧ ∀ n ∈ x.flank, okI n.1)
theorem LayMid.of {l : Lay} (a : LaySmall l) (b : LayBig l) : LayMid l := by
  refine ⟨⟨by have := a.s.1; omega, fun x hx => by have := a.s.2 x hx; omega⟩, ⟨by have := a.p.1; omega, fun x hx => ⟨by have := a.p.2 x hx; omega, (b.p.2 x hx).2⟩⟩, ⟨by have := a.g.1; omega, fun x hx => by have := a.g.2 x hx; omega⟩, ⟨by have := a.r.1; omega, fun x hx => ?_⟩⟩
  obtain ⟨h1, h2, h3, h4⟩ := a.r.2 x hx
  have hb := b.r.2 x hx
  exact ⟨by omega, hb.frm, hb.to, ⟨by omega, hb.path.2⟩, ⟨by omega, hb.points.2⟩, ⟨by omega, hb.flank.2⟩⟩
theorem LayMid.rt {l : Lay} (h : LayMid l) {r : Rt} (hr : r ∈ l.routes) : RtMid l r := by
  obtain ⟨_, h1, h2, h3, h4, h5⟩ := h.r.2 r hr
  exact ⟨h.s.1, ⟨h.p.1, fun x hx => (h.p.2 x hx).2⟩, h.g.1, h1, h2, h3, h4, h5⟩

theorem BoxAt.append {w0 : World} {v : Nat → Value} {wr w3 : World} {o : Obj} {u : Value} {e : TypeId} {size n : Nat} {xs : List Value} (h : BoxAt w0 v wr) (hown : wr.ownsRow (w0.heap.size + 1) e size u n xs) (hg : (wr.alloc o).grownBy w3 u.ownBlock) : BoxAt w0 v w3 := by
  refine ⟨(h.1.alloc h.1.size o).grown hg (by have := h.1.size; simp; omega) (fun k hk => by have := (hown.lt k hk).1; omega), ?_⟩
  rw [hg.block _ (by have := h.lt; simp; omega) (fun e => by have := (hown.lt _ e.symm).1; omega), Below.heap_alloc _ _ _ h.lt]
  exact h.2
theorem isB_bounds {l : Lay} (h : ¬ (1 ≤ l.sections.length ∧ l.sections.length ≤ 10 ∧ 1 ≤ l.signals.length ∧ l.signals.length ≤ 6 ∧ l.points.length ≤ 5 ∧ l.routes.length ≤ 6)) : isB l = false := by
  rw [isB, boundsB, decide_eq_false h, Bool.false_and]
theorem isB_secs {l : Lay} {k : Nat} {x : ByteArray × Int} (hx : l.points[k]? = some x) (h : ¬ (0 ≤ x.2 ∧ x.2 < l.sections.length)) : isB l = false := by
  rw [isB, show secsB l = false from decide_eq_false fun hh => h (hh x (List.mem_of_getElem? hx)), Bool.false_and, Bool.and_false]
theorem take_all {α : Type} {l : List α} {n : Nat} (h : l.length = n) {k : Nat} (hk : n ≤ k) : l.take k = l := List.take_of_length_le (by omega)

end Go.Proofs.YtgiaicmhnkhbnaaDoor
