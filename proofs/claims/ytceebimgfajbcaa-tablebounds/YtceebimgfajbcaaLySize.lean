/-
  The law's size of a layout, by a contract: below 3000 all of it is small.
-/
import Derived.Test.YtceebimgfajbcaaPlOpen
import Derived.Deep.LoopGhost
import Derived.Deep.CutBlock
namespace Go.Proofs.Ytceebimgfajbcaa
open Go.RowKit

structure LaySmall (l : Lay) : Prop where
  s : l.sections.length < 3000 ∧ ∀ x ∈ l.sections, x.size < 3000
  p : l.points.length < 3000 ∧ ∀ x ∈ l.points, x.1.size < 3000
  g : l.signals.length < 3000 ∧ ∀ x ∈ l.signals, x.size < 3000
  r : l.routes.length < 3000 ∧ ∀ x ∈ l.routes, x.name.size < 3000 ∧ x.path.length < 3000 ∧ x.points.length < 3000 ∧ x.flank.length < 3000

/-- A layout that was put into memory: where it lies. -/
def BoxAt (w0 : World) (v : Nat → Value) (w : World) : Prop :=
  Below w0.heap.size w0 w ∧ w.heap[w0.heap.size]? = some (.cells #[v 0, v 1, v 2, v 3] 26 (0, 0))
theorem BoxAt.cells {w0 : World} {v : Nat → Value} {w : World} (h : BoxAt w0 v w) : w.cell? ⟨w0.heap.size, 0, none⟩ = some (v 0) ∧ w.cell? ⟨w0.heap.size, 1, none⟩ = some (v 1) ∧ w.cell? ⟨w0.heap.size, 2, none⟩ = some (v 2) ∧ w.cell? ⟨w0.heap.size, 3, none⟩ = some (v 3) := by
  have hh := h.2
  refine ⟨?_, ?_, ?_, ?_⟩ <;> simp [World.cell?, hh]
theorem BoxAt.lt {w0 : World} {v : Nat → Value} {w : World} (h : BoxAt w0 v w) : w0.heap.size < w.heap.size := (Array.getElem?_eq_some_iff.1 h.2).1
theorem BoxAt.start (w : World) (v : Nat → Value) : BoxAt w v (w.alloc (.cells #[v 0, v 1, v 2, v 3] 26)) :=
  ⟨(Below.refl _ _).alloc (Nat.le_refl _) _, blk_new _ _⟩
theorem BoxAt.step {w0 : World} {v : Nat → Value} {w w' : World} (h : BoxAt w0 v w) (hb : Below w.heap.size w w') : BoxAt w0 v w' :=
  ⟨h.1.trans (hb.mono h.1.size), (hb.block _ h.lt).trans h.2⟩
theorem take_more {α : Type} {l : List α} {k : Nat} {x : α} (h : l[k]? = some x) {P : α → Prop} (hP : ∀ y ∈ l.take k, P y) (hx : P x) : ∀ y ∈ l.take (k + 1), P y := by
  rw [List.take_add_one, h]
  intro y hy
  rcases List.mem_append.1 hy with hy | hy
  · exact hP y hy
  · simp at hy
    rw [hy]
    exact hx

end Go.Proofs.Ytceebimgfajbcaa
