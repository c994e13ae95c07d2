/-
  A region that draws its order and whose callees make new memory alone: one walk, in the worlds in which nothing old has turned. 
-/
import Derived.Test.YtfllogbpbldibaaFlBase
import Derived.BigQuiet
namespace Go.Proofs.Ytfllogbpbldibaa
open Go.RowKit

/-- A world in which nothing old has turned. -/
structure Ext (W : World) where
  z : World
  h : Below W.heap.size W z

theorem wp_region_ext {P : Program} {id : Nat} {Q : Exit → Act → World → Prop} {a : Act} {w : World} {l : List Oper} (hm : P.follows .mixedOrders = true) (hB : Region.lexB .any l.toArray = true)
    (h : wpQuiet P l.toArray (fun w' => ∃ y : Ext w, w' = y.z) (fun a' => ∀ w', (∃ y : Ext w, w' = y.z) → Q .normal a' w') l a) : (Code.region id l.toArray true).wp P Q a w :=
  wp_region_quiet (C := fun w' => ∃ y : Ext w, w' = y.z) hm hB ⟨⟨w.drew, (Below.refl _ _).drew⟩, rfl⟩ h
theorem ext_of {P : Program} {f : FuncId} {args : Array Value} {w : World} {y : Ext w} {v : Value}
    (h : Calls P f args y.z fun e w' => e = .returned v ∧ Below y.z.heap.size y.z w') : Calls P f args y.z fun e w'' => e = .returned v ∧ ∃ x : Ext w, w'' = x.z :=
  h.mono fun _ w' ⟨he, hb⟩ => ⟨he, ⟨w', y.h.trans (hb.mono y.h.size)⟩, rfl⟩
theorem ext_of_same {P : Program} {f : FuncId} {args : Array Value} {w : World} {y : Ext w} {v : Value}
    (h : Calls P f args y.z fun e w' => e = .returned v ∧ w' = y.z) : Calls P f args y.z fun e w'' => e = .returned v ∧ ∃ x : Ext w, w'' = x.z :=
  h.mono fun _ _ ⟨he, hw⟩ => ⟨he, y, hw⟩
theorem ext_cell {w : World} {p : Addr} {v : Value} (h : w.cell? p = some v) (y : Ext w) : y.z.cell? p = some v := (y.h.cell (World.block_lt_of_cell? w p h)).trans h

theorem ext_of_draws {P : Program} {f : FuncId} {args : Array Value} {w : World} {y : Ext w} {v : Value}
    (h : Calls P f args y.z fun e w' => e = .returned v ∧ ∃ n, w' = y.z.drewN n) : Calls P f args y.z fun e w'' => e = .returned v ∧ ∃ x : Ext w, w'' = x.z :=
  h.mono fun _ _ ⟨he, n, hw⟩ => ⟨he, ⟨y.z.drewN n, _root_.Go.below_drewN y.h n⟩, hw⟩
theorem ext_some (w : World) : Nonempty (Ext w) := ⟨⟨w, Below.refl _ _⟩⟩
end Go.Proofs.Ytfllogbpbldibaa
