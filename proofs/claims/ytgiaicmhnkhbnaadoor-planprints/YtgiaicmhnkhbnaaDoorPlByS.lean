/-
  What plan.byPlaces answers: its contract, stated.
-/
import Derived.Test.YtgiaicmhnkhbnaaDoorPlNeeds
import Derived.Deep.CutRange
namespace Go.Proofs.YtgiaicmhnkhbnaaDoor
open Go.RowKit

theorem stepB {w1 W W' : World} (h : Below w1.heap.size w1 W) (k : Below W.heap.size W W') : Below w1.heap.size w1 W' := h.trans (k.mono h.size)

theorem size_drew (w : World) : w.drew.heap.size = w.heap.size := rfl

/-- A line of a route, read. -/
structure LnAt (w : World) (r : RL) (v0 v1 v2 : Value) : Prop where
  via : rowAt w v0 1 sC r.via
  set : rowAt w v1 2 wC r.set
  flank : rowAt w v2 2 wC r.flank
theorem LnAt.below {w w' : World} {r : RL} {v0 v1 v2 : Value} (h : LnAt w r v0 v1 v2) (hb : Below w.heap.size w w') : LnAt w' r v0 v1 v2 := ⟨h.via.below hb, h.set.below hb, h.flank.below hb⟩

theorem infoI : (Tryd.prog.info? 3).map (fun i => (i.zero, i.size, i.bytes)) = some (some (.int .i64 0), 1, 8) := by kernel_rfl
theorem one_int (a : Int) : ∀ u ∈ [Value.int .i64 a], u.oneCell' = true := by
  intro u hu
  rw [List.mem_singleton.1 hu]
  rfl

def BySaid : Prop := ∀ (L : Nat) (l : Lay) (r : RL) (vS vP vG v0 v1 v2 : Value) (w : World) (_ : w.cell? ⟨L, 0, none⟩ = some vS) (_ : w.cell? ⟨L, 1, none⟩ = some vP) (_ : w.cell? ⟨L, 2, none⟩ = some vG)
    (_ : rowAt w vS 1 sC l.sections) (_ : rowAt w vP 2 pC l.points) (_ : rowAt w vG 1 sC l.signals) (_ : LayOk l) (_ : LnAt w r v0 v1 v2) (_ : r.via.length ≤ 4294967296) (_ : r.set.length ≤ 4294967296) (_ : r.flank.length ≤ 4294967296),
    Calls Tryd.prog 63 #[.pointer (some ⟨L, 0, none⟩), .agg #[.string r.name, .string r.frm, .string r.to, v0, v1, v2]] w fun e w' => ∃ u0 u1 u2,
      e = .returned (.agg #[.string (byPlaces l r).name, .int .i64 (byPlaces l r).frm, .int .i64 (byPlaces l r).to, u0, u1, u2]) ∧ w'.ownsRow w.heap.size 3 1 u0 (byPlaces l r).path.length ((byPlaces l r).path.flatMap iC) ∧
      w'.ownsRow w.heap.size 60 2 u1 (byPlaces l r).points.length ((byPlaces l r).points.flatMap nC) ∧ w'.ownsRow w.heap.size 60 2 u2 (byPlaces l r).flank.length ((byPlaces l r).flank.flatMap nC) ∧ Below w.heap.size w w'

end Go.Proofs.YtgiaicmhnkhbnaaDoor
