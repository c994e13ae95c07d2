/-
  The reference's needs: points that rise, each in the path, or not; by a contract.
-/
import Derived.Test.YtgiaicmhnkhbnaaDoorLySize
import Derived.Test.YtgiaicmhnkhbnaaDoorJoin3
import Derived.Deep.QuietTactic
namespace Go.Proofs.YtgiaicmhnkhbnaaDoor
open Go.RowKit

/-- The section of the point at a place. -/
def secAt (l : Lay) (p : Int) : Int := ((l.points[p.toNat]?).map (·.2)).getD 0
def prevB : Option Int → Int → Bool
  | none, _ => true
  | some q, p => decide (q < p)
def needOk (l : Lay) (path : List Int) (b : Bool) (pr : Option Int) (p : Int) : Bool :=
  decide (0 ≤ p ∧ p < l.points.length) && (prevB pr p && (inB path (secAt l p) == b))
def needsF (l : Lay) (path : List Int) (b : Bool) : Option Int → List (Int × Bool) → Bool
  | _, [] => true
  | pr, x :: ns => needOk l path b pr x.1 && needsF l path b (some x.1) ns
def prevOf (ns : List (Int × Bool)) (k : Nat) : Option Int := if k = 0 then none else (ns[k - 1]?).map (·.1)

end Go.Proofs.YtgiaicmhnkhbnaaDoor
