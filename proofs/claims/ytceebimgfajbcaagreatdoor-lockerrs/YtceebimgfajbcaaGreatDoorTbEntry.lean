/-
  Package table: the routes from a signal, by a contract.
-/
import Derived.Test.YtceebimgfajbcaaGreatDoorJoin4
namespace Go.Proofs.YtceebimgfajbcaaGreatDoor
open Go.RowKit

/-- The routes from a signal. -/
def entF (sg : Int) : List RtV → Nat → List Int
  | [], _ => []
  | x :: xs, k => if x.1.frm = sg then (k : Int) :: entF sg xs (k + 1) else entF sg xs (k + 1)

end Go.Proofs.YtceebimgfajbcaaGreatDoor
