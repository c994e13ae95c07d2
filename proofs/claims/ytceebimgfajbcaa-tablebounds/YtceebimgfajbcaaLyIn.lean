/-
  Plain: what a layout that may be is, as the reference asks it. The reference's In, by a contract.
-/
import Derived.Test.YtceebimgfajbcaaTbBase
import Derived.Deep.LoopGhost
namespace Go.Proofs.Ytceebimgfajbcaa
open Go.RowKit

def inB (l : List Int) (n : Int) : Bool := l.any fun x => decide (x = n)
theorem inB_cons (x : Int) (l : List Int) (n : Int) : inB (x :: l) n = (decide (x = n) || inB l n) := rfl

end Go.Proofs.Ytceebimgfajbcaa
