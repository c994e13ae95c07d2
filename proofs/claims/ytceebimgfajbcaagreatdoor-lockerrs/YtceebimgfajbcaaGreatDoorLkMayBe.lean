/-
  Package lock: how one route may stand (isWaiting, mayBe), by contracts.
-/
import Derived.Test.YtceebimgfajbcaaGreatDoorLkStep
namespace Go.Proofs.YtceebimgfajbcaaGreatDoor
open Go.RowKit

def waitB (s : St) (most : Int) : Bool := decide (s.2.2.1 = 0) && !s.2.2.2 && decide (0 ≤ s.2.1) && decide (s.2.1 ≤ most)

theorem waitB_eq (m t g : Int) (b : Bool) (most : Int) : waitB (m, t, g, b) most = decide ((g, b) = (0, false) ∧ 0 ≤ t ∧ t ≤ most) := by
  rw [waitB, Bool.eq_iff_iff]
  simp [and_assoc]

end Go.Proofs.YtceebimgfajbcaaGreatDoor
