/-
  DERIVED. GIVEN WITH THE SEED: THE CARDS: each row of YtkeefaacaimicabDoorRows.lean that lists a variable, with what it lists TIED to the program's text (the seventh form; the later family's looks); each row that meets fmt, with fmt's text TOLD by the authors' own Lean function (tested against real Go, not proved from fmt's source: count such statements apart). THE CARD IS WHAT COUNTS. Prove the row's statement (the work); the ties are given (YtkeefaacaimicabDoorTie.lean); close each card by the builder's one call (the guide's Derived/Test/ToyasCard.lean, 'card_holds'). Laid BY PROGRAM, IN A SANDBOX (cutbox-door.mjs). By AI agents, Wed Nov 11 2026. No macro, syntax, notation, axiom, sorry.
-/
import Derived.Test.YtkeefaacaimicabDoorRows
import GoSem.ClaimSeven
namespace Go.Proofs.YtkeefaacaimicabDoor
namespace Rows

/-- THE TIED CARD OF 'pointsmanlaw4.TableSelf'. -/
def tableSelfCard : Claim7 := { stood := { row := tableSelfRow, standIns := [], harness := (true, "d94738b7c7ee3e28a764930fb6a93047d4a67ec2cbedb2ff5e6171956440fde1"), looks := false }, kinds := [], alts := [], laidByText := true, laidKinds := [.data, .pinned], laidTests := true, laidLooks := .later }
def TableSelfCardSaid : Prop := Claim7.holds Tryd.pinned (.plain (OpenSpec.ofChange tableSelfSpec)) tableSelfCard

/-- THE TIED CARD OF 'pointsmanlaw4.TableLess'. -/
def tableLessCard : Claim7 := { stood := { row := tableLessRow, standIns := [], harness := (true, "d94738b7c7ee3e28a764930fb6a93047d4a67ec2cbedb2ff5e6171956440fde1"), looks := false }, kinds := [], alts := [], laidByText := true, laidKinds := [.data, .pinned], laidTests := true, laidLooks := .later }
def TableLessCardSaid : Prop := Claim7.holds Tryd.pinned (.plain (OpenSpec.ofChange tableLessSpec)) tableLessCard

/-- THE SECOND FORM's CARD OF 'pointsmanlaw4.TableSelf'. -/
def tableSelfUptoCard : Claim7 := { stood := { row := tableSelfUptoRow, standIns := [], harness := (true, "d94738b7c7ee3e28a764930fb6a93047d4a67ec2cbedb2ff5e6171956440fde1"), looks := false }, kinds := [], alts := [], laidByText := true, laidKinds := [.data, .pinned], laidTests := true, laidLooks := .later }
def TableSelfUptoCardSaid : Prop := Claim7.holds Tryd.pinned (.plain (OpenSpec.upto tableSelfSpec)) tableSelfUptoCard

/-- THE SECOND FORM's CARD OF 'pointsmanlaw4.TableLess'. -/
def tableLessUptoCard : Claim7 := { stood := { row := tableLessUptoRow, standIns := [], harness := (true, "d94738b7c7ee3e28a764930fb6a93047d4a67ec2cbedb2ff5e6171956440fde1"), looks := false }, kinds := [], alts := [], laidByText := true, laidKinds := [.data, .pinned], laidTests := true, laidLooks := .later }
def TableLessUptoCardSaid : Prop := Claim7.holds Tryd.pinned (.plain (OpenSpec.upto tableLessSpec)) tableLessUptoCard
end Rows
end Go.Proofs.YtkeefaacaimicabDoor
