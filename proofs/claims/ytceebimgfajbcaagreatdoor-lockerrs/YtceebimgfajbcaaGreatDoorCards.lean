/-
  DERIVED. GIVEN WITH THE SEED: THE CARDS: each row of YtceebimgfajbcaaGreatDoorRows.lean that lists a variable, with what it lists TIED to the program's text (the seventh form; the later family's looks); each row that meets fmt, with fmt's text TOLD by the authors' own Lean function (tested against real Go, not proved from fmt's source: count such statements apart). THE CARD IS WHAT COUNTS. Prove the row's statement (the work); the ties are given (YtceebimgfajbcaaGreatDoorTie.lean); close each card by the builder's one call (the guide's Derived/Test/ToyasCard.lean, 'card_holds'). Laid BY PROGRAM, IN A SANDBOX (cutbox-door.mjs). By AI agents, Wed Nov 11 2026. No macro, syntax, notation, axiom, sorry.
-/
import Derived.Test.YtceebimgfajbcaaGreatDoorRows
import GoSem.ClaimSeven
namespace Go.Proofs.YtceebimgfajbcaaGreatDoor
namespace Rows

/-- THE TIED CARD OF 'pointsmanlaw5.LockTells'. -/
def lockTellsCard : Claim7 := { stood := { row := lockTellsRow, standIns := [], harness := (true, "2d739c0a644ee8367b9deb271f47e58dd8e6dc34ec150ced6b7137a42f02404a"), looks := false }, kinds := [], alts := [], laidByText := true, laidKinds := [.data, .pinned], laidTests := true, laidLooks := .later }
def LockTellsCardSaid : Prop := Claim7.holds Tryz.pinned (.plain (OpenSpec.ofChange lockTellsSpec)) lockTellsCard

/-- THE TIED CARD OF 'pointsmanlaw5.LockErrs'. -/
def lockErrsCard : Claim7 := { stood := { row := lockErrsRow, standIns := [], harness := (true, "2d739c0a644ee8367b9deb271f47e58dd8e6dc34ec150ced6b7137a42f02404a"), looks := false }, kinds := [], alts := [], laidByText := true, laidKinds := [.data, .pinned], laidTests := true, laidLooks := .later }
def LockErrsCardSaid : Prop := Claim7.holds Tryz.pinned (.plain (OpenSpec.ofChange lockErrsSpec)) lockErrsCard

/-- THE SECOND FORM's CARD OF 'pointsmanlaw5.LockTells'. -/
def lockTellsUptoCard : Claim7 := { stood := { row := lockTellsUptoRow, standIns := [], harness := (true, "2d739c0a644ee8367b9deb271f47e58dd8e6dc34ec150ced6b7137a42f02404a"), looks := false }, kinds := [], alts := [], laidByText := true, laidKinds := [.data, .pinned], laidTests := true, laidLooks := .later }
def LockTellsUptoCardSaid : Prop := Claim7.holds Tryz.pinned (.plain (OpenSpec.upto lockTellsSpec)) lockTellsUptoCard

/-- THE SECOND FORM's CARD OF 'pointsmanlaw5.LockErrs'. -/
def lockErrsUptoCard : Claim7 := { stood := { row := lockErrsUptoRow, standIns := [], harness := (true, "2d739c0a644ee8367b9deb271f47e58dd8e6dc34ec150ced6b7137a42f02404a"), looks := false }, kinds := [], alts := [], laidByText := true, laidKinds := [.data, .pinned], laidTests := true, laidLooks := .later }
def LockErrsUptoCardSaid : Prop := Claim7.holds Tryz.pinned (.plain (OpenSpec.upto lockErrsSpec)) lockErrsUptoCard
end Rows
end Go.Proofs.YtceebimgfajbcaaGreatDoor
