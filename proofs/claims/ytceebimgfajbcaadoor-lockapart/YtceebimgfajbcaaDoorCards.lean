/-
  DERIVED. GIVEN WITH THE SEED: THE CARDS: each row of YtceebimgfajbcaaDoorRows.lean that lists a variable, with what it lists TIED to the program's text (the seventh form; the later family's looks); each row that meets fmt, with fmt's text TOLD by the authors' own Lean function (tested against real Go, not proved from fmt's source: count such statements apart). THE CARD IS WHAT COUNTS. Prove the row's statement (the work); the ties are given (YtceebimgfajbcaaDoorTie.lean); close each card by the builder's one call (the guide's Derived/Test/ToyasCard.lean, 'card_holds'). Laid BY PROGRAM, IN A SANDBOX (cutbox-door.mjs). By AI agents, Wed Nov 11 2026. No macro, syntax, notation, axiom, sorry.
-/
import Derived.Test.YtceebimgfajbcaaDoorRows
import GoSem.ClaimSeven
namespace Go.Proofs.YtceebimgfajbcaaDoor
namespace Rows

/-- THE TIED CARD OF 'pointsmanlaw3.PlanPrints'. -/
def planPrintsCard : Claim7 := { stood := { row := planPrintsRow, standIns := [], harness := (true, "a46bc35f43a1d7f201337bf030149f52b395acb2b4f1d0dfcac9263ae2725f75"), looks := false }, kinds := [], alts := [], laidByText := true, laidKinds := [.data, .pinned], laidTests := true, laidLooks := .later }
def PlanPrintsCardSaid : Prop := Claim7.holds Tryd.pinned (.plain (OpenSpec.ofChange planPrintsSpec)) planPrintsCard

/-- THE TIED CARD OF 'pointsmanlaw5.LockApart'. -/
def lockApartCard : Claim7 := { stood := { row := lockApartRow, standIns := [], harness := (true, "a46bc35f43a1d7f201337bf030149f52b395acb2b4f1d0dfcac9263ae2725f75"), looks := false }, kinds := [], alts := [], laidByText := true, laidKinds := [.data, .pinned], laidTests := true, laidLooks := .later }
def LockApartCardSaid : Prop := Claim7.holds Tryd.pinned (.plain (OpenSpec.ofChange lockApartSpec)) lockApartCard

/-- THE SECOND FORM's CARD OF 'pointsmanlaw3.PlanPrints'. -/
def planPrintsUptoCard : Claim7 := { stood := { row := planPrintsUptoRow, standIns := [], harness := (true, "a46bc35f43a1d7f201337bf030149f52b395acb2b4f1d0dfcac9263ae2725f75"), looks := false }, kinds := [], alts := [], laidByText := true, laidKinds := [.data, .pinned], laidTests := true, laidLooks := .later }
def PlanPrintsUptoCardSaid : Prop := Claim7.holds Tryd.pinned (.plain (OpenSpec.upto planPrintsSpec)) planPrintsUptoCard

/-- THE SECOND FORM's CARD OF 'pointsmanlaw5.LockApart'. -/
def lockApartUptoCard : Claim7 := { stood := { row := lockApartUptoRow, standIns := [], harness := (true, "a46bc35f43a1d7f201337bf030149f52b395acb2b4f1d0dfcac9263ae2725f75"), looks := false }, kinds := [], alts := [], laidByText := true, laidKinds := [.data, .pinned], laidTests := true, laidLooks := .later }
def LockApartUptoCardSaid : Prop := Claim7.holds Tryd.pinned (.plain (OpenSpec.upto lockApartSpec)) lockApartUptoCard
end Rows
end Go.Proofs.YtceebimgfajbcaaDoor
