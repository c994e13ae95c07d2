/-
  DERIVED. GIVEN WITH THE SEED: THE CARDS: each row of YtnpfdnafbpdebaaDoorRows.lean that lists a variable, with what it lists TIED to the program's text (the seventh form; the later family's looks); each row that meets fmt, with fmt's text TOLD by the authors' own Lean function (tested against real Go, not proved from fmt's source: count such statements apart). THE CARD IS WHAT COUNTS. Prove the row's statement (the work); the ties are given (YtnpfdnafbpdebaaDoorTie.lean); close each card by the builder's one call (the guide's Derived/Test/ToyasCard.lean, 'card_holds'). Laid BY PROGRAM, IN A SANDBOX (cutbox-door.mjs). By AI agents, Wed Nov 11 2026. No macro, syntax, notation, axiom, sorry.
-/
import Derived.Test.YtnpfdnafbpdebaaDoorRows
import GoSem.ClaimSeven
namespace Go.Proofs.YtnpfdnafbpdebaaDoor
namespace Rows

/-- THE TIED CARD OF 'pointsmanlaw3.PlanPrints'. -/
def planPrintsCard : Claim7 := { stood := { row := planPrintsRow, standIns := [], harness := (true, "a7af9d784bbd126854c98b3c9e5f1bfea6aeb4304ee471eaf35d14391c0cb2dc"), looks := false }, kinds := [], alts := [], laidByText := true, laidKinds := [.data, .pinned], laidTests := true, laidLooks := .later }
def PlanPrintsCardSaid : Prop := Claim7.holds Tryd.pinned (.plain (OpenSpec.ofChange planPrintsSpec)) planPrintsCard

/-- THE TIED CARD OF 'pointsmanlaw4.TableTells'. -/
def tableTellsCard : Claim7 := { stood := { row := tableTellsRow, standIns := [], harness := (true, "a7af9d784bbd126854c98b3c9e5f1bfea6aeb4304ee471eaf35d14391c0cb2dc"), looks := false }, kinds := [], alts := [], laidByText := true, laidKinds := [.data, .pinned], laidTests := true, laidLooks := .later }
def TableTellsCardSaid : Prop := Claim7.holds Tryd.pinned (.plain (OpenSpec.ofChange tableTellsSpec)) tableTellsCard

/-- THE TIED CARD OF 'pointsmanlaw4.TableEntry'. -/
def tableEntryCard : Claim7 := { stood := { row := tableEntryRow, standIns := [], harness := (true, "a7af9d784bbd126854c98b3c9e5f1bfea6aeb4304ee471eaf35d14391c0cb2dc"), looks := false }, kinds := [], alts := [], laidByText := true, laidKinds := [.data, .pinned], laidTests := true, laidLooks := .later }
def TableEntryCardSaid : Prop := Claim7.holds Tryd.pinned (.plain (OpenSpec.ofChange tableEntrySpec)) tableEntryCard

/-- THE TIED CARD OF 'pointsmanlaw4.TableLess'. -/
def tableLessCard : Claim7 := { stood := { row := tableLessRow, standIns := [], harness := (true, "a7af9d784bbd126854c98b3c9e5f1bfea6aeb4304ee471eaf35d14391c0cb2dc"), looks := false }, kinds := [], alts := [], laidByText := true, laidKinds := [.data, .pinned], laidTests := true, laidLooks := .later }
def TableLessCardSaid : Prop := Claim7.holds Tryd.pinned (.plain (OpenSpec.ofChange tableLessSpec)) tableLessCard

/-- THE SECOND FORM's CARD OF 'pointsmanlaw3.PlanPrints'. -/
def planPrintsUptoCard : Claim7 := { stood := { row := planPrintsUptoRow, standIns := [], harness := (true, "a7af9d784bbd126854c98b3c9e5f1bfea6aeb4304ee471eaf35d14391c0cb2dc"), looks := false }, kinds := [], alts := [], laidByText := true, laidKinds := [.data, .pinned], laidTests := true, laidLooks := .later }
def PlanPrintsUptoCardSaid : Prop := Claim7.holds Tryd.pinned (.plain (OpenSpec.upto planPrintsSpec)) planPrintsUptoCard

/-- THE SECOND FORM's CARD OF 'pointsmanlaw4.TableTells'. -/
def tableTellsUptoCard : Claim7 := { stood := { row := tableTellsUptoRow, standIns := [], harness := (true, "a7af9d784bbd126854c98b3c9e5f1bfea6aeb4304ee471eaf35d14391c0cb2dc"), looks := false }, kinds := [], alts := [], laidByText := true, laidKinds := [.data, .pinned], laidTests := true, laidLooks := .later }
def TableTellsUptoCardSaid : Prop := Claim7.holds Tryd.pinned (.plain (OpenSpec.upto tableTellsSpec)) tableTellsUptoCard

/-- THE SECOND FORM's CARD OF 'pointsmanlaw4.TableEntry'. -/
def tableEntryUptoCard : Claim7 := { stood := { row := tableEntryUptoRow, standIns := [], harness := (true, "a7af9d784bbd126854c98b3c9e5f1bfea6aeb4304ee471eaf35d14391c0cb2dc"), looks := false }, kinds := [], alts := [], laidByText := true, laidKinds := [.data, .pinned], laidTests := true, laidLooks := .later }
def TableEntryUptoCardSaid : Prop := Claim7.holds Tryd.pinned (.plain (OpenSpec.upto tableEntrySpec)) tableEntryUptoCard

/-- THE SECOND FORM's CARD OF 'pointsmanlaw4.TableLess'. -/
def tableLessUptoCard : Claim7 := { stood := { row := tableLessUptoRow, standIns := [], harness := (true, "a7af9d784bbd126854c98b3c9e5f1bfea6aeb4304ee471eaf35d14391c0cb2dc"), looks := false }, kinds := [], alts := [], laidByText := true, laidKinds := [.data, .pinned], laidTests := true, laidLooks := .later }
def TableLessUptoCardSaid : Prop := Claim7.holds Tryd.pinned (.plain (OpenSpec.upto tableLessSpec)) tableLessUptoCard
end Rows
end Go.Proofs.YtnpfdnafbpdebaaDoor
