/-
  DERIVED. GIVEN WITH THE SEED: THE CARDS: each row of YthmbpohebcnehaaDoorRows.lean that lists a variable, with what it lists TIED to the program's text (the seventh form; the later family's looks); each row that meets fmt, with fmt's text TOLD by the authors' own Lean function (tested against real Go, not proved from fmt's source: count such statements apart). THE CARD IS WHAT COUNTS. Prove the row's statement (the work); the ties are given (YthmbpohebcnehaaDoorTie.lean); close each card by the builder's one call (the guide's Derived/Test/ToyasCard.lean, 'card_holds'). Laid BY PROGRAM, IN A SANDBOX (cutbox-door.mjs). By AI agents, Wed Nov 11 2026. No macro, syntax, notation, axiom, sorry.
-/
import Derived.Test.YthmbpohebcnehaaDoorRows
import GoSem.ClaimSeven
namespace Go.Proofs.YthmbpohebcnehaaDoor
namespace Rows

/-- THE TIED CARD OF 'pointsmanlaw6.FieldPlays'. -/
def fieldPlaysCard : Claim7 := { stood := { row := fieldPlaysRow, standIns := [], harness := (true, "fdfd2f4475195ac8d5b55d0865b679df0aef0775c219611f4dcce91c0e504512"), looks := false }, kinds := [], alts := [], laidByText := true, laidKinds := [.data, .pinned], laidTests := true, laidLooks := .later }
def FieldPlaysCardSaid : Prop := Claim7.holds Tryd.pinned (.plain (OpenSpec.ofChange fieldPlaysSpec)) fieldPlaysCard

/-- THE TIED CARD OF 'pointsmanlaw6.FieldTrains'. -/
def fieldTrainsCard : Claim7 := { stood := { row := fieldTrainsRow, standIns := [], harness := (true, "fdfd2f4475195ac8d5b55d0865b679df0aef0775c219611f4dcce91c0e504512"), looks := false }, kinds := [], alts := [], laidByText := true, laidKinds := [.data, .pinned], laidTests := true, laidLooks := .later }
def FieldTrainsCardSaid : Prop := Claim7.holds Tryd.pinned (.plain (OpenSpec.ofChange fieldTrainsSpec)) fieldTrainsCard

/-- THE SECOND FORM's CARD OF 'pointsmanlaw6.FieldPlays'. -/
def fieldPlaysUptoCard : Claim7 := { stood := { row := fieldPlaysUptoRow, standIns := [], harness := (true, "fdfd2f4475195ac8d5b55d0865b679df0aef0775c219611f4dcce91c0e504512"), looks := false }, kinds := [], alts := [], laidByText := true, laidKinds := [.data, .pinned], laidTests := true, laidLooks := .later }
def FieldPlaysUptoCardSaid : Prop := Claim7.holds Tryd.pinned (.plain (OpenSpec.upto fieldPlaysSpec)) fieldPlaysUptoCard

/-- THE SECOND FORM's CARD OF 'pointsmanlaw6.FieldTrains'. -/
def fieldTrainsUptoCard : Claim7 := { stood := { row := fieldTrainsUptoRow, standIns := [], harness := (true, "fdfd2f4475195ac8d5b55d0865b679df0aef0775c219611f4dcce91c0e504512"), looks := false }, kinds := [], alts := [], laidByText := true, laidKinds := [.data, .pinned], laidTests := true, laidLooks := .later }
def FieldTrainsUptoCardSaid : Prop := Claim7.holds Tryd.pinned (.plain (OpenSpec.upto fieldTrainsSpec)) fieldTrainsUptoCard
end Rows
end Go.Proofs.YthmbpohebcnehaaDoor
