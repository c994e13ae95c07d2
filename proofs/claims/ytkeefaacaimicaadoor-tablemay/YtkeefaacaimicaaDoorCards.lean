/-
  DERIVED. GIVEN WITH THE SEED: THE CARDS: each row of YtkeefaacaimicaaDoorRows.lean that lists a variable, with what it lists TIED to the program's text (the seventh form; the later family's looks); each row that meets fmt, with fmt's text TOLD by the authors' own Lean function (tested against real Go, not proved from fmt's source: count such statements apart). THE CARD IS WHAT COUNTS. Prove the row's statement (the work); the ties are given (YtkeefaacaimicaaDoorTie.lean); close each card by the builder's one call (the guide's Derived/Test/ToyasCard.lean, 'card_holds'). Laid BY PROGRAM, IN A SANDBOX (cutbox-door.mjs). By AI agents, Wed Nov 11 2026. No macro, syntax, notation, axiom, sorry.
-/
import Derived.Test.YtkeefaacaimicaaDoorRows
import GoSem.ClaimSeven
namespace Go.Proofs.YtkeefaacaimicaaDoor
namespace Rows

/-- THE TIED CARD OF 'pointsmanlaw4.TableMay'. -/
def tableMayCard : Claim7 := { stood := { row := tableMayRow, standIns := [], harness := (true, "4da3e7d893c0c626835ffbaf70e9d86d0616783313e6306a54ec058753db6e18"), looks := false }, kinds := [], alts := [], laidByText := true, laidKinds := [.data, .pinned], laidTests := true, laidLooks := .later }
def TableMayCardSaid : Prop := Claim7.holds Tryd.pinned (.plain (OpenSpec.ofChange tableMaySpec)) tableMayCard

/-- THE TIED CARD OF 'pointsmanlaw4.TableTells'. -/
def tableTellsCard : Claim7 := { stood := { row := tableTellsRow, standIns := [], harness := (true, "4da3e7d893c0c626835ffbaf70e9d86d0616783313e6306a54ec058753db6e18"), looks := false }, kinds := [], alts := [], laidByText := true, laidKinds := [.data, .pinned], laidTests := true, laidLooks := .later }
def TableTellsCardSaid : Prop := Claim7.holds Tryd.pinned (.plain (OpenSpec.ofChange tableTellsSpec)) tableTellsCard

/-- THE TIED CARD OF 'pointsmanlaw4.TableEntry'. -/
def tableEntryCard : Claim7 := { stood := { row := tableEntryRow, standIns := [], harness := (true, "4da3e7d893c0c626835ffbaf70e9d86d0616783313e6306a54ec058753db6e18"), looks := false }, kinds := [], alts := [], laidByText := true, laidKinds := [.data, .pinned], laidTests := true, laidLooks := .later }
def TableEntryCardSaid : Prop := Claim7.holds Tryd.pinned (.plain (OpenSpec.ofChange tableEntrySpec)) tableEntryCard

/-- THE SECOND FORM's CARD OF 'pointsmanlaw4.TableMay'. -/
def tableMayUptoCard : Claim7 := { stood := { row := tableMayUptoRow, standIns := [], harness := (true, "4da3e7d893c0c626835ffbaf70e9d86d0616783313e6306a54ec058753db6e18"), looks := false }, kinds := [], alts := [], laidByText := true, laidKinds := [.data, .pinned], laidTests := true, laidLooks := .later }
def TableMayUptoCardSaid : Prop := Claim7.holds Tryd.pinned (.plain (OpenSpec.upto tableMaySpec)) tableMayUptoCard

/-- THE SECOND FORM's CARD OF 'pointsmanlaw4.TableTells'. -/
def tableTellsUptoCard : Claim7 := { stood := { row := tableTellsUptoRow, standIns := [], harness := (true, "4da3e7d893c0c626835ffbaf70e9d86d0616783313e6306a54ec058753db6e18"), looks := false }, kinds := [], alts := [], laidByText := true, laidKinds := [.data, .pinned], laidTests := true, laidLooks := .later }
def TableTellsUptoCardSaid : Prop := Claim7.holds Tryd.pinned (.plain (OpenSpec.upto tableTellsSpec)) tableTellsUptoCard

/-- THE SECOND FORM's CARD OF 'pointsmanlaw4.TableEntry'. -/
def tableEntryUptoCard : Claim7 := { stood := { row := tableEntryUptoRow, standIns := [], harness := (true, "4da3e7d893c0c626835ffbaf70e9d86d0616783313e6306a54ec058753db6e18"), looks := false }, kinds := [], alts := [], laidByText := true, laidKinds := [.data, .pinned], laidTests := true, laidLooks := .later }
def TableEntryUptoCardSaid : Prop := Claim7.holds Tryd.pinned (.plain (OpenSpec.upto tableEntrySpec)) tableEntryUptoCard
end Rows
end Go.Proofs.YtkeefaacaimicaaDoor
