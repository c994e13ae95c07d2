/-
  DERIVED. GIVEN WITH THE SEED: THE CARDS: each row of YtfgkkhcoidegdabDoorRows.lean that lists a variable, with what it lists TIED to the program's text (the seventh form; the later family's looks); each row that meets fmt, with fmt's text TOLD by the authors' own Lean function (tested against real Go, not proved from fmt's source: count such statements apart). THE CARD IS WHAT COUNTS. Prove the row's statement (the work); the ties are given (YtfgkkhcoidegdabDoorTie.lean); close each card by the builder's one call (the guide's Derived/Test/ToyasCard.lean, 'card_holds'). Laid BY PROGRAM, IN A SANDBOX (cutbox-door.mjs). By AI agents, Wed Nov 11 2026. No macro, syntax, notation, axiom, sorry.
-/
import Derived.Test.YtfgkkhcoidegdabDoorRows
import GoSem.ClaimSeven
namespace Go.Proofs.YtfgkkhcoidegdabDoor
namespace Rows

/-- THE TIED CARD OF 'pointsmanlaw5.LockBusy'. -/
def lockBusyCard : Claim7 := { stood := { row := lockBusyRow, standIns := [], harness := (true, "81c586c2e9a5df7e98da384542eb0fdf301c49b14cf6b47623a3bcac3ec101ac"), looks := false }, kinds := [], alts := [], laidByText := true, laidKinds := [.data, .pinned], laidTests := true, laidLooks := .later }
def LockBusyCardSaid : Prop := Claim7.holds Tryd.pinned (.plain (OpenSpec.ofChange lockBusySpec)) lockBusyCard

/-- THE TIED CARD OF 'pointsmanlaw5.LockSetsBack'. -/
def lockSetsBackCard : Claim7 := { stood := { row := lockSetsBackRow, standIns := [], harness := (true, "81c586c2e9a5df7e98da384542eb0fdf301c49b14cf6b47623a3bcac3ec101ac"), looks := false }, kinds := [], alts := [], laidByText := true, laidKinds := [.data, .pinned], laidTests := true, laidLooks := .later }
def LockSetsBackCardSaid : Prop := Claim7.holds Tryd.pinned (.plain (OpenSpec.ofChange lockSetsBackSpec)) lockSetsBackCard

/-- THE TIED CARD OF 'pointsmanlaw5.LockIn'. -/
def lockInCard : Claim7 := { stood := { row := lockInRow, standIns := [], harness := (true, "81c586c2e9a5df7e98da384542eb0fdf301c49b14cf6b47623a3bcac3ec101ac"), looks := false }, kinds := [], alts := [], laidByText := true, laidKinds := [.data, .pinned], laidTests := true, laidLooks := .later }
def LockInCardSaid : Prop := Claim7.holds Tryd.pinned (.plain (OpenSpec.ofChange lockInSpec)) lockInCard

/-- THE SECOND FORM's CARD OF 'pointsmanlaw5.LockBusy'. -/
def lockBusyUptoCard : Claim7 := { stood := { row := lockBusyUptoRow, standIns := [], harness := (true, "81c586c2e9a5df7e98da384542eb0fdf301c49b14cf6b47623a3bcac3ec101ac"), looks := false }, kinds := [], alts := [], laidByText := true, laidKinds := [.data, .pinned], laidTests := true, laidLooks := .later }
def LockBusyUptoCardSaid : Prop := Claim7.holds Tryd.pinned (.plain (OpenSpec.upto lockBusySpec)) lockBusyUptoCard

/-- THE SECOND FORM's CARD OF 'pointsmanlaw5.LockSetsBack'. -/
def lockSetsBackUptoCard : Claim7 := { stood := { row := lockSetsBackUptoRow, standIns := [], harness := (true, "81c586c2e9a5df7e98da384542eb0fdf301c49b14cf6b47623a3bcac3ec101ac"), looks := false }, kinds := [], alts := [], laidByText := true, laidKinds := [.data, .pinned], laidTests := true, laidLooks := .later }
def LockSetsBackUptoCardSaid : Prop := Claim7.holds Tryd.pinned (.plain (OpenSpec.upto lockSetsBackSpec)) lockSetsBackUptoCard

/-- THE SECOND FORM's CARD OF 'pointsmanlaw5.LockIn'. -/
def lockInUptoCard : Claim7 := { stood := { row := lockInUptoRow, standIns := [], harness := (true, "81c586c2e9a5df7e98da384542eb0fdf301c49b14cf6b47623a3bcac3ec101ac"), looks := false }, kinds := [], alts := [], laidByText := true, laidKinds := [.data, .pinned], laidTests := true, laidLooks := .later }
def LockInUptoCardSaid : Prop := Claim7.holds Tryd.pinned (.plain (OpenSpec.upto lockInSpec)) lockInUptoCard
end Rows
end Go.Proofs.YtfgkkhcoidegdabDoor
