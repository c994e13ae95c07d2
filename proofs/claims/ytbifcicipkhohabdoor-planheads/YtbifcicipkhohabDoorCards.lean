/-
  DERIVED. GIVEN WITH THE SEED: THE CARDS: each row of YtbifcicipkhohabDoorRows.lean that lists a variable, with what it lists TIED to the program's text (the seventh form; the later family's looks); each row that meets fmt, with fmt's text TOLD by the authors' own Lean function (tested against real Go, not proved from fmt's source: count such statements apart). THE CARD IS WHAT COUNTS. Prove the row's statement (the work); the ties are given (YtbifcicipkhohabDoorTie.lean); close each card by the builder's one call (the guide's Derived/Test/ToyasCard.lean, 'card_holds'). Laid BY PROGRAM, IN A SANDBOX (cutbox-door.mjs). By AI agents, Wed Nov 11 2026. No macro, syntax, notation, axiom, sorry.
-/
import Derived.Test.YtbifcicipkhohabDoorRows
import GoSem.ClaimSeven
namespace Go.Proofs.YtbifcicipkhohabDoor
namespace Rows

/-- THE TIED CARD OF 'pointsmanlaw3.PlanHeads'. -/
def planHeadsCard : Claim7 := { stood := { row := planHeadsRow, standIns := [], harness := (true, "36ce4ac5e54532864ac0614908eaee7ed3101f8a6d47ecfe4fd07775d7565e83"), looks := false }, kinds := [], alts := [], laidByText := true, laidKinds := [.data, .pinned], laidTests := true, laidLooks := .later }
def PlanHeadsCardSaid : Prop := Claim7.holds Tryd.pinned (.plain (OpenSpec.ofChange planHeadsSpec)) planHeadsCard

/-- THE SECOND FORM's CARD OF 'pointsmanlaw3.PlanHeads'. -/
def planHeadsUptoCard : Claim7 := { stood := { row := planHeadsUptoRow, standIns := [], harness := (true, "36ce4ac5e54532864ac0614908eaee7ed3101f8a6d47ecfe4fd07775d7565e83"), looks := false }, kinds := [], alts := [], laidByText := true, laidKinds := [.data, .pinned], laidTests := true, laidLooks := .later }
def PlanHeadsUptoCardSaid : Prop := Claim7.holds Tryd.pinned (.plain (OpenSpec.upto planHeadsSpec)) planHeadsUptoCard
end Rows
end Go.Proofs.YtbifcicipkhohabDoor
