/-
  No cell of these rows narrows 'for every input' (looked for: loops, veiled, ifaces, maps, wideKeys, modest, calm, conditions, laid).
  DERIVED. THE GIVEN ROWS OF THIS SEAT. 4 by the template 'for every input the law returns true; each argument reads behind the call as it read before'; 0 by the template 'total and deterministic' (their statements: YtmnhlnhocnchpabTotals.lean).
  GIVEN WITH THE SEED: the statements are not yours to turn. If you find one false, say at which input.
  Laid BY PROGRAM, IN A SANDBOX (cutbox-rows.mjs): the forced cells as the released guide's own fill.sh prints them over the translation edf4975799d4a154… (all of the seat's roots in one cut). By AI agents, Wed Nov 11 2026. No macro, syntax, notation, axiom, sorry.
-/
import Derived.Test.YtmnhlnhocnchpabChecked
import GoSem.Claim
import GoSem.ClaimJoined
import GoSem.ClaimMapViews
import Derived.JoinedTies
import Derived.KernelRfl
namespace Go.Proofs.Ytmnhlnhocnchpab
/- THE CELL 'sum', in the pinned program and in every row, IS THE sha256 OF THE DUMP (.gsa) THAT YtmnhlnhocnchpabProg.lean LOADS. Nothing in Lean hashes anything: it is a label: what it is worth is what the hold of that sum in a sandbox is worth. -/
noncomputable def Try.pinned : Pinned := { name := "ytmnhlnhocnchpab", sum := "edf4975799d4a15412ad7b0f63d9fd2b839f66a093fd6a46a39238ebcbf48911", checked := Try.checked }
namespace Rows
def none {H : Type} : Left H := { results := [], args := [] }

/-- 'pointsmanlaw10.RelayBusy': WHATEVER THE INPUT: true; the input reads as it did. -/
def relayBusySpec : ChangeSpec := { name := "relayBusy", fn := fun _ => fun
  | [d] => { results := [.lit (.bool true)], args := [d] }
  | _ => none }
def relayBusyRow : OpenClaim := { program := "ytmnhlnhocnchpab", sum := "edf4975799d4a15412ad7b0f63d9fd2b839f66a093fd6a46a39238ebcbf48911", func := "pointsman/pointsmanlaw10.RelayBusy", spec := "relayBusy", apart := false }
def RelayBusySaid : Prop := relayBusyRow.holds Try.pinned (OpenSpec.ofChange relayBusySpec)

/-- ITS FALSE NEIGHBOUR: 'it returns false'. Refute it at one input. -/
def relayBusyWrong : ChangeSpec := { name := "relayBusy", fn := fun _ => fun
  | [d] => { results := [.lit (.bool false)], args := [d] }
  | _ => none }
def RelayBusyWrongFalsely : Prop := relayBusyRow.holds Try.pinned (OpenSpec.ofChange relayBusyWrong)

/-- 'pointsmanlaw10.RelayRises': WHATEVER THE INPUT: true; the input reads as it did. -/
def relayRisesSpec : ChangeSpec := { name := "relayRises", fn := fun _ => fun
  | [d] => { results := [.lit (.bool true)], args := [d] }
  | _ => none }
def relayRisesRow : OpenClaim := { program := "ytmnhlnhocnchpab", sum := "edf4975799d4a15412ad7b0f63d9fd2b839f66a093fd6a46a39238ebcbf48911", func := "pointsman/pointsmanlaw10.RelayRises", spec := "relayRises", apart := false }
def RelayRisesSaid : Prop := relayRisesRow.holds Try.pinned (OpenSpec.ofChange relayRisesSpec)

/-- ITS FALSE NEIGHBOUR: 'it returns false'. Refute it at one input. -/
def relayRisesWrong : ChangeSpec := { name := "relayRises", fn := fun _ => fun
  | [d] => { results := [.lit (.bool false)], args := [d] }
  | _ => none }
def RelayRisesWrongFalsely : Prop := relayRisesRow.holds Try.pinned (OpenSpec.ofChange relayRisesWrong)

/-- 'pointsmanlaw10.RelayOld': WHATEVER THE INPUT: true; the input reads as it did. -/
def relayOldSpec : ChangeSpec := { name := "relayOld", fn := fun _ => fun
  | [d1, d2] => { results := [.lit (.bool true)], args := [d1, d2] }
  | _ => none }
def relayOldRow : OpenClaim := { program := "ytmnhlnhocnchpab", sum := "edf4975799d4a15412ad7b0f63d9fd2b839f66a093fd6a46a39238ebcbf48911", func := "pointsman/pointsmanlaw10.RelayOld", spec := "relayOld", apart := false }
def RelayOldSaid : Prop := relayOldRow.holds Try.pinned (OpenSpec.ofChange relayOldSpec)

/-- ITS FALSE NEIGHBOUR: 'it returns false'. Refute it at one input. -/
def relayOldWrong : ChangeSpec := { name := "relayOld", fn := fun _ => fun
  | [d1, d2] => { results := [.lit (.bool false)], args := [d1, d2] }
  | _ => none }
def RelayOldWrongFalsely : Prop := relayOldRow.holds Try.pinned (OpenSpec.ofChange relayOldWrong)

/-- 'pointsmanlaw10.RelayTurns': WHATEVER THE INPUT: true; the input reads as it did. -/
def relayTurnsSpec : ChangeSpec := { name := "relayTurns", fn := fun _ => fun
  | [d] => { results := [.lit (.bool true)], args := [d] }
  | _ => none }
def relayTurnsRow : OpenClaim := { program := "ytmnhlnhocnchpab", sum := "edf4975799d4a15412ad7b0f63d9fd2b839f66a093fd6a46a39238ebcbf48911", func := "pointsman/pointsmanlaw10.RelayTurns", spec := "relayTurns", apart := false }
def RelayTurnsSaid : Prop := relayTurnsRow.holds Try.pinned (OpenSpec.ofChange relayTurnsSpec)

/-- ITS FALSE NEIGHBOUR: 'it returns false'. Refute it at one input. -/
def relayTurnsWrong : ChangeSpec := { name := "relayTurns", fn := fun _ => fun
  | [d] => { results := [.lit (.bool false)], args := [d] }
  | _ => none }
def RelayTurnsWrongFalsely : Prop := relayTurnsRow.holds Try.pinned (OpenSpec.ofChange relayTurnsWrong)

/- THE SECOND FORM. 'bulk': how many values and letters a reading holds, each counted each time it is reached (what is shared counts as often as it is met; a slice's spare places count too). A statement '..UptoSaid' is the law's where the arguments, and the package variables that the reading takes, are together of bulk at most 1048576: NARROWER than '..Said'. Prove '..Said' where nothing that the law and all that it calls make is longer than what came in: it says more and counts as full. Else prove '..UptoSaid'. A law counts once. -/
mutual
def uptoBulk {H : Type} : DataW H → Nat
  | .lit (.string bytes) => bytes.length + 1
  | .lit _ => 1
  | .nil => 1
  | .ptr d => uptoBulk d + 1
  | .slice elems spare => uptoBulkAll elems + uptoBulkAll spare + 1
  | .agg parts => uptoBulkAll parts + 1
  | .iface _ d => uptoBulk d + 1
  | .map entries => uptoBulkEntries entries + 1
  | .held _ => 1
def uptoBulkAll {H : Type} : List (DataW H) → Nat
  | [] => 0
  | d :: r => uptoBulk d + uptoBulkAll r
def uptoBulkEntries {H : Type} : List (Lit × DataW H) → Nat
  | [] => 0
  | x :: r => uptoBulkEntry x + uptoBulkEntries r
def uptoBulkEntry {H : Type} : Lit × DataW H → Nat
  | (.string bytes, d) => bytes.length + uptoBulk d + 1
  | (_, d) => uptoBulk d + 1
 end
def uptoSmall : (H : Type) → List (DataW H) → Bool := fun _ ds => decide (uptoBulkAll ds ≤ 1048576)
def OpenSpec.upto (s : _root_.Go.ChangeSpec) : _root_.Go.OpenSpec := { _root_.Go.OpenSpec.ofChange s with cond := some uptoSmall }

/-- 'pointsmanlaw10.RelayBusy', WHERE WHAT IT READS IS OF BULK AT MOST 1048576: true; the input reads as it did. -/
def relayBusyUptoRow : OpenClaim := { program := "ytmnhlnhocnchpab", sum := "edf4975799d4a15412ad7b0f63d9fd2b839f66a093fd6a46a39238ebcbf48911", func := "pointsman/pointsmanlaw10.RelayBusy", spec := "relayBusy", apart := false, narrowed := true }
def RelayBusyUptoSaid : Prop := relayBusyUptoRow.holds Try.pinned (OpenSpec.upto relayBusySpec)

/-- 'pointsmanlaw10.RelayRises', WHERE WHAT IT READS IS OF BULK AT MOST 1048576: true; the input reads as it did. -/
def relayRisesUptoRow : OpenClaim := { program := "ytmnhlnhocnchpab", sum := "edf4975799d4a15412ad7b0f63d9fd2b839f66a093fd6a46a39238ebcbf48911", func := "pointsman/pointsmanlaw10.RelayRises", spec := "relayRises", apart := false, narrowed := true }
def RelayRisesUptoSaid : Prop := relayRisesUptoRow.holds Try.pinned (OpenSpec.upto relayRisesSpec)

/-- 'pointsmanlaw10.RelayOld', WHERE WHAT IT READS IS OF BULK AT MOST 1048576: true; the input reads as it did. -/
def relayOldUptoRow : OpenClaim := { program := "ytmnhlnhocnchpab", sum := "edf4975799d4a15412ad7b0f63d9fd2b839f66a093fd6a46a39238ebcbf48911", func := "pointsman/pointsmanlaw10.RelayOld", spec := "relayOld", apart := false, narrowed := true }
def RelayOldUptoSaid : Prop := relayOldUptoRow.holds Try.pinned (OpenSpec.upto relayOldSpec)

/-- 'pointsmanlaw10.RelayTurns', WHERE WHAT IT READS IS OF BULK AT MOST 1048576: true; the input reads as it did. -/
def relayTurnsUptoRow : OpenClaim := { program := "ytmnhlnhocnchpab", sum := "edf4975799d4a15412ad7b0f63d9fd2b839f66a093fd6a46a39238ebcbf48911", func := "pointsman/pointsmanlaw10.RelayTurns", spec := "relayTurns", apart := false, narrowed := true }
def RelayTurnsUptoSaid : Prop := relayTurnsUptoRow.holds Try.pinned (OpenSpec.upto relayTurnsSpec)

end Rows
end Go.Proofs.Ytmnhlnhocnchpab
