/-
  No cell of these rows narrows 'for every input' (looked for: loops, veiled, ifaces, maps, wideKeys, modest, calm, conditions, laid).
  DERIVED. THE GIVEN ROWS OF THIS SEAT. 3 by the template 'for every input the law returns true; each argument reads behind the call as it read before'; 0 by the template 'total and deterministic' (their statements: YtgacnebihkofcabTotals.lean).
  GIVEN WITH THE SEED: the statements are not yours to turn. If you find one false, say at which input.
  Laid BY PROGRAM, IN A SANDBOX (cutbox-rows.mjs): the forced cells as the released guide's own fill.sh prints them over the translation 45452695b814cb07… (all of the seat's roots in one cut). By AI agents, Wed Nov 11 2026. No macro, syntax, notation, axiom, sorry.
-/
import Derived.Test.YtgacnebihkofcabChecked
import GoSem.Claim
import GoSem.ClaimJoined
import GoSem.ClaimMapViews
import Derived.JoinedTies
import Derived.KernelRfl
namespace Go.Proofs.Ytgacnebihkofcab
/- THE CELL 'sum', in the pinned program and in every row, IS THE sha256 OF THE DUMP (.gsa) THAT YtgacnebihkofcabProg.lean LOADS. Nothing in Lean hashes anything: it is a label: what it is worth is what the hold of that sum in a sandbox is worth. -/
noncomputable def Try.pinned : Pinned := { name := "ytgacnebihkofcab", sum := "45452695b814cb07d64b2138ff189b6cb786dc0585645373d5e2bd582c0b9ade", checked := Try.checked }
namespace Rows
def none {H : Type} : Left H := { results := [], args := [] }

/-- 'pointsmanlaw5.LockCalls': WHATEVER THE INPUT: true; the input reads as it did. -/
def lockCallsSpec : ChangeSpec := { name := "lockCalls", fn := fun _ => fun
  | [d1, d2] => { results := [.lit (.bool true)], args := [d1, d2] }
  | _ => none }
def lockCallsRow : OpenClaim := { program := "ytgacnebihkofcab", sum := "45452695b814cb07d64b2138ff189b6cb786dc0585645373d5e2bd582c0b9ade", func := "pointsman/pointsmanlaw5.LockCalls", spec := "lockCalls", unfollowed := true, recurses := true, apart := false }
def LockCallsSaid : Prop := lockCallsRow.holds Try.pinned (OpenSpec.ofChange lockCallsSpec)

/-- ITS FALSE NEIGHBOUR: 'it returns false'. Refute it at one input. -/
def lockCallsWrong : ChangeSpec := { name := "lockCalls", fn := fun _ => fun
  | [d1, d2] => { results := [.lit (.bool false)], args := [d1, d2] }
  | _ => none }
def LockCallsWrongFalsely : Prop := lockCallsRow.holds Try.pinned (OpenSpec.ofChange lockCallsWrong)

/-- 'pointsmanlaw5.LockOfNothing': WHATEVER THE INPUT: true; the input reads as it did. -/
def lockOfNothingSpec : ChangeSpec := { name := "lockOfNothing", fn := fun _ => fun
  | [d] => { results := [.lit (.bool true)], args := [d] }
  | _ => none }
def lockOfNothingRow : OpenClaim := { program := "ytgacnebihkofcab", sum := "45452695b814cb07d64b2138ff189b6cb786dc0585645373d5e2bd582c0b9ade", func := "pointsman/pointsmanlaw5.LockOfNothing", spec := "lockOfNothing", unfollowed := true, recurses := true, apart := false }
def LockOfNothingSaid : Prop := lockOfNothingRow.holds Try.pinned (OpenSpec.ofChange lockOfNothingSpec)

/-- ITS FALSE NEIGHBOUR: 'it returns false'. Refute it at one input. -/
def lockOfNothingWrong : ChangeSpec := { name := "lockOfNothing", fn := fun _ => fun
  | [d] => { results := [.lit (.bool false)], args := [d] }
  | _ => none }
def LockOfNothingWrongFalsely : Prop := lockOfNothingRow.holds Try.pinned (OpenSpec.ofChange lockOfNothingWrong)

/-- 'pointsmanlaw5.LockDanger': WHATEVER THE INPUT: true; the input reads as it did. -/
def lockDangerSpec : ChangeSpec := { name := "lockDanger", fn := fun _ => fun
  | [d] => { results := [.lit (.bool true)], args := [d] }
  | _ => none }
def lockDangerRow : OpenClaim := { program := "ytgacnebihkofcab", sum := "45452695b814cb07d64b2138ff189b6cb786dc0585645373d5e2bd582c0b9ade", func := "pointsman/pointsmanlaw5.LockDanger", spec := "lockDanger", unfollowed := true, recurses := true, apart := false }
def LockDangerSaid : Prop := lockDangerRow.holds Try.pinned (OpenSpec.ofChange lockDangerSpec)

/-- ITS FALSE NEIGHBOUR: 'it returns false'. Refute it at one input. -/
def lockDangerWrong : ChangeSpec := { name := "lockDanger", fn := fun _ => fun
  | [d] => { results := [.lit (.bool false)], args := [d] }
  | _ => none }
def LockDangerWrongFalsely : Prop := lockDangerRow.holds Try.pinned (OpenSpec.ofChange lockDangerWrong)

/- THE SECOND FORM. 'bulk': how many values and letters a reading holds, each counted each time it is reached (what is shared counts as often as it is met; a slice's spare places count too). A statement '..UptoSaid' is the law's where the arguments, and the package variables that the reading takes, are together of bulk at most 1048576: NARROWER than '..Said'. Prove '..Said' where nothing that the law and all that it calls make is longer than what came in: it says more and counts as full. Else prove '..UptoSaid'. A law counts once. -/
mutual
def uptoBulk {H : Type} : DataW H → Nat
  | .lit (.string bytes) => bytes.length + 1
  | .lit _ => 1
  | .nil => 1
  | .ptr d => uptoBulk d + 1
  | .slice elems spare => uptoBulkAll elems + uptoBulkAll spare + 1
  | .agg parts => uptoBulkAll parts + 1
  | .iface _ d => uptoBulk d + 1
  | .map entries => uptoBulkEntries entries + 1
  | .held _ => 1
def uptoBulkAll {H : Type} : List (DataW H) → Nat
  | [] => 0
  | d :: r => uptoBulk d + uptoBulkAll r
def uptoBulkEntries {H : Type} : List (Lit × DataW H) → Nat
  | [] => 0
  | x :: r => uptoBulkEntry x + uptoBulkEntries r
def uptoBulkEntry {H : Type} : Lit × DataW H → Nat
  | (.string bytes, d) => bytes.length + uptoBulk d + 1
  | (_, d) => uptoBulk d + 1
 end
def uptoSmall : (H : Type) → List (DataW H) → Bool := fun _ ds => decide (uptoBulkAll ds ≤ 1048576)
def OpenSpec.upto (s : _root_.Go.ChangeSpec) : _root_.Go.OpenSpec := { _root_.Go.OpenSpec.ofChange s with cond := some uptoSmall }

/-- 'pointsmanlaw5.LockCalls', WHERE WHAT IT READS IS OF BULK AT MOST 1048576: true; the input reads as it did. -/
def lockCallsUptoRow : OpenClaim := { program := "ytgacnebihkofcab", sum := "45452695b814cb07d64b2138ff189b6cb786dc0585645373d5e2bd582c0b9ade", func := "pointsman/pointsmanlaw5.LockCalls", spec := "lockCalls", unfollowed := true, recurses := true, apart := false, narrowed := true }
def LockCallsUptoSaid : Prop := lockCallsUptoRow.holds Try.pinned (OpenSpec.upto lockCallsSpec)

/-- 'pointsmanlaw5.LockOfNothing', WHERE WHAT IT READS IS OF BULK AT MOST 1048576: true; the input reads as it did. -/
def lockOfNothingUptoRow : OpenClaim := { program := "ytgacnebihkofcab", sum := "45452695b814cb07d64b2138ff189b6cb786dc0585645373d5e2bd582c0b9ade", func := "pointsman/pointsmanlaw5.LockOfNothing", spec := "lockOfNothing", unfollowed := true, recurses := true, apart := false, narrowed := true }
def LockOfNothingUptoSaid : Prop := lockOfNothingUptoRow.holds Try.pinned (OpenSpec.upto lockOfNothingSpec)

/-- 'pointsmanlaw5.LockDanger', WHERE WHAT IT READS IS OF BULK AT MOST 1048576: true; the input reads as it did. -/
def lockDangerUptoRow : OpenClaim := { program := "ytgacnebihkofcab", sum := "45452695b814cb07d64b2138ff189b6cb786dc0585645373d5e2bd582c0b9ade", func := "pointsman/pointsmanlaw5.LockDanger", spec := "lockDanger", unfollowed := true, recurses := true, apart := false, narrowed := true }
def LockDangerUptoSaid : Prop := lockDangerUptoRow.holds Try.pinned (OpenSpec.upto lockDangerSpec)

end Rows
end Go.Proofs.Ytgacnebihkofcab
