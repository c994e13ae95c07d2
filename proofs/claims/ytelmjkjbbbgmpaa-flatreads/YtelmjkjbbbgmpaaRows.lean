/-
  No cell of these rows narrows 'for every input' (looked for: loops, veiled, ifaces, maps, wideKeys, modest, calm, conditions, laid).
  DERIVED. THE GIVEN ROWS OF THIS SEAT. 6 by the template 'for every input the law returns true; each argument reads behind the call as it read before'; 0 by the template 'total and deterministic' (their statements: YtelmjkjbbbgmpaaTotals.lean).
  GIVEN WITH THE SEED: the statements are not yours to turn. If you find one false, say at which input.
  Laid BY PROGRAM, IN A SANDBOX (cutbox-rows.mjs): the forced cells as the released guide's own fill.sh prints them over the translation 9014a7e827e96f3f… (all of the seat's roots in one cut). By AI agents, Wed Nov 11 2026. No macro, syntax, notation, axiom, sorry.
-/
import Derived.Test.YtelmjkjbbbgmpaaChecked
import GoSem.Claim
import GoSem.ClaimJoined
import GoSem.ClaimMapViews
import Derived.JoinedTies
import Derived.KernelRfl
namespace Go.Proofs.Ytelmjkjbbbgmpaa
/- THE CELL 'sum', in the pinned program and in every row, IS THE sha256 OF THE DUMP (.gsa) THAT YtelmjkjbbbgmpaaProg.lean LOADS. Nothing in Lean hashes anything: it is a label: what it is worth is what the hold of that sum in a sandbox is worth. -/
noncomputable def Try.pinned : Pinned := { name := "ytelmjkjbbbgmpaa", sum := "9014a7e827e96f3f3d8decc9ce2c3de431aee4c0a3d592b49ecd1477c55fe087", checked := Try.checked }
namespace Rows
def none {H : Type} : Left H := { results := [], args := [] }

/-- 'pointsmanlaw9.FlatTells': WHATEVER THE INPUT: true; the input reads as it did. -/
def flatTellsSpec : ChangeSpec := { name := "flatTells", fn := fun _ => fun
  | [d1, d2] => { results := [.lit (.bool true)], args := [d1, d2] }
  | _ => none }
def flatTellsRow : OpenClaim := { program := "ytelmjkjbbbgmpaa", sum := "9014a7e827e96f3f3d8decc9ce2c3de431aee4c0a3d592b49ecd1477c55fe087", func := "pointsman/pointsmanlaw9.FlatTells", spec := "flatTells", unfollowed := true, recurses := true, apart := false }
def FlatTellsSaid : Prop := flatTellsRow.holds Try.pinned (OpenSpec.ofChange flatTellsSpec)

/-- ITS FALSE NEIGHBOUR: 'it returns false'. Refute it at one input. -/
def flatTellsWrong : ChangeSpec := { name := "flatTells", fn := fun _ => fun
  | [d1, d2] => { results := [.lit (.bool false)], args := [d1, d2] }
  | _ => none }
def FlatTellsWrongFalsely : Prop := flatTellsRow.holds Try.pinned (OpenSpec.ofChange flatTellsWrong)

/-- 'pointsmanlaw9.FlatBack': WHATEVER THE INPUT: true; the input reads as it did. -/
def flatBackSpec : ChangeSpec := { name := "flatBack", fn := fun _ => fun
  | [d1, d2] => { results := [.lit (.bool true)], args := [d1, d2] }
  | _ => none }
def flatBackRow : OpenClaim := { program := "ytelmjkjbbbgmpaa", sum := "9014a7e827e96f3f3d8decc9ce2c3de431aee4c0a3d592b49ecd1477c55fe087", func := "pointsman/pointsmanlaw9.FlatBack", spec := "flatBack", unfollowed := true, recurses := true, apart := false }
def FlatBackSaid : Prop := flatBackRow.holds Try.pinned (OpenSpec.ofChange flatBackSpec)

/-- ITS FALSE NEIGHBOUR: 'it returns false'. Refute it at one input. -/
def flatBackWrong : ChangeSpec := { name := "flatBack", fn := fun _ => fun
  | [d1, d2] => { results := [.lit (.bool false)], args := [d1, d2] }
  | _ => none }
def FlatBackWrongFalsely : Prop := flatBackRow.holds Try.pinned (OpenSpec.ofChange flatBackWrong)

/-- 'pointsmanlaw9.FlatDiffs': WHATEVER THE INPUT: true; the input reads as it did. -/
def flatDiffsSpec : ChangeSpec := { name := "flatDiffs", fn := fun _ => fun
  | [d1, d2] => { results := [.lit (.bool true)], args := [d1, d2] }
  | _ => none }
def flatDiffsRow : OpenClaim := { program := "ytelmjkjbbbgmpaa", sum := "9014a7e827e96f3f3d8decc9ce2c3de431aee4c0a3d592b49ecd1477c55fe087", func := "pointsman/pointsmanlaw9.FlatDiffs", spec := "flatDiffs", apart := false }
def FlatDiffsSaid : Prop := flatDiffsRow.holds Try.pinned (OpenSpec.ofChange flatDiffsSpec)

/-- ITS FALSE NEIGHBOUR: 'it returns false'. Refute it at one input. -/
def flatDiffsWrong : ChangeSpec := { name := "flatDiffs", fn := fun _ => fun
  | [d1, d2] => { results := [.lit (.bool false)], args := [d1, d2] }
  | _ => none }
def FlatDiffsWrongFalsely : Prop := flatDiffsRow.holds Try.pinned (OpenSpec.ofChange flatDiffsWrong)

/-- 'pointsmanlaw9.FlatApplies': WHATEVER THE INPUT: true; the input reads as it did. -/
def flatAppliesSpec : ChangeSpec := { name := "flatApplies", fn := fun _ => fun
  | [d1, d2] => { results := [.lit (.bool true)], args := [d1, d2] }
  | _ => none }
def flatAppliesRow : OpenClaim := { program := "ytelmjkjbbbgmpaa", sum := "9014a7e827e96f3f3d8decc9ce2c3de431aee4c0a3d592b49ecd1477c55fe087", func := "pointsman/pointsmanlaw9.FlatApplies", spec := "flatApplies", apart := false }
def FlatAppliesSaid : Prop := flatAppliesRow.holds Try.pinned (OpenSpec.ofChange flatAppliesSpec)

/-- ITS FALSE NEIGHBOUR: 'it returns false'. Refute it at one input. -/
def flatAppliesWrong : ChangeSpec := { name := "flatApplies", fn := fun _ => fun
  | [d1, d2] => { results := [.lit (.bool false)], args := [d1, d2] }
  | _ => none }
def FlatAppliesWrongFalsely : Prop := flatAppliesRow.holds Try.pinned (OpenSpec.ofChange flatAppliesWrong)

/-- 'pointsmanlaw9.FlatLays': WHATEVER THE INPUT: true; the input reads as it did. -/
def flatLaysSpec : ChangeSpec := { name := "flatLays", fn := fun _ => fun
  | [d1, d2, d3] => { results := [.lit (.bool true)], args := [d1, d2, d3] }
  | _ => none }
def flatLaysRow : OpenClaim := { program := "ytelmjkjbbbgmpaa", sum := "9014a7e827e96f3f3d8decc9ce2c3de431aee4c0a3d592b49ecd1477c55fe087", func := "pointsman/pointsmanlaw9.FlatLays", spec := "flatLays", unfollowed := true, recurses := true, apart := false }
def FlatLaysSaid : Prop := flatLaysRow.holds Try.pinned (OpenSpec.ofChange flatLaysSpec)

/-- ITS FALSE NEIGHBOUR: 'it returns false'. Refute it at one input. -/
def flatLaysWrong : ChangeSpec := { name := "flatLays", fn := fun _ => fun
  | [d1, d2, d3] => { results := [.lit (.bool false)], args := [d1, d2, d3] }
  | _ => none }
def FlatLaysWrongFalsely : Prop := flatLaysRow.holds Try.pinned (OpenSpec.ofChange flatLaysWrong)

/-- 'pointsmanlaw9.FlatReads': WHATEVER THE INPUT: true; the input reads as it did. -/
def flatReadsSpec : ChangeSpec := { name := "flatReads", fn := fun _ => fun
  | [d1, d2, d3] => { results := [.lit (.bool true)], args := [d1, d2, d3] }
  | _ => none }
def flatReadsRow : OpenClaim := { program := "ytelmjkjbbbgmpaa", sum := "9014a7e827e96f3f3d8decc9ce2c3de431aee4c0a3d592b49ecd1477c55fe087", func := "pointsman/pointsmanlaw9.FlatReads", spec := "flatReads", unfollowed := true, recurses := true, apart := false }
def FlatReadsSaid : Prop := flatReadsRow.holds Try.pinned (OpenSpec.ofChange flatReadsSpec)

/-- ITS FALSE NEIGHBOUR: 'it returns false'. Refute it at one input. -/
def flatReadsWrong : ChangeSpec := { name := "flatReads", fn := fun _ => fun
  | [d1, d2, d3] => { results := [.lit (.bool false)], args := [d1, d2, d3] }
  | _ => none }
def FlatReadsWrongFalsely : Prop := flatReadsRow.holds Try.pinned (OpenSpec.ofChange flatReadsWrong)

/- THE SECOND FORM. 'bulk': how many values and letters a reading holds, each counted each time it is reached (what is shared counts as often as it is met; a slice's spare places count too). A statement '..UptoSaid' is the law's where the arguments, and the package variables that the reading takes, are together of bulk at most 1048576: NARROWER than '..Said'. Prove '..Said' where nothing that the law and all that it calls make is longer than what came in: it says more and counts as full. Else prove '..UptoSaid'. A law counts once. -/
mutual
def uptoBulk {H : Type} : DataW H → Nat
  | .lit (.string bytes) => bytes.length + 1
  | .lit _ => 1
  | .nil => 1
  | .ptr d => uptoBulk d + 1
  | .slice elems spare => uptoBulkAll elems + uptoBulkAll spare + 1
  | .agg parts => uptoBulkAll parts + 1
  | .iface _ d => uptoBulk d + 1
  | .map entries => uptoBulkEntries entries + 1
  | .held _ => 1
def uptoBulkAll {H : Type} : List (DataW H) → Nat
  | [] => 0
  | d :: r => uptoBulk d + uptoBulkAll r
def uptoBulkEntries {H : Type} : List (Lit × DataW H) → Nat
  | [] => 0
  | x :: r => uptoBulkEntry x + uptoBulkEntries r
def uptoBulkEntry {H : Type} : Lit × DataW H → Nat
  | (.string bytes, d) => bytes.length + uptoBulk d + 1
  | (_, d) => uptoBulk d + 1
 end
def uptoSmall : (H : Type) → List (DataW H) → Bool := fun _ ds => decide (uptoBulkAll ds ≤ 1048576)
def OpenSpec.upto (s : _root_.Go.ChangeSpec) : _root_.Go.OpenSpec := { _root_.Go.OpenSpec.ofChange s with cond := some uptoSmall }

/-- 'pointsmanlaw9.FlatTells', WHERE WHAT IT READS IS OF BULK AT MOST 1048576: true; the input reads as it did. -/
def flatTellsUptoRow : OpenClaim := { program := "ytelmjkjbbbgmpaa", sum := "9014a7e827e96f3f3d8decc9ce2c3de431aee4c0a3d592b49ecd1477c55fe087", func := "pointsman/pointsmanlaw9.FlatTells", spec := "flatTells", unfollowed := true, recurses := true, apart := false, narrowed := true }
def FlatTellsUptoSaid : Prop := flatTellsUptoRow.holds Try.pinned (OpenSpec.upto flatTellsSpec)

/-- 'pointsmanlaw9.FlatBack', WHERE WHAT IT READS IS OF BULK AT MOST 1048576: true; the input reads as it did. -/
def flatBackUptoRow : OpenClaim := { program := "ytelmjkjbbbgmpaa", sum := "9014a7e827e96f3f3d8decc9ce2c3de431aee4c0a3d592b49ecd1477c55fe087", func := "pointsman/pointsmanlaw9.FlatBack", spec := "flatBack", unfollowed := true, recurses := true, apart := false, narrowed := true }
def FlatBackUptoSaid : Prop := flatBackUptoRow.holds Try.pinned (OpenSpec.upto flatBackSpec)

/-- 'pointsmanlaw9.FlatDiffs', WHERE WHAT IT READS IS OF BULK AT MOST 1048576: true; the input reads as it did. -/
def flatDiffsUptoRow : OpenClaim := { program := "ytelmjkjbbbgmpaa", sum := "9014a7e827e96f3f3d8decc9ce2c3de431aee4c0a3d592b49ecd1477c55fe087", func := "pointsman/pointsmanlaw9.FlatDiffs", spec := "flatDiffs", apart := false, narrowed := true }
def FlatDiffsUptoSaid : Prop := flatDiffsUptoRow.holds Try.pinned (OpenSpec.upto flatDiffsSpec)

/-- 'pointsmanlaw9.FlatApplies', WHERE WHAT IT READS IS OF BULK AT MOST 1048576: true; the input reads as it did. -/
def flatAppliesUptoRow : OpenClaim := { program := "ytelmjkjbbbgmpaa", sum := "9014a7e827e96f3f3d8decc9ce2c3de431aee4c0a3d592b49ecd1477c55fe087", func := "pointsman/pointsmanlaw9.FlatApplies", spec := "flatApplies", apart := false, narrowed := true }
def FlatAppliesUptoSaid : Prop := flatAppliesUptoRow.holds Try.pinned (OpenSpec.upto flatAppliesSpec)

/-- 'pointsmanlaw9.FlatLays', WHERE WHAT IT READS IS OF BULK AT MOST 1048576: true; the input reads as it did. -/
def flatLaysUptoRow : OpenClaim := { program := "ytelmjkjbbbgmpaa", sum := "9014a7e827e96f3f3d8decc9ce2c3de431aee4c0a3d592b49ecd1477c55fe087", func := "pointsman/pointsmanlaw9.FlatLays", spec := "flatLays", unfollowed := true, recurses := true, apart := false, narrowed := true }
def FlatLaysUptoSaid : Prop := flatLaysUptoRow.holds Try.pinned (OpenSpec.upto flatLaysSpec)

/-- 'pointsmanlaw9.FlatReads', WHERE WHAT IT READS IS OF BULK AT MOST 1048576: true; the input reads as it did. -/
def flatReadsUptoRow : OpenClaim := { program := "ytelmjkjbbbgmpaa", sum := "9014a7e827e96f3f3d8decc9ce2c3de431aee4c0a3d592b49ecd1477c55fe087", func := "pointsman/pointsmanlaw9.FlatReads", spec := "flatReads", unfollowed := true, recurses := true, apart := false, narrowed := true }
def FlatReadsUptoSaid : Prop := flatReadsUptoRow.holds Try.pinned (OpenSpec.upto flatReadsSpec)

end Rows
end Go.Proofs.Ytelmjkjbbbgmpaa
