/-
  No cell of these rows narrows 'for every input' (looked for: loops, veiled, ifaces, maps, wideKeys, modest, calm, conditions, laid).
  DERIVED. THE GIVEN ROWS OF THIS SEAT. 6 by the template 'for every input the law returns true; each argument reads behind the call as it read before'; 0 by the template 'total and deterministic' (their statements: YtfkolpijnflpcaaTotals.lean).
  GIVEN WITH THE SEED: the statements are not yours to turn. If you find one false, say at which input.
  Laid BY PROGRAM, IN A SANDBOX (cutbox-rows.mjs): the forced cells as the released guide's own fill.sh prints them over the translation 799920bf689a50e8… (all of the seat's roots in one cut). By AI agents, Wed Nov 11 2026. No macro, syntax, notation, axiom, sorry.
-/
import Derived.Test.YtfkolpijnflpcaaChecked
import GoSem.Claim
import GoSem.ClaimJoined
import GoSem.ClaimMapViews
import Derived.JoinedTies
import Derived.KernelRfl
namespace Go.Proofs.Ytfkolpijnflpcaa
/- THE CELL 'sum', in the pinned program and in every row, IS THE sha256 OF THE DUMP (.gsa) THAT YtfkolpijnflpcaaProg.lean LOADS. Nothing in Lean hashes anything: it is a label: what it is worth is what the hold of that sum in a sandbox is worth. -/
noncomputable def Try.pinned : Pinned := { name := "ytfkolpijnflpcaa", sum := "799920bf689a50e817b4373adfc9557ceeaa5d27f3c13b96f40372102795656d", checked := Try.checked }
namespace Rows
def none {H : Type} : Left H := { results := [], args := [] }

/-- 'pointsmanlaw2.CrateTells': WHATEVER THE INPUT: true; the input reads as it did. -/
def crateTellsSpec : ChangeSpec := { name := "crateTells", fn := fun _ => fun
  | [d1, d2] => { results := [.lit (.bool true)], args := [d1, d2] }
  | _ => none }
def crateTellsRow : OpenClaim := { program := "ytfkolpijnflpcaa", sum := "799920bf689a50e817b4373adfc9557ceeaa5d27f3c13b96f40372102795656d", func := "pointsman/pointsmanlaw2.CrateTells", spec := "crateTells", apart := false }
def CrateTellsSaid : Prop := crateTellsRow.holds Try.pinned (OpenSpec.ofChange crateTellsSpec)

/-- ITS FALSE NEIGHBOUR: 'it returns false'. Refute it at one input. -/
def crateTellsWrong : ChangeSpec := { name := "crateTells", fn := fun _ => fun
  | [d1, d2] => { results := [.lit (.bool false)], args := [d1, d2] }
  | _ => none }
def CrateTellsWrongFalsely : Prop := crateTellsRow.holds Try.pinned (OpenSpec.ofChange crateTellsWrong)

/-- 'pointsmanlaw2.CrateMust': WHATEVER THE INPUT: true; the input reads as it did. -/
def crateMustSpec : ChangeSpec := { name := "crateMust", fn := fun _ => fun
  | [d] => { results := [.lit (.bool true)], args := [d] }
  | _ => none }
def crateMustRow : OpenClaim := { program := "ytfkolpijnflpcaa", sum := "799920bf689a50e817b4373adfc9557ceeaa5d27f3c13b96f40372102795656d", func := "pointsman/pointsmanlaw2.CrateMust", spec := "crateMust", apart := false }
def CrateMustSaid : Prop := crateMustRow.holds Try.pinned (OpenSpec.ofChange crateMustSpec)

/-- ITS FALSE NEIGHBOUR: 'it returns false'. Refute it at one input. -/
def crateMustWrong : ChangeSpec := { name := "crateMust", fn := fun _ => fun
  | [d] => { results := [.lit (.bool false)], args := [d] }
  | _ => none }
def CrateMustWrongFalsely : Prop := crateMustRow.holds Try.pinned (OpenSpec.ofChange crateMustWrong)

/-- 'pointsmanlaw2.CrateSame': WHATEVER THE INPUT: true; the input reads as it did. -/
def crateSameSpec : ChangeSpec := { name := "crateSame", fn := fun _ => fun
  | [d1, d2] => { results := [.lit (.bool true)], args := [d1, d2] }
  | _ => none }
def crateSameRow : OpenClaim := { program := "ytfkolpijnflpcaa", sum := "799920bf689a50e817b4373adfc9557ceeaa5d27f3c13b96f40372102795656d", func := "pointsman/pointsmanlaw2.CrateSame", spec := "crateSame", apart := false }
def CrateSameSaid : Prop := crateSameRow.holds Try.pinned (OpenSpec.ofChange crateSameSpec)

/-- ITS FALSE NEIGHBOUR: 'it returns false'. Refute it at one input. -/
def crateSameWrong : ChangeSpec := { name := "crateSame", fn := fun _ => fun
  | [d1, d2] => { results := [.lit (.bool false)], args := [d1, d2] }
  | _ => none }
def CrateSameWrongFalsely : Prop := crateSameRow.holds Try.pinned (OpenSpec.ofChange crateSameWrong)

/-- 'pointsmanlaw2.CrateKinds': WHATEVER THE INPUT: true; the input reads as it did. -/
def crateKindsSpec : ChangeSpec := { name := "crateKinds", fn := fun _ => fun
  | [d1, d2, d3] => { results := [.lit (.bool true)], args := [d1, d2, d3] }
  | _ => none }
def crateKindsRow : OpenClaim := { program := "ytfkolpijnflpcaa", sum := "799920bf689a50e817b4373adfc9557ceeaa5d27f3c13b96f40372102795656d", func := "pointsman/pointsmanlaw2.CrateKinds", spec := "crateKinds", apart := false }
def CrateKindsSaid : Prop := crateKindsRow.holds Try.pinned (OpenSpec.ofChange crateKindsSpec)

/-- ITS FALSE NEIGHBOUR: 'it returns false'. Refute it at one input. -/
def crateKindsWrong : ChangeSpec := { name := "crateKinds", fn := fun _ => fun
  | [d1, d2, d3] => { results := [.lit (.bool false)], args := [d1, d2, d3] }
  | _ => none }
def CrateKindsWrongFalsely : Prop := crateKindsRow.holds Try.pinned (OpenSpec.ofChange crateKindsWrong)

/-- 'pointsmanlaw2.CrateFull': WHATEVER THE INPUT: true; the input reads as it did. -/
def crateFullSpec : ChangeSpec := { name := "crateFull", fn := fun _ => fun
  | [d1, d2] => { results := [.lit (.bool true)], args := [d1, d2] }
  | _ => none }
def crateFullRow : OpenClaim := { program := "ytfkolpijnflpcaa", sum := "799920bf689a50e817b4373adfc9557ceeaa5d27f3c13b96f40372102795656d", func := "pointsman/pointsmanlaw2.CrateFull", spec := "crateFull", apart := false }
def CrateFullSaid : Prop := crateFullRow.holds Try.pinned (OpenSpec.ofChange crateFullSpec)

/-- ITS FALSE NEIGHBOUR: 'it returns false'. Refute it at one input. -/
def crateFullWrong : ChangeSpec := { name := "crateFull", fn := fun _ => fun
  | [d1, d2] => { results := [.lit (.bool false)], args := [d1, d2] }
  | _ => none }
def CrateFullWrongFalsely : Prop := crateFullRow.holds Try.pinned (OpenSpec.ofChange crateFullWrong)

/-- 'pointsmanlaw2.CrateOfNothing': WHATEVER THE INPUT: true; the input reads as it did. -/
def crateOfNothingSpec : ChangeSpec := { name := "crateOfNothing", fn := fun _ => fun
  | [d1, d2] => { results := [.lit (.bool true)], args := [d1, d2] }
  | _ => none }
def crateOfNothingRow : OpenClaim := { program := "ytfkolpijnflpcaa", sum := "799920bf689a50e817b4373adfc9557ceeaa5d27f3c13b96f40372102795656d", func := "pointsman/pointsmanlaw2.CrateOfNothing", spec := "crateOfNothing", apart := false }
def CrateOfNothingSaid : Prop := crateOfNothingRow.holds Try.pinned (OpenSpec.ofChange crateOfNothingSpec)

/-- ITS FALSE NEIGHBOUR: 'it returns false'. Refute it at one input. -/
def crateOfNothingWrong : ChangeSpec := { name := "crateOfNothing", fn := fun _ => fun
  | [d1, d2] => { results := [.lit (.bool false)], args := [d1, d2] }
  | _ => none }
def CrateOfNothingWrongFalsely : Prop := crateOfNothingRow.holds Try.pinned (OpenSpec.ofChange crateOfNothingWrong)

/- THE SECOND FORM. 'bulk': how many values and letters a reading holds, each counted each time it is reached (what is shared counts as often as it is met; a slice's spare places count too). A statement '..UptoSaid' is the law's where the arguments, and the package variables that the reading takes, are together of bulk at most 1048576: NARROWER than '..Said'. Prove '..Said' where nothing that the law and all that it calls make is longer than what came in: it says more and counts as full. Else prove '..UptoSaid'. A law counts once. -/
mutual
def uptoBulk {H : Type} : DataW H → Nat
  | .lit (.string bytes) => bytes.length + 1
  | .lit _ => 1
  | .nil => 1
  | .ptr d => uptoBulk d + 1
  | .slice elems spare => uptoBulkAll elems + uptoBulkAll spare + 1
  | .agg parts => uptoBulkAll parts + 1
  | .iface _ d => uptoBulk d + 1
  | .map entries => uptoBulkEntries entries + 1
  | .held _ => 1
def uptoBulkAll {H : Type} : List (DataW H) → Nat
  | [] => 0
  | d :: r => uptoBulk d + uptoBulkAll r
def uptoBulkEntries {H : Type} : List (Lit × DataW H) → Nat
  | [] => 0
  | x :: r => uptoBulkEntry x + uptoBulkEntries r
def uptoBulkEntry {H : Type} : Lit × DataW H → Nat
  | (.string bytes, d) => bytes.length + uptoBulk d + 1
  | (_, d) => uptoBulk d + 1
 end
def uptoSmall : (H : Type) → List (DataW H) → Bool := fun _ ds => decide (uptoBulkAll ds ≤ 1048576)
def OpenSpec.upto (s : _root_.Go.ChangeSpec) : _root_.Go.OpenSpec := { _root_.Go.OpenSpec.ofChange s with cond := some uptoSmall }

/-- 'pointsmanlaw2.CrateTells', WHERE WHAT IT READS IS OF BULK AT MOST 1048576: true; the input reads as it did. -/
def crateTellsUptoRow : OpenClaim := { program := "ytfkolpijnflpcaa", sum := "799920bf689a50e817b4373adfc9557ceeaa5d27f3c13b96f40372102795656d", func := "pointsman/pointsmanlaw2.CrateTells", spec := "crateTells", apart := false, narrowed := true }
def CrateTellsUptoSaid : Prop := crateTellsUptoRow.holds Try.pinned (OpenSpec.upto crateTellsSpec)

/-- 'pointsmanlaw2.CrateMust', WHERE WHAT IT READS IS OF BULK AT MOST 1048576: true; the input reads as it did. -/
def crateMustUptoRow : OpenClaim := { program := "ytfkolpijnflpcaa", sum := "799920bf689a50e817b4373adfc9557ceeaa5d27f3c13b96f40372102795656d", func := "pointsman/pointsmanlaw2.CrateMust", spec := "crateMust", apart := false, narrowed := true }
def CrateMustUptoSaid : Prop := crateMustUptoRow.holds Try.pinned (OpenSpec.upto crateMustSpec)

/-- 'pointsmanlaw2.CrateSame', WHERE WHAT IT READS IS OF BULK AT MOST 1048576: true; the input reads as it did. -/
def crateSameUptoRow : OpenClaim := { program := "ytfkolpijnflpcaa", sum := "799920bf689a50e817b4373adfc9557ceeaa5d27f3c13b96f40372102795656d", func := "pointsman/pointsmanlaw2.CrateSame", spec := "crateSame", apart := false, narrowed := true }
def CrateSameUptoSaid : Prop := crateSameUptoRow.holds Try.pinned (OpenSpec.upto crateSameSpec)

/-- 'pointsmanlaw2.CrateKinds', WHERE WHAT IT READS IS OF BULK AT MOST 1048576: true; the input reads as it did. -/
def crateKindsUptoRow : OpenClaim := { program := "ytfkolpijnflpcaa", sum := "799920bf689a50e817b4373adfc9557ceeaa5d27f3c13b96f40372102795656d", func := "pointsman/pointsmanlaw2.CrateKinds", spec := "crateKinds", apart := false, narrowed := true }
def CrateKindsUptoSaid : Prop := crateKindsUptoRow.holds Try.pinned (OpenSpec.upto crateKindsSpec)

/-- 'pointsmanlaw2.CrateFull', WHERE WHAT IT READS IS OF BULK AT MOST 1048576: true; the input reads as it did. -/
def crateFullUptoRow : OpenClaim := { program := "ytfkolpijnflpcaa", sum := "799920bf689a50e817b4373adfc9557ceeaa5d27f3c13b96f40372102795656d", func := "pointsman/pointsmanlaw2.CrateFull", spec := "crateFull", apart := false, narrowed := true }
def CrateFullUptoSaid : Prop := crateFullUptoRow.holds Try.pinned (OpenSpec.upto crateFullSpec)

/-- 'pointsmanlaw2.CrateOfNothing', WHERE WHAT IT READS IS OF BULK AT MOST 1048576: true; the input reads as it did. -/
def crateOfNothingUptoRow : OpenClaim := { program := "ytfkolpijnflpcaa", sum := "799920bf689a50e817b4373adfc9557ceeaa5d27f3c13b96f40372102795656d", func := "pointsman/pointsmanlaw2.CrateOfNothing", spec := "crateOfNothing", apart := false, narrowed := true }
def CrateOfNothingUptoSaid : Prop := crateOfNothingUptoRow.holds Try.pinned (OpenSpec.upto crateOfNothingSpec)

end Rows
end Go.Proofs.Ytfkolpijnflpcaa
