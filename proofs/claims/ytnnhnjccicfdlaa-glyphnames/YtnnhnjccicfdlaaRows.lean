/-
  No cell of these rows narrows 'for every input' (looked for: loops, veiled, ifaces, maps, wideKeys, modest, calm, conditions, laid).
  DERIVED. THE GIVEN ROWS OF THIS SEAT. 3 by the template 'for every input the law returns true; each argument reads behind the call as it read before'; 0 by the template 'total and deterministic' (their statements: YtnnhnjccicfdlaaTotals.lean).
  GIVEN WITH THE SEED: the statements are not yours to turn. If you find one false, say at which input.
  Laid BY PROGRAM, IN A SANDBOX (cutbox-rows.mjs): the forced cells as the released guide's own fill.sh prints them over the translation fe8e0c3fc760c6d3… (all of the seat's roots in one cut). By AI agents, Wed Nov 11 2026. No macro, syntax, notation, axiom, sorry.
-/
import Derived.Test.YtnnhnjccicfdlaaChecked
import GoSem.Claim
import GoSem.ClaimJoined
import GoSem.ClaimMapViews
import Derived.JoinedTies
import Derived.KernelRfl
namespace Go.Proofs.Ytnnhnjccicfdlaa
/- THE CELL 'sum', in the pinned program and in every row, IS THE sha256 OF THE DUMP (.gsa) THAT YtnnhnjccicfdlaaProg.lean LOADS. Nothing in Lean hashes anything: it is a label: what it is worth is what the hold of that sum in a sandbox is worth. -/
noncomputable def Try.pinned : Pinned := { name := "ytnnhnjccicfdlaa", sum := "fe8e0c3fc760c6d3727ddb43cef11ab895984e509ad2a76fa205afd1a4ac835d", checked := Try.checked }
namespace Rows
def none {H : Type} : Left H := { results := [], args := [] }

/-- 'pointsmanlaw1.GlyphLetters': WHATEVER THE INPUT: true; the input reads as it did. -/
def glyphLettersSpec : ChangeSpec := { name := "glyphLetters", fn := fun _ => fun
  | [d] => { results := [.lit (.bool true)], args := [d] }
  | _ => none }
def glyphLettersRow : OpenClaim := { program := "ytnnhnjccicfdlaa", sum := "fe8e0c3fc760c6d3727ddb43cef11ab895984e509ad2a76fa205afd1a4ac835d", func := "pointsman/pointsmanlaw1.GlyphLetters", spec := "glyphLetters", apart := false }
def GlyphLettersSaid : Prop := glyphLettersRow.holds Try.pinned (OpenSpec.ofChange glyphLettersSpec)

/-- ITS FALSE NEIGHBOUR: 'it returns false'. Refute it at one input. -/
def glyphLettersWrong : ChangeSpec := { name := "glyphLetters", fn := fun _ => fun
  | [d] => { results := [.lit (.bool false)], args := [d] }
  | _ => none }
def GlyphLettersWrongFalsely : Prop := glyphLettersRow.holds Try.pinned (OpenSpec.ofChange glyphLettersWrong)

/-- 'pointsmanlaw1.GlyphWrong': WHATEVER THE INPUT: true; the input reads as it did. -/
def glyphWrongSpec : ChangeSpec := { name := "glyphWrong", fn := fun _ => fun
  | [d1, d2] => { results := [.lit (.bool true)], args := [d1, d2] }
  | _ => none }
def glyphWrongRow : OpenClaim := { program := "ytnnhnjccicfdlaa", sum := "fe8e0c3fc760c6d3727ddb43cef11ab895984e509ad2a76fa205afd1a4ac835d", func := "pointsman/pointsmanlaw1.GlyphWrong", spec := "glyphWrong", apart := false }
def GlyphWrongSaid : Prop := glyphWrongRow.holds Try.pinned (OpenSpec.ofChange glyphWrongSpec)

/-- ITS FALSE NEIGHBOUR: 'it returns false'. Refute it at one input. -/
def glyphWrongWrong : ChangeSpec := { name := "glyphWrong", fn := fun _ => fun
  | [d1, d2] => { results := [.lit (.bool false)], args := [d1, d2] }
  | _ => none }
def GlyphWrongWrongFalsely : Prop := glyphWrongRow.holds Try.pinned (OpenSpec.ofChange glyphWrongWrong)

/-- 'pointsmanlaw1.GlyphNames': WHATEVER THE INPUT: true; the input reads as it did. -/
def glyphNamesSpec : ChangeSpec := { name := "glyphNames", fn := fun _ => fun
  | [d1, d2] => { results := [.lit (.bool true)], args := [d1, d2] }
  | _ => none }
def glyphNamesRow : OpenClaim := { program := "ytnnhnjccicfdlaa", sum := "fe8e0c3fc760c6d3727ddb43cef11ab895984e509ad2a76fa205afd1a4ac835d", func := "pointsman/pointsmanlaw1.GlyphNames", spec := "glyphNames", apart := false }
def GlyphNamesSaid : Prop := glyphNamesRow.holds Try.pinned (OpenSpec.ofChange glyphNamesSpec)

/-- ITS FALSE NEIGHBOUR: 'it returns false'. Refute it at one input. -/
def glyphNamesWrong : ChangeSpec := { name := "glyphNames", fn := fun _ => fun
  | [d1, d2] => { results := [.lit (.bool false)], args := [d1, d2] }
  | _ => none }
def GlyphNamesWrongFalsely : Prop := glyphNamesRow.holds Try.pinned (OpenSpec.ofChange glyphNamesWrong)

/- THE SECOND FORM. 'bulk': how many values and letters a reading holds, each counted each time it is reached (what is shared counts as often as it is met; a slice's spare places count too). A statement '..UptoSaid' is the law's where the arguments, and the package variables that the reading takes, are together of bulk at most 1048576: NARROWER than '..Said'. Prove '..Said' where nothing that the law and all that it calls make is longer than what came in: it says more and counts as full. Else prove '..UptoSaid'. A law counts once. -/
mutual
def uptoBulk {H : Type} : DataW H → Nat
  | .lit (.string bytes) => bytes.length + 1
  | .lit _ => 1
  | .nil => 1
  | .ptr d => uptoBulk d + 1
  | .slice elems spare => uptoBulkAll elems + uptoBulkAll spare + 1
  | .agg parts => uptoBulkAll parts + 1
  | .iface _ d => uptoBulk d + 1
  | .map entries => uptoBulkEntries entries + 1
  | .held _ => 1
def uptoBulkAll {H : Type} : List (DataW H) → Nat
  | [] => 0
  | d :: r => uptoBulk d + uptoBulkAll r
def uptoBulkEntries {H : Type} : List (Lit × DataW H) → Nat
  | [] => 0
  | x :: r => uptoBulkEntry x + uptoBulkEntries r
def uptoBulkEntry {H : Type} : Lit × DataW H → Nat
  | (.string bytes, d) => bytes.length + uptoBulk d + 1
  | (_, d) => uptoBulk d + 1
 end
def uptoSmall : (H : Type) → List (DataW H) → Bool := fun _ ds => decide (uptoBulkAll ds ≤ 1048576)
def OpenSpec.upto (s : _root_.Go.ChangeSpec) : _root_.Go.OpenSpec := { _root_.Go.OpenSpec.ofChange s with cond := some uptoSmall }

/-- 'pointsmanlaw1.GlyphLetters', WHERE WHAT IT READS IS OF BULK AT MOST 1048576: true; the input reads as it did. -/
def glyphLettersUptoRow : OpenClaim := { program := "ytnnhnjccicfdlaa", sum := "fe8e0c3fc760c6d3727ddb43cef11ab895984e509ad2a76fa205afd1a4ac835d", func := "pointsman/pointsmanlaw1.GlyphLetters", spec := "glyphLetters", apart := false, narrowed := true }
def GlyphLettersUptoSaid : Prop := glyphLettersUptoRow.holds Try.pinned (OpenSpec.upto glyphLettersSpec)

/-- 'pointsmanlaw1.GlyphWrong', WHERE WHAT IT READS IS OF BULK AT MOST 1048576: true; the input reads as it did. -/
def glyphWrongUptoRow : OpenClaim := { program := "ytnnhnjccicfdlaa", sum := "fe8e0c3fc760c6d3727ddb43cef11ab895984e509ad2a76fa205afd1a4ac835d", func := "pointsman/pointsmanlaw1.GlyphWrong", spec := "glyphWrong", apart := false, narrowed := true }
def GlyphWrongUptoSaid : Prop := glyphWrongUptoRow.holds Try.pinned (OpenSpec.upto glyphWrongSpec)

/-- 'pointsmanlaw1.GlyphNames', WHERE WHAT IT READS IS OF BULK AT MOST 1048576: true; the input reads as it did. -/
def glyphNamesUptoRow : OpenClaim := { program := "ytnnhnjccicfdlaa", sum := "fe8e0c3fc760c6d3727ddb43cef11ab895984e509ad2a76fa205afd1a4ac835d", func := "pointsman/pointsmanlaw1.GlyphNames", spec := "glyphNames", apart := false, narrowed := true }
def GlyphNamesUptoSaid : Prop := glyphNamesUptoRow.holds Try.pinned (OpenSpec.upto glyphNamesSpec)

end Rows
end Go.Proofs.Ytnnhnjccicfdlaa
