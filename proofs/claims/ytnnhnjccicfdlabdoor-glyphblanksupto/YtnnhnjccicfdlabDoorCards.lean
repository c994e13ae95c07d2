/-
  DERIVED. GIVEN WITH THE SEED: THE CARDS: each row of YtnnhnjccicfdlabDoorRows.lean that lists a variable, with what it lists TIED to the program's text (the seventh form; the later family's looks); each row that meets fmt, with fmt's text TOLD by the authors' own Lean function (tested against real Go, not proved from fmt's source: count such statements apart). THE CARD IS WHAT COUNTS. Prove the row's statement (the work); the ties are given (YtnnhnjccicfdlabDoorTie.lean); close each card by the builder's one call (the guide's Derived/Test/ToyasCard.lean, 'card_holds'). Laid BY PROGRAM, IN A SANDBOX (cutbox-door.mjs). By AI agents, Wed Nov 11 2026. No macro, syntax, notation, axiom, sorry.
-/
import Derived.Test.YtnnhnjccicfdlabDoorRows
import GoSem.ClaimSeven
namespace Go.Proofs.YtnnhnjccicfdlabDoor
namespace Rows

/-- THE TIED CARD OF 'pointsmanlaw1.GlyphJoins'. -/
def glyphJoinsCard : Claim7 := { stood := { row := glyphJoinsRow, standIns := [], harness := (true, "1ed34dbc5cb6109dea841e072ae138ff39b81bc72957d5125da070847fef3b5e"), looks := false }, kinds := [], alts := [], laidByText := true, laidKinds := [.data, .pinned], laidTests := true, laidLooks := .later }
def GlyphJoinsCardSaid : Prop := Claim7.holds Tryd.pinned (.plain (OpenSpec.ofChange glyphJoinsSpec)) glyphJoinsCard

/-- THE TIED CARD OF 'pointsmanlaw1.GlyphBytes'. -/
def glyphBytesCard : Claim7 := { stood := { row := glyphBytesRow, standIns := [], harness := (true, "1ed34dbc5cb6109dea841e072ae138ff39b81bc72957d5125da070847fef3b5e"), looks := false }, kinds := [], alts := [], laidByText := true, laidKinds := [.data, .pinned], laidTests := true, laidLooks := .later }
def GlyphBytesCardSaid : Prop := Claim7.holds Tryd.pinned (.plain (OpenSpec.ofChange glyphBytesSpec)) glyphBytesCard

/-- THE TIED CARD OF 'pointsmanlaw1.GlyphBlanks'. -/
def glyphBlanksCard : Claim7 := { stood := { row := glyphBlanksRow, standIns := [], harness := (true, "1ed34dbc5cb6109dea841e072ae138ff39b81bc72957d5125da070847fef3b5e"), looks := false }, kinds := [], alts := [], laidByText := true, laidKinds := [.data, .pinned], laidTests := true, laidLooks := .later }
def GlyphBlanksCardSaid : Prop := Claim7.holds Tryd.pinned (.plain (OpenSpec.ofChange glyphBlanksSpec)) glyphBlanksCard

/-- THE TIED CARD OF 'pointsmanlaw1.GlyphEach'. -/
def glyphEachCard : Claim7 := { stood := { row := glyphEachRow, standIns := [], harness := (true, "1ed34dbc5cb6109dea841e072ae138ff39b81bc72957d5125da070847fef3b5e"), looks := false }, kinds := [], alts := [], laidByText := true, laidKinds := [.data, .pinned], laidTests := true, laidLooks := .later }
def GlyphEachCardSaid : Prop := Claim7.holds Tryd.pinned (.plain (OpenSpec.ofChange glyphEachSpec)) glyphEachCard

/-- THE SECOND FORM's CARD OF 'pointsmanlaw1.GlyphJoins'. -/
def glyphJoinsUptoCard : Claim7 := { stood := { row := glyphJoinsUptoRow, standIns := [], harness := (true, "1ed34dbc5cb6109dea841e072ae138ff39b81bc72957d5125da070847fef3b5e"), looks := false }, kinds := [], alts := [], laidByText := true, laidKinds := [.data, .pinned], laidTests := true, laidLooks := .later }
def GlyphJoinsUptoCardSaid : Prop := Claim7.holds Tryd.pinned (.plain (OpenSpec.upto glyphJoinsSpec)) glyphJoinsUptoCard

/-- THE SECOND FORM's CARD OF 'pointsmanlaw1.GlyphBytes'. -/
def glyphBytesUptoCard : Claim7 := { stood := { row := glyphBytesUptoRow, standIns := [], harness := (true, "1ed34dbc5cb6109dea841e072ae138ff39b81bc72957d5125da070847fef3b5e"), looks := false }, kinds := [], alts := [], laidByText := true, laidKinds := [.data, .pinned], laidTests := true, laidLooks := .later }
def GlyphBytesUptoCardSaid : Prop := Claim7.holds Tryd.pinned (.plain (OpenSpec.upto glyphBytesSpec)) glyphBytesUptoCard

/-- THE SECOND FORM's CARD OF 'pointsmanlaw1.GlyphBlanks'. -/
def glyphBlanksUptoCard : Claim7 := { stood := { row := glyphBlanksUptoRow, standIns := [], harness := (true, "1ed34dbc5cb6109dea841e072ae138ff39b81bc72957d5125da070847fef3b5e"), looks := false }, kinds := [], alts := [], laidByText := true, laidKinds := [.data, .pinned], laidTests := true, laidLooks := .later }
def GlyphBlanksUptoCardSaid : Prop := Claim7.holds Tryd.pinned (.plain (OpenSpec.upto glyphBlanksSpec)) glyphBlanksUptoCard

/-- THE SECOND FORM's CARD OF 'pointsmanlaw1.GlyphEach'. -/
def glyphEachUptoCard : Claim7 := { stood := { row := glyphEachUptoRow, standIns := [], harness := (true, "1ed34dbc5cb6109dea841e072ae138ff39b81bc72957d5125da070847fef3b5e"), looks := false }, kinds := [], alts := [], laidByText := true, laidKinds := [.data, .pinned], laidTests := true, laidLooks := .later }
def GlyphEachUptoCardSaid : Prop := Claim7.holds Tryd.pinned (.plain (OpenSpec.upto glyphEachSpec)) glyphEachUptoCard
end Rows
end Go.Proofs.YtnnhnjccicfdlabDoor
