/-
  DERIVED. GIVEN WITH THE SEED: THE CARDS: each row of YtnnhnjccicfdlaaDoorRows.lean that lists a variable, with what it lists TIED to the program's text (the seventh form; the later family's looks); each row that meets fmt, with fmt's text TOLD by the authors' own Lean function (tested against real Go, not proved from fmt's source: count such statements apart). THE CARD IS WHAT COUNTS. Prove the row's statement (the work); the ties are given (YtnnhnjccicfdlaaDoorTie.lean); close each card by the builder's one call (the guide's Derived/Test/ToyasCard.lean, 'card_holds'). Laid BY PROGRAM, IN A SANDBOX (cutbox-door.mjs). By AI agents, Wed Nov 11 2026. No macro, syntax, notation, axiom, sorry.
-/
import Derived.Test.YtnnhnjccicfdlaaDoorRows
import GoSem.ClaimSeven
namespace Go.Proofs.YtnnhnjccicfdlaaDoor
namespace Rows

/-- THE TIED CARD OF 'pointsmanlaw1.GlyphTells'. -/
def glyphTellsCard : Claim7 := { stood := { row := glyphTellsRow, standIns := [], harness := (true, "ca83139be719f92004cc906849113c574d02b08761c8ad4ffbd4c2d383cbbf23"), looks := false }, kinds := [], alts := [], laidByText := true, laidKinds := [.data, .pinned], laidTests := true, laidLooks := .later }
def GlyphTellsCardSaid : Prop := Claim7.holds Tryd.pinned (.plain (OpenSpec.ofChange glyphTellsSpec)) glyphTellsCard

/-- THE TIED CARD OF 'pointsmanlaw1.GlyphWords'. -/
def glyphWordsCard : Claim7 := { stood := { row := glyphWordsRow, standIns := [], harness := (true, "ca83139be719f92004cc906849113c574d02b08761c8ad4ffbd4c2d383cbbf23"), looks := false }, kinds := [], alts := [], laidByText := true, laidKinds := [.data, .pinned], laidTests := true, laidLooks := .later }
def GlyphWordsCardSaid : Prop := Claim7.holds Tryd.pinned (.plain (OpenSpec.ofChange glyphWordsSpec)) glyphWordsCard

/-- THE TIED CARD OF 'pointsmanlaw1.GlyphOrders'. -/
def glyphOrdersCard : Claim7 := { stood := { row := glyphOrdersRow, standIns := [], harness := (true, "ca83139be719f92004cc906849113c574d02b08761c8ad4ffbd4c2d383cbbf23"), looks := false }, kinds := [], alts := [], laidByText := true, laidKinds := [.data, .pinned], laidTests := true, laidLooks := .later }
def GlyphOrdersCardSaid : Prop := Claim7.holds Tryd.pinned (.plain (OpenSpec.ofChange glyphOrdersSpec)) glyphOrdersCard

/-- THE SECOND FORM's CARD OF 'pointsmanlaw1.GlyphTells'. -/
def glyphTellsUptoCard : Claim7 := { stood := { row := glyphTellsUptoRow, standIns := [], harness := (true, "ca83139be719f92004cc906849113c574d02b08761c8ad4ffbd4c2d383cbbf23"), looks := false }, kinds := [], alts := [], laidByText := true, laidKinds := [.data, .pinned], laidTests := true, laidLooks := .later }
def GlyphTellsUptoCardSaid : Prop := Claim7.holds Tryd.pinned (.plain (OpenSpec.upto glyphTellsSpec)) glyphTellsUptoCard

/-- THE SECOND FORM's CARD OF 'pointsmanlaw1.GlyphWords'. -/
def glyphWordsUptoCard : Claim7 := { stood := { row := glyphWordsUptoRow, standIns := [], harness := (true, "ca83139be719f92004cc906849113c574d02b08761c8ad4ffbd4c2d383cbbf23"), looks := false }, kinds := [], alts := [], laidByText := true, laidKinds := [.data, .pinned], laidTests := true, laidLooks := .later }
def GlyphWordsUptoCardSaid : Prop := Claim7.holds Tryd.pinned (.plain (OpenSpec.upto glyphWordsSpec)) glyphWordsUptoCard

/-- THE SECOND FORM's CARD OF 'pointsmanlaw1.GlyphOrders'. -/
def glyphOrdersUptoCard : Claim7 := { stood := { row := glyphOrdersUptoRow, standIns := [], harness := (true, "ca83139be719f92004cc906849113c574d02b08761c8ad4ffbd4c2d383cbbf23"), looks := false }, kinds := [], alts := [], laidByText := true, laidKinds := [.data, .pinned], laidTests := true, laidLooks := .later }
def GlyphOrdersUptoCardSaid : Prop := Claim7.holds Tryd.pinned (.plain (OpenSpec.upto glyphOrdersSpec)) glyphOrdersUptoCard
end Rows
end Go.Proofs.YtnnhnjccicfdlaaDoor
