/-
  DERIVED. GIVEN WITH THE SEED: THE CARDS: each row of YtfkphdalofcfpaaDoorRows.lean that lists a variable, with what it lists TIED to the program's text (the seventh form; the later family's looks); each row that meets fmt, with fmt's text TOLD by the authors' own Lean function (tested against real Go, not proved from fmt's source: count such statements apart). THE CARD IS WHAT COUNTS. Prove the row's statement (the work); the ties are given (YtfkphdalofcfpaaDoorTie.lean); close each card by the builder's one call (the guide's Derived/Test/ToyasCard.lean, 'card_holds'). Laid BY PROGRAM, IN A SANDBOX (cutbox-door.mjs). By AI agents, Wed Nov 11 2026. No macro, syntax, notation, axiom, sorry.
-/
import Derived.Test.YtfkphdalofcfpaaDoorRows
import GoSem.ClaimSeven
namespace Go.Proofs.YtfkphdalofcfpaaDoor
namespace Rows

/-- THE TIED CARD OF 'thermionlaw01.FieldTexts'. -/
def fieldTextsCard : Claim7 := { stood := { row := fieldTextsRow, standIns := [], harness := (true, "b140872f2b60b4b207494b8939f8ced39d87e0c7dccef39e85bd674b12f30192"), looks := false }, kinds := [], alts := [], laidByText := true, laidKinds := [.data, .pinned], laidTests := true, laidLooks := .later }
def FieldTextsCardSaid : Prop := Claim7.holds Tryd.pinned (.plain (OpenSpec.ofChange fieldTextsSpec)) fieldTextsCard

/-- THE TIED CARD OF 'thermionlaw01.FieldKnown'. -/
def fieldKnownCard : Claim7 := { stood := { row := fieldKnownRow, standIns := [], harness := (true, "b140872f2b60b4b207494b8939f8ced39d87e0c7dccef39e85bd674b12f30192"), looks := false }, kinds := [], alts := [], laidByText := true, laidKinds := [.data, .pinned], laidTests := true, laidLooks := .later }
def FieldKnownCardSaid : Prop := Claim7.holds Tryd.pinned (.plain (OpenSpec.ofChange fieldKnownSpec)) fieldKnownCard

/-- THE TIED CARD OF 'thermionlaw01.FieldNotes'. -/
def fieldNotesCard : Claim7 := { stood := { row := fieldNotesRow, standIns := [], harness := (true, "b140872f2b60b4b207494b8939f8ced39d87e0c7dccef39e85bd674b12f30192"), looks := false }, kinds := [], alts := [], laidByText := true, laidKinds := [.data, .pinned], laidTests := true, laidLooks := .later }
def FieldNotesCardSaid : Prop := Claim7.holds Tryd.pinned (.plain (OpenSpec.ofChange fieldNotesSpec)) fieldNotesCard

/-- THE SECOND FORM's CARD OF 'thermionlaw01.FieldTexts'. -/
def fieldTextsUptoCard : Claim7 := { stood := { row := fieldTextsUptoRow, standIns := [], harness := (true, "b140872f2b60b4b207494b8939f8ced39d87e0c7dccef39e85bd674b12f30192"), looks := false }, kinds := [], alts := [], laidByText := true, laidKinds := [.data, .pinned], laidTests := true, laidLooks := .later }
def FieldTextsUptoCardSaid : Prop := Claim7.holds Tryd.pinned (.plain (OpenSpec.upto fieldTextsSpec)) fieldTextsUptoCard

/-- THE SECOND FORM's CARD OF 'thermionlaw01.FieldKnown'. -/
def fieldKnownUptoCard : Claim7 := { stood := { row := fieldKnownUptoRow, standIns := [], harness := (true, "b140872f2b60b4b207494b8939f8ced39d87e0c7dccef39e85bd674b12f30192"), looks := false }, kinds := [], alts := [], laidByText := true, laidKinds := [.data, .pinned], laidTests := true, laidLooks := .later }
def FieldKnownUptoCardSaid : Prop := Claim7.holds Tryd.pinned (.plain (OpenSpec.upto fieldKnownSpec)) fieldKnownUptoCard

/-- THE SECOND FORM's CARD OF 'thermionlaw01.FieldNotes'. -/
def fieldNotesUptoCard : Claim7 := { stood := { row := fieldNotesUptoRow, standIns := [], harness := (true, "b140872f2b60b4b207494b8939f8ced39d87e0c7dccef39e85bd674b12f30192"), looks := false }, kinds := [], alts := [], laidByText := true, laidKinds := [.data, .pinned], laidTests := true, laidLooks := .later }
def FieldNotesUptoCardSaid : Prop := Claim7.holds Tryd.pinned (.plain (OpenSpec.upto fieldNotesSpec)) fieldNotesUptoCard
end Rows
end Go.Proofs.YtfkphdalofcfpaaDoor
