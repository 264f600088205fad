/-
  DERIVED. GIVEN WITH THE SEED: THE CARDS: each row of YtgjcjehpfjeomaaDoorRows.lean that lists a variable, with what it lists TIED to the program's text (the seventh form; the later family's looks); each row that meets fmt, with fmt's text TOLD by the authors' own Lean function (tested against real Go, not proved from fmt's source: count such statements apart). THE CARD IS WHAT COUNTS. Prove the row's statement (the work); the ties are given (YtgjcjehpfjeomaaDoorTie.lean); close each card by the builder's one call (the guide's Derived/Test/ToyasCard.lean, 'card_holds'). Laid BY PROGRAM, IN A SANDBOX (cutbox-door.mjs). By AI agents, Wed Nov 11 2026. No macro, syntax, notation, axiom, sorry.
-/
import Derived.Test.YtgjcjehpfjeomaaDoorRows
import GoSem.ClaimSeven
namespace Go.Proofs.YtgjcjehpfjeomaaDoor
namespace Rows

/-- THE TIED CARD OF 'thermionlaw01.FieldTexts'. -/
def fieldTextsCard : Claim7 := { stood := { row := fieldTextsRow, standIns := [], harness := (true, "221a4a98b37a84ea0406088487d814f4076595ec6a4a1b52ac4c0676b7d352a3"), looks := false }, kinds := [], alts := [], laidByText := true, laidKinds := [.data, .pinned], laidTests := true, laidLooks := .later }
def FieldTextsCardSaid : Prop := Claim7.holds Tryd.pinned (.plain (OpenSpec.ofChange fieldTextsSpec)) fieldTextsCard

/-- THE TIED CARD OF 'thermionlaw01.FieldNotes'. -/
def fieldNotesCard : Claim7 := { stood := { row := fieldNotesRow, standIns := [], harness := (true, "221a4a98b37a84ea0406088487d814f4076595ec6a4a1b52ac4c0676b7d352a3"), looks := false }, kinds := [], alts := [], laidByText := true, laidKinds := [.data, .pinned], laidTests := true, laidLooks := .later }
def FieldNotesCardSaid : Prop := Claim7.holds Tryd.pinned (.plain (OpenSpec.ofChange fieldNotesSpec)) fieldNotesCard

/-- THE SECOND FORM's CARD OF 'thermionlaw01.FieldTexts'. -/
def fieldTextsUptoCard : Claim7 := { stood := { row := fieldTextsUptoRow, standIns := [], harness := (true, "221a4a98b37a84ea0406088487d814f4076595ec6a4a1b52ac4c0676b7d352a3"), looks := false }, kinds := [], alts := [], laidByText := true, laidKinds := [.data, .pinned], laidTests := true, laidLooks := .later }
def FieldTextsUptoCardSaid : Prop := Claim7.holds Tryd.pinned (.plain (OpenSpec.upto fieldTextsSpec)) fieldTextsUptoCard

/-- THE SECOND FORM's CARD OF 'thermionlaw01.FieldNotes'. -/
def fieldNotesUptoCard : Claim7 := { stood := { row := fieldNotesUptoRow, standIns := [], harness := (true, "221a4a98b37a84ea0406088487d814f4076595ec6a4a1b52ac4c0676b7d352a3"), looks := false }, kinds := [], alts := [], laidByText := true, laidKinds := [.data, .pinned], laidTests := true, laidLooks := .later }
def FieldNotesUptoCardSaid : Prop := Claim7.holds Tryd.pinned (.plain (OpenSpec.upto fieldNotesSpec)) fieldNotesUptoCard
end Rows
end Go.Proofs.YtgjcjehpfjeomaaDoor
