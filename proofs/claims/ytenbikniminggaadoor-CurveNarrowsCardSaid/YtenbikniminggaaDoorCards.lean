/-
  DERIVED. GIVEN WITH THE SEED: THE CARDS: each row of YtenbikniminggaaDoorRows.lean that lists a variable, with what it lists TIED to the program's text (the seventh form; the later family's looks); each row that meets fmt, with fmt's text TOLD by the authors' own Lean function (tested against real Go, not proved from fmt's source: count such statements apart). THE CARD IS WHAT COUNTS. Prove the row's statement (the work); the ties are given (YtenbikniminggaaDoorTie.lean); close each card by the builder's one call (the guide's Derived/Test/ToyasCard.lean, 'card_holds'). Laid BY PROGRAM, IN A SANDBOX (cutbox-door.mjs). By AI agents, Wed Nov 11 2026. No macro, syntax, notation, axiom, sorry.
-/
import Derived.Test.YtenbikniminggaaDoorRows
import GoSem.ClaimSeven
namespace Go.Proofs.YtenbikniminggaaDoor
namespace Rows

/-- THE TIED CARD OF 'thermionlaw02.CurveNarrows'. -/
def curveNarrowsCard : Claim7 := { stood := { row := curveNarrowsRow, standIns := [], harness := (true, "5ad99aba0129a219ae9b379a6ed7181b8991d3ae43dcc20a0a3ca963390f909d"), looks := false }, kinds := [], alts := [], laidByText := true, laidKinds := [.data], laidTests := true, laidLooks := .later }
def CurveNarrowsCardSaid : Prop := Claim7.holds Tryd.pinned (.plain (OpenSpec.ofChange curveNarrowsSpec)) curveNarrowsCard

/-- THE TIED CARD OF 'thermionlaw02.CurveNarrowed'. -/
def curveNarrowedCard : Claim7 := { stood := { row := curveNarrowedRow, standIns := [], harness := (true, "5ad99aba0129a219ae9b379a6ed7181b8991d3ae43dcc20a0a3ca963390f909d"), looks := false }, kinds := [], alts := [], laidByText := true, laidKinds := [.data], laidTests := true, laidLooks := .later }
def CurveNarrowedCardSaid : Prop := Claim7.holds Tryd.pinned (.plain (OpenSpec.ofChange curveNarrowedSpec)) curveNarrowedCard

/-- THE SECOND FORM's CARD OF 'thermionlaw02.CurveNarrows'. -/
def curveNarrowsUptoCard : Claim7 := { stood := { row := curveNarrowsUptoRow, standIns := [], harness := (true, "5ad99aba0129a219ae9b379a6ed7181b8991d3ae43dcc20a0a3ca963390f909d"), looks := false }, kinds := [], alts := [], laidByText := true, laidKinds := [.data], laidTests := true, laidLooks := .later }
def CurveNarrowsUptoCardSaid : Prop := Claim7.holds Tryd.pinned (.plain (OpenSpec.upto curveNarrowsSpec)) curveNarrowsUptoCard

/-- THE SECOND FORM's CARD OF 'thermionlaw02.CurveNarrowed'. -/
def curveNarrowedUptoCard : Claim7 := { stood := { row := curveNarrowedUptoRow, standIns := [], harness := (true, "5ad99aba0129a219ae9b379a6ed7181b8991d3ae43dcc20a0a3ca963390f909d"), looks := false }, kinds := [], alts := [], laidByText := true, laidKinds := [.data], laidTests := true, laidLooks := .later }
def CurveNarrowedUptoCardSaid : Prop := Claim7.holds Tryd.pinned (.plain (OpenSpec.upto curveNarrowedSpec)) curveNarrowedUptoCard
end Rows
end Go.Proofs.YtenbikniminggaaDoor
