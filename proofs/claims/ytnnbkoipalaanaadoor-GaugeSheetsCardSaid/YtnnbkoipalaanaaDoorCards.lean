/-
  DERIVED. GIVEN WITH THE SEED: THE CARDS: each row of YtnnbkoipalaanaaDoorRows.lean that lists a variable, with what it lists TIED to the program's text (the seventh form; the later family's looks); each row that meets fmt, with fmt's text TOLD by the authors' own Lean function (tested against real Go, not proved from fmt's source: count such statements apart). THE CARD IS WHAT COUNTS. Prove the row's statement (the work); the ties are given (YtnnbkoipalaanaaDoorTie.lean); close each card by the builder's one call (the guide's Derived/Test/ToyasCard.lean, 'card_holds'). Laid BY PROGRAM, IN A SANDBOX (cutbox-door.mjs). By AI agents, Wed Nov 11 2026. No macro, syntax, notation, axiom, sorry.
-/
import Derived.Test.YtnnbkoipalaanaaDoorRows
import GoSem.ClaimSeven
namespace Go.Proofs.YtnnbkoipalaanaaDoor
namespace Rows

/-- THE TIED CARD OF 'thermionlaw07.GaugeChecks'. -/
def gaugeChecksCard : Claim7 := { stood := { row := gaugeChecksRow, standIns := [], harness := (true, "603bf561e548b3a97655e410e2ccda61205d85c39c69ac98af813d4b743800d3"), looks := false }, kinds := [], alts := [], laidByText := true, laidKinds := [.data], laidTests := true, laidLooks := .later }
def GaugeChecksCardSaid : Prop := Claim7.holds Tryd.pinned (.plain (OpenSpec.ofChange gaugeChecksSpec)) gaugeChecksCard

/-- THE TIED CARD OF 'thermionlaw07.GaugeTrues'. -/
def gaugeTruesCard : Claim7 := { stood := { row := gaugeTruesRow, standIns := [], harness := (true, "603bf561e548b3a97655e410e2ccda61205d85c39c69ac98af813d4b743800d3"), looks := false }, kinds := [], alts := [], laidByText := true, laidKinds := [.data], laidTests := true, laidLooks := .later }
def GaugeTruesCardSaid : Prop := Claim7.holds Tryd.pinned (.plain (OpenSpec.ofChange gaugeTruesSpec)) gaugeTruesCard

/-- THE TIED CARD OF 'thermionlaw07.GaugeAccepts'. -/
def gaugeAcceptsCard : Claim7 := { stood := { row := gaugeAcceptsRow, standIns := [], harness := (true, "603bf561e548b3a97655e410e2ccda61205d85c39c69ac98af813d4b743800d3"), looks := false }, kinds := [], alts := [], laidByText := true, laidKinds := [.data], laidTests := true, laidLooks := .later }
def GaugeAcceptsCardSaid : Prop := Claim7.holds Tryd.pinned (.plain (OpenSpec.ofChange gaugeAcceptsSpec)) gaugeAcceptsCard

/-- THE TIED CARD OF 'thermionlaw07.GaugeTogethers'. -/
def gaugeTogethersCard : Claim7 := { stood := { row := gaugeTogethersRow, standIns := [], harness := (true, "603bf561e548b3a97655e410e2ccda61205d85c39c69ac98af813d4b743800d3"), looks := false }, kinds := [], alts := [], laidByText := true, laidKinds := [.data], laidTests := true, laidLooks := .later }
def GaugeTogethersCardSaid : Prop := Claim7.holds Tryd.pinned (.plain (OpenSpec.ofChange gaugeTogethersSpec)) gaugeTogethersCard

/-- THE TIED CARD OF 'thermionlaw07.GaugeSheets'. -/
def gaugeSheetsCard : Claim7 := { stood := { row := gaugeSheetsRow, standIns := [], harness := (true, "603bf561e548b3a97655e410e2ccda61205d85c39c69ac98af813d4b743800d3"), looks := false }, kinds := [], alts := [], laidByText := true, laidKinds := [.data], laidTests := true, laidLooks := .later }
def GaugeSheetsCardSaid : Prop := Claim7.holds Tryd.pinned (.plain (OpenSpec.ofChange gaugeSheetsSpec)) gaugeSheetsCard

/-- THE TIED CARD OF 'thermionlaw07.GaugeAges'. -/
def gaugeAgesCard : Claim7 := { stood := { row := gaugeAgesRow, standIns := [], harness := (true, "603bf561e548b3a97655e410e2ccda61205d85c39c69ac98af813d4b743800d3"), looks := false }, kinds := [], alts := [], laidByText := true, laidKinds := [.data], laidTests := true, laidLooks := .later }
def GaugeAgesCardSaid : Prop := Claim7.holds Tryd.pinned (.plain (OpenSpec.ofChange gaugeAgesSpec)) gaugeAgesCard

/-- THE TIED CARD OF 'thermionlaw07.GaugeShows'. -/
def gaugeShowsCard : Claim7 := { stood := { row := gaugeShowsRow, standIns := [], harness := (true, "603bf561e548b3a97655e410e2ccda61205d85c39c69ac98af813d4b743800d3"), looks := false }, kinds := [], alts := [], laidByText := true, laidKinds := [.data], laidTests := true, laidLooks := .later }
def GaugeShowsCardSaid : Prop := Claim7.holds Tryd.pinned (.plain (OpenSpec.ofChange gaugeShowsSpec)) gaugeShowsCard

/-- THE TIED CARD OF 'thermionlaw07.GaugeEnds'. -/
def gaugeEndsCard : Claim7 := { stood := { row := gaugeEndsRow, standIns := [], harness := (true, "603bf561e548b3a97655e410e2ccda61205d85c39c69ac98af813d4b743800d3"), looks := false }, kinds := [], alts := [], laidByText := true, laidKinds := [.data], laidTests := true, laidLooks := .later }
def GaugeEndsCardSaid : Prop := Claim7.holds Tryd.pinned (.plain (OpenSpec.ofChange gaugeEndsSpec)) gaugeEndsCard

/-- THE TIED CARD OF 'thermionlaw07.GaugeRises'. -/
def gaugeRisesCard : Claim7 := { stood := { row := gaugeRisesRow, standIns := [], harness := (true, "603bf561e548b3a97655e410e2ccda61205d85c39c69ac98af813d4b743800d3"), looks := false }, kinds := [], alts := [], laidByText := true, laidKinds := [.data], laidTests := true, laidLooks := .later }
def GaugeRisesCardSaid : Prop := Claim7.holds Tryd.pinned (.plain (OpenSpec.ofChange gaugeRisesSpec)) gaugeRisesCard

/-- THE TIED CARD OF 'thermionlaw07.GaugeGuards'. -/
def gaugeGuardsCard : Claim7 := { stood := { row := gaugeGuardsRow, standIns := [], harness := (true, "603bf561e548b3a97655e410e2ccda61205d85c39c69ac98af813d4b743800d3"), looks := false }, kinds := [], alts := [], laidByText := true, laidKinds := [.data], laidTests := true, laidLooks := .later }
def GaugeGuardsCardSaid : Prop := Claim7.holds Tryd.pinned (.plain (OpenSpec.ofChange gaugeGuardsSpec)) gaugeGuardsCard

/-- THE TIED CARD OF 'thermionlaw07.GaugeAgrees'. -/
def gaugeAgreesCard : Claim7 := { stood := { row := gaugeAgreesRow, standIns := [], harness := (true, "603bf561e548b3a97655e410e2ccda61205d85c39c69ac98af813d4b743800d3"), looks := false }, kinds := [], alts := [], laidByText := true, laidKinds := [.data], laidTests := true, laidLooks := .later }
def GaugeAgreesCardSaid : Prop := Claim7.holds Tryd.pinned (.plain (OpenSpec.ofChange gaugeAgreesSpec)) gaugeAgreesCard

/-- THE TIED CARD OF 'thermionlaw07.GaugeLonger'. -/
def gaugeLongerCard : Claim7 := { stood := { row := gaugeLongerRow, standIns := [], harness := (true, "603bf561e548b3a97655e410e2ccda61205d85c39c69ac98af813d4b743800d3"), looks := false }, kinds := [], alts := [], laidByText := true, laidKinds := [.data], laidTests := true, laidLooks := .later }
def GaugeLongerCardSaid : Prop := Claim7.holds Tryd.pinned (.plain (OpenSpec.ofChange gaugeLongerSpec)) gaugeLongerCard

/-- THE SECOND FORM's CARD OF 'thermionlaw07.GaugeChecks'. -/
def gaugeChecksUptoCard : Claim7 := { stood := { row := gaugeChecksUptoRow, standIns := [], harness := (true, "603bf561e548b3a97655e410e2ccda61205d85c39c69ac98af813d4b743800d3"), looks := false }, kinds := [], alts := [], laidByText := true, laidKinds := [.data], laidTests := true, laidLooks := .later }
def GaugeChecksUptoCardSaid : Prop := Claim7.holds Tryd.pinned (.plain (OpenSpec.upto gaugeChecksSpec)) gaugeChecksUptoCard

/-- THE SECOND FORM's CARD OF 'thermionlaw07.GaugeTrues'. -/
def gaugeTruesUptoCard : Claim7 := { stood := { row := gaugeTruesUptoRow, standIns := [], harness := (true, "603bf561e548b3a97655e410e2ccda61205d85c39c69ac98af813d4b743800d3"), looks := false }, kinds := [], alts := [], laidByText := true, laidKinds := [.data], laidTests := true, laidLooks := .later }
def GaugeTruesUptoCardSaid : Prop := Claim7.holds Tryd.pinned (.plain (OpenSpec.upto gaugeTruesSpec)) gaugeTruesUptoCard

/-- THE SECOND FORM's CARD OF 'thermionlaw07.GaugeAccepts'. -/
def gaugeAcceptsUptoCard : Claim7 := { stood := { row := gaugeAcceptsUptoRow, standIns := [], harness := (true, "603bf561e548b3a97655e410e2ccda61205d85c39c69ac98af813d4b743800d3"), looks := false }, kinds := [], alts := [], laidByText := true, laidKinds := [.data], laidTests := true, laidLooks := .later }
def GaugeAcceptsUptoCardSaid : Prop := Claim7.holds Tryd.pinned (.plain (OpenSpec.upto gaugeAcceptsSpec)) gaugeAcceptsUptoCard

/-- THE SECOND FORM's CARD OF 'thermionlaw07.GaugeTogethers'. -/
def gaugeTogethersUptoCard : Claim7 := { stood := { row := gaugeTogethersUptoRow, standIns := [], harness := (true, "603bf561e548b3a97655e410e2ccda61205d85c39c69ac98af813d4b743800d3"), looks := false }, kinds := [], alts := [], laidByText := true, laidKinds := [.data], laidTests := true, laidLooks := .later }
def GaugeTogethersUptoCardSaid : Prop := Claim7.holds Tryd.pinned (.plain (OpenSpec.upto gaugeTogethersSpec)) gaugeTogethersUptoCard

/-- THE SECOND FORM's CARD OF 'thermionlaw07.GaugeSheets'. -/
def gaugeSheetsUptoCard : Claim7 := { stood := { row := gaugeSheetsUptoRow, standIns := [], harness := (true, "603bf561e548b3a97655e410e2ccda61205d85c39c69ac98af813d4b743800d3"), looks := false }, kinds := [], alts := [], laidByText := true, laidKinds := [.data], laidTests := true, laidLooks := .later }
def GaugeSheetsUptoCardSaid : Prop := Claim7.holds Tryd.pinned (.plain (OpenSpec.upto gaugeSheetsSpec)) gaugeSheetsUptoCard

/-- THE SECOND FORM's CARD OF 'thermionlaw07.GaugeAges'. -/
def gaugeAgesUptoCard : Claim7 := { stood := { row := gaugeAgesUptoRow, standIns := [], harness := (true, "603bf561e548b3a97655e410e2ccda61205d85c39c69ac98af813d4b743800d3"), looks := false }, kinds := [], alts := [], laidByText := true, laidKinds := [.data], laidTests := true, laidLooks := .later }
def GaugeAgesUptoCardSaid : Prop := Claim7.holds Tryd.pinned (.plain (OpenSpec.upto gaugeAgesSpec)) gaugeAgesUptoCard

/-- THE SECOND FORM's CARD OF 'thermionlaw07.GaugeShows'. -/
def gaugeShowsUptoCard : Claim7 := { stood := { row := gaugeShowsUptoRow, standIns := [], harness := (true, "603bf561e548b3a97655e410e2ccda61205d85c39c69ac98af813d4b743800d3"), looks := false }, kinds := [], alts := [], laidByText := true, laidKinds := [.data], laidTests := true, laidLooks := .later }
def GaugeShowsUptoCardSaid : Prop := Claim7.holds Tryd.pinned (.plain (OpenSpec.upto gaugeShowsSpec)) gaugeShowsUptoCard

/-- THE SECOND FORM's CARD OF 'thermionlaw07.GaugeEnds'. -/
def gaugeEndsUptoCard : Claim7 := { stood := { row := gaugeEndsUptoRow, standIns := [], harness := (true, "603bf561e548b3a97655e410e2ccda61205d85c39c69ac98af813d4b743800d3"), looks := false }, kinds := [], alts := [], laidByText := true, laidKinds := [.data], laidTests := true, laidLooks := .later }
def GaugeEndsUptoCardSaid : Prop := Claim7.holds Tryd.pinned (.plain (OpenSpec.upto gaugeEndsSpec)) gaugeEndsUptoCard

/-- THE SECOND FORM's CARD OF 'thermionlaw07.GaugeRises'. -/
def gaugeRisesUptoCard : Claim7 := { stood := { row := gaugeRisesUptoRow, standIns := [], harness := (true, "603bf561e548b3a97655e410e2ccda61205d85c39c69ac98af813d4b743800d3"), looks := false }, kinds := [], alts := [], laidByText := true, laidKinds := [.data], laidTests := true, laidLooks := .later }
def GaugeRisesUptoCardSaid : Prop := Claim7.holds Tryd.pinned (.plain (OpenSpec.upto gaugeRisesSpec)) gaugeRisesUptoCard

/-- THE SECOND FORM's CARD OF 'thermionlaw07.GaugeGuards'. -/
def gaugeGuardsUptoCard : Claim7 := { stood := { row := gaugeGuardsUptoRow, standIns := [], harness := (true, "603bf561e548b3a97655e410e2ccda61205d85c39c69ac98af813d4b743800d3"), looks := false }, kinds := [], alts := [], laidByText := true, laidKinds := [.data], laidTests := true, laidLooks := .later }
def GaugeGuardsUptoCardSaid : Prop := Claim7.holds Tryd.pinned (.plain (OpenSpec.upto gaugeGuardsSpec)) gaugeGuardsUptoCard

/-- THE SECOND FORM's CARD OF 'thermionlaw07.GaugeAgrees'. -/
def gaugeAgreesUptoCard : Claim7 := { stood := { row := gaugeAgreesUptoRow, standIns := [], harness := (true, "603bf561e548b3a97655e410e2ccda61205d85c39c69ac98af813d4b743800d3"), looks := false }, kinds := [], alts := [], laidByText := true, laidKinds := [.data], laidTests := true, laidLooks := .later }
def GaugeAgreesUptoCardSaid : Prop := Claim7.holds Tryd.pinned (.plain (OpenSpec.upto gaugeAgreesSpec)) gaugeAgreesUptoCard

/-- THE SECOND FORM's CARD OF 'thermionlaw07.GaugeLonger'. -/
def gaugeLongerUptoCard : Claim7 := { stood := { row := gaugeLongerUptoRow, standIns := [], harness := (true, "603bf561e548b3a97655e410e2ccda61205d85c39c69ac98af813d4b743800d3"), looks := false }, kinds := [], alts := [], laidByText := true, laidKinds := [.data], laidTests := true, laidLooks := .later }
def GaugeLongerUptoCardSaid : Prop := Claim7.holds Tryd.pinned (.plain (OpenSpec.upto gaugeLongerSpec)) gaugeLongerUptoCard
end Rows
end Go.Proofs.YtnnbkoipalaanaaDoor
