/-
  NARROWER THAN 'FOR EVERY INPUT', by the rows' own cells (each row's printed sentence says how): GaugeChecks: laid · GaugeTrues: laid · GaugeAccepts: laid · GaugeTogethers: laid · GaugeSheets: laid · GaugeAges: laid · GaugeShows: laid · GaugeEnds: laid · GaugeRises: laid · GaugeGuards: laid · GaugeAgrees: laid · GaugeLonger: laid.
  DERIVED. THE GIVEN ROWS OF THIS SEAT. 12 by the template 'for every input the law returns true; each argument reads behind the call as it read before'; 0 by the template 'total and deterministic' (their statements: YtnnbkoipalaanaaDoorTotals.lean).
  GIVEN WITH THE SEED: the statements are not yours to turn. If you find one false, say at which input.
  Laid BY PROGRAM, IN A SANDBOX (cutbox-rows.mjs): the forced cells as the released guide's own fill.sh prints them over the translation 6a9f73c3949f9e10… (all of the seat's roots in one cut). By AI agents, Wed Nov 11 2026. No macro, syntax, notation, axiom, sorry.
-/
import Derived.Test.YtnnbkoipalaanaaDoorChecked
import GoSem.Claim
import GoSem.ClaimJoined
import GoSem.ClaimMapViews
import Derived.JoinedTies
import Derived.KernelRfl
namespace Go.Proofs.YtnnbkoipalaanaaDoor
/- THE CELL 'sum', in the pinned program and in every row, IS THE sha256 OF THE DUMP (.gsa) THAT YtnnbkoipalaanaaDoorProg.lean LOADS. Nothing in Lean hashes anything: it is a label: what it is worth is what the hold of that sum in a sandbox is worth. -/
noncomputable def Tryd.pinned : Pinned := { name := "ytnnbkoipalaanaadoor", sum := "6a9f73c3949f9e1002a26d3575aae43cd895f571720b5d4b720d1e3e3b2d5b9a", checked := Tryd.checked }
namespace Rows
def none {H : Type} : Left H := { results := [], args := [] }

/- WHAT THE LISTED PACKAGE-LEVEL VARIABLES READ AS WHEN THE CALL BEGINS. Each datum BY PROGRAM (the guide's laid-datum.mjs) off the statement by which the dump's own 'gosem.cut.vars' lays the variable. In a bare row this is a premise. The card (YtnnbkoipalaanaaDoorCards.lean) ties it to the program's text. -/
def laid_thermion_gauge_values {H : Type} : DataW H := .agg [.lit (.int .i64 (-1000000000)), .lit (.int .i64 1000000000)]

/-- 'thermionlaw07.GaugeChecks': WHATEVER THE INPUT: true; the input reads as it did. -/
def gaugeChecksSpec : ChangeSpec := { name := "gaugeChecks", fn := fun _ => fun
  | [d1, d2, d3, d4, d5] => { results := [.lit (.bool true)], args := [d1, d2, d3, d4, d5] }
  | _ => none }
def gaugeChecksRow : OpenClaim := { program := "ytnnbkoipalaanaadoor", sum := "6a9f73c3949f9e1002a26d3575aae43cd895f571720b5d4b720d1e3e3b2d5b9a", func := "thermion/thermionlaw07.GaugeChecks", spec := "gaugeChecks", unfollowed := true, recurses := true, named := ["thermion/gauge.values"], apart := false, laid := [("thermion/gauge.values", laid_thermion_gauge_values)] }
def GaugeChecksSaid : Prop := gaugeChecksRow.holds Tryd.pinned (OpenSpec.ofChange gaugeChecksSpec)

/-- ITS FALSE NEIGHBOUR: 'it returns false'. Refute it at one input. -/
def gaugeChecksWrong : ChangeSpec := { name := "gaugeChecks", fn := fun _ => fun
  | [d1, d2, d3, d4, d5] => { results := [.lit (.bool false)], args := [d1, d2, d3, d4, d5] }
  | _ => none }
def GaugeChecksWrongFalsely : Prop := gaugeChecksRow.holds Tryd.pinned (OpenSpec.ofChange gaugeChecksWrong)

/-- 'thermionlaw07.GaugeTrues': WHATEVER THE INPUT: true; the input reads as it did. -/
def gaugeTruesSpec : ChangeSpec := { name := "gaugeTrues", fn := fun _ => fun
  | [d1, d2, d3, d4, d5] => { results := [.lit (.bool true)], args := [d1, d2, d3, d4, d5] }
  | _ => none }
def gaugeTruesRow : OpenClaim := { program := "ytnnbkoipalaanaadoor", sum := "6a9f73c3949f9e1002a26d3575aae43cd895f571720b5d4b720d1e3e3b2d5b9a", func := "thermion/thermionlaw07.GaugeTrues", spec := "gaugeTrues", unfollowed := true, recurses := true, named := ["thermion/gauge.values"], apart := false, laid := [("thermion/gauge.values", laid_thermion_gauge_values)] }
def GaugeTruesSaid : Prop := gaugeTruesRow.holds Tryd.pinned (OpenSpec.ofChange gaugeTruesSpec)

/-- ITS FALSE NEIGHBOUR: 'it returns false'. Refute it at one input. -/
def gaugeTruesWrong : ChangeSpec := { name := "gaugeTrues", fn := fun _ => fun
  | [d1, d2, d3, d4, d5] => { results := [.lit (.bool false)], args := [d1, d2, d3, d4, d5] }
  | _ => none }
def GaugeTruesWrongFalsely : Prop := gaugeTruesRow.holds Tryd.pinned (OpenSpec.ofChange gaugeTruesWrong)

/-- 'thermionlaw07.GaugeAccepts': WHATEVER THE INPUT: true; the input reads as it did. -/
def gaugeAcceptsSpec : ChangeSpec := { name := "gaugeAccepts", fn := fun _ => fun
  | [d1, d2, d3, d4, d5, d6] => { results := [.lit (.bool true)], args := [d1, d2, d3, d4, d5, d6] }
  | _ => none }
def gaugeAcceptsRow : OpenClaim := { program := "ytnnbkoipalaanaadoor", sum := "6a9f73c3949f9e1002a26d3575aae43cd895f571720b5d4b720d1e3e3b2d5b9a", func := "thermion/thermionlaw07.GaugeAccepts", spec := "gaugeAccepts", unfollowed := true, recurses := true, named := ["thermion/gauge.values"], apart := false, laid := [("thermion/gauge.values", laid_thermion_gauge_values)] }
def GaugeAcceptsSaid : Prop := gaugeAcceptsRow.holds Tryd.pinned (OpenSpec.ofChange gaugeAcceptsSpec)

/-- ITS FALSE NEIGHBOUR: 'it returns false'. Refute it at one input. -/
def gaugeAcceptsWrong : ChangeSpec := { name := "gaugeAccepts", fn := fun _ => fun
  | [d1, d2, d3, d4, d5, d6] => { results := [.lit (.bool false)], args := [d1, d2, d3, d4, d5, d6] }
  | _ => none }
def GaugeAcceptsWrongFalsely : Prop := gaugeAcceptsRow.holds Tryd.pinned (OpenSpec.ofChange gaugeAcceptsWrong)

/-- 'thermionlaw07.GaugeTogethers': WHATEVER THE INPUT: true; the input reads as it did. -/
def gaugeTogethersSpec : ChangeSpec := { name := "gaugeTogethers", fn := fun _ => fun
  | [d1, d2, d3, d4] => { results := [.lit (.bool true)], args := [d1, d2, d3, d4] }
  | _ => none }
def gaugeTogethersRow : OpenClaim := { program := "ytnnbkoipalaanaadoor", sum := "6a9f73c3949f9e1002a26d3575aae43cd895f571720b5d4b720d1e3e3b2d5b9a", func := "thermion/thermionlaw07.GaugeTogethers", spec := "gaugeTogethers", unfollowed := true, recurses := true, named := ["thermion/gauge.values"], apart := false, laid := [("thermion/gauge.values", laid_thermion_gauge_values)] }
def GaugeTogethersSaid : Prop := gaugeTogethersRow.holds Tryd.pinned (OpenSpec.ofChange gaugeTogethersSpec)

/-- ITS FALSE NEIGHBOUR: 'it returns false'. Refute it at one input. -/
def gaugeTogethersWrong : ChangeSpec := { name := "gaugeTogethers", fn := fun _ => fun
  | [d1, d2, d3, d4] => { results := [.lit (.bool false)], args := [d1, d2, d3, d4] }
  | _ => none }
def GaugeTogethersWrongFalsely : Prop := gaugeTogethersRow.holds Tryd.pinned (OpenSpec.ofChange gaugeTogethersWrong)

/-- 'thermionlaw07.GaugeSheets': WHATEVER THE INPUT: true; the input reads as it did. -/
def gaugeSheetsSpec : ChangeSpec := { name := "gaugeSheets", fn := fun _ => fun
  | [d1, d2, d3, d4, d5] => { results := [.lit (.bool true)], args := [d1, d2, d3, d4, d5] }
  | _ => none }
def gaugeSheetsRow : OpenClaim := { program := "ytnnbkoipalaanaadoor", sum := "6a9f73c3949f9e1002a26d3575aae43cd895f571720b5d4b720d1e3e3b2d5b9a", func := "thermion/thermionlaw07.GaugeSheets", spec := "gaugeSheets", unfollowed := true, recurses := true, named := ["thermion/gauge.values"], apart := false, laid := [("thermion/gauge.values", laid_thermion_gauge_values)] }
def GaugeSheetsSaid : Prop := gaugeSheetsRow.holds Tryd.pinned (OpenSpec.ofChange gaugeSheetsSpec)

/-- ITS FALSE NEIGHBOUR: 'it returns false'. Refute it at one input. -/
def gaugeSheetsWrong : ChangeSpec := { name := "gaugeSheets", fn := fun _ => fun
  | [d1, d2, d3, d4, d5] => { results := [.lit (.bool false)], args := [d1, d2, d3, d4, d5] }
  | _ => none }
def GaugeSheetsWrongFalsely : Prop := gaugeSheetsRow.holds Tryd.pinned (OpenSpec.ofChange gaugeSheetsWrong)

/-- 'thermionlaw07.GaugeAges': WHATEVER THE INPUT: true; the input reads as it did. -/
def gaugeAgesSpec : ChangeSpec := { name := "gaugeAges", fn := fun _ => fun
  | [d1, d2, d3, d4, d5] => { results := [.lit (.bool true)], args := [d1, d2, d3, d4, d5] }
  | _ => none }
def gaugeAgesRow : OpenClaim := { program := "ytnnbkoipalaanaadoor", sum := "6a9f73c3949f9e1002a26d3575aae43cd895f571720b5d4b720d1e3e3b2d5b9a", func := "thermion/thermionlaw07.GaugeAges", spec := "gaugeAges", unfollowed := true, recurses := true, named := ["thermion/gauge.values"], apart := false, laid := [("thermion/gauge.values", laid_thermion_gauge_values)] }
def GaugeAgesSaid : Prop := gaugeAgesRow.holds Tryd.pinned (OpenSpec.ofChange gaugeAgesSpec)

/-- ITS FALSE NEIGHBOUR: 'it returns false'. Refute it at one input. -/
def gaugeAgesWrong : ChangeSpec := { name := "gaugeAges", fn := fun _ => fun
  | [d1, d2, d3, d4, d5] => { results := [.lit (.bool false)], args := [d1, d2, d3, d4, d5] }
  | _ => none }
def GaugeAgesWrongFalsely : Prop := gaugeAgesRow.holds Tryd.pinned (OpenSpec.ofChange gaugeAgesWrong)

/-- 'thermionlaw07.GaugeShows': WHATEVER THE INPUT: true; the input reads as it did. -/
def gaugeShowsSpec : ChangeSpec := { name := "gaugeShows", fn := fun _ => fun
  | [d1, d2] => { results := [.lit (.bool true)], args := [d1, d2] }
  | _ => none }
def gaugeShowsRow : OpenClaim := { program := "ytnnbkoipalaanaadoor", sum := "6a9f73c3949f9e1002a26d3575aae43cd895f571720b5d4b720d1e3e3b2d5b9a", func := "thermion/thermionlaw07.GaugeShows", spec := "gaugeShows", unfollowed := true, recurses := true, named := ["thermion/gauge.values"], apart := false, laid := [("thermion/gauge.values", laid_thermion_gauge_values)] }
def GaugeShowsSaid : Prop := gaugeShowsRow.holds Tryd.pinned (OpenSpec.ofChange gaugeShowsSpec)

/-- ITS FALSE NEIGHBOUR: 'it returns false'. Refute it at one input. -/
def gaugeShowsWrong : ChangeSpec := { name := "gaugeShows", fn := fun _ => fun
  | [d1, d2] => { results := [.lit (.bool false)], args := [d1, d2] }
  | _ => none }
def GaugeShowsWrongFalsely : Prop := gaugeShowsRow.holds Tryd.pinned (OpenSpec.ofChange gaugeShowsWrong)

/-- 'thermionlaw07.GaugeEnds': WHATEVER THE INPUT: true; the input reads as it did. -/
def gaugeEndsSpec : ChangeSpec := { name := "gaugeEnds", fn := fun _ => fun
  | [d1, d2, d3] => { results := [.lit (.bool true)], args := [d1, d2, d3] }
  | _ => none }
def gaugeEndsRow : OpenClaim := { program := "ytnnbkoipalaanaadoor", sum := "6a9f73c3949f9e1002a26d3575aae43cd895f571720b5d4b720d1e3e3b2d5b9a", func := "thermion/thermionlaw07.GaugeEnds", spec := "gaugeEnds", unfollowed := true, recurses := true, named := ["thermion/gauge.values"], apart := false, laid := [("thermion/gauge.values", laid_thermion_gauge_values)] }
def GaugeEndsSaid : Prop := gaugeEndsRow.holds Tryd.pinned (OpenSpec.ofChange gaugeEndsSpec)

/-- ITS FALSE NEIGHBOUR: 'it returns false'. Refute it at one input. -/
def gaugeEndsWrong : ChangeSpec := { name := "gaugeEnds", fn := fun _ => fun
  | [d1, d2, d3] => { results := [.lit (.bool false)], args := [d1, d2, d3] }
  | _ => none }
def GaugeEndsWrongFalsely : Prop := gaugeEndsRow.holds Tryd.pinned (OpenSpec.ofChange gaugeEndsWrong)

/-- 'thermionlaw07.GaugeRises': WHATEVER THE INPUT: true; the input reads as it did. -/
def gaugeRisesSpec : ChangeSpec := { name := "gaugeRises", fn := fun _ => fun
  | [d1, d2, d3] => { results := [.lit (.bool true)], args := [d1, d2, d3] }
  | _ => none }
def gaugeRisesRow : OpenClaim := { program := "ytnnbkoipalaanaadoor", sum := "6a9f73c3949f9e1002a26d3575aae43cd895f571720b5d4b720d1e3e3b2d5b9a", func := "thermion/thermionlaw07.GaugeRises", spec := "gaugeRises", unfollowed := true, recurses := true, named := ["thermion/gauge.values"], apart := false, laid := [("thermion/gauge.values", laid_thermion_gauge_values)] }
def GaugeRisesSaid : Prop := gaugeRisesRow.holds Tryd.pinned (OpenSpec.ofChange gaugeRisesSpec)

/-- ITS FALSE NEIGHBOUR: 'it returns false'. Refute it at one input. -/
def gaugeRisesWrong : ChangeSpec := { name := "gaugeRises", fn := fun _ => fun
  | [d1, d2, d3] => { results := [.lit (.bool false)], args := [d1, d2, d3] }
  | _ => none }
def GaugeRisesWrongFalsely : Prop := gaugeRisesRow.holds Tryd.pinned (OpenSpec.ofChange gaugeRisesWrong)

/-- 'thermionlaw07.GaugeGuards': WHATEVER THE INPUT: true; the input reads as it did. -/
def gaugeGuardsSpec : ChangeSpec := { name := "gaugeGuards", fn := fun _ => fun
  | [d1, d2, d3] => { results := [.lit (.bool true)], args := [d1, d2, d3] }
  | _ => none }
def gaugeGuardsRow : OpenClaim := { program := "ytnnbkoipalaanaadoor", sum := "6a9f73c3949f9e1002a26d3575aae43cd895f571720b5d4b720d1e3e3b2d5b9a", func := "thermion/thermionlaw07.GaugeGuards", spec := "gaugeGuards", unfollowed := true, recurses := true, named := ["thermion/gauge.values"], apart := false, laid := [("thermion/gauge.values", laid_thermion_gauge_values)] }
def GaugeGuardsSaid : Prop := gaugeGuardsRow.holds Tryd.pinned (OpenSpec.ofChange gaugeGuardsSpec)

/-- ITS FALSE NEIGHBOUR: 'it returns false'. Refute it at one input. -/
def gaugeGuardsWrong : ChangeSpec := { name := "gaugeGuards", fn := fun _ => fun
  | [d1, d2, d3] => { results := [.lit (.bool false)], args := [d1, d2, d3] }
  | _ => none }
def GaugeGuardsWrongFalsely : Prop := gaugeGuardsRow.holds Tryd.pinned (OpenSpec.ofChange gaugeGuardsWrong)

/-- 'thermionlaw07.GaugeAgrees': WHATEVER THE INPUT: true; the input reads as it did. -/
def gaugeAgreesSpec : ChangeSpec := { name := "gaugeAgrees", fn := fun _ => fun
  | [d1, d2] => { results := [.lit (.bool true)], args := [d1, d2] }
  | _ => none }
def gaugeAgreesRow : OpenClaim := { program := "ytnnbkoipalaanaadoor", sum := "6a9f73c3949f9e1002a26d3575aae43cd895f571720b5d4b720d1e3e3b2d5b9a", func := "thermion/thermionlaw07.GaugeAgrees", spec := "gaugeAgrees", unfollowed := true, recurses := true, named := ["thermion/gauge.values"], apart := false, laid := [("thermion/gauge.values", laid_thermion_gauge_values)] }
def GaugeAgreesSaid : Prop := gaugeAgreesRow.holds Tryd.pinned (OpenSpec.ofChange gaugeAgreesSpec)

/-- ITS FALSE NEIGHBOUR: 'it returns false'. Refute it at one input. -/
def gaugeAgreesWrong : ChangeSpec := { name := "gaugeAgrees", fn := fun _ => fun
  | [d1, d2] => { results := [.lit (.bool false)], args := [d1, d2] }
  | _ => none }
def GaugeAgreesWrongFalsely : Prop := gaugeAgreesRow.holds Tryd.pinned (OpenSpec.ofChange gaugeAgreesWrong)

/-- 'thermionlaw07.GaugeLonger': WHATEVER THE INPUT: true; the input reads as it did. -/
def gaugeLongerSpec : ChangeSpec := { name := "gaugeLonger", fn := fun _ => fun
  | [d] => { results := [.lit (.bool true)], args := [d] }
  | _ => none }
def gaugeLongerRow : OpenClaim := { program := "ytnnbkoipalaanaadoor", sum := "6a9f73c3949f9e1002a26d3575aae43cd895f571720b5d4b720d1e3e3b2d5b9a", func := "thermion/thermionlaw07.GaugeLonger", spec := "gaugeLonger", unfollowed := true, recurses := true, named := ["thermion/gauge.values"], apart := false, laid := [("thermion/gauge.values", laid_thermion_gauge_values)] }
def GaugeLongerSaid : Prop := gaugeLongerRow.holds Tryd.pinned (OpenSpec.ofChange gaugeLongerSpec)

/-- ITS FALSE NEIGHBOUR: 'it returns false'. Refute it at one input. -/
def gaugeLongerWrong : ChangeSpec := { name := "gaugeLonger", fn := fun _ => fun
  | [d] => { results := [.lit (.bool false)], args := [d] }
  | _ => none }
def GaugeLongerWrongFalsely : Prop := gaugeLongerRow.holds Tryd.pinned (OpenSpec.ofChange gaugeLongerWrong)

/- THE SECOND FORM. 'bulk': how many values and letters a reading holds, each counted each time it is reached (what is shared counts as often as it is met; a slice's spare places count too). A statement '..UptoSaid' is the law's where the arguments, and the package variables that the reading takes, are together of bulk at most 1048576: NARROWER than '..Said'. Prove '..Said' where nothing that the law and all that it calls make is longer than what came in: it says more and counts as full. Else prove '..UptoSaid'. A law counts once. -/
mutual
def uptoBulk {H : Type} : DataW H → Nat
  | .lit (.string bytes) => bytes.length + 1
  | .lit _ => 1
  | .nil => 1
  | .ptr d => uptoBulk d + 1
  | .slice elems spare => uptoBulkAll elems + uptoBulkAll spare + 1
  | .agg parts => uptoBulkAll parts + 1
  | .iface _ d => uptoBulk d + 1
  | .map entries => uptoBulkEntries entries + 1
  | .held _ => 1
def uptoBulkAll {H : Type} : List (DataW H) → Nat
  | [] => 0
  | d :: r => uptoBulk d + uptoBulkAll r
def uptoBulkEntries {H : Type} : List (Lit × DataW H) → Nat
  | [] => 0
  | x :: r => uptoBulkEntry x + uptoBulkEntries r
def uptoBulkEntry {H : Type} : Lit × DataW H → Nat
  | (.string bytes, d) => bytes.length + uptoBulk d + 1
  | (_, d) => uptoBulk d + 1
 end
def uptoSmall : (H : Type) → List (DataW H) → Bool := fun _ ds => decide (uptoBulkAll ds ≤ 1048576)
def OpenSpec.upto (s : _root_.Go.ChangeSpec) : _root_.Go.OpenSpec := { _root_.Go.OpenSpec.ofChange s with cond := some uptoSmall }

/-- 'thermionlaw07.GaugeChecks', WHERE WHAT IT READS IS OF BULK AT MOST 1048576: true; the input reads as it did. -/
def gaugeChecksUptoRow : OpenClaim := { program := "ytnnbkoipalaanaadoor", sum := "6a9f73c3949f9e1002a26d3575aae43cd895f571720b5d4b720d1e3e3b2d5b9a", func := "thermion/thermionlaw07.GaugeChecks", spec := "gaugeChecks", unfollowed := true, recurses := true, named := ["thermion/gauge.values"], apart := false, laid := [("thermion/gauge.values", laid_thermion_gauge_values)], narrowed := true }
def GaugeChecksUptoSaid : Prop := gaugeChecksUptoRow.holds Tryd.pinned (OpenSpec.upto gaugeChecksSpec)

/-- 'thermionlaw07.GaugeTrues', WHERE WHAT IT READS IS OF BULK AT MOST 1048576: true; the input reads as it did. -/
def gaugeTruesUptoRow : OpenClaim := { program := "ytnnbkoipalaanaadoor", sum := "6a9f73c3949f9e1002a26d3575aae43cd895f571720b5d4b720d1e3e3b2d5b9a", func := "thermion/thermionlaw07.GaugeTrues", spec := "gaugeTrues", unfollowed := true, recurses := true, named := ["thermion/gauge.values"], apart := false, laid := [("thermion/gauge.values", laid_thermion_gauge_values)], narrowed := true }
def GaugeTruesUptoSaid : Prop := gaugeTruesUptoRow.holds Tryd.pinned (OpenSpec.upto gaugeTruesSpec)

/-- 'thermionlaw07.GaugeAccepts', WHERE WHAT IT READS IS OF BULK AT MOST 1048576: true; the input reads as it did. -/
def gaugeAcceptsUptoRow : OpenClaim := { program := "ytnnbkoipalaanaadoor", sum := "6a9f73c3949f9e1002a26d3575aae43cd895f571720b5d4b720d1e3e3b2d5b9a", func := "thermion/thermionlaw07.GaugeAccepts", spec := "gaugeAccepts", unfollowed := true, recurses := true, named := ["thermion/gauge.values"], apart := false, laid := [("thermion/gauge.values", laid_thermion_gauge_values)], narrowed := true }
def GaugeAcceptsUptoSaid : Prop := gaugeAcceptsUptoRow.holds Tryd.pinned (OpenSpec.upto gaugeAcceptsSpec)

/-- 'thermionlaw07.GaugeTogethers', WHERE WHAT IT READS IS OF BULK AT MOST 1048576: true; the input reads as it did. -/
def gaugeTogethersUptoRow : OpenClaim := { program := "ytnnbkoipalaanaadoor", sum := "6a9f73c3949f9e1002a26d3575aae43cd895f571720b5d4b720d1e3e3b2d5b9a", func := "thermion/thermionlaw07.GaugeTogethers", spec := "gaugeTogethers", unfollowed := true, recurses := true, named := ["thermion/gauge.values"], apart := false, laid := [("thermion/gauge.values", laid_thermion_gauge_values)], narrowed := true }
def GaugeTogethersUptoSaid : Prop := gaugeTogethersUptoRow.holds Tryd.pinned (OpenSpec.upto gaugeTogethersSpec)

/-- 'thermionlaw07.GaugeSheets', WHERE WHAT IT READS IS OF BULK AT MOST 1048576: true; the input reads as it did. -/
def gaugeSheetsUptoRow : OpenClaim := { program := "ytnnbkoipalaanaadoor", sum := "6a9f73c3949f9e1002a26d3575aae43cd895f571720b5d4b720d1e3e3b2d5b9a", func := "thermion/thermionlaw07.GaugeSheets", spec := "gaugeSheets", unfollowed := true, recurses := true, named := ["thermion/gauge.values"], apart := false, laid := [("thermion/gauge.values", laid_thermion_gauge_values)], narrowed := true }
def GaugeSheetsUptoSaid : Prop := gaugeSheetsUptoRow.holds Tryd.pinned (OpenSpec.upto gaugeSheetsSpec)

/-- 'thermionlaw07.GaugeAges', WHERE WHAT IT READS IS OF BULK AT MOST 1048576: true; the input reads as it did. -/
def gaugeAgesUptoRow : OpenClaim := { program := "ytnnbkoipalaanaadoor", sum := "6a9f73c3949f9e1002a26d3575aae43cd895f571720b5d4b720d1e3e3b2d5b9a", func := "thermion/thermionlaw07.GaugeAges", spec := "gaugeAges", unfollowed := true, recurses := true, named := ["thermion/gauge.values"], apart := false, laid := [("thermion/gauge.values", laid_thermion_gauge_values)], narrowed := true }
def GaugeAgesUptoSaid : Prop := gaugeAgesUptoRow.holds Tryd.pinned (OpenSpec.upto gaugeAgesSpec)

/-- 'thermionlaw07.GaugeShows', WHERE WHAT IT READS IS OF BULK AT MOST 1048576: true; the input reads as it did. -/
def gaugeShowsUptoRow : OpenClaim := { program := "ytnnbkoipalaanaadoor", sum := "6a9f73c3949f9e1002a26d3575aae43cd895f571720b5d4b720d1e3e3b2d5b9a", func := "thermion/thermionlaw07.GaugeShows", spec := "gaugeShows", unfollowed := true, recurses := true, named := ["thermion/gauge.values"], apart := false, laid := [("thermion/gauge.values", laid_thermion_gauge_values)], narrowed := true }
def GaugeShowsUptoSaid : Prop := gaugeShowsUptoRow.holds Tryd.pinned (OpenSpec.upto gaugeShowsSpec)

/-- 'thermionlaw07.GaugeEnds', WHERE WHAT IT READS IS OF BULK AT MOST 1048576: true; the input reads as it did. -/
def gaugeEndsUptoRow : OpenClaim := { program := "ytnnbkoipalaanaadoor", sum := "6a9f73c3949f9e1002a26d3575aae43cd895f571720b5d4b720d1e3e3b2d5b9a", func := "thermion/thermionlaw07.GaugeEnds", spec := "gaugeEnds", unfollowed := true, recurses := true, named := ["thermion/gauge.values"], apart := false, laid := [("thermion/gauge.values", laid_thermion_gauge_values)], narrowed := true }
def GaugeEndsUptoSaid : Prop := gaugeEndsUptoRow.holds Tryd.pinned (OpenSpec.upto gaugeEndsSpec)

/-- 'thermionlaw07.GaugeRises', WHERE WHAT IT READS IS OF BULK AT MOST 1048576: true; the input reads as it did. -/
def gaugeRisesUptoRow : OpenClaim := { program := "ytnnbkoipalaanaadoor", sum := "6a9f73c3949f9e1002a26d3575aae43cd895f571720b5d4b720d1e3e3b2d5b9a", func := "thermion/thermionlaw07.GaugeRises", spec := "gaugeRises", unfollowed := true, recurses := true, named := ["thermion/gauge.values"], apart := false, laid := [("thermion/gauge.values", laid_thermion_gauge_values)], narrowed := true }
def GaugeRisesUptoSaid : Prop := gaugeRisesUptoRow.holds Tryd.pinned (OpenSpec.upto gaugeRisesSpec)

/-- 'thermionlaw07.GaugeGuards', WHERE WHAT IT READS IS OF BULK AT MOST 1048576: true; the input reads as it did. -/
def gaugeGuardsUptoRow : OpenClaim := { program := "ytnnbkoipalaanaadoor", sum := "6a9f73c3949f9e1002a26d3575aae43cd895f571720b5d4b720d1e3e3b2d5b9a", func := "thermion/thermionlaw07.GaugeGuards", spec := "gaugeGuards", unfollowed := true, recurses := true, named := ["thermion/gauge.values"], apart := false, laid := [("thermion/gauge.values", laid_thermion_gauge_values)], narrowed := true }
def GaugeGuardsUptoSaid : Prop := gaugeGuardsUptoRow.holds Tryd.pinned (OpenSpec.upto gaugeGuardsSpec)

/-- 'thermionlaw07.GaugeAgrees', WHERE WHAT IT READS IS OF BULK AT MOST 1048576: true; the input reads as it did. -/
def gaugeAgreesUptoRow : OpenClaim := { program := "ytnnbkoipalaanaadoor", sum := "6a9f73c3949f9e1002a26d3575aae43cd895f571720b5d4b720d1e3e3b2d5b9a", func := "thermion/thermionlaw07.GaugeAgrees", spec := "gaugeAgrees", unfollowed := true, recurses := true, named := ["thermion/gauge.values"], apart := false, laid := [("thermion/gauge.values", laid_thermion_gauge_values)], narrowed := true }
def GaugeAgreesUptoSaid : Prop := gaugeAgreesUptoRow.holds Tryd.pinned (OpenSpec.upto gaugeAgreesSpec)

/-- 'thermionlaw07.GaugeLonger', WHERE WHAT IT READS IS OF BULK AT MOST 1048576: true; the input reads as it did. -/
def gaugeLongerUptoRow : OpenClaim := { program := "ytnnbkoipalaanaadoor", sum := "6a9f73c3949f9e1002a26d3575aae43cd895f571720b5d4b720d1e3e3b2d5b9a", func := "thermion/thermionlaw07.GaugeLonger", spec := "gaugeLonger", unfollowed := true, recurses := true, named := ["thermion/gauge.values"], apart := false, laid := [("thermion/gauge.values", laid_thermion_gauge_values)], narrowed := true }
def GaugeLongerUptoSaid : Prop := gaugeLongerUptoRow.holds Tryd.pinned (OpenSpec.upto gaugeLongerSpec)

end Rows
end Go.Proofs.YtnnbkoipalaanaaDoor
