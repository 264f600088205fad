/-
  NARROWER THAN 'FOR EVERY INPUT', by the rows' own cells (each row's printed sentence says how): CurveNarrows: laid · CurveNarrowed: laid.
  DERIVED. THE GIVEN ROWS OF THIS SEAT. 2 by the template 'for every input the law returns true; each argument reads behind the call as it read before'; 0 by the template 'total and deterministic' (their statements: YtenbikniminggaaDoorTotals.lean).
  GIVEN WITH THE SEED: the statements are not yours to turn. If you find one false, say at which input.
  Laid BY PROGRAM, IN A SANDBOX (cutbox-rows.mjs): the forced cells as the released guide's own fill.sh prints them over the translation 0dcde36807300974… (all of the seat's roots in one cut). By AI agents, Wed Nov 11 2026. No macro, syntax, notation, axiom, sorry.
-/
import Derived.Test.YtenbikniminggaaDoorChecked
import GoSem.Claim
import GoSem.ClaimJoined
import GoSem.ClaimMapViews
import Derived.JoinedTies
import Derived.KernelRfl
namespace Go.Proofs.YtenbikniminggaaDoor
/- THE CELL 'sum', in the pinned program and in every row, IS THE sha256 OF THE DUMP (.gsa) THAT YtenbikniminggaaDoorProg.lean LOADS. Nothing in Lean hashes anything: it is a label: what it is worth is what the hold of that sum in a sandbox is worth. -/
noncomputable def Tryd.pinned : Pinned := { name := "ytenbikniminggaadoor", sum := "0dcde368073009747c0ddc73d1a9c89df19006e2ba39102efd0495b888083049", checked := Tryd.checked }
namespace Rows
def none {H : Type} : Left H := { results := [], args := [] }

/- WHAT THE LISTED PACKAGE-LEVEL VARIABLES READ AS WHEN THE CALL BEGINS. Each datum BY PROGRAM (the guide's laid-datum.mjs) off the statement by which the dump's own 'gosem.cut.vars' lays the variable. In a bare row this is a premise. The card (YtenbikniminggaaDoorCards.lean) ties it to the program's text. -/
def laid_thermion_curve_nothing {H : Type} : DataW H := .agg [.lit (.int .i64 1), .lit (.int .i64 0)]

/-- 'thermionlaw02.CurveNarrows': WHATEVER THE INPUT: true; the input reads as it did. -/
def curveNarrowsSpec : ChangeSpec := { name := "curveNarrows", fn := fun _ => fun
  | [d1, d2, d3] => { results := [.lit (.bool true)], args := [d1, d2, d3] }
  | _ => none }
def curveNarrowsRow : OpenClaim := { program := "ytenbikniminggaadoor", sum := "0dcde368073009747c0ddc73d1a9c89df19006e2ba39102efd0495b888083049", func := "thermion/thermionlaw02.CurveNarrows", spec := "curveNarrows", unfollowed := true, recurses := true, named := ["thermion/curve.nothing"], apart := false, laid := [("thermion/curve.nothing", laid_thermion_curve_nothing)] }
def CurveNarrowsSaid : Prop := curveNarrowsRow.holds Tryd.pinned (OpenSpec.ofChange curveNarrowsSpec)

/-- ITS FALSE NEIGHBOUR: 'it returns false'. Refute it at one input. -/
def curveNarrowsWrong : ChangeSpec := { name := "curveNarrows", fn := fun _ => fun
  | [d1, d2, d3] => { results := [.lit (.bool false)], args := [d1, d2, d3] }
  | _ => none }
def CurveNarrowsWrongFalsely : Prop := curveNarrowsRow.holds Tryd.pinned (OpenSpec.ofChange curveNarrowsWrong)

/-- 'thermionlaw02.CurveNarrowed': WHATEVER THE INPUT: true; the input reads as it did. -/
def curveNarrowedSpec : ChangeSpec := { name := "curveNarrowed", fn := fun _ => fun
  | [d] => { results := [.lit (.bool true)], args := [d] }
  | _ => none }
def curveNarrowedRow : OpenClaim := { program := "ytenbikniminggaadoor", sum := "0dcde368073009747c0ddc73d1a9c89df19006e2ba39102efd0495b888083049", func := "thermion/thermionlaw02.CurveNarrowed", spec := "curveNarrowed", unfollowed := true, recurses := true, named := ["thermion/curve.nothing"], apart := false, laid := [("thermion/curve.nothing", laid_thermion_curve_nothing)] }
def CurveNarrowedSaid : Prop := curveNarrowedRow.holds Tryd.pinned (OpenSpec.ofChange curveNarrowedSpec)

/-- ITS FALSE NEIGHBOUR: 'it returns false'. Refute it at one input. -/
def curveNarrowedWrong : ChangeSpec := { name := "curveNarrowed", fn := fun _ => fun
  | [d] => { results := [.lit (.bool false)], args := [d] }
  | _ => none }
def CurveNarrowedWrongFalsely : Prop := curveNarrowedRow.holds Tryd.pinned (OpenSpec.ofChange curveNarrowedWrong)

/- THE SECOND FORM. 'bulk': how many values and letters a reading holds, each counted each time it is reached (what is shared counts as often as it is met; a slice's spare places count too). A statement '..UptoSaid' is the law's where the arguments, and the package variables that the reading takes, are together of bulk at most 1048576: NARROWER than '..Said'. Prove '..Said' where nothing that the law and all that it calls make is longer than what came in: it says more and counts as full. Else prove '..UptoSaid'. A law counts once. -/
mutual
def uptoBulk {H : Type} : DataW H → Nat
  | .lit (.string bytes) => bytes.length + 1
  | .lit _ => 1
  | .nil => 1
  | .ptr d => uptoBulk d + 1
  | .slice elems spare => uptoBulkAll elems + uptoBulkAll spare + 1
  | .agg parts => uptoBulkAll parts + 1
  | .iface _ d => uptoBulk d + 1
  | .map entries => uptoBulkEntries entries + 1
  | .held _ => 1
def uptoBulkAll {H : Type} : List (DataW H) → Nat
  | [] => 0
  | d :: r => uptoBulk d + uptoBulkAll r
def uptoBulkEntries {H : Type} : List (Lit × DataW H) → Nat
  | [] => 0
  | x :: r => uptoBulkEntry x + uptoBulkEntries r
def uptoBulkEntry {H : Type} : Lit × DataW H → Nat
  | (.string bytes, d) => bytes.length + uptoBulk d + 1
  | (_, d) => uptoBulk d + 1
 end
def uptoSmall : (H : Type) → List (DataW H) → Bool := fun _ ds => decide (uptoBulkAll ds ≤ 1048576)
def OpenSpec.upto (s : _root_.Go.ChangeSpec) : _root_.Go.OpenSpec := { _root_.Go.OpenSpec.ofChange s with cond := some uptoSmall }

/-- 'thermionlaw02.CurveNarrows', WHERE WHAT IT READS IS OF BULK AT MOST 1048576: true; the input reads as it did. -/
def curveNarrowsUptoRow : OpenClaim := { program := "ytenbikniminggaadoor", sum := "0dcde368073009747c0ddc73d1a9c89df19006e2ba39102efd0495b888083049", func := "thermion/thermionlaw02.CurveNarrows", spec := "curveNarrows", unfollowed := true, recurses := true, named := ["thermion/curve.nothing"], apart := false, laid := [("thermion/curve.nothing", laid_thermion_curve_nothing)], narrowed := true }
def CurveNarrowsUptoSaid : Prop := curveNarrowsUptoRow.holds Tryd.pinned (OpenSpec.upto curveNarrowsSpec)

/-- 'thermionlaw02.CurveNarrowed', WHERE WHAT IT READS IS OF BULK AT MOST 1048576: true; the input reads as it did. -/
def curveNarrowedUptoRow : OpenClaim := { program := "ytenbikniminggaadoor", sum := "0dcde368073009747c0ddc73d1a9c89df19006e2ba39102efd0495b888083049", func := "thermion/thermionlaw02.CurveNarrowed", spec := "curveNarrowed", unfollowed := true, recurses := true, named := ["thermion/curve.nothing"], apart := false, laid := [("thermion/curve.nothing", laid_thermion_curve_nothing)], narrowed := true }
def CurveNarrowedUptoSaid : Prop := curveNarrowedUptoRow.holds Tryd.pinned (OpenSpec.upto curveNarrowedSpec)

end Rows
end Go.Proofs.YtenbikniminggaaDoor
