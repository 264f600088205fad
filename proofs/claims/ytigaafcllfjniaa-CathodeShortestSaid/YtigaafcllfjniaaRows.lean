/-
  No cell of these rows narrows 'for every input' (looked for: loops, veiled, ifaces, maps, wideKeys, modest, calm, conditions, laid).
  DERIVED. THE GIVEN ROWS OF THIS SEAT. 15 by the template 'for every input the law returns true; each argument reads behind the call as it read before'; 0 by the template 'total and deterministic' (their statements: YtigaafcllfjniaaTotals.lean).
  GIVEN WITH THE SEED: the statements are not yours to turn. If you find one false, say at which input.
  Laid BY PROGRAM, IN A SANDBOX (cutbox-rows.mjs): the forced cells as the released guide's own fill.sh prints them over the translation b31d2efbb6dad241… (all of the seat's roots in one cut). By AI agents, Wed Nov 11 2026. No macro, syntax, notation, axiom, sorry.
-/
import Derived.Test.YtigaafcllfjniaaChecked
import GoSem.Claim
import GoSem.ClaimJoined
import GoSem.ClaimMapViews
import Derived.JoinedTies
import Derived.KernelRfl
namespace Go.Proofs.Ytigaafcllfjniaa
/- THE CELL 'sum', in the pinned program and in every row, IS THE sha256 OF THE DUMP (.gsa) THAT YtigaafcllfjniaaProg.lean LOADS. Nothing in Lean hashes anything: it is a label: what it is worth is what the hold of that sum in a sandbox is worth. -/
noncomputable def Try.pinned : Pinned := { name := "ytigaafcllfjniaa", sum := "b31d2efbb6dad24180aa089e97496ad3d4c382dac9a1e8fec01febab88be5e08", checked := Try.checked }
namespace Rows
def none {H : Type} : Left H := { results := [], args := [] }

/-- 'thermionlaw03.CathodeChecks': WHATEVER THE INPUT: true; the input reads as it did. -/
def cathodeChecksSpec : ChangeSpec := { name := "cathodeChecks", fn := fun _ => fun
  | [d1, d2, d3, d4, d5, d6] => { results := [.lit (.bool true)], args := [d1, d2, d3, d4, d5, d6] }
  | _ => none }
def cathodeChecksRow : OpenClaim := { program := "ytigaafcllfjniaa", sum := "b31d2efbb6dad24180aa089e97496ad3d4c382dac9a1e8fec01febab88be5e08", func := "thermion/thermionlaw03.CathodeChecks", spec := "cathodeChecks", unfollowed := true, recurses := true, apart := false }
def CathodeChecksSaid : Prop := cathodeChecksRow.holds Try.pinned (OpenSpec.ofChange cathodeChecksSpec)

/-- ITS FALSE NEIGHBOUR: 'it returns false'. Refute it at one input. -/
def cathodeChecksWrong : ChangeSpec := { name := "cathodeChecks", fn := fun _ => fun
  | [d1, d2, d3, d4, d5, d6] => { results := [.lit (.bool false)], args := [d1, d2, d3, d4, d5, d6] }
  | _ => none }
def CathodeChecksWrongFalsely : Prop := cathodeChecksRow.holds Try.pinned (OpenSpec.ofChange cathodeChecksWrong)

/-- 'thermionlaw03.CathodeTicks': WHATEVER THE INPUT: true; the input reads as it did. -/
def cathodeTicksSpec : ChangeSpec := { name := "cathodeTicks", fn := fun _ => fun
  | [d1, d2, d3, d4, d5] => { results := [.lit (.bool true)], args := [d1, d2, d3, d4, d5] }
  | _ => none }
def cathodeTicksRow : OpenClaim := { program := "ytigaafcllfjniaa", sum := "b31d2efbb6dad24180aa089e97496ad3d4c382dac9a1e8fec01febab88be5e08", func := "thermion/thermionlaw03.CathodeTicks", spec := "cathodeTicks", unfollowed := true, recurses := true, apart := false }
def CathodeTicksSaid : Prop := cathodeTicksRow.holds Try.pinned (OpenSpec.ofChange cathodeTicksSpec)

/-- ITS FALSE NEIGHBOUR: 'it returns false'. Refute it at one input. -/
def cathodeTicksWrong : ChangeSpec := { name := "cathodeTicks", fn := fun _ => fun
  | [d1, d2, d3, d4, d5] => { results := [.lit (.bool false)], args := [d1, d2, d3, d4, d5] }
  | _ => none }
def CathodeTicksWrongFalsely : Prop := cathodeTicksRow.holds Try.pinned (OpenSpec.ofChange cathodeTicksWrong)

/-- 'thermionlaw03.CathodeFollows': WHATEVER THE INPUT: true; the input reads as it did. -/
def cathodeFollowsSpec : ChangeSpec := { name := "cathodeFollows", fn := fun _ => fun
  | [d1, d2, d3] => { results := [.lit (.bool true)], args := [d1, d2, d3] }
  | _ => none }
def cathodeFollowsRow : OpenClaim := { program := "ytigaafcllfjniaa", sum := "b31d2efbb6dad24180aa089e97496ad3d4c382dac9a1e8fec01febab88be5e08", func := "thermion/thermionlaw03.CathodeFollows", spec := "cathodeFollows", unfollowed := true, recurses := true, apart := false }
def CathodeFollowsSaid : Prop := cathodeFollowsRow.holds Try.pinned (OpenSpec.ofChange cathodeFollowsSpec)

/-- ITS FALSE NEIGHBOUR: 'it returns false'. Refute it at one input. -/
def cathodeFollowsWrong : ChangeSpec := { name := "cathodeFollows", fn := fun _ => fun
  | [d1, d2, d3] => { results := [.lit (.bool false)], args := [d1, d2, d3] }
  | _ => none }
def CathodeFollowsWrongFalsely : Prop := cathodeFollowsRow.holds Try.pinned (OpenSpec.ofChange cathodeFollowsWrong)

/-- 'thermionlaw03.CathodePossible': WHATEVER THE INPUT: true; the input reads as it did. -/
def cathodePossibleSpec : ChangeSpec := { name := "cathodePossible", fn := fun _ => fun
  | [d1, d2, d3, d4, d5, d6] => { results := [.lit (.bool true)], args := [d1, d2, d3, d4, d5, d6] }
  | _ => none }
def cathodePossibleRow : OpenClaim := { program := "ytigaafcllfjniaa", sum := "b31d2efbb6dad24180aa089e97496ad3d4c382dac9a1e8fec01febab88be5e08", func := "thermion/thermionlaw03.CathodePossible", spec := "cathodePossible", unfollowed := true, recurses := true, apart := false }
def CathodePossibleSaid : Prop := cathodePossibleRow.holds Try.pinned (OpenSpec.ofChange cathodePossibleSpec)

/-- ITS FALSE NEIGHBOUR: 'it returns false'. Refute it at one input. -/
def cathodePossibleWrong : ChangeSpec := { name := "cathodePossible", fn := fun _ => fun
  | [d1, d2, d3, d4, d5, d6] => { results := [.lit (.bool false)], args := [d1, d2, d3, d4, d5, d6] }
  | _ => none }
def CathodePossibleWrongFalsely : Prop := cathodePossibleRow.holds Try.pinned (OpenSpec.ofChange cathodePossibleWrong)

/-- 'thermionlaw03.CathodeJudges': WHATEVER THE INPUT: true; the input reads as it did. -/
def cathodeJudgesSpec : ChangeSpec := { name := "cathodeJudges", fn := fun _ => fun
  | [d1, d2, d3, d4] => { results := [.lit (.bool true)], args := [d1, d2, d3, d4] }
  | _ => none }
def cathodeJudgesRow : OpenClaim := { program := "ytigaafcllfjniaa", sum := "b31d2efbb6dad24180aa089e97496ad3d4c382dac9a1e8fec01febab88be5e08", func := "thermion/thermionlaw03.CathodeJudges", spec := "cathodeJudges", unfollowed := true, recurses := true, apart := false }
def CathodeJudgesSaid : Prop := cathodeJudgesRow.holds Try.pinned (OpenSpec.ofChange cathodeJudgesSpec)

/-- ITS FALSE NEIGHBOUR: 'it returns false'. Refute it at one input. -/
def cathodeJudgesWrong : ChangeSpec := { name := "cathodeJudges", fn := fun _ => fun
  | [d1, d2, d3, d4] => { results := [.lit (.bool false)], args := [d1, d2, d3, d4] }
  | _ => none }
def CathodeJudgesWrongFalsely : Prop := cathodeJudgesRow.holds Try.pinned (OpenSpec.ofChange cathodeJudgesWrong)

/-- 'thermionlaw03.CathodeShortest': WHATEVER THE INPUT: true; the input reads as it did. -/
def cathodeShortestSpec : ChangeSpec := { name := "cathodeShortest", fn := fun _ => fun
  | [d1, d2, d3, d4, d5] => { results := [.lit (.bool true)], args := [d1, d2, d3, d4, d5] }
  | _ => none }
def cathodeShortestRow : OpenClaim := { program := "ytigaafcllfjniaa", sum := "b31d2efbb6dad24180aa089e97496ad3d4c382dac9a1e8fec01febab88be5e08", func := "thermion/thermionlaw03.CathodeShortest", spec := "cathodeShortest", unfollowed := true, recurses := true, apart := false }
def CathodeShortestSaid : Prop := cathodeShortestRow.holds Try.pinned (OpenSpec.ofChange cathodeShortestSpec)

/-- ITS FALSE NEIGHBOUR: 'it returns false'. Refute it at one input. -/
def cathodeShortestWrong : ChangeSpec := { name := "cathodeShortest", fn := fun _ => fun
  | [d1, d2, d3, d4, d5] => { results := [.lit (.bool false)], args := [d1, d2, d3, d4, d5] }
  | _ => none }
def CathodeShortestWrongFalsely : Prop := cathodeShortestRow.holds Try.pinned (OpenSpec.ofChange cathodeShortestWrong)

/-- 'thermionlaw03.CathodeKnown': WHATEVER THE INPUT: true; the input reads as it did. -/
def cathodeKnownSpec : ChangeSpec := { name := "cathodeKnown", fn := fun _ => fun
  | [] => { results := [.lit (.bool true)], args := [] }
  | _ => none }
def cathodeKnownRow : OpenClaim := { program := "ytigaafcllfjniaa", sum := "b31d2efbb6dad24180aa089e97496ad3d4c382dac9a1e8fec01febab88be5e08", func := "thermion/thermionlaw03.CathodeKnown", spec := "cathodeKnown", unfollowed := true, recurses := true, apart := false }
def CathodeKnownSaid : Prop := cathodeKnownRow.holds Try.pinned (OpenSpec.ofChange cathodeKnownSpec)

/-- ITS FALSE NEIGHBOUR: 'it returns false'. Refute it at one input. -/
def cathodeKnownWrong : ChangeSpec := { name := "cathodeKnown", fn := fun _ => fun
  | [] => { results := [.lit (.bool false)], args := [] }
  | _ => none }
def CathodeKnownWrongFalsely : Prop := cathodeKnownRow.holds Try.pinned (OpenSpec.ofChange cathodeKnownWrong)

/-- 'thermionlaw03.CathodeBounds': WHATEVER THE INPUT: true; the input reads as it did. -/
def cathodeBoundsSpec : ChangeSpec := { name := "cathodeBounds", fn := fun _ => fun
  | [d] => { results := [.lit (.bool true)], args := [d] }
  | _ => none }
def cathodeBoundsRow : OpenClaim := { program := "ytigaafcllfjniaa", sum := "b31d2efbb6dad24180aa089e97496ad3d4c382dac9a1e8fec01febab88be5e08", func := "thermion/thermionlaw03.CathodeBounds", spec := "cathodeBounds", unfollowed := true, recurses := true, apart := false }
def CathodeBoundsSaid : Prop := cathodeBoundsRow.holds Try.pinned (OpenSpec.ofChange cathodeBoundsSpec)

/-- ITS FALSE NEIGHBOUR: 'it returns false'. Refute it at one input. -/
def cathodeBoundsWrong : ChangeSpec := { name := "cathodeBounds", fn := fun _ => fun
  | [d] => { results := [.lit (.bool false)], args := [d] }
  | _ => none }
def CathodeBoundsWrongFalsely : Prop := cathodeBoundsRow.holds Try.pinned (OpenSpec.ofChange cathodeBoundsWrong)

/-- 'thermionlaw03.CathodeNarrows': WHATEVER THE INPUT: true; the input reads as it did. -/
def cathodeNarrowsSpec : ChangeSpec := { name := "cathodeNarrows", fn := fun _ => fun
  | [d] => { results := [.lit (.bool true)], args := [d] }
  | _ => none }
def cathodeNarrowsRow : OpenClaim := { program := "ytigaafcllfjniaa", sum := "b31d2efbb6dad24180aa089e97496ad3d4c382dac9a1e8fec01febab88be5e08", func := "thermion/thermionlaw03.CathodeNarrows", spec := "cathodeNarrows", unfollowed := true, recurses := true, apart := false }
def CathodeNarrowsSaid : Prop := cathodeNarrowsRow.holds Try.pinned (OpenSpec.ofChange cathodeNarrowsSpec)

/-- ITS FALSE NEIGHBOUR: 'it returns false'. Refute it at one input. -/
def cathodeNarrowsWrong : ChangeSpec := { name := "cathodeNarrows", fn := fun _ => fun
  | [d] => { results := [.lit (.bool false)], args := [d] }
  | _ => none }
def CathodeNarrowsWrongFalsely : Prop := cathodeNarrowsRow.holds Try.pinned (OpenSpec.ofChange cathodeNarrowsWrong)

/-- 'thermionlaw03.CathodeVerdicts': WHATEVER THE INPUT: true; the input reads as it did. -/
def cathodeVerdictsSpec : ChangeSpec := { name := "cathodeVerdicts", fn := fun _ => fun
  | [d1, d2] => { results := [.lit (.bool true)], args := [d1, d2] }
  | _ => none }
def cathodeVerdictsRow : OpenClaim := { program := "ytigaafcllfjniaa", sum := "b31d2efbb6dad24180aa089e97496ad3d4c382dac9a1e8fec01febab88be5e08", func := "thermion/thermionlaw03.CathodeVerdicts", spec := "cathodeVerdicts", unfollowed := true, recurses := true, apart := false }
def CathodeVerdictsSaid : Prop := cathodeVerdictsRow.holds Try.pinned (OpenSpec.ofChange cathodeVerdictsSpec)

/-- ITS FALSE NEIGHBOUR: 'it returns false'. Refute it at one input. -/
def cathodeVerdictsWrong : ChangeSpec := { name := "cathodeVerdicts", fn := fun _ => fun
  | [d1, d2] => { results := [.lit (.bool false)], args := [d1, d2] }
  | _ => none }
def CathodeVerdictsWrongFalsely : Prop := cathodeVerdictsRow.holds Try.pinned (OpenSpec.ofChange cathodeVerdictsWrong)

/-- 'thermionlaw03.CathodeParts': WHATEVER THE INPUT: true; the input reads as it did. -/
def cathodePartsSpec : ChangeSpec := { name := "cathodeParts", fn := fun _ => fun
  | [d1, d2, d3] => { results := [.lit (.bool true)], args := [d1, d2, d3] }
  | _ => none }
def cathodePartsRow : OpenClaim := { program := "ytigaafcllfjniaa", sum := "b31d2efbb6dad24180aa089e97496ad3d4c382dac9a1e8fec01febab88be5e08", func := "thermion/thermionlaw03.CathodeParts", spec := "cathodeParts", unfollowed := true, recurses := true, apart := false }
def CathodePartsSaid : Prop := cathodePartsRow.holds Try.pinned (OpenSpec.ofChange cathodePartsSpec)

/-- ITS FALSE NEIGHBOUR: 'it returns false'. Refute it at one input. -/
def cathodePartsWrong : ChangeSpec := { name := "cathodeParts", fn := fun _ => fun
  | [d1, d2, d3] => { results := [.lit (.bool false)], args := [d1, d2, d3] }
  | _ => none }
def CathodePartsWrongFalsely : Prop := cathodePartsRow.holds Try.pinned (OpenSpec.ofChange cathodePartsWrong)

/-- 'thermionlaw03.CathodeFalls': WHATEVER THE INPUT: true; the input reads as it did. -/
def cathodeFallsSpec : ChangeSpec := { name := "cathodeFalls", fn := fun _ => fun
  | [d] => { results := [.lit (.bool true)], args := [d] }
  | _ => none }
def cathodeFallsRow : OpenClaim := { program := "ytigaafcllfjniaa", sum := "b31d2efbb6dad24180aa089e97496ad3d4c382dac9a1e8fec01febab88be5e08", func := "thermion/thermionlaw03.CathodeFalls", spec := "cathodeFalls", unfollowed := true, recurses := true, apart := false }
def CathodeFallsSaid : Prop := cathodeFallsRow.holds Try.pinned (OpenSpec.ofChange cathodeFallsSpec)

/-- ITS FALSE NEIGHBOUR: 'it returns false'. Refute it at one input. -/
def cathodeFallsWrong : ChangeSpec := { name := "cathodeFalls", fn := fun _ => fun
  | [d] => { results := [.lit (.bool false)], args := [d] }
  | _ => none }
def CathodeFallsWrongFalsely : Prop := cathodeFallsRow.holds Try.pinned (OpenSpec.ofChange cathodeFallsWrong)

/-- 'thermionlaw03.CathodeAges': WHATEVER THE INPUT: true; the input reads as it did. -/
def cathodeAgesSpec : ChangeSpec := { name := "cathodeAges", fn := fun _ => fun
  | [d1, d2, d3, d4, d5] => { results := [.lit (.bool true)], args := [d1, d2, d3, d4, d5] }
  | _ => none }
def cathodeAgesRow : OpenClaim := { program := "ytigaafcllfjniaa", sum := "b31d2efbb6dad24180aa089e97496ad3d4c382dac9a1e8fec01febab88be5e08", func := "thermion/thermionlaw03.CathodeAges", spec := "cathodeAges", unfollowed := true, recurses := true, apart := false }
def CathodeAgesSaid : Prop := cathodeAgesRow.holds Try.pinned (OpenSpec.ofChange cathodeAgesSpec)

/-- ITS FALSE NEIGHBOUR: 'it returns false'. Refute it at one input. -/
def cathodeAgesWrong : ChangeSpec := { name := "cathodeAges", fn := fun _ => fun
  | [d1, d2, d3, d4, d5] => { results := [.lit (.bool false)], args := [d1, d2, d3, d4, d5] }
  | _ => none }
def CathodeAgesWrongFalsely : Prop := cathodeAgesRow.holds Try.pinned (OpenSpec.ofChange cathodeAgesWrong)

/-- 'thermionlaw03.CathodeFirst': WHATEVER THE INPUT: true; the input reads as it did. -/
def cathodeFirstSpec : ChangeSpec := { name := "cathodeFirst", fn := fun _ => fun
  | [d1, d2] => { results := [.lit (.bool true)], args := [d1, d2] }
  | _ => none }
def cathodeFirstRow : OpenClaim := { program := "ytigaafcllfjniaa", sum := "b31d2efbb6dad24180aa089e97496ad3d4c382dac9a1e8fec01febab88be5e08", func := "thermion/thermionlaw03.CathodeFirst", spec := "cathodeFirst", unfollowed := true, recurses := true, apart := false }
def CathodeFirstSaid : Prop := cathodeFirstRow.holds Try.pinned (OpenSpec.ofChange cathodeFirstSpec)

/-- ITS FALSE NEIGHBOUR: 'it returns false'. Refute it at one input. -/
def cathodeFirstWrong : ChangeSpec := { name := "cathodeFirst", fn := fun _ => fun
  | [d1, d2] => { results := [.lit (.bool false)], args := [d1, d2] }
  | _ => none }
def CathodeFirstWrongFalsely : Prop := cathodeFirstRow.holds Try.pinned (OpenSpec.ofChange cathodeFirstWrong)

/-- 'thermionlaw03.CathodeStill': WHATEVER THE INPUT: true; the input reads as it did. -/
def cathodeStillSpec : ChangeSpec := { name := "cathodeStill", fn := fun _ => fun
  | [d1, d2, d3] => { results := [.lit (.bool true)], args := [d1, d2, d3] }
  | _ => none }
def cathodeStillRow : OpenClaim := { program := "ytigaafcllfjniaa", sum := "b31d2efbb6dad24180aa089e97496ad3d4c382dac9a1e8fec01febab88be5e08", func := "thermion/thermionlaw03.CathodeStill", spec := "cathodeStill", unfollowed := true, recurses := true, apart := false }
def CathodeStillSaid : Prop := cathodeStillRow.holds Try.pinned (OpenSpec.ofChange cathodeStillSpec)

/-- ITS FALSE NEIGHBOUR: 'it returns false'. Refute it at one input. -/
def cathodeStillWrong : ChangeSpec := { name := "cathodeStill", fn := fun _ => fun
  | [d1, d2, d3] => { results := [.lit (.bool false)], args := [d1, d2, d3] }
  | _ => none }
def CathodeStillWrongFalsely : Prop := cathodeStillRow.holds Try.pinned (OpenSpec.ofChange cathodeStillWrong)

/- THE SECOND FORM. 'bulk': how many values and letters a reading holds, each counted each time it is reached (what is shared counts as often as it is met; a slice's spare places count too). A statement '..UptoSaid' is the law's where the arguments, and the package variables that the reading takes, are together of bulk at most 1048576: NARROWER than '..Said'. Prove '..Said' where nothing that the law and all that it calls make is longer than what came in: it says more and counts as full. Else prove '..UptoSaid'. A law counts once. -/
mutual
def uptoBulk {H : Type} : DataW H → Nat
  | .lit (.string bytes) => bytes.length + 1
  | .lit _ => 1
  | .nil => 1
  | .ptr d => uptoBulk d + 1
  | .slice elems spare => uptoBulkAll elems + uptoBulkAll spare + 1
  | .agg parts => uptoBulkAll parts + 1
  | .iface _ d => uptoBulk d + 1
  | .map entries => uptoBulkEntries entries + 1
  | .held _ => 1
def uptoBulkAll {H : Type} : List (DataW H) → Nat
  | [] => 0
  | d :: r => uptoBulk d + uptoBulkAll r
def uptoBulkEntries {H : Type} : List (Lit × DataW H) → Nat
  | [] => 0
  | x :: r => uptoBulkEntry x + uptoBulkEntries r
def uptoBulkEntry {H : Type} : Lit × DataW H → Nat
  | (.string bytes, d) => bytes.length + uptoBulk d + 1
  | (_, d) => uptoBulk d + 1
 end
def uptoSmall : (H : Type) → List (DataW H) → Bool := fun _ ds => decide (uptoBulkAll ds ≤ 1048576)
def OpenSpec.upto (s : _root_.Go.ChangeSpec) : _root_.Go.OpenSpec := { _root_.Go.OpenSpec.ofChange s with cond := some uptoSmall }

/-- 'thermionlaw03.CathodeChecks', WHERE WHAT IT READS IS OF BULK AT MOST 1048576: true; the input reads as it did. -/
def cathodeChecksUptoRow : OpenClaim := { program := "ytigaafcllfjniaa", sum := "b31d2efbb6dad24180aa089e97496ad3d4c382dac9a1e8fec01febab88be5e08", func := "thermion/thermionlaw03.CathodeChecks", spec := "cathodeChecks", unfollowed := true, recurses := true, apart := false, narrowed := true }
def CathodeChecksUptoSaid : Prop := cathodeChecksUptoRow.holds Try.pinned (OpenSpec.upto cathodeChecksSpec)

/-- 'thermionlaw03.CathodeTicks', WHERE WHAT IT READS IS OF BULK AT MOST 1048576: true; the input reads as it did. -/
def cathodeTicksUptoRow : OpenClaim := { program := "ytigaafcllfjniaa", sum := "b31d2efbb6dad24180aa089e97496ad3d4c382dac9a1e8fec01febab88be5e08", func := "thermion/thermionlaw03.CathodeTicks", spec := "cathodeTicks", unfollowed := true, recurses := true, apart := false, narrowed := true }
def CathodeTicksUptoSaid : Prop := cathodeTicksUptoRow.holds Try.pinned (OpenSpec.upto cathodeTicksSpec)

/-- 'thermionlaw03.CathodeFollows', WHERE WHAT IT READS IS OF BULK AT MOST 1048576: true; the input reads as it did. -/
def cathodeFollowsUptoRow : OpenClaim := { program := "ytigaafcllfjniaa", sum := "b31d2efbb6dad24180aa089e97496ad3d4c382dac9a1e8fec01febab88be5e08", func := "thermion/thermionlaw03.CathodeFollows", spec := "cathodeFollows", unfollowed := true, recurses := true, apart := false, narrowed := true }
def CathodeFollowsUptoSaid : Prop := cathodeFollowsUptoRow.holds Try.pinned (OpenSpec.upto cathodeFollowsSpec)

/-- 'thermionlaw03.CathodePossible', WHERE WHAT IT READS IS OF BULK AT MOST 1048576: true; the input reads as it did. -/
def cathodePossibleUptoRow : OpenClaim := { program := "ytigaafcllfjniaa", sum := "b31d2efbb6dad24180aa089e97496ad3d4c382dac9a1e8fec01febab88be5e08", func := "thermion/thermionlaw03.CathodePossible", spec := "cathodePossible", unfollowed := true, recurses := true, apart := false, narrowed := true }
def CathodePossibleUptoSaid : Prop := cathodePossibleUptoRow.holds Try.pinned (OpenSpec.upto cathodePossibleSpec)

/-- 'thermionlaw03.CathodeJudges', WHERE WHAT IT READS IS OF BULK AT MOST 1048576: true; the input reads as it did. -/
def cathodeJudgesUptoRow : OpenClaim := { program := "ytigaafcllfjniaa", sum := "b31d2efbb6dad24180aa089e97496ad3d4c382dac9a1e8fec01febab88be5e08", func := "thermion/thermionlaw03.CathodeJudges", spec := "cathodeJudges", unfollowed := true, recurses := true, apart := false, narrowed := true }
def CathodeJudgesUptoSaid : Prop := cathodeJudgesUptoRow.holds Try.pinned (OpenSpec.upto cathodeJudgesSpec)

/-- 'thermionlaw03.CathodeShortest', WHERE WHAT IT READS IS OF BULK AT MOST 1048576: true; the input reads as it did. -/
def cathodeShortestUptoRow : OpenClaim := { program := "ytigaafcllfjniaa", sum := "b31d2efbb6dad24180aa089e97496ad3d4c382dac9a1e8fec01febab88be5e08", func := "thermion/thermionlaw03.CathodeShortest", spec := "cathodeShortest", unfollowed := true, recurses := true, apart := false, narrowed := true }
def CathodeShortestUptoSaid : Prop := cathodeShortestUptoRow.holds Try.pinned (OpenSpec.upto cathodeShortestSpec)

/-- 'thermionlaw03.CathodeKnown', WHERE WHAT IT READS IS OF BULK AT MOST 1048576: true; the input reads as it did. -/
def cathodeKnownUptoRow : OpenClaim := { program := "ytigaafcllfjniaa", sum := "b31d2efbb6dad24180aa089e97496ad3d4c382dac9a1e8fec01febab88be5e08", func := "thermion/thermionlaw03.CathodeKnown", spec := "cathodeKnown", unfollowed := true, recurses := true, apart := false, narrowed := true }
def CathodeKnownUptoSaid : Prop := cathodeKnownUptoRow.holds Try.pinned (OpenSpec.upto cathodeKnownSpec)

/-- 'thermionlaw03.CathodeBounds', WHERE WHAT IT READS IS OF BULK AT MOST 1048576: true; the input reads as it did. -/
def cathodeBoundsUptoRow : OpenClaim := { program := "ytigaafcllfjniaa", sum := "b31d2efbb6dad24180aa089e97496ad3d4c382dac9a1e8fec01febab88be5e08", func := "thermion/thermionlaw03.CathodeBounds", spec := "cathodeBounds", unfollowed := true, recurses := true, apart := false, narrowed := true }
def CathodeBoundsUptoSaid : Prop := cathodeBoundsUptoRow.holds Try.pinned (OpenSpec.upto cathodeBoundsSpec)

/-- 'thermionlaw03.CathodeNarrows', WHERE WHAT IT READS IS OF BULK AT MOST 1048576: true; the input reads as it did. -/
def cathodeNarrowsUptoRow : OpenClaim := { program := "ytigaafcllfjniaa", sum := "b31d2efbb6dad24180aa089e97496ad3d4c382dac9a1e8fec01febab88be5e08", func := "thermion/thermionlaw03.CathodeNarrows", spec := "cathodeNarrows", unfollowed := true, recurses := true, apart := false, narrowed := true }
def CathodeNarrowsUptoSaid : Prop := cathodeNarrowsUptoRow.holds Try.pinned (OpenSpec.upto cathodeNarrowsSpec)

/-- 'thermionlaw03.CathodeVerdicts', WHERE WHAT IT READS IS OF BULK AT MOST 1048576: true; the input reads as it did. -/
def cathodeVerdictsUptoRow : OpenClaim := { program := "ytigaafcllfjniaa", sum := "b31d2efbb6dad24180aa089e97496ad3d4c382dac9a1e8fec01febab88be5e08", func := "thermion/thermionlaw03.CathodeVerdicts", spec := "cathodeVerdicts", unfollowed := true, recurses := true, apart := false, narrowed := true }
def CathodeVerdictsUptoSaid : Prop := cathodeVerdictsUptoRow.holds Try.pinned (OpenSpec.upto cathodeVerdictsSpec)

/-- 'thermionlaw03.CathodeParts', WHERE WHAT IT READS IS OF BULK AT MOST 1048576: true; the input reads as it did. -/
def cathodePartsUptoRow : OpenClaim := { program := "ytigaafcllfjniaa", sum := "b31d2efbb6dad24180aa089e97496ad3d4c382dac9a1e8fec01febab88be5e08", func := "thermion/thermionlaw03.CathodeParts", spec := "cathodeParts", unfollowed := true, recurses := true, apart := false, narrowed := true }
def CathodePartsUptoSaid : Prop := cathodePartsUptoRow.holds Try.pinned (OpenSpec.upto cathodePartsSpec)

/-- 'thermionlaw03.CathodeFalls', WHERE WHAT IT READS IS OF BULK AT MOST 1048576: true; the input reads as it did. -/
def cathodeFallsUptoRow : OpenClaim := { program := "ytigaafcllfjniaa", sum := "b31d2efbb6dad24180aa089e97496ad3d4c382dac9a1e8fec01febab88be5e08", func := "thermion/thermionlaw03.CathodeFalls", spec := "cathodeFalls", unfollowed := true, recurses := true, apart := false, narrowed := true }
def CathodeFallsUptoSaid : Prop := cathodeFallsUptoRow.holds Try.pinned (OpenSpec.upto cathodeFallsSpec)

/-- 'thermionlaw03.CathodeAges', WHERE WHAT IT READS IS OF BULK AT MOST 1048576: true; the input reads as it did. -/
def cathodeAgesUptoRow : OpenClaim := { program := "ytigaafcllfjniaa", sum := "b31d2efbb6dad24180aa089e97496ad3d4c382dac9a1e8fec01febab88be5e08", func := "thermion/thermionlaw03.CathodeAges", spec := "cathodeAges", unfollowed := true, recurses := true, apart := false, narrowed := true }
def CathodeAgesUptoSaid : Prop := cathodeAgesUptoRow.holds Try.pinned (OpenSpec.upto cathodeAgesSpec)

/-- 'thermionlaw03.CathodeFirst', WHERE WHAT IT READS IS OF BULK AT MOST 1048576: true; the input reads as it did. -/
def cathodeFirstUptoRow : OpenClaim := { program := "ytigaafcllfjniaa", sum := "b31d2efbb6dad24180aa089e97496ad3d4c382dac9a1e8fec01febab88be5e08", func := "thermion/thermionlaw03.CathodeFirst", spec := "cathodeFirst", unfollowed := true, recurses := true, apart := false, narrowed := true }
def CathodeFirstUptoSaid : Prop := cathodeFirstUptoRow.holds Try.pinned (OpenSpec.upto cathodeFirstSpec)

/-- 'thermionlaw03.CathodeStill', WHERE WHAT IT READS IS OF BULK AT MOST 1048576: true; the input reads as it did. -/
def cathodeStillUptoRow : OpenClaim := { program := "ytigaafcllfjniaa", sum := "b31d2efbb6dad24180aa089e97496ad3d4c382dac9a1e8fec01febab88be5e08", func := "thermion/thermionlaw03.CathodeStill", spec := "cathodeStill", unfollowed := true, recurses := true, apart := false, narrowed := true }
def CathodeStillUptoSaid : Prop := cathodeStillUptoRow.holds Try.pinned (OpenSpec.upto cathodeStillSpec)

end Rows
end Go.Proofs.Ytigaafcllfjniaa
