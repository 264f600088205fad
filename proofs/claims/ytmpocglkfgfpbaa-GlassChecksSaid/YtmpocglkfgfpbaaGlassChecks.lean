/- GlassChecks: Check, CheckOven and CheckFires give the error of the reference, for any stuff of at most 30 zones, any programme of at most 30 legs and any fires that are not too many, and for those made of numbers with a zone and a leg put in; and they leave what they are given as it was. -/
import Derived.Test.YtmpocglkfgfpbaaPH
import Derived.Test.YtmpocglkfgfpbaaRows
import Derived.WalkKit
import Derived.ProofKit
import Derived.OpenShut
import Derived.ShutString
import Derived.ChangeOld
import Derived.Below
import Derived.Carry
set_option linter.unusedSimpArgs false
set_option linter.unusedVariables false
namespace Go.Proofs.Ytmpocglkfgfpbaa.glassChecks
open Go.ChangeShapes Go.WideShapes Go.ChangeAt Go.RowKit
open Go.Sx (Ans VR topG AT aggT dataB top_agg top_one)
set_option linter.unusedVariables false

theorem own : ownKnob Try.prog.godebug = none := by kernel_rfl
theorem laidOut : laidOutB Try.prog = true := by kernel_rfl

attribute [local irreducible] Go.Sx.AT
set_option maxRecDepth 100000 in
theorem walk (c0 : Array Value) (c1 : Array Value) (v2 : Value) (v3 : Value) (c4 : Array Value) (c5 : Array Value) (w : World) (w0 : ∃ ws, VR (topG w) (fun _ => none) (.agg ws) (.agg c0) ∧ AT Try.prog 8 24 ws) (w1 : ∃ ws, VR (topG w) (fun _ => none) (.agg ws) (.agg c1) ∧ AT Try.prog 8 27 ws) (w2 : ∃ x, VR (topG w) (fun _ => none) x v2 ∧ AT Try.prog 8 28 [x]) (w3 : ∃ x, VR (topG w) (fun _ => none) x v3 ∧ AT Try.prog 8 29 [x]) (w4 : ∃ ws, VR (topG w) (fun _ => none) (.agg ws) (.agg c4) ∧ AT Try.prog 8 33 ws) (w5 : ∃ ws, VR (topG w) (fun _ => none) (.agg ws) (.agg c5) ∧ AT Try.prog 8 35 ws) :
    Calls Try.prog 3 #[.agg c0, .agg c1, v2, v3, .agg c4, .agg c5] w fun e w' => e = .returned (.bool true) ∧ Below w.heap.size w w' := by
  obtain ⟨ws0, h0, t0⟩ := w0
  obtain ⟨ws1, h1, t1⟩ := w1
  obtain ⟨b0, z0, e0, hz0, -⟩ := at_stuff t0
  obtain ⟨f0, ls0, e1, hls0⟩ := at_oven t1
  obtain ⟨y2, h2, t2⟩ := w2
  obtain ⟨l, rfl, hll, hlb⟩ := at_fires t2
  obtain ⟨y3, h3, t3⟩ := w3
  obtain ⟨zs, rfl, hz⟩ := at_ints t3
  obtain ⟨ws4, h4, t4⟩ := w4
  obtain ⟨zn, e4⟩ := at_zone t4
  obtain ⟨ws5, h5, t5⟩ := w5
  obtain ⟨lg, e5⟩ := at_leg t5
  rw [e0] at h0
  rw [e1] at h1
  rw [e4] at h4
  rw [e5] at h5
  have h := Go.Proofs.checks_law b0 z0 f0 ls0 l zs zn lg hz hz0 hls0 hll hlb
  refine Ans.walk_bool (Go.Sx.GlobOK.none (by kernel_rfl)) h (by simp) fun i hi => ?_
  match i, hi with
  | 0, _ => exact h0
  | 1, _ => exact h1
  | 2, _ => exact h2
  | 3, _ => exact h3
  | 4, _ => exact h4
  | 5, _ => exact h5

set_option maxRecDepth 100000 in
theorem lifted (os : Os) (started : os.Started) (H : Type) (enc : TypeId × Value → H) :
    ReturnsInHanded {} Try.checked os 3 .any (Rows.glassChecksSpec.pre6 enc Try.prog Try.f3 Rows.glassChecksRow.domain false) (Rows.glassChecksSpec.post enc Try.prog Try.f3 false true false false) := by
  refine returnsInHanded_of_change (C := Try.checked) own started (by kernel_rfl) Try.func3
    (ChangeSpec.witness6 (enc := enc) (C := Try.checked) false ⟨#[], #[.agg #[.int .i64 0, .slice none 0 0], .agg #[.int .i64 0, .slice none 0 0], .slice none 0 0, .slice none 0 0, .agg #[.int .i64 0, .int .i64 0, .int .i64 0, .int .i64 0, .int .i64 0], .agg #[.int .i64 0, .int .i64 0]], []⟩ 8 (by kernel_rfl) (by kernel_rfl) (by kernel_rfl) (by kernel_rfl)) ?_
  intro W base args ds gs before hval0 hW hcnd _
  have hval : ∀ (j : Nat) t v, Try.f3.params[j]? = some t → args[j]? = some v → Value.okWide Try.prog W .any base t v := hval0
  have hW' := hW
  obtain ⟨p, q, hA0, hV, rfl, hfz, hnd⟩ := hW
  have hA : DataW.TrodAll enc Try.prog W 0 (fun _ => true) true Try.f3.params.toList args.toList ds p := hA0
  rw [Try.params3] at hA hval
  obtain ⟨v0, vs0, d0, ds0, p0, q0, hargs, rfl, rfl, h0, r0⟩ := trodAll_cons hA
  obtain ⟨v1, vs1, d1, ds1, p1, q1, rfl, rfl, rfl, h1, r1⟩ := trodAll_cons r0
  obtain ⟨v2, vs2, d2, ds2, p2, q2, rfl, rfl, rfl, h2, r2⟩ := trodAll_cons r1
  obtain ⟨v3, vs3, d3, ds3, p3, q3, rfl, rfl, rfl, h3, r3⟩ := trodAll_cons r2
  obtain ⟨v4, vs4, d4, ds4, p4, q4, rfl, rfl, rfl, h4, r4⟩ := trodAll_cons r3
  obtain ⟨v5, vs5, d5, ds5, p5, q5, rfl, rfl, rfl, h5, r5⟩ := trodAll_cons r4
  obtain ⟨rfl, rfl, rfl⟩ := trodAll_nil r5
  obtain rfl : args = #[v0, v1, v2, v3, v4, v5] := by cases args; simp_all
  obtain ⟨rfl, rfl⟩ := trodVars_none hV
  obtain ⟨c0, rfl, -⟩ := okWide_struct Try.underlying24 (hval 0 24 v0 rfl rfl)
  have k0 := h0
  have lt0 : ∀ x ∈ p0, x.block < W.heap.size := by obtain ⟨m, hm⟩ := k0; exact DataW.trod_lt m _ _ _ hm
  have w0 := top_agg (μ := fun _ => none) (m := 8) (by kernel_rfl) (by kernel_rfl) h0
  obtain ⟨c1, rfl, -⟩ := okWide_struct Try.underlying27 (hval 1 27 v1 rfl rfl)
  have k1 := h1
  have lt1 : ∀ x ∈ p1, x.block < W.heap.size := by obtain ⟨m, hm⟩ := k1; exact DataW.trod_lt m _ _ _ hm
  have w1 := top_agg (μ := fun _ => none) (m := 8) (by kernel_rfl) (by kernel_rfl) h1
  obtain ⟨a2, len2, cap2, rfl⟩ := okWide_slice Try.underlying28 (hval 2 28 v2 rfl rfl)
  have k2 := h2
  have lt2 : ∀ x ∈ p2, x.block < W.heap.size := by obtain ⟨m, hm⟩ := k2; exact DataW.trod_lt m _ _ _ hm
  have w2 := top_one (μ := fun _ => none) (m := 8) (by kernel_rfl) (by kernel_rfl) rfl h2
  obtain ⟨a3, len3, cap3, rfl⟩ := okWide_slice Try.underlying29 (hval 3 29 v3 rfl rfl)
  have k3 := h3
  have lt3 : ∀ x ∈ p3, x.block < W.heap.size := by obtain ⟨m, hm⟩ := k3; exact DataW.trod_lt m _ _ _ hm
  have w3 := top_one (μ := fun _ => none) (m := 8) (by kernel_rfl) (by kernel_rfl) rfl h3
  obtain ⟨c4, rfl, -⟩ := okWide_struct Try.underlying33 (hval 4 33 v4 rfl rfl)
  have k4 := h4
  have lt4 : ∀ x ∈ p4, x.block < W.heap.size := by obtain ⟨m, hm⟩ := k4; exact DataW.trod_lt m _ _ _ hm
  have w4 := top_agg (μ := fun _ => none) (m := 8) (by kernel_rfl) (by kernel_rfl) h4
  obtain ⟨c5, rfl, -⟩ := okWide_struct Try.underlying35 (hval 5 35 v5 rfl rfl)
  have k5 := h5
  have lt5 : ∀ x ∈ p5, x.block < W.heap.size := by obtain ⟨m, hm⟩ := k5; exact DataW.trod_lt m _ _ _ hm
  have w5 := top_agg (μ := fun _ => none) (m := 8) (by kernel_rfl) (by kernel_rfl) h5
  clear hA0 hval0
  refine (walk c0 c1 _ _ c4 c5 W w0 w1 w2 w3 w4 w5).mono fun e W' ⟨he, bel⟩ => ?_
  subst he
  exact ⟨_, rfl, _, _, _, [], _, [], hW', trodAll_mk1 (shut_bool Try.underlying4 _), (trodAll_cons_mk (Below.trod laidOut (by kernel_rfl) (of_decide_eq_true (by kernel_rfl)) k0 bel lt0) (trodAll_cons_mk (Below.trod laidOut (by kernel_rfl) (of_decide_eq_true (by kernel_rfl)) k1 bel lt1) (trodAll_cons_mk (Below.trod laidOut (by kernel_rfl) (of_decide_eq_true (by kernel_rfl)) k2 bel lt2) (trodAll_cons_mk (Below.trod laidOut (by kernel_rfl) (of_decide_eq_true (by kernel_rfl)) k3 bel lt3) (trodAll_cons_mk (Below.trod laidOut (by kernel_rfl) (of_decide_eq_true (by kernel_rfl)) k4 bel lt4) (trodAll_cons_mk (Below.trod laidOut (by kernel_rfl) (of_decide_eq_true (by kernel_rfl)) k5 bel lt5) trodAll_mk0)))))), rfl, bel.frame _, fun h => by cases h⟩

theorem over : Rows.glassChecksRow.holds Try.pinned (OpenSpec.ofChange Rows.glassChecksSpec) :=
  OpenClaim.holds_of_wide 3 Try.f3 rfl rfl rfl rfl rfl rfl rfl ⟨rfl, rfl, rfl, rfl, rfl⟩ rfl rfl rfl rfl rfl (by kernel_rfl) Try.func3 (by kernel_rfl)
    (of_decide_eq_true (by kernel_rfl)) (by unfold Func.isWrapper; first | (rw [if_pos (by decide +kernel)]; kernel_rfl) | (rw [if_neg (by decide +kernel)]; exact ⟨rfl, rfl⟩))
    (fun os started H enc _ => lifted os started H enc)

/-- ████ THE STATEMENT ████ -/
theorem proved : Rows.GlassChecksSaid := over
#print axioms proved
end Go.Proofs.Ytmpocglkfgfpbaa.glassChecks
