/- GlassStrains: strains, verdicts and soaking, or which error there is, are those of the reference, for any stuff of at most 30 zones and any programme of at most 30 legs, and for a stuff and a programme made of numbers. -/
import Derived.Test.YtmpocglkfgfpbaaPI
import Derived.Test.YtmpocglkfgfpbaaRows
import Derived.WalkKit
import Derived.ProofKit
import Derived.OpenShut
import Derived.ShutString
import Derived.ChangeOld
import Derived.Below
import Derived.Carry
set_option linter.unusedSimpArgs false
set_option linter.unusedVariables false
namespace Go.Proofs.Ytmpocglkfgfpbaa.glassStrains
open Go.ChangeShapes Go.WideShapes Go.ChangeAt Go.RowKit
open Go.Sx (Ans VR topG AT aggT dataB top_agg top_one)
set_option linter.unusedVariables false

theorem own : ownKnob Try.prog.godebug = none := by kernel_rfl
theorem laidOut : laidOutB Try.prog = true := by kernel_rfl

attribute [local irreducible] Go.Sx.AT
set_option maxRecDepth 100000 in
theorem walk (c0 : Array Value) (a1 : Int) (c2 : Array Value) (a3 : Int) (c4 : Array Value) (a5 : Int) (v6 : Value) (w : World) (w0 : ∃ ws, VR (topG w) (fun _ => none) (.agg ws) (.agg c0) ∧ AT Try.prog 8 24 ws) (w1 : (Lit.int .i64 a1).wf = true) (w2 : ∃ ws, VR (topG w) (fun _ => none) (.agg ws) (.agg c2) ∧ AT Try.prog 8 27 ws) (w3 : (Lit.int .i64 a3).wf = true) (w4 : ∃ ws, VR (topG w) (fun _ => none) (.agg ws) (.agg c4) ∧ AT Try.prog 8 31 ws) (w5 : (Lit.int .i64 a5).wf = true) (w6 : ∃ x, VR (topG w) (fun _ => none) x v6 ∧ AT Try.prog 8 29 [x]) :
    Calls Try.prog 6 #[.agg c0, .int .i64 a1, .agg c2, .int .i64 a3, .agg c4, .int .i64 a5, v6] w fun e w' => e = .returned (.bool true) ∧ Below w.heap.size w w' := by
  obtain ⟨ws0, h0, t0⟩ := w0
  obtain ⟨ws2, h2, t2⟩ := w2
  obtain ⟨ws4, h4, t4⟩ := w4
  obtain ⟨b0, z0, e0, hz0, -⟩ := at_stuff t0
  obtain ⟨f0, ls0, e2, hz2⟩ := at_oven t2
  obtain ⟨lo, hi, rfl, -, -⟩ := at_rng t4
  obtain ⟨y6, h6, t6⟩ := w6
  obtain ⟨zs, rfl, hz⟩ := at_ints t6
  rw [e0] at h0
  rw [e2] at h2
  have h := Go.Proofs.strains_law b0 z0 a1 f0 ls0 a3 lo hi a5 zs hz hz0 hz2
  refine Ans.walk_bool (Go.Sx.GlobOK.none (by kernel_rfl)) h (by simp) fun i hi => ?_
  match i, hi with
  | 0, _ => exact h0
  | 1, _ => exact .int _ _
  | 2, _ => exact h2
  | 3, _ => exact .int _ _
  | 4, _ => exact h4
  | 5, _ => exact .int _ _
  | 6, _ => exact h6

set_option maxRecDepth 100000 in
theorem lifted (os : Os) (started : os.Started) (H : Type) (enc : TypeId × Value → H) :
    ReturnsInHanded {} Try.checked os 6 .any (Rows.glassStrainsSpec.pre6 enc Try.prog Try.f6 Rows.glassStrainsRow.domain false) (Rows.glassStrainsSpec.post enc Try.prog Try.f6 false true false false) := by
  refine returnsInHanded_of_change (C := Try.checked) own started (by kernel_rfl) Try.func6
    (ChangeSpec.witness6 (enc := enc) (C := Try.checked) false ⟨#[], #[.agg #[.int .i64 0, .slice none 0 0], .int .i64 0, .agg #[.int .i64 0, .slice none 0 0], .int .i64 0, .agg #[.int .i64 0, .int .i64 0], .int .i64 0, .slice none 0 0], []⟩ 8 (by kernel_rfl) (by kernel_rfl) (by kernel_rfl) (by kernel_rfl)) ?_
  intro W base args ds gs before hval0 hW hcnd _
  have hval : ∀ (j : Nat) t v, Try.f6.params[j]? = some t → args[j]? = some v → Value.okWide Try.prog W .any base t v := hval0
  have hW' := hW
  obtain ⟨p, q, hA0, hV, rfl, hfz, hnd⟩ := hW
  have hA : DataW.TrodAll enc Try.prog W 0 (fun _ => true) true Try.f6.params.toList args.toList ds p := hA0
  rw [Try.params6] at hA hval
  obtain ⟨v0, vs0, d0, ds0, p0, q0, hargs, rfl, rfl, h0, r0⟩ := trodAll_cons hA
  obtain ⟨v1, vs1, d1, ds1, p1, q1, rfl, rfl, rfl, h1, r1⟩ := trodAll_cons r0
  obtain ⟨v2, vs2, d2, ds2, p2, q2, rfl, rfl, rfl, h2, r2⟩ := trodAll_cons r1
  obtain ⟨v3, vs3, d3, ds3, p3, q3, rfl, rfl, rfl, h3, r3⟩ := trodAll_cons r2
  obtain ⟨v4, vs4, d4, ds4, p4, q4, rfl, rfl, rfl, h4, r4⟩ := trodAll_cons r3
  obtain ⟨v5, vs5, d5, ds5, p5, q5, rfl, rfl, rfl, h5, r5⟩ := trodAll_cons r4
  obtain ⟨v6, vs6, d6, ds6, p6, q6, rfl, rfl, rfl, h6, r6⟩ := trodAll_cons r5
  obtain ⟨rfl, rfl, rfl⟩ := trodAll_nil r6
  obtain rfl : args = #[v0, v1, v2, v3, v4, v5, v6] := by cases args; simp_all
  obtain ⟨rfl, rfl⟩ := trodVars_none hV
  obtain ⟨c0, rfl, -⟩ := okWide_struct Try.underlying24 (hval 0 24 v0 rfl rfl)
  have k0 := h0
  have lt0 : ∀ x ∈ p0, x.block < W.heap.size := by obtain ⟨m, hm⟩ := k0; exact DataW.trod_lt m _ _ _ hm
  have w0 := top_agg (μ := fun _ => none) (m := 8) (by kernel_rfl) (by kernel_rfl) h0
  obtain ⟨a1, rfl, rfl, rfl, w1⟩ := open_int Try.underlying3 (hval 1 3 v1 rfl rfl) h1
  obtain ⟨c2, rfl, -⟩ := okWide_struct Try.underlying27 (hval 2 27 v2 rfl rfl)
  have k2 := h2
  have lt2 : ∀ x ∈ p2, x.block < W.heap.size := by obtain ⟨m, hm⟩ := k2; exact DataW.trod_lt m _ _ _ hm
  have w2 := top_agg (μ := fun _ => none) (m := 8) (by kernel_rfl) (by kernel_rfl) h2
  obtain ⟨a3, rfl, rfl, rfl, w3⟩ := open_int Try.underlying3 (hval 3 3 v3 rfl rfl) h3
  obtain ⟨c4, rfl, -⟩ := okWide_struct Try.underlying31 (hval 4 31 v4 rfl rfl)
  have k4 := h4
  have lt4 : ∀ x ∈ p4, x.block < W.heap.size := by obtain ⟨m, hm⟩ := k4; exact DataW.trod_lt m _ _ _ hm
  have w4 := top_agg (μ := fun _ => none) (m := 8) (by kernel_rfl) (by kernel_rfl) h4
  obtain ⟨a5, rfl, rfl, rfl, w5⟩ := open_int Try.underlying3 (hval 5 3 v5 rfl rfl) h5
  obtain ⟨a6, len6, cap6, rfl⟩ := okWide_slice Try.underlying29 (hval 6 29 v6 rfl rfl)
  have k6 := h6
  have lt6 : ∀ x ∈ p6, x.block < W.heap.size := by obtain ⟨m, hm⟩ := k6; exact DataW.trod_lt m _ _ _ hm
  have w6 := top_one (μ := fun _ => none) (m := 8) (by kernel_rfl) (by kernel_rfl) rfl h6
  clear hA0 hval0
  refine (walk c0 a1 c2 a3 c4 a5 _ W w0 w1 w2 w3 w4 w5 w6).mono fun e W' ⟨he, bel⟩ => ?_
  subst he
  exact ⟨_, rfl, _, _, _, [], _, [], hW', trodAll_mk1 (shut_bool Try.underlying4 _), (trodAll_cons_mk (Below.trod laidOut (by kernel_rfl) (of_decide_eq_true (by kernel_rfl)) k0 bel lt0) (trodAll_cons_mk (shut_int Try.underlying3 w1) (trodAll_cons_mk (Below.trod laidOut (by kernel_rfl) (of_decide_eq_true (by kernel_rfl)) k2 bel lt2) (trodAll_cons_mk (shut_int Try.underlying3 w3) (trodAll_cons_mk (Below.trod laidOut (by kernel_rfl) (of_decide_eq_true (by kernel_rfl)) k4 bel lt4) (trodAll_cons_mk (shut_int Try.underlying3 w5) (trodAll_cons_mk (Below.trod laidOut (by kernel_rfl) (of_decide_eq_true (by kernel_rfl)) k6 bel lt6) trodAll_mk0))))))), rfl, bel.frame _, fun h => by cases h⟩

theorem over : Rows.glassStrainsRow.holds Try.pinned (OpenSpec.ofChange Rows.glassStrainsSpec) :=
  OpenClaim.holds_of_wide 6 Try.f6 rfl rfl rfl rfl rfl rfl rfl ⟨rfl, rfl, rfl, rfl, rfl⟩ rfl rfl rfl rfl rfl (by kernel_rfl) Try.func6 (by kernel_rfl)
    (of_decide_eq_true (by kernel_rfl)) (by unfold Func.isWrapper; first | (rw [if_pos (by decide +kernel)]; kernel_rfl) | (rw [if_neg (by decide +kernel)]; exact ⟨rfl, rfl⟩))
    (fun os started H enc _ => lifted os started H enc)

/-- ████ THE STATEMENT ████ -/
theorem proved : Rows.GlassStrainsSaid := over
#print axioms proved
end Go.Proofs.Ytmpocglkfgfpbaa.glassStrains
