/- A part of the proof. -/
import Derived.Test.YtnnbkoipalaanaaDoorPC
import Derived.ProofKit
import Derived.LaidMore
set_option linter.unusedSimpArgs false
set_option linter.unusedVariables false
namespace Go.Proofs
open Go Go.Sx Go.Gauge
attribute [local irreducible] Run lead

theorem sel3_bd (s : Int) : 0 ≤ sel3 s 0 5 2000 ∧ sel3 s 0 5 2000 ≤ 2000 := by
  unfold sel3; split
  · omega
  · split <;> omega

set_option maxHeartbeats 8000000 in
set_option maxRecDepth 10000 in
theorem ages_law (a b c d l h t : Int) (zs : List Int) (hl : zs.length ≤ 9223372036854775807) :
    Ans Tryd.prog n_law07_GaugeAges [r2 a b, r2 c d, r2 l h, .int .i64 t, .view (zs.map (.int .i64))] [] (.bool true) [] := by
  refine spec_run e_law07_GaugeAges fun G => ?_
  simp only [go_sem, r2]
  refine callN1 (newdice_ok zs hl) (by simp only [go_sem]) (dr_bel _ _) (by simp) (by simp) ?_
  generalize seedW zs = w
  simp only [go_sem, ren, rens]
  refine cD (range_run w (-1000) 1000 (by decide) (by decide) (by decide)) ?_
  have hx := rngR_in (w := w) (lo := -1000) (hi := 1000) (by decide)
  obtain ⟨x, hx'⟩ : ∃ x, rngR w (-1000) 1000 = x := ⟨_, rfl⟩
  rw [hx'] at hx ⊢
  obtain ⟨w2, hw2⟩ : ∃ w2, dstep (dstep w) = w2 := ⟨_, rfl⟩
  rw [hw2]
  simp only [go_sem, Rg.v]
  refine dD (upto_ok w2 3 (by decide)) ?_
  have t1 := upto_in (w := w2) (n := 3) (by decide)
  obtain ⟨s1, hs1⟩ : ∃ s1, upto w2 3 = s1 := ⟨_, rfl⟩
  rw [hs1] at t1 ⊢
  obtain ⟨w3, hw3⟩ : ∃ w3, dstep w2 = w3 := ⟨_, rfl⟩
  rw [hw3]
  have g1 := sel3_get s1 0 5 2000 t1
  have n1 : ¬ s1 < 0 := by omega
  have b1 := sel3_bd s1
  obtain ⟨v1, hv1⟩ : ∃ v1, sel3 s1 0 5 2000 = v1 := ⟨_, rfl⟩
  rw [hv1] at b1 g1
  have y1 : IntKind.i64.wrap (0 - v1) = -v1 := by rw [w64 (by omega)]; omega
  simp only [go_sem, n1, t1.2, g1, y1]
  refine dD (upto_ok w3 3 (by decide)) ?_
  have t2 := upto_in (w := w3) (n := 3) (by decide)
  obtain ⟨s2, hs2⟩ : ∃ s2, upto w3 3 = s2 := ⟨_, rfl⟩
  rw [hs2] at t2 ⊢
  obtain ⟨w4, hw4⟩ : ∃ w4, dstep w3 = w4 := ⟨_, rfl⟩
  rw [hw4]
  have g2 := sel3_get s2 0 5 2000 t2
  have n2 : ¬ s2 < 0 := by omega
  have b2 := sel3_bd s2
  obtain ⟨v2, hv2⟩ : ∃ v2, sel3 s2 0 5 2000 = v2 := ⟨_, rfl⟩
  rw [hv2] at b2 g2
  simp only [go_sem, n2, t2.2, g2]
  refine dD (range_run w4 (-v1) v2 (by omega) (by omega) (by omega)) ?_
  have hy := rngR_in (w := w4) (lo := -v1) (hi := v2) (by omega)
  obtain ⟨y, hy'⟩ : ∃ y, rngR w4 (-v1) v2 = y := ⟨_, rfl⟩
  rw [hy'] at hy ⊢
  obtain ⟨w5, hw5⟩ : ∃ w5, dstep (dstep w4) = w5 := ⟨_, rfl⟩
  rw [hw5]
  simp only [go_sem, Rg.v]
  refine dD (upto_ok w5 900 (by decide)) ?_
  have u1 := upto_in (w := w5) (n := 900) (by decide)
  obtain ⟨p1, hp1⟩ : ∃ p1, upto w5 900 = p1 := ⟨_, rfl⟩
  rw [hp1] at u1 ⊢
  obtain ⟨w6, hw6⟩ : ∃ w6, dstep w5 = w6 := ⟨_, rfl⟩
  rw [hw6]
  have z1 : IntKind.i64.wrap (x.lo - p1) = x.lo - p1 := w64 (by omega)
  simp only [go_sem, z1]
  refine dD (upto_ok w6 9 (by decide)) ?_
  have u2 := upto_in (w := w6) (n := 9) (by decide)
  obtain ⟨p2, hp2⟩ : ∃ p2, upto w6 9 = p2 := ⟨_, rfl⟩
  rw [hp2] at u2 ⊢
  obtain ⟨w7, hw7⟩ : ∃ w7, dstep w6 = w7 := ⟨_, rfl⟩
  rw [hw7]
  have z2 : IntKind.i64.wrap (x.lo - p1 + p2) = x.lo - p1 + p2 := w64 (by omega)
  simp only [go_sem, z2]
  refine dD (upto_ok w7 900 (by decide)) ?_
  have u3 := upto_in (w := w7) (n := 900) (by decide)
  obtain ⟨p3, hp3⟩ : ∃ p3, upto w7 900 = p3 := ⟨_, rfl⟩
  rw [hp3] at u3 ⊢
  obtain ⟨w8, hw8⟩ : ∃ w8, dstep w7 = w8 := ⟨_, rfl⟩
  rw [hw8]
  have z3 : IntKind.i64.wrap (x.hi + p3) = x.hi + p3 := w64 (by omega)
  simp only [go_sem, z3]
  have k1 := mod_pos t 1000001 (by decide)
  refine cP k1 ?_
  obtain ⟨n, hn⟩ : ∃ n, t % 1000001 = n := ⟨_, rfl⟩
  rw [hn]
  obtain ⟨lo, hlo⟩ : ∃ lo, x.lo - p1 + p2 = lo := ⟨_, rfl⟩
  obtain ⟨hi, hhi⟩ : ∃ hi, x.hi + p3 = hi := ⟨_, rfl⟩
  rw [hlo, hhi]
  simp only [go_sem]
  have a1 := Aged_run a b c d t
  have a2 := rAged_run a b c d t
  have a3 := Keeps_run a b c d l h
  have a4 := rKeeps_run a b c d l h
  obtain ⟨A, hA⟩ : ∃ A, agdR a b c d t = A := ⟨_, rfl⟩
  obtain ⟨B, hB⟩ : ∃ B, kepR a b c d l h = B := ⟨_, rfl⟩
  rw [hA] at a1 a2
  rw [hB] at a3 a4
  have b1 := Aged_run x.lo x.hi y.lo y.hi n
  have b2 := rAged_run x.lo x.hi y.lo y.hi n
  have b3 := Keeps_run x.lo x.hi y.lo y.hi lo hi
  have b4 := rKeeps_run x.lo x.hi y.lo y.hi lo hi
  obtain ⟨C, hC⟩ : ∃ C, agdR x.lo x.hi y.lo y.hi n = C := ⟨_, rfl⟩
  obtain ⟨D, hD⟩ : ∃ D, kepR x.lo x.hi y.lo y.hi lo hi = D := ⟨_, rfl⟩
  rw [hC] at b1 b2
  rw [hD] at b3 b4
  simp only [r2] at a1 a2 a3 a4 b1 b2 b3 b4
  have q1 : IntKind.i64.wrap 1 = 1 := by decide
  have q2 : IntKind.i64.wrap 2 = 2 := by decide
  refine loop_body 400 k_law07_GaugeAges_r16.eq_1 ?_
  simp only [go_sem, q1, q2]
  refine dP a1 ?_
  simp only [go_sem]
  refine dP a2 ?_
  simp only [go_sem]
  refine dP a3 ?_
  simp only [go_sem]
  refine dP a4 ?_
  simp only [go_sem, q1]
  refine loop_body 400 k_law07_GaugeAges_r16.eq_1 ?_
  simp only [go_sem, q1, q2]
  refine dP b1 ?_
  simp only [go_sem]
  refine dP b2 ?_
  simp only [go_sem]
  refine dP b3 ?_
  simp only [go_sem]
  refine dP b4 ?_
  simp only [go_sem, q2]
  refine loop_body 400 k_law07_GaugeAges_r16.eq_1 ?_
  simp only [go_sem, q1, q2]
  refine cP awake_ok ?_
  simp only [go_sem]
end Go.Proofs

namespace Go.Proofs
open Go Go.ChangeShapes Go.WideShapes Go.ChangeAt Go.RowKit

def laid1 : List (String × DataW Unit) := [("thermion/gauge.values", .agg [.lit (.int .i64 (-1000000000)), .lit (.int .i64 1000000000)])]
theorem gVal : Tryd.prog.globalNamed "thermion/gauge.values" = some 0 := by kernel_rfl
theorem tVal : (Tryd.prog.globals[0]?).map (·.type) = some 24 := by kernel_rfl
theorem nVal : Tryd.prog.globals.size = 1 := by kernel_rfl
theorem eVal : Go.Sx.gvOf Tryd.prog 0 = some (.agg [.int .i64 (-1000000000), .int .i64 1000000000]) := by kernel_rfl

set_option maxRecDepth 100000 in
theorem values_met {W : World} (h : laidMetH Tryd.prog laid1 W) : W.cell? ⟨0, 0, none⟩ = some (.int .i64 (-1000000000)) ∧ W.cell? ⟨0, 1, none⟩ = some (.int .i64 1000000000) := by
  rw [MakeChecks.laidMetH_plain _ _ _ (by kernel_rfl)] at h
  obtain ⟨ps, ⟨g0, t0, cs0, f0, p0, q0, hg0, ht0, hv0, hd0, _⟩, _, _⟩ := h
  obtain rfl := Option.some.inj (gVal.symm.trans hg0)
  obtain rfl := Option.some.inj (tVal.symm.trans ht0)
  obtain ⟨y0, y1, n, hx, hl, hy0, hy1⟩ := trod_struct2 Tryd.underlying24 hd0
  simp only [Prod.mk.injEq, DataW.agg.injEq, List.cons.injEq, and_true] at hx
  obtain ⟨⟨e0, e1⟩, _⟩ := hx
  have c24 : Tryd.prog.cellsOf 24 = 2 := by kernel_rfl
  have c3 : Tryd.prog.cellsOf 3 = 1 := by kernel_rfl
  rw [c24] at hl
  obtain ⟨l⟩ := cs0
  match l, hl with
  | [u, v], _ =>
    obtain ⟨k0, z0, z1, _⟩ := DataW.trod_int Tryd.underlying3 hy0
    obtain ⟨k1, z2, z3, _⟩ := DataW.trod_int Tryd.underlying3 hy1
    rw [z1] at e0
    rw [z3] at e1
    simp only [DataW.lit.injEq, Lit.int.injEq, true_and] at e0 e1
    simp [c3] at z0 z2
    subst z0 z2 e0 e1
    exact ⟨World.var?_cell hg0 hv0 0, World.var?_cell hg0 hv0 1⟩

theorem values_glob {W : World} (h : laidMetH Tryd.prog laid1 W) : Go.Sx.GlobOK Tryd.prog (Go.Sx.topG W) := by
  obtain ⟨h0, h1⟩ := values_met h
  have hb : 0 < W.heap.size := by
    simp only [World.cell?] at h0
    split at h0
    · rename_i c _ _ hh
      exact (Array.getElem?_eq_some_iff.1 hh).1
    · cases h0
  intro g e he
  match g, he with
  | 0, he =>
    rw [eVal] at he
    cases he
    refine ⟨hb, fun j hj => ?_⟩
    match j, hj with
    | 0, _ => exact ⟨_, h0, fun μ => .int _ _⟩
    | 1, _ => exact ⟨_, h1, fun μ => .int _ _⟩
    | j + 2, hj => simp [Go.Sx.acells] at hj; omega
  | g + 1, he =>
    have hg : Tryd.prog.globals[g + 1]? = none := Array.getElem?_eq_none (by rw [nVal]; omega)
    unfold Go.Sx.gvOf at he
    rw [hg] at he; cases he
end Go.Proofs

