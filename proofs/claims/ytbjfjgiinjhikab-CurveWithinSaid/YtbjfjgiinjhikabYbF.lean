/- Roots: an exact law at the plate 0. -/
import Derived.Test.YtbjfjgiinjhikabYbE
namespace Go.Proofs
open Go Go.Sx

theorem rootU_ok {n : Int} (h : 0 ≤ n) : root n ≤ rootU n ∧ rootU n ≤ root n + 1 ∧ n ≤ rootU n * rootU n := by
  obtain ⟨h0, h1, h2⟩ := root_ok h
  unfold rootU
  split
  · exact ⟨by omega, by omega, by omega⟩
  · exact ⟨by omega, by omega, by omega⟩

theorem exactSays_ok {q g : Int} (hq : 0 ≤ q ∧ q ≤ 1000) (hg : 1 ≤ g ∧ g ≤ 10000) : exactSays q g := by
  have hd : driveOf (exact q) g 0 = ⟨g, g⟩ := by
    have e1 : rup (1000 * 0) 1000 = 0 := by decide
    have e2 : (1000 * 0 : Int) / 1000 = 0 := by decide
    simp only [driveOf, exact, e1, e2, bnd]
    split
    · omega
    · split
      · omega
      · simp
  have hc : 0 ≤ cube g ∧ cube g ≤ 1000000000000 := by
    have a := mul_in (a := g) (b := g) (A := 10000) (B := 10000) (by omega) (by omega)
    have b := mul_in (a := g * g) (b := g) (A := 10000 * 10000) (B := 10000) a (by omega)
    unfold cube; omega
  obtain ⟨r0, r1, r2⟩ := root_ok hc.1
  obtain ⟨u0, u1, u2⟩ := rootU_ok hc.1
  generalize hr : root (cube g) = r at *
  generalize hu : rootU (cube g) = u at *
  have rle : r ≤ 1000000 := by
    by_cases h : r ≤ 1000000
    · exact h
    · exfalso
      have := sq_le (a := 1000001) (b := r) (by decide) (by omega)
      omega
  have p1 := mul_in (a := q) (b := r) hq ⟨r0, rle⟩
  have p2 := mul_in (a := q) (b := u) (A := 1000) (B := 1000001) hq ⟨by omega, by omega⟩
  have p3 : q * u ≤ q * r + 1000 := by
    have h1 : q * u ≤ q * (r + 1) := Int.mul_le_mul_of_nonneg_left u1 hq.1
    rw [Int.mul_add, Int.mul_one] at h1; omega
  have p4 : q * r ≤ q * u := Int.mul_le_mul_of_nonneg_left u0 hq.1
  have sl : spaceLo (exact q) ⟨g, g⟩ = q * r / 1000000 := by simp only [spaceLo, exact, hr]
  have sh : spaceHi (exact q) ⟨g, g⟩ = (q * u + 1000000 - 1) / 1000000 := by simp only [spaceHi, exact, hu, rup]
  have cl : curLo (exact q) ⟨g, g⟩ = q * r / 1000000 := by
    have : mn (q * r / 1000000) 1000000 = q * r / 1000000 := by unfold mn; split <;> omega
    simp only [curLo, sl]; simp only [exact, this]; omega
  have ch : curHi (exact q) ⟨g, g⟩ = (q * u + 1000000 - 1) / 1000000 := by
    have : mn ((q * u + 1000000 - 1) / 1000000) 1000000 = (q * u + 1000000 - 1) / 1000000 := by unfold mn; split <;> omega
    simp only [curHi, sh]; simp only [exact, this, rup]; omega
  have s1 : q * r * (q * r) ≤ q * q * g * g * g := by
    have e1 : q * r * (q * r) = q * q * (r * r) := by ac_rfl
    have e2 : q * q * g * g * g = q * q * cube g := by unfold cube; ac_rfl
    rw [e1, e2]
    exact Int.mul_le_mul_of_nonneg_left r1 (Int.mul_nonneg hq.1 hq.1)
  have s2 : q * q * g * g * g ≤ q * u * (q * u) := by
    have e1 : q * u * (q * u) = q * q * (u * u) := by ac_rfl
    have e2 : q * q * g * g * g = q * q * cube g := by unfold cube; ac_rfl
    rw [e1, e2]
    exact Int.mul_le_mul_of_nonneg_left u2 (Int.mul_nonneg hq.1 hq.1)
  generalize q * r = x at *
  generalize q * u = y at *
  simp only [exactSays, curOf, hd, cl, ch]
  refine ⟨by omega, by omega, Int.le_trans (sq_le (by omega) (by omega)) s1, Int.le_trans s2 (sq_le (by omega) (by omega)), by omega, by omega⟩

theorem mod_pos (a b : Int) (hb : 1 ≤ b ∧ b ≤ 9223372036854775807) : Ans Try.prog n_kit_Mod [.int .i64 a, .int .i64 b] [] (.int .i64 (a % b)) [] := by
  have h := mod_ok a b hb.2
  rwa [if_neg (by omega)] at h

set_option maxRecDepth 20000 in
theorem roots_ok (a b : Int) : Ans Try.prog n_law02_roots [.int .i64 a, .int .i64 b] [] (.bool true) [] := by
  have hq0 : 0 ≤ a % 1001 ∧ a % 1001 ≤ 1000 := by omega
  have hg0 : 1 ≤ 1 + b % 10000 ∧ 1 + b % 10000 ≤ 10000 := by omega
  have hm1 := mod_pos a 1001 (by decide)
  have hm2 := mod_pos b 10000 (by decide)
  generalize a % 1001 = q at *
  generalize b % 10000 = b' at *
  have hs := exactSays_ok hq0 hg0
  have hcur := Current_ok (exact q) (exact_in (by omega)) (1 + b') 0 (by omega) (by decide)
  have wg : IntKind.i64.wrap (1 + b') = 1 + b' := IntWalk.i64_in _ (by omega)
  generalize hg : 1 + b' = g at *
  simp only [exactSays] at hs
  generalize curOf (exact q) g 0 = c at *
  obtain ⟨s1, s2, s3, s4, s5⟩ := hs
  have k1 := mul_in (a := q) (b := q) hq0 hq0
  have k2 := mul_in (a := q * q) (b := g) (A := 1000 * 1000) (B := 10000) k1 (by omega)
  have k3 := mul_in (a := q * q * g) (b := g) (A := 1000 * 1000 * 10000) (B := 10000) k2 (by omega)
  have k4 := mul_in (a := q * q * g * g) (b := g) (A := 1000 * 1000 * 10000 * 10000) (B := 10000) k3 (by omega)
  have m1 := mul_in (a := 1000000 * c.lo) (b := 1000000 * c.lo) (A := 1001000000) (B := 1001000000) (by omega) (by omega)
  have m2 := mul_in (a := 1000000 * c.hi) (b := 1000000 * c.hi) (A := 1001000000) (B := 1001000000) (by omega) (by omega)
  have v1 : IntKind.i64.wrap (1000000 * c.lo) = 1000000 * c.lo := IntWalk.i64_in _ (by omega)
  have v2 : IntKind.i64.wrap (1000000 * c.hi) = 1000000 * c.hi := IntWalk.i64_in _ (by omega)
  have v3 : IntKind.i64.wrap (q * q) = q * q := IntWalk.i64_in _ (by omega)
  have v4 : IntKind.i64.wrap (q * q * g) = q * q * g := IntWalk.i64_in _ (by omega)
  have v5 : IntKind.i64.wrap (q * q * g * g) = q * q * g * g := IntWalk.i64_in _ (by omega)
  have v6 : IntKind.i64.wrap (q * q * g * g * g) = q * q * g * g * g := IntWalk.i64_in _ (by omega)
  have v7 : IntKind.i64.wrap (1000000 * c.lo * (1000000 * c.lo)) = 1000000 * c.lo * (1000000 * c.lo) := IntWalk.i64_in _ (by omega)
  have v8 : IntKind.i64.wrap (1000000 * c.hi * (1000000 * c.hi)) = 1000000 * c.hi * (1000000 * c.hi) := IntWalk.i64_in _ (by omega)
  have v9 : IntKind.i64.wrap (c.hi - c.lo) = c.hi - c.lo := IntWalk.i64_in _ (by omega)
  refine spec_run e_law02_roots fun G => ?_
  simp only [go_sem]
  refine callP hm1 ⟨.int _ _, .int _ _, trivial⟩ (.int _ _) (by simp) (by simp) ?_
  simp only [go_sem]
  refine callP hm2 ⟨.int _ _, .int _ _, trivial⟩ (.int _ _) (by simp) (by simp) ?_
  simp only [go_sem, wg, hg]
  refine callP (alone_ok _) ⟨.int _ _, trivial⟩ (rg_bel _ _) (by simp) (by simp) ?_
  simp only [go_sem, Rg.v]
  refine callP (alone_ok _) ⟨.int _ _, trivial⟩ (rg_bel _ _) (by simp) (by simp) ?_
  simp only [go_sem, Rg.v]
  refine callP (alone_ok _) ⟨.int _ _, trivial⟩ (rg_bel _ _) (by simp) (by simp) ?_
  simp only [go_sem, Rg.v]
  refine callP (alone_ok _) ⟨.int _ _, trivial⟩ (rg_bel _ _) (by simp) (by simp) ?_
  simp only [go_sem, Rg.v]
  refine callP (alone_ok _) ⟨.int _ _, trivial⟩ (rg_bel _ _) (by simp) (by simp) ?_
  simp only [go_sem, Rg.v]
  refine callP hcur ⟨lw_bel (exact q) _, .int _ _, .int _ _, trivial⟩ ?_ (by simp) (by simp) ?_
  · simp only [go_sem, Rg.v]
  simp only [go_sem, Rg.v, v1, v2, v3, v4, v5, v6, v7, v8, v9]
  simp [s1, s2, s3, s4, s5.1]
end Go.Proofs
