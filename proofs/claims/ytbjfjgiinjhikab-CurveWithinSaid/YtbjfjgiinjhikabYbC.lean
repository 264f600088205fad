/- Currents of laws. -/
import Derived.Test.YtbjfjgiinjhikabYbA
namespace Go.Proofs
open Go Go.Sx

theorem mod_ok (a b : Int) (hb : b ≤ 9223372036854775807) : Ans Try.prog n_kit_Mod [.int .i64 a, .int .i64 b] [] (.int .i64 (if b < 1 then 0 else a % b)) [] := by
  refine spec_run e_kit_Mod fun G => ?_
  simp only [go_sem]
  refine ⟨fun h => by simp [h], fun h => ?_⟩
  have e := Int.tmod_eq_emod (a := a) (b := b)
  have h1 := Int.emod_nonneg a (show b ≠ 0 by omega)
  have h2 := Int.emod_lt_of_pos a (show 0 < b by omega)
  rw [if_neg h]
  generalize a % b = m at *
  generalize a.tmod b = t at *
  refine ⟨by omega, fun h3 => ?_, fun h3 => ?_⟩
  · rw [IntWalk.i64_in _ (by split at e <;> omega)]
    split at e <;> omega
  · split at e <;> omega

theorem within_ok (n a b : Int) : Ans Try.prog n_curve_within [.int .i64 n, .int .i64 a, .int .i64 b] [] (.bool (decide (a ≤ n) && decide (n ≤ b))) [] := by
  refine spec_run e_curve_within fun G => ?_
  simp only [go_sem]
  refine ⟨fun h => ?_, fun h => ?_⟩ <;> simp [h]

theorem rightGrid_ok (g : Int) : Ans Try.prog n_curve_rightGrid [.int .i64 g] [] (.bool (decide (-1000000 ≤ g) && decide (g ≤ 1000000))) [] := by
  refine spec_run e_curve_rightGrid fun G => ?_
  simp only [go_sem]
  refine callP (within_ok _ _ _) ⟨.int _ _, .int _ _, .int _ _, trivial⟩ (.bool _) (by simp) (by simp) ?_
  simp only [go_sem]

theorem rightPlate_ok (g : Int) : Ans Try.prog n_curve_rightPlate [.int .i64 g] [] (.bool (decide (0 ≤ g) && decide (g ≤ 1000000))) [] := by
  refine spec_run e_curve_rightPlate fun G => ?_
  simp only [go_sem]
  refine callP (within_ok _ _ _) ⟨.int _ _, .int _ _, .int _ _, trivial⟩ (.bool _) (by simp) (by simp) ?_
  simp only [go_sem]

def bnd (n : Int) : Int := if n < 0 then 0 else if 1000000 < n then 1000000 else n

theorem bounded_ok (n : Int) : Ans Try.prog n_curve_bounded [.int .i64 n, .int .i64 0, .int .i64 1000000] [] (.int .i64 (bnd n)) [] := by
  refine spec_run e_curve_bounded fun G => ?_
  simp only [go_sem]
  unfold bnd
  repeat' split
  all_goals omega

/-- n / by, rounded up. -/
def rup (n b : Int) : Int := (n + b - 1) / b

theorem roundUp_ok (n b : Int) (h0 : 0 ≤ n) (h1 : 1 ≤ b) (h2 : n ≤ 1152921504606846976) (h3 : b ≤ 1152921504606846976) : Ans Try.prog n_curve_roundUp [.int .i64 n, .int .i64 b] [] (.int .i64 (rup n b)) [] := by
  refine spec_run e_curve_roundUp fun G => ?_
  have hq : 0 ≤ (n + b - 1) / b := Int.ediv_nonneg (by omega) (by omega)
  have hq2 : (n + b - 1) / b ≤ n + b - 1 := Int.ediv_le_self _ (by omega)
  simp only [go_sem]
  rw [IntWalk.i64_in (n + b) (by omega), IntWalk.i64_in (n + b - 1) (by omega), Int.tdiv_eq_ediv_of_nonneg (by omega), IntWalk.i64_in _ (by omega)]
  exact ⟨by omega, rfl⟩

theorem checkLaw_ok (l : Lw) (h : LwOK l) : Ans Try.prog n_curve_CheckLaw [l.v] [] (.int .i64 0) [] := by
  obtain ⟨⟨a1, a2, a3⟩, ⟨b1, b2, b3⟩, ⟨c1, c2, c3⟩, ⟨d1, d2, d3⟩, ⟨e1, e2, e3⟩⟩ := h
  have a1 := Int.not_lt.2 a1
  have a2 := Int.not_lt.2 a2
  have a3 := Int.not_lt.2 a3
  have b1 := Int.not_lt.2 b1
  have b2 := Int.not_lt.2 b2
  have b3 := Int.not_lt.2 b3
  have c1 := Int.not_lt.2 c1
  have c2 := Int.not_lt.2 c2
  have c3 := Int.not_lt.2 c3
  have d1 := Int.not_lt.2 d1
  have d2 := Int.not_lt.2 d2
  have d3 := Int.not_lt.2 d3
  have e1 := Int.not_lt.2 e1
  have e2 := Int.not_lt.2 e2
  have e3 := Int.not_lt.2 e3
  have u1 : IntKind.i64.wrap 1 = 1 := rfl
  have u2 : IntKind.i64.wrap 2 = 2 := rfl
  have u3 : IntKind.i64.wrap 3 = 3 := rfl
  have u4 : IntKind.i64.wrap 4 = 4 := rfl
  have u5 : IntKind.i64.wrap 5 = 5 := rfl
  refine spec_run e_curve_CheckLaw fun G => ?_
  simp only [go_sem, Lw.v, Lw.cs]
  refine loop_body 200 k_curve_CheckLaw_r10.eq_1 ?_
  simp only [go_sem, a1, a2, a3, u1]
  refine loop_body 200 k_curve_CheckLaw_r10.eq_1 ?_
  simp only [go_sem, b1, b2, b3, u2]
  refine loop_body 200 k_curve_CheckLaw_r10.eq_1 ?_
  simp only [go_sem, c1, c2, c3, u3]
  refine loop_body 200 k_curve_CheckLaw_r10.eq_1 ?_
  simp only [go_sem, d1, d2, d3, u4]
  refine loop_body 200 k_curve_CheckLaw_r10.eq_1 ?_
  simp only [go_sem, e1, e2, e3, u5]
  refine loop_body 200 k_curve_CheckLaw_r10.eq_1 ?_
  simp only [go_sem]

theorem checkVolts_ok (l : Lw) (h : LwOK l) (g p : Int) (h1 : -1000000 ≤ g ∧ g ≤ 1000000) (h2 : 0 ≤ p ∧ p ≤ 1000000) : Ans Try.prog n_curve_checkVolts [l.v, .int .i64 g, .int .i64 p] [] (.int .i64 0) [] := by
  refine spec_run e_curve_checkVolts fun G => ?_
  simp only [go_sem]
  refine callP (checkLaw_ok l h) ⟨lw_bel _ _, trivial⟩ (.int _ _) (by simp) (by simp) ?_
  simp only [go_sem]
  refine callP (rightGrid_ok g) ⟨.int _ _, trivial⟩ (.bool _) (by simp) (by simp) ?_
  have e1 : (decide (-1000000 ≤ g) && decide (g ≤ 1000000)) = true := by simp [h1]
  have e2 : (decide (0 ≤ p) && decide (p ≤ 1000000)) = true := by simp [h2]
  simp only [go_sem, e1]
  refine callP (rightPlate_ok p) ⟨.int _ _, trivial⟩ (.bool _) (by simp) (by simp) ?_
  simp only [go_sem, e2]

/-! ### Drives -/
def driveOf (l : Lw) (g p : Int) : Rg := ⟨bnd (g + l.shift.lo + (1000 * p) / l.gain.hi), bnd (g + l.shift.hi + rup (1000 * p) l.gain.lo)⟩

theorem drive_ok (l : Lw) (h : LwOK l) (g p : Int) (h1 : -1000000 ≤ g ∧ g ≤ 1000000) (h2 : 0 ≤ p ∧ p ≤ 1000000) : Ans Try.prog n_curve_drive [l.v, .int .i64 g, .int .i64 p] [] (driveOf l g p).v [] := by
  obtain ⟨_, ⟨b1, b2, b3⟩, ⟨c1, c2, c3⟩, _, _⟩ := h
  have q1 : 0 ≤ 1000 * p / l.gain.hi := Int.ediv_nonneg (by omega) (by omega)
  have q2 : 1000 * p / l.gain.hi ≤ 1000 * p := Int.ediv_le_self _ (by omega)
  have q3 : 0 ≤ rup (1000 * p) l.gain.lo := Int.ediv_nonneg (by omega) (by omega)
  have q4 : rup (1000 * p) l.gain.lo ≤ 1000 * p + l.gain.lo - 1 := Int.ediv_le_self _ (by omega)
  have e1 : (1000 * p).tdiv l.gain.hi = 1000 * p / l.gain.hi := Int.tdiv_eq_ediv_of_nonneg (by omega)
  have m1 : IntKind.i64.wrap (1000 * p) = 1000 * p := IntWalk.i64_in _ (by omega)
  have m2 : IntKind.i64.wrap (1000 * p / l.gain.hi) = 1000 * p / l.gain.hi := IntWalk.i64_in _ (by omega)
  have m3 : IntKind.i64.wrap (g + l.shift.lo) = g + l.shift.lo := IntWalk.i64_in _ (by omega)
  have m4 : IntKind.i64.wrap (g + l.shift.lo + 1000 * p / l.gain.hi) = g + l.shift.lo + 1000 * p / l.gain.hi := IntWalk.i64_in _ (by omega)
  have m5 : IntKind.i64.wrap (g + l.shift.hi) = g + l.shift.hi := IntWalk.i64_in _ (by omega)
  have m6 : IntKind.i64.wrap (g + l.shift.hi + rup (1000 * p) l.gain.lo) = g + l.shift.hi + rup (1000 * p) l.gain.lo := IntWalk.i64_in _ (by omega)
  refine spec_run e_curve_drive fun G => ?_
  simp only [go_sem, Lw.v, Lw.cs, m1, e1, m2, m3, m4]
  refine ⟨by omega, dcallP (bounded_ok _) ⟨.int _ _, .int _ _, .int _ _, trivial⟩ (.int _ _) (by simp only [go_sem]) ?_⟩
  simp only [go_sem, m5, m1]
  refine dcallP (roundUp_ok _ _ (by omega) b1 (by omega) (by omega)) ⟨.int _ _, .int _ _, trivial⟩ (.int _ _) (by simp only [go_sem]) ?_
  simp only [go_sem, m6]
  refine callP (bounded_ok _) ⟨.int _ _, .int _ _, .int _ _, trivial⟩ (.int _ _) (by simp) (by simp) ?_
  simp only [go_sem, driveOf, Rg.v]

/-! ### Roots -/
theorem shr_u64 (x n : Int) : shrW .u64 x n = x / 2 ^ (min n.toNat 64) := by
  unfold shrW; rw [Int.fdiv_eq_ediv_of_nonneg _ (by exact Int.pow_nonneg (by decide))]; rfl

def lenTab : List UInt8 := [0, 1, 2, 2, 3, 3, 3, 3, 4, 4, 4, 4, 4, 4, 4, 4, 5, 5, 5, 5, 5, 5, 5, 5, 5, 5, 5, 5, 5, 5, 5, 5, 6, 6, 6, 6, 6, 6, 6, 6, 6, 6, 6, 6, 6, 6, 6, 6, 6, 6, 6, 6, 6, 6, 6, 6, 6, 6, 6, 6, 6, 6, 6, 6, 7, 7, 7, 7, 7, 7, 7, 7, 7, 7, 7, 7, 7, 7, 7, 7, 7, 7, 7, 7, 7, 7, 7, 7, 7, 7, 7, 7, 7, 7, 7, 7, 7, 7, 7, 7, 7, 7, 7, 7, 7, 7, 7, 7, 7, 7, 7, 7, 7, 7, 7, 7, 7, 7, 7, 7, 7, 7, 7, 7, 7, 7, 7, 7, 8, 8, 8, 8, 8, 8, 8, 8, 8, 8, 8, 8, 8, 8, 8, 8, 8, 8, 8, 8, 8, 8, 8, 8, 8, 8, 8, 8, 8, 8, 8, 8, 8, 8, 8, 8, 8, 8, 8, 8, 8, 8, 8, 8, 8, 8, 8, 8, 8, 8, 8, 8, 8, 8, 8, 8, 8, 8, 8, 8, 8, 8, 8, 8, 8, 8, 8, 8, 8, 8, 8, 8, 8, 8, 8, 8, 8, 8, 8, 8, 8, 8, 8, 8, 8, 8, 8, 8, 8, 8, 8, 8, 8, 8, 8, 8, 8, 8, 8, 8, 8, 8, 8, 8, 8, 8, 8, 8, 8, 8, 8, 8, 8, 8, 8, 8, 8, 8, 8, 8, 8, 8, 8, 8, 8, 8, 8, 8]
theorem lenTab_ok : ∀ n : Fin 256, ∃ b, lenTab[n.val]? = some b ∧ n.val < 2 ^ b.toNat ∧ b.toNat ≤ 8 := by decide +kernel

theorem s32 (x : Int) : shrW .u64 x 32 = x / 4294967296 := by rw [shr_u64]; rfl
theorem s16 (x : Int) : shrW .u64 x 16 = x / 65536 := by rw [shr_u64]; rfl
theorem s8 (x : Int) : shrW .u64 x 8 = x / 256 := by rw [shr_u64]; rfl

set_option maxRecDepth 100000 in
theorem len64_ok (x : Int) (h0 : 0 ≤ x) (h1 : x ≤ 1152921504606846976) : ∃ m : Nat, m ≤ 64 ∧ x < 2 ^ m ∧ Ans Try.prog n_bits_Len64 [.int .u64 x] [] (.int .i64 m) [] := by
  obtain ⟨y, a, hy0, hy1, ha, hxy, hrun⟩ : ∃ (y : Int) (a : Nat), 0 ≤ y ∧ y < 256 ∧ a ≤ 56 ∧ x < (y + 1) * 2 ^ a ∧ ∀ b : UInt8, lenTab[y.toNat]? = some b → b.toNat ≤ 8 → Ans Try.prog n_bits_Len64 [.int .u64 x] [] (.int .i64 (a + b.toNat : Nat)) [] := by
    by_cases c1 : 4294967296 ≤ x
    · by_cases c2 : 65536 ≤ x / 4294967296
      · by_cases c3 : 256 ≤ (x / 4294967296) / 65536
        · refine ⟨((x / 4294967296) / 65536) / 256, 56, by omega, by omega, by decide, by omega, fun b hb hb8 => ?_⟩
          have hu : IntKind.u8.wrap (((x / 4294967296) / 65536) / 256) = ((x / 4294967296) / 65536) / 256 := IntWalk.u8_in _ (by omega)
          have hl : ¬ (((x / 4294967296) / 65536) / 256) < 0 := by omega
          unfold lenTab at hb
          refine spec_run e_bits_Len64 fun G => ?_
          simp only [go_sem, c1, c2, c3, s32, s16, s8, hu, hl, hb]
          simp only [IntKind.wrap_i64]
          omega
        · refine ⟨(x / 4294967296) / 65536, 48, by omega, by omega, by decide, by omega, fun b hb hb8 => ?_⟩
          have hu : IntKind.u8.wrap ((x / 4294967296) / 65536) = (x / 4294967296) / 65536 := IntWalk.u8_in _ (by omega)
          have hl : ¬ ((x / 4294967296) / 65536) < 0 := by omega
          unfold lenTab at hb
          refine spec_run e_bits_Len64 fun G => ?_
          simp only [go_sem, c1, c2, c3, s32, s16, s8, hu, hl, hb]
          simp only [IntKind.wrap_i64]
          omega
      · by_cases c3 : 256 ≤ x / 4294967296
        · refine ⟨(x / 4294967296) / 256, 40, by omega, by omega, by decide, by omega, fun b hb hb8 => ?_⟩
          have hu : IntKind.u8.wrap ((x / 4294967296) / 256) = (x / 4294967296) / 256 := IntWalk.u8_in _ (by omega)
          have hl : ¬ ((x / 4294967296) / 256) < 0 := by omega
          unfold lenTab at hb
          refine spec_run e_bits_Len64 fun G => ?_
          simp only [go_sem, c1, c2, c3, s32, s16, s8, hu, hl, hb]
          simp only [IntKind.wrap_i64]
          omega
        · refine ⟨x / 4294967296, 32, by omega, by omega, by decide, by omega, fun b hb hb8 => ?_⟩
          have hu : IntKind.u8.wrap (x / 4294967296) = x / 4294967296 := IntWalk.u8_in _ (by omega)
          have hl : ¬ (x / 4294967296) < 0 := by omega
          unfold lenTab at hb
          refine spec_run e_bits_Len64 fun G => ?_
          simp only [go_sem, c1, c2, c3, s32, s16, s8, hu, hl, hb]
          simp only [IntKind.wrap_i64]
          omega
    · by_cases c2 : 65536 ≤ x
      · by_cases c3 : 256 ≤ (x) / 65536
        · refine ⟨((x) / 65536) / 256, 24, by omega, by omega, by decide, by omega, fun b hb hb8 => ?_⟩
          have hu : IntKind.u8.wrap (((x) / 65536) / 256) = ((x) / 65536) / 256 := IntWalk.u8_in _ (by omega)
          have hl : ¬ (((x) / 65536) / 256) < 0 := by omega
          unfold lenTab at hb
          refine spec_run e_bits_Len64 fun G => ?_
          simp only [go_sem, c1, c2, c3, s32, s16, s8, hu, hl, hb]
          simp only [IntKind.wrap_i64]
          omega
        · refine ⟨(x) / 65536, 16, by omega, by omega, by decide, by omega, fun b hb hb8 => ?_⟩
          have hu : IntKind.u8.wrap ((x) / 65536) = (x) / 65536 := IntWalk.u8_in _ (by omega)
          have hl : ¬ ((x) / 65536) < 0 := by omega
          unfold lenTab at hb
          refine spec_run e_bits_Len64 fun G => ?_
          simp only [go_sem, c1, c2, c3, s32, s16, s8, hu, hl, hb]
          simp only [IntKind.wrap_i64]
          omega
      · by_cases c3 : 256 ≤ x
        · refine ⟨(x) / 256, 8, by omega, by omega, by decide, by omega, fun b hb hb8 => ?_⟩
          have hu : IntKind.u8.wrap ((x) / 256) = (x) / 256 := IntWalk.u8_in _ (by omega)
          have hl : ¬ ((x) / 256) < 0 := by omega
          unfold lenTab at hb
          refine spec_run e_bits_Len64 fun G => ?_
          simp only [go_sem, c1, c2, c3, s32, s16, s8, hu, hl, hb]
          simp only [IntKind.wrap_i64]
          omega
        · refine ⟨x, 0, by omega, by omega, by decide, by omega, fun b hb hb8 => ?_⟩
          have hu : IntKind.u8.wrap (x) = x := IntWalk.u8_in _ (by omega)
          have hl : ¬ (x) < 0 := by omega
          unfold lenTab at hb
          refine spec_run e_bits_Len64 fun G => ?_
          simp only [go_sem, c1, c2, c3, s32, s16, s8, hu, hl, hb]
          simp only [IntKind.wrap_i64]
          omega
  obtain ⟨b, hb1, hb2, hb3⟩ := lenTab_ok ⟨y.toNat, by omega⟩
  refine ⟨a + b.toNat, by omega, ?_, hrun b hb1 hb3⟩
  have h3 : y + 1 ≤ 2 ^ b.toNat := by
    have : ((y.toNat : Nat) : Int) < ((2 ^ b.toNat : Nat) : Int) := by exact_mod_cast hb2
    push_cast at this
    omega
  have h4 : (y + 1) * 2 ^ a ≤ 2 ^ b.toNat * 2 ^ a := Int.mul_le_mul_of_nonneg_right h3 (Int.pow_nonneg (by decide))
  rw [Int.pow_add, Int.mul_comm]
  omega
end Go.Proofs
