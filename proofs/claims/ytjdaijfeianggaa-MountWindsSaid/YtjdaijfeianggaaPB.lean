/- A part of the proof. -/
import Derived.Test.YtjdaijfeianggaaPA
import Derived.IntWalk
set_option linter.unusedSimpArgs false
set_option linter.unusedVariables false
namespace Go.Proofs
open Go Go.Sx
def yes : Option (AVal × Heap) → Bool
  | some (.bool b, _) => b
  | _ => false
theorem yes_ans {P : Program} (hm : P.follows .mixedOrders = true) {tab : Nat → Option AFun} (hT : ∀ g af, tab g = some af → EntryOK P g af) {m n g : Nat} (h : yes (exFn tab m n g [] []) = true) : Ans P g [] [] (.bool true) [] := by
  match hx : exFn tab m n g [] [] with
  | none => rw [hx] at h; cases h
  | some (v, H') =>
    rw [hx] at h
    cases v <;> try (cases h; done)
    rename_i b
    have hb : b = true := h
    subst hb
    exact (spec_ex hm hT hx).mono fun v H'' hv => ⟨hv.1, H'', rfl⟩
theorem awake_yes : yes (exFn tab 3000 40 n_law04_awake [] []) = true := by kernel_rfl
theorem awake_ok : Ans Try.prog n_law04_awake [] [] (.bool true) [] := yes_ans mixed tab_ok awake_yes
end Go.Proofs

namespace Go.Proofs
open Go Go.Sx
attribute [local irreducible] Run

def wiB (n a b : Int) : Bool := decide (a ≤ n ∧ n ≤ b)
theorem within_run (n a b : Int) : Ans Try.prog n_mount_within [.int .i64 n, .int .i64 a, .int .i64 b] [] (.bool (wiB n a b)) [] := by
  refine spec_run e_mount_within fun G => ?_
  unfold wiB
  by_cases h1 : a ≤ n
  · by_cases h2 : n ≤ b
    · simp only [go_sem, h1, h2]
    · simp only [go_sem, h1, h2]
  · simp only [go_sem, h1]
theorem rwithin_run (n a b : Int) : Ans Try.prog n_ref04_within [.int .i64 n, .int .i64 a, .int .i64 b] [] (.bool (wiB n a b)) [] := by
  refine spec_run e_ref04_within fun G => ?_
  unfold wiB
  by_cases h1 : n ≥ a
  · by_cases h2 : n ≤ b
    · simp only [go_sem, h1, h2]
    · simp only [go_sem, h1, h2]
  · simp only [go_sem, h1]
def rgE (lo hi a b : Int) : Int := if lo > hi then 11 else if lo < a ∨ hi > b then 2 else 0
theorem checkRange_run (lo hi a b : Int) : Ans Try.prog n_mount_checkRange [.agg [.int .i64 lo, .int .i64 hi], .int .i64 a, .int .i64 b] [] (.int .i64 (rgE lo hi a b)) [] := by
  refine spec_run e_mount_checkRange fun G => ?_
  unfold rgE
  by_cases h1 : lo > hi
  · simp only [go_sem, h1]
  · by_cases h2 : lo < a
    · simp only [go_sem, h1, h2]
    · by_cases h3 : hi > b
      · simp only [go_sem, h1, h2, h3]
      · simp only [go_sem, h1, h2, h3]
structure Wd where
  t : Int
  a : Int
  b : Int
  c : Int
  d : Int
  e : Int
  f : Int
  g : Int
  h : Int
  i : Int
  j : Int
def Wd.v (w : Wd) : AVal := .agg [.int .i64 w.t, .int .i64 w.a, .int .i64 w.b, .int .i64 w.c, .int .i64 w.d, .int .i64 w.e, .int .i64 w.f, .int .i64 w.g, .int .i64 w.h, .int .i64 w.i, .int .i64 w.j]
def wdE (w : Wd) : Int :=
  if wiB w.t 1 11 = false then 2 else
  if rgE w.a w.b 1 10000 ≠ 0 then rgE w.a w.b 1 10000 else
  if rgE w.c w.d 1 10000 ≠ 0 then rgE w.c w.d 1 10000 else
  if rgE w.e w.f 0 1000000 ≠ 0 then rgE w.e w.f 0 1000000 else
  if rgE w.g w.h 0 1000000 ≠ 0 then rgE w.g w.h 0 1000000 else
  if rgE w.i w.j 0 1000000 ≠ 0 then rgE w.i w.j 0 1000000 else 0
set_option maxHeartbeats 2000000 in
set_option maxRecDepth 20000 in
theorem checkWinding_run (w : Wd) : Ans Try.prog n_mount_checkWinding [w.v] [] (.int .i64 (wdE w)) [] := by
  have k0 := within_run w.t 1 11
  have k1 := checkRange_run w.a w.b 1 10000
  have k2 := checkRange_run w.c w.d 1 10000
  have k3 := checkRange_run w.e w.f 0 1000000
  have k4 := checkRange_run w.g w.h 0 1000000
  have k5 := checkRange_run w.i w.j 0 1000000
  refine spec_run e_mount_checkWinding fun G => ?_
  unfold wdE
  generalize rgE w.a w.b 1 10000 = r1 at *
  generalize rgE w.c w.d 1 10000 = r2 at *
  generalize rgE w.e w.f 0 1000000 = r3 at *
  generalize rgE w.g w.h 0 1000000 = r4 at *
  generalize rgE w.i w.j 0 1000000 = r5 at *
  simp only [go_sem, Wd.v]
  refine cP k0 ?_
  by_cases c0 : wiB w.t 1 11 = false
  · rw [c0]
    simp only [go_sem]
  rw [Bool.not_eq_false] at c0
  rw [c0]
  simp only [go_sem]
  have w1 : IntKind.i64.wrap 1 = 1 := by decide
  have w2 : IntKind.i64.wrap 2 = 2 := by decide
  have w3 : IntKind.i64.wrap 3 = 3 := by decide
  have w4 : IntKind.i64.wrap 4 = 4 := by decide
  have w5 : IntKind.i64.wrap 5 = 5 := by decide
  refine loop_body 3000 k_mount_checkWinding_r10.eq_1 ?_
  simp only [go_sem, w1, w2, w3, w4, w5]
  refine cP k1 ?_
  by_cases c1 : r1 ≠ 0
  · have e1 : (r1 == 0) = false := by simpa using c1
    simp only [go_sem, bne, e1, if_pos c1]
  have e1 : (r1 == 0) = true := by simpa using c1
  simp only [go_sem, bne, e1, w1, w2, w3, w4, w5]
  refine loop_body 3000 k_mount_checkWinding_r10.eq_1 ?_
  simp only [go_sem, w1, w2, w3, w4, w5]
  refine cP k2 ?_
  by_cases c2 : r2 ≠ 0
  · have e2 : (r2 == 0) = false := by simpa using c2
    simp only [go_sem, bne, e2, if_pos c2, if_neg c1]
  have e2 : (r2 == 0) = true := by simpa using c2
  simp only [go_sem, bne, e2, w1, w2, w3, w4, w5]
  refine loop_body 3000 k_mount_checkWinding_r10.eq_1 ?_
  simp only [go_sem, w1, w2, w3, w4, w5]
  refine cP k3 ?_
  by_cases c3 : r3 ≠ 0
  · have e3 : (r3 == 0) = false := by simpa using c3
    simp only [go_sem, bne, e3, if_pos c3, if_neg c1, if_neg c2]
  have e3 : (r3 == 0) = true := by simpa using c3
  simp only [go_sem, bne, e3, w1, w2, w3, w4, w5]
  refine loop_body 3000 k_mount_checkWinding_r10.eq_1 ?_
  simp only [go_sem, w1, w2, w3, w4, w5]
  refine cP k4 ?_
  by_cases c4 : r4 ≠ 0
  · have e4 : (r4 == 0) = false := by simpa using c4
    simp only [go_sem, bne, e4, if_pos c4, if_neg c1, if_neg c2, if_neg c3]
  have e4 : (r4 == 0) = true := by simpa using c4
  simp only [go_sem, bne, e4, w1, w2, w3, w4, w5]
  refine loop_body 3000 k_mount_checkWinding_r10.eq_1 ?_
  simp only [go_sem, w1, w2, w3, w4, w5]
  refine cP k5 ?_
  by_cases c5 : r5 ≠ 0
  · have e5 : (r5 == 0) = false := by simpa using c5
    simp only [go_sem, bne, e5, if_pos c5, if_neg c1, if_neg c2, if_neg c3, if_neg c4]
  have e5 : (r5 == 0) = true := by simpa using c5
  simp only [go_sem, bne, e5, w1, w2, w3, w4, w5]
  refine loop_body 3000 k_mount_checkWinding_r10.eq_1 ?_
  simp only [go_sem, w1, w2, w3, w4, w5]
  rw [if_neg c1, if_neg c2, if_neg c3, if_neg c4, if_neg c5]
end Go.Proofs

namespace Go.Proofs
open Go Go.Sx
attribute [local irreducible] Run

theorem rgE_or {lo hi a b : Int} (h : lo > hi) : rgE lo hi a b = 11 := if_pos h
theorem rgE_lo {lo hi a b : Int} (h : ¬ lo > hi) (h2 : lo < a) : rgE lo hi a b = 2 := by unfold rgE; rw [if_neg h, if_pos (.inl h2)]
theorem rgE_hi {lo hi a b : Int} (h : ¬ lo > hi) (h2 : hi > b) : rgE lo hi a b = 2 := by unfold rgE; rw [if_neg h, if_pos (.inr h2)]
theorem rgE_ok {lo hi a b : Int} (h : ¬ lo > hi) (h2 : ¬ lo < a) (h3 : ¬ hi > b) : rgE lo hi a b = 0 := by unfold rgE; rw [if_neg h, if_neg (fun e => e.elim h2 h3)]
set_option maxHeartbeats 4000000 in
set_option maxRecDepth 20000 in
theorem rcheckWinding_run (w : Wd) : Ans Try.prog n_ref04_checkWinding [w.v] [] (.int .i64 (wdE w)) [] := by
  have k0 := rwithin_run w.t 1 11
  obtain ⟨E, hE⟩ : ∃ E, wdE w = E := ⟨_, rfl⟩
  rw [hE]
  refine spec_run e_ref04_checkWinding fun G => ?_
  simp only [go_sem, Wd.v]
  refine cP k0 ?_
  by_cases c0 : wiB w.t 1 11 = false
  · have : E = 2 := by rw [← hE]; simp [wdE, c0]
    subst this
    rw [c0]
    simp only [go_sem]
  rw [Bool.not_eq_false] at c0
  rw [c0]
  simp only [go_sem]
  have w1 : IntKind.i64.wrap 1 = 1 := by decide
  have w2 : IntKind.i64.wrap 2 = 2 := by decide
  have w3 : IntKind.i64.wrap 3 = 3 := by decide
  have w4 : IntKind.i64.wrap 4 = 4 := by decide
  have w5 : IntKind.i64.wrap 5 = 5 := by decide
  refine loop_body 3000 k_ref04_checkWinding_r13.eq_1 ?_
  by_cases a1 : w.a > w.b
  · have zz := rgE_or (a := 1) (b := 10000) a1
    have : E = 11 := by rw [← hE]; simp [wdE, c0, zz]
    subst this
    simp only [go_sem, w1, w2, w3, w4, w5, a1]
  by_cases b1 : w.a < 1
  · have zz := rgE_lo (b := 10000) a1 b1
    have : E = 2 := by rw [← hE]; simp [wdE, c0, zz]
    subst this
    simp only [go_sem, w1, w2, w3, w4, w5, a1, b1]
  by_cases d1 : w.b > 10000
  · have zz := rgE_hi (a := 1) a1 d1
    have : E = 2 := by rw [← hE]; simp [wdE, c0, zz]
    subst this
    simp only [go_sem, w1, w2, w3, w4, w5, a1, b1, d1]
  have z1 := rgE_ok a1 b1 d1
  simp only [go_sem, w1, w2, w3, w4, w5, a1, b1, d1]
  refine loop_body 3000 k_ref04_checkWinding_r13.eq_1 ?_
  by_cases a2 : w.c > w.d
  · have zz := rgE_or (a := 1) (b := 10000) a2
    have : E = 11 := by rw [← hE]; simp [wdE, c0, z1, zz]
    subst this
    simp only [go_sem, w1, w2, w3, w4, w5, a2]
  by_cases b2 : w.c < 1
  · have zz := rgE_lo (b := 10000) a2 b2
    have : E = 2 := by rw [← hE]; simp [wdE, c0, z1, zz]
    subst this
    simp only [go_sem, w1, w2, w3, w4, w5, a2, b2]
  by_cases d2 : w.d > 10000
  · have zz := rgE_hi (a := 1) a2 d2
    have : E = 2 := by rw [← hE]; simp [wdE, c0, z1, zz]
    subst this
    simp only [go_sem, w1, w2, w3, w4, w5, a2, b2, d2]
  have z2 := rgE_ok a2 b2 d2
  simp only [go_sem, w1, w2, w3, w4, w5, a2, b2, d2]
  refine loop_body 3000 k_ref04_checkWinding_r13.eq_1 ?_
  by_cases a3 : w.e > w.f
  · have zz := rgE_or (a := 0) (b := 1000000) a3
    have : E = 11 := by rw [← hE]; simp [wdE, c0, z1, z2, zz]
    subst this
    simp only [go_sem, w1, w2, w3, w4, w5, a3]
  by_cases b3 : w.e < 0
  · have zz := rgE_lo (b := 1000000) a3 b3
    have : E = 2 := by rw [← hE]; simp [wdE, c0, z1, z2, zz]
    subst this
    simp only [go_sem, w1, w2, w3, w4, w5, a3, b3]
  by_cases d3 : w.f > 1000000
  · have zz := rgE_hi (a := 0) a3 d3
    have : E = 2 := by rw [← hE]; simp [wdE, c0, z1, z2, zz]
    subst this
    simp only [go_sem, w1, w2, w3, w4, w5, a3, b3, d3]
  have z3 := rgE_ok a3 b3 d3
  simp only [go_sem, w1, w2, w3, w4, w5, a3, b3, d3]
  refine loop_body 3000 k_ref04_checkWinding_r13.eq_1 ?_
  by_cases a4 : w.g > w.h
  · have zz := rgE_or (a := 0) (b := 1000000) a4
    have : E = 11 := by rw [← hE]; simp [wdE, c0, z1, z2, z3, zz]
    subst this
    simp only [go_sem, w1, w2, w3, w4, w5, a4]
  by_cases b4 : w.g < 0
  · have zz := rgE_lo (b := 1000000) a4 b4
    have : E = 2 := by rw [← hE]; simp [wdE, c0, z1, z2, z3, zz]
    subst this
    simp only [go_sem, w1, w2, w3, w4, w5, a4, b4]
  by_cases d4 : w.h > 1000000
  · have zz := rgE_hi (a := 0) a4 d4
    have : E = 2 := by rw [← hE]; simp [wdE, c0, z1, z2, z3, zz]
    subst this
    simp only [go_sem, w1, w2, w3, w4, w5, a4, b4, d4]
  have z4 := rgE_ok a4 b4 d4
  simp only [go_sem, w1, w2, w3, w4, w5, a4, b4, d4]
  refine loop_body 3000 k_ref04_checkWinding_r13.eq_1 ?_
  by_cases a5 : w.i > w.j
  · have zz := rgE_or (a := 0) (b := 1000000) a5
    have : E = 11 := by rw [← hE]; simp [wdE, c0, z1, z2, z3, z4, zz]
    subst this
    simp only [go_sem, w1, w2, w3, w4, w5, a5]
  by_cases b5 : w.i < 0
  · have zz := rgE_lo (b := 1000000) a5 b5
    have : E = 2 := by rw [← hE]; simp [wdE, c0, z1, z2, z3, z4, zz]
    subst this
    simp only [go_sem, w1, w2, w3, w4, w5, a5, b5]
  by_cases d5 : w.j > 1000000
  · have zz := rgE_hi (a := 0) a5 d5
    have : E = 2 := by rw [← hE]; simp [wdE, c0, z1, z2, z3, z4, zz]
    subst this
    simp only [go_sem, w1, w2, w3, w4, w5, a5, b5, d5]
  have z5 := rgE_ok a5 b5 d5
  simp only [go_sem, w1, w2, w3, w4, w5, a5, b5, d5]
  have : E = 0 := by rw [← hE]; simp [wdE, c0, z1, z2, z3, z4, z5]
  subst this
  refine loop_body 3000 k_ref04_checkWinding_r13.eq_1 ?_
  simp only [go_sem, w1, w2, w3, w4, w5]
end Go.Proofs

namespace Go.Proofs
open Go Go.Sx
attribute [local irreducible] Run

structure WdOK (w : Wd) : Prop where
  t : 1 ≤ w.t ∧ w.t ≤ 11
  wire : 1 ≤ w.a ∧ w.a ≤ w.b ∧ w.b ≤ 10000
  pitch : 1 ≤ w.c ∧ w.c ≤ w.d ∧ w.d ≤ 10000
  stretch : 0 ≤ w.e ∧ w.e ≤ w.f ∧ w.f ≤ 1000000
  first : 0 ≤ w.g ∧ w.g ≤ w.h ∧ w.h ≤ 1000000
  length : 0 ≤ w.i ∧ w.i ≤ w.j ∧ w.j ≤ 1000000
theorem rgE_zero {lo hi a b : Int} (h : rgE lo hi a b = 0) : a ≤ lo ∧ lo ≤ hi ∧ hi ≤ b := by
  unfold rgE at h
  split at h
  · cases h
  · split at h
    · cases h
    · omega
theorem wdE_ok {w : Wd} (h : wdE w = 0) : WdOK w := by
  unfold wdE at h
  split at h
  · cases h
  rename_i h0
  split at h
  · rename_i h1; exact absurd h h1
  rename_i h1
  split at h
  · rename_i h2; exact absurd h h2
  rename_i h2
  split at h
  · rename_i h3; exact absurd h h3
  rename_i h3
  split at h
  · rename_i h4; exact absurd h h4
  rename_i h4
  split at h
  · rename_i h5; exact absurd h h5
  rename_i h5
  have t : 1 ≤ w.t ∧ w.t ≤ 11 := by simpa [wiB] using h0
  exact ⟨t, rgE_zero (Decidable.not_not.1 h1), rgE_zero (Decidable.not_not.1 h2), rgE_zero (Decidable.not_not.1 h3), rgE_zero (Decidable.not_not.1 h4), rgE_zero (Decidable.not_not.1 h5)⟩
theorem between_run (a b lo hi : Int) : Ans Try.prog n_mount_between [.int .i64 a, .int .i64 b, .agg [.int .i64 lo, .int .i64 hi]] [] (.agg [.int .i64 a, .int .i64 b, .int .i64 lo, .int .i64 hi]) [] := by
  refine spec_run e_mount_between fun G => ?_
  simp only [go_sem]
def stL (w : Wd) : Int := (w.c * (1000000 + w.e)) / 1000000
def stH (w : Wd) : Int := (w.d * (1000000 + w.f) + 1000000 - 1) / 1000000
theorem mul_le {x y a b : Int} (h1 : 0 ≤ x) (h2 : x ≤ a) (h3 : 0 ≤ y) (h4 : y ≤ b) : 0 ≤ x * y ∧ x * y ≤ a * b := ⟨Int.mul_nonneg h1 h3, Int.mul_le_mul h2 h4 h3 (by omega)⟩
theorem stretched_run {w : Wd} (h : WdOK w) : Ans Try.prog n_mount_stretched [w.v] [] (.agg [.int .i64 (stL w), .int .i64 (stH w)]) [] := by
  obtain ⟨p1, p2, p3⟩ := h.pitch
  obtain ⟨s1, s2, s3⟩ := h.stretch
  have m1 := mul_le (x := w.c) (y := 1000000 + w.e) (a := 10000) (b := 2000000) (by omega) (by omega) (by omega) (by omega)
  have m2 := mul_le (x := w.d) (y := 1000000 + w.f) (a := 10000) (b := 2000000) (by omega) (by omega) (by omega) (by omega)
  have u1 : IntKind.i64.wrap (1000000 + w.e) = 1000000 + w.e := by rw [IntKind.wrap_i64]; omega
  have u2 : IntKind.i64.wrap (1000000 + w.f) = 1000000 + w.f := by rw [IntKind.wrap_i64]; omega
  refine spec_run e_mount_stretched fun G => ?_
  unfold stL stH
  generalize hx : w.c * (1000000 + w.e) = x at *
  generalize hy : w.d * (1000000 + w.f) = y at *
  have u3 : IntKind.i64.wrap x = x := by rw [IntKind.wrap_i64]; omega
  have u4 : IntKind.i64.wrap y = y := by rw [IntKind.wrap_i64]; omega
  have u5 : IntKind.i64.wrap (y + 1000000) = y + 1000000 := by rw [IntKind.wrap_i64]; omega
  have u6 : IntKind.i64.wrap (y + 1000000 - 1) = y + 1000000 - 1 := by rw [IntKind.wrap_i64]; omega
  have q1 : x.tdiv 1000000 = x / 1000000 := Int.tdiv_eq_ediv_of_nonneg m1.1
  have q2 : (y + 1000000 - 1).tdiv 1000000 = (y + 1000000 - 1) / 1000000 := Int.tdiv_eq_ediv_of_nonneg (by omega)
  have u7 : IntKind.i64.wrap (x / 1000000) = x / 1000000 := by rw [IntKind.wrap_i64]; omega
  have u8 : IntKind.i64.wrap ((y + 1000000 - 1) / 1000000) = (y + 1000000 - 1) / 1000000 := by rw [IntKind.wrap_i64]; omega
  simp only [go_sem, Wd.v, u1, u2, hx, hy, u3, u4, u5, u6, q1, q2, u7, u8]
end Go.Proofs

namespace Go.Proofs
open Go Go.Sx
attribute [local irreducible] Run

def lkA (a b lo hi : Int) : AVal := .agg [.int .i64 a, .int .i64 b, .int .i64 lo, .int .i64 hi]
def lkT (w : Wd) : Nat → List AVal
  | 0 => [lkA 0 1 w.g w.h] ++ [lkA 1 2 w.a w.b]
  | t + 1 => lkT w t ++ [lkA (2 * ((t + 1 : Nat) : Int) + 1) (2 * ((t + 1 : Nat) : Int) + 2) w.a w.b, lkA (2 * ((t + 1 : Nat) : Int) - 1) (2 * ((t + 1 : Nat) : Int) + 1) (stL w) (stH w)]
def lkF (w : Wd) (m : Nat) : List AVal := if m = 0 then lkT w 0 else lkT w m ++ [lkA 1 (2 * ((m + 1 : Nat) : Int)) w.i w.j]
theorem lkT_len (w : Wd) : ∀ t, (lkT w t).length = 2 * t + 2
  | 0 => rfl
  | t + 1 => by simp [lkT, lkT_len w t]; omega
theorem lkT_mem (w : Wd) : ∀ t, ∀ v ∈ lkT w t, ∃ a b c d, v = lkA a b c d
  | 0, v, hv => by
    simp only [lkT, List.cons_append, List.nil_append, List.mem_cons, List.not_mem_nil, or_false] at hv
    rcases hv with rfl | rfl <;> exact ⟨_, _, _, _, rfl⟩
  | t + 1, v, hv => by
    simp only [lkT, List.mem_append, List.mem_cons, List.not_mem_nil, or_false] at hv
    rcases hv with hv | rfl | rfl
    · exact lkT_mem w t v hv
    · exact ⟨_, _, _, _, rfl⟩
    · exact ⟨_, _, _, _, rfl⟩
theorem lkF_mem (w : Wd) (m : Nat) : ∀ v ∈ lkF w m, ∃ a b c d, v = lkA a b c d := fun v hv => by
  unfold lkF at hv
  split at hv
  · exact lkT_mem w 0 v hv
  · rcases List.mem_append.1 hv with hv | hv
    · exact lkT_mem w m v hv
    · rw [List.mem_singleton] at hv; subst hv; exact ⟨_, _, _, _, rfl⟩
theorem lkF_bel {S : Nat → Prop} (w : Wd) (m : Nat) (g : Bool) : (Row.cells g 4 (lkF w m)).bel S := by
  rw [row_bel_cells]
  refine bels_of fun v hv => ?_
  obtain ⟨a, b, c, d, rfl⟩ := lkF_mem w m v hv
  simp [go_sem, lkA]
def wdV (w : Wd) : List (Nat × AVal) := [(1, .ptr 0 0 0 1), (2, .ptr 1 0 0 1), (3, .int .i64 0), (5, .ptr 2 0 0 1), (22, .int .i64 w.t)]
def wdH (w : Wd) : Heap := [some (.cells false 11 [w.v]), some (.cells false 2 [.agg [.int .i64 0, .nilsl]]), some (.cells false 2 [.agg [.int .i64 (stL w), .int .i64 (stH w)]])]
theorem wd_w1 (t : Nat) (h : t < 11) : IntKind.i64.wrap (2 * (t : Int)) = 2 * (t : Int) ∧ IntKind.i64.wrap (2 * (t : Int) + 1) = 2 * (t : Int) + 1 ∧ IntKind.i64.wrap (2 * (t : Int) + 2) = 2 * (t : Int) + 2 ∧ IntKind.i64.wrap (2 * (t : Int) - 1) = 2 * (t : Int) - 1 ∧ IntKind.i64.wrap ((t : Int) + 1) = ((t + 1 : Nat) : Int) := by
  simp only [IntKind.wrap_i64]; omega

set_option maxHeartbeats 4000000 in
set_option maxRecDepth 20000 in
theorem Wind_bad {w : Wd} (h : wdE w ≠ 0) : Ans Try.prog n_mount_Wind [w.v] [] (.tup [.agg [.int .i64 0, .nilsl], .int .i64 (wdE w)]) [] := by
  have k0 := checkWinding_run w
  generalize wdE w = E at *
  have e1 : (E == 0) = false := by simpa using h
  refine spec_run e_mount_Wind fun G => ?_
  simp only [go_sem, Wd.v] at k0 ⊢
  refine cP k0 ?_
  simp only [go_sem, bne, e1]
set_option maxHeartbeats 4000000 in
set_option maxRecDepth 20000 in
theorem Wind_ok {w : Wd} (h : wdE w = 0) {m : Nat} (hm : w.t = ((m + 1 : Nat) : Int)) : Ans Try.prog n_mount_Wind [w.v] [] (.tup [.agg [.int .i64 (2 * ((m + 1 : Nat) : Int) + 1), .sl 0 0 (lkF w m).length], .int .i64 0]) [some (.cells true 4 (lkF w m))] := by
  have k0 := checkWinding_run w
  rw [h] at k0
  have ok := wdE_ok h
  have k1 := stretched_run ok
  have kb := between_run
  have m11 : m < 11 := by have := ok.t; omega
  clear ok h
  refine Ans.keep ?_ (by simp) (by simp [go_sem]) ⟨lkF_bel w m true, trivial⟩
  refine run_fn e_mount_Wind fun G => ?_
  simp only [go_sem, Wd.v] at k0 k1 ⊢
  refine cP k0 ?_
  simp only [go_sem, bne]
  refine cP k1 ?_
  simp only [go_sem]
  refine cP (kb 0 1 w.g w.h) ?_
  simp only [go_sem]
  refine loop_body 3000 k_mount_Wind_r13.eq_1 ?_
  have z0 : (0 : Int) < w.t := by omega
  have w0 : IntKind.i64.wrap 0 = 0 := by decide
  have w1 : IntKind.i64.wrap 1 = 1 := by decide
  have w2 : IntKind.i64.wrap 2 = 2 := by decide
  simp only [go_sem, z0, w0, Int.zero_add, w1, w2]
  refine cP (kb 1 2 w.a w.b) ?_
  simp only [go_sem, w0, Int.zero_add, w1]
  refine ⟨by decide, ?_⟩
  refine loop_ind k_mount_Wind_r13.eq_1 (fun a : Nat × Heap => a.1 ≤ m) (fun a => m - a.1)
    (fun a => (tsets 69 (wdV w ++ [(6, .sl 3 0 (lkT w a.1).length), (23, .int .i64 ((a.1 + 1 : Nat) : Int))]), wdH w ++ some (.cells true 4 (lkT w a.1)) :: a.2)) (0, [some (.cells false 4 [lkA 1 2 w.a w.b])]) (Nat.zero_le _) (by simp [go_sem, wdV, lkT]) (by simp [wdH, lkT, lkA, Wd.v]) ?_
  rintro ⟨t, J⟩ hi ih
  dsimp only at hi ih ⊢
  by_cases h1 : t < m
  · have h2 : ((t + 1 : Nat) : Int) < w.t := by omega
    have ihn := fun J' => ih (t + 1, J') (by simp only; omega) h1
    clear ih
    have lk : lkT w (t + 1) = lkT w t ++ [lkA (2 * ((t + 1 : Nat) : Int) + 1) (2 * ((t + 1 : Nat) : Int) + 2) w.a w.b, lkA (2 * ((t + 1 : Nat) : Int) - 1) (2 * ((t + 1 : Nat) : Int) + 1) (stL w) (stH w)] := rfl
    dsimp only at ihn
    rw [lk] at ihn
    simp only [wdH, Wd.v, List.cons_append, List.nil_append, lkA, List.length_append, List.length_cons, List.length_nil, Nat.zero_add, ← Nat.add_assoc] at ihn
    obtain ⟨e1, e2, e3, e4, e5⟩ := wd_w1 (t + 1) (by omega)
    have h3 : ((t + 1 : Nat) : Int) > 0 := by omega
    have l1 := lkT_len w t
    generalize hL : lkT w t = L at *
    have l2 : L.length + 1 ≤ 100 := by omega
    simp only [go_sem, wdV, wdH, Wd.v, h2, e1, e2, e3]
    refine cP (kb _ _ w.a w.b) ?_
    simp only [go_sem, h3, e1, e2, e3, e4]
    refine ⟨by omega, ?_⟩
    refine cP (kb _ _ (stL w) (stH w)) ?_
    have e6 := e5
    simp only [go_sem, List.length_append, List.length_cons, List.length_nil, e5]
    refine ⟨by omega, ?_⟩
    refine ihn _ _ (by simp [go_sem, wdV, wdH])
  · obtain rfl : t = m := by omega
    have h2 : ¬ ((t + 1 : Nat) : Int) < w.t := by omega
    obtain ⟨e1, e2, e3, e4, e5⟩ := wd_w1 t m11
    have l1 := lkT_len w t
    have q1 : IntKind.i64.wrap (2 * w.t) = 2 * ((t + 1 : Nat) : Int) := by rw [hm, IntKind.wrap_i64]; omega
    have q2 : IntKind.i64.wrap (2 * ((t + 1 : Nat) : Int) + 1) = 2 * ((t + 1 : Nat) : Int) + 1 := by rw [IntKind.wrap_i64]; omega
    by_cases t0 : t = 0
    · subst t0
      have h3 : ¬ w.t > 1 := by omega
      have h4 : ¬ 1 < w.t := by omega
      have w3 : IntKind.i64.wrap 3 = 3 := by decide
      simp only [go_sem, wdV, wdH, Wd.v, h2, q1, h3, h4, w3]
      exact kept_one 3 rfl (lkF_bel w 0 true) rfl
    · have h3 : w.t > 1 := by omega
      have h4 : 1 < w.t := by omega
      generalize hL : lkT w t = L at *
      simp only [go_sem, wdV, wdH, Wd.v, h2, q1, h3, h4]
      refine cP (kb _ _ w.i w.j) ?_
      simp only [go_sem, q2]
      refine ⟨by omega, ?_⟩
      have f2 : lkF w t = L ++ [lkA 1 (2 * ((t + 1 : Nat) : Int)) w.i w.j] := by unfold lkF; rw [if_neg t0, hL]
      exact kept_one 3 (by rw [f2, List.length_append]; rfl) (lkF_bel w t true) (by rw [f2]; rfl)
end Go.Proofs

namespace Go.Proofs
open Go Go.Sx
attribute [local irreducible] Run

def rwdV : List (Nat × AVal) := [(1, .ptr 0 0 0 1), (2, .ptr 1 0 0 1), (3, .int .i64 0), (7, .ptr 2 0 0 1), (8, .ptr 4 0 0 1)]
theorem wd_w0 {m : Nat} (h : m < 11) : IntKind.i64.wrap (2 * ((m + 1 : Nat) : Int)) = 2 * ((m + 1 : Nat) : Int) ∧ IntKind.i64.wrap (2 * ((m + 1 : Nat) : Int) + 1) = 2 * ((m + 1 : Nat) : Int) + 1 := by
  simp only [IntKind.wrap_i64]; omega
set_option maxHeartbeats 4000000 in
set_option maxRecDepth 20000 in
theorem rWind_bad {w : Wd} (h : wdE w ≠ 0) : Ans Try.prog n_ref04_Wind [w.v] [] (.tup [.agg [.int .i64 0, .nilsl], .int .i64 (wdE w)]) [] := by
  have k0 := rcheckWinding_run w
  generalize wdE w = E at *
  have e1 : (E == 0) = false := by simpa using h
  refine spec_run e_ref04_Wind fun G => ?_
  simp only [go_sem, Wd.v] at k0 ⊢
  refine cP k0 ?_
  simp only [go_sem, bne, e1]
structure StW (w : Wd) : Prop where
  u1 : IntKind.i64.wrap (1000000 + w.e) = 1000000 + w.e
  u2 : IntKind.i64.wrap (1000000 + w.f) = 1000000 + w.f
  u3 : IntKind.i64.wrap (w.c * (1000000 + w.e)) = w.c * (1000000 + w.e)
  u4 : IntKind.i64.wrap (w.d * (1000000 + w.f)) = w.d * (1000000 + w.f)
  u5 : IntKind.i64.wrap (w.d * (1000000 + w.f) + 1000000) = w.d * (1000000 + w.f) + 1000000
  u6 : IntKind.i64.wrap (w.d * (1000000 + w.f) + 1000000 - 1) = w.d * (1000000 + w.f) + 1000000 - 1
  q1 : IntKind.i64.wrap ((w.c * (1000000 + w.e)).tdiv 1000000) = stL w
  q2 : IntKind.i64.wrap ((w.d * (1000000 + w.f) + 1000000 - 1).tdiv 1000000) = stH w
theorem stW {w : Wd} (h : WdOK w) : StW w := by
  obtain ⟨p1, p2, p3⟩ := h.pitch
  obtain ⟨s1, s2, s3⟩ := h.stretch
  have m1 := mul_le (x := w.c) (y := 1000000 + w.e) (a := 10000) (b := 2000000) (by omega) (by omega) (by omega) (by omega)
  have m2 := mul_le (x := w.d) (y := 1000000 + w.f) (a := 10000) (b := 2000000) (by omega) (by omega) (by omega) (by omega)
  have u1 : IntKind.i64.wrap (1000000 + w.e) = 1000000 + w.e := by rw [IntKind.wrap_i64]; omega
  have u2 : IntKind.i64.wrap (1000000 + w.f) = 1000000 + w.f := by rw [IntKind.wrap_i64]; omega
  skip
  generalize hx : w.c * (1000000 + w.e) = x at *
  generalize hy : w.d * (1000000 + w.f) = y at *
  have q1 : x.tdiv 1000000 = x / 1000000 := Int.tdiv_eq_ediv_of_nonneg m1.1
  have q2 : (y + 1000000 - 1).tdiv 1000000 = (y + 1000000 - 1) / 1000000 := Int.tdiv_eq_ediv_of_nonneg (by omega)
  refine ⟨u1, u2, ?_, ?_, ?_, ?_, ?_, ?_⟩
  · rw [hx, IntKind.wrap_i64]; omega
  · rw [hy, IntKind.wrap_i64]; omega
  · rw [hy, IntKind.wrap_i64]; omega
  · rw [hy, IntKind.wrap_i64]; omega
  · rw [hx, q1]; unfold stL; rw [hx, IntKind.wrap_i64]; omega
  · rw [hy, q2]; unfold stH; rw [hy, IntKind.wrap_i64]; omega
set_option maxHeartbeats 4000000 in
set_option maxRecDepth 20000 in
theorem rWind_ok {w : Wd} (h : wdE w = 0) {m : Nat} (hm : w.t = ((m + 1 : Nat) : Int)) : Ans Try.prog n_ref04_Wind [w.v] [] (.tup [.agg [.int .i64 (2 * ((m + 1 : Nat) : Int) + 1), .sl 0 0 (lkF w m).length], .int .i64 0]) [some (.cells true 4 (lkF w m))] := by
  have k0 := rcheckWinding_run w
  rw [h] at k0
  have ok := wdE_ok h
  obtain ⟨u1, u2, u3, u4, u5, u6, y1, y2⟩ := stW ok
  have m11 : m < 11 := by have := ok.t; omega
  obtain ⟨x1, x2⟩ := wd_w0 m11
  rw [← hm] at x1 x2
  clear ok h
  refine Ans.keep ?_ (by simp) (by simp [go_sem]) ⟨lkF_bel w m true, trivial⟩
  refine run_fn e_ref04_Wind fun G => ?_
  have w0 : IntKind.i64.wrap 0 = 0 := by decide
  have w1 : IntKind.i64.wrap 1 = 1 := by decide
  have w2 : IntKind.i64.wrap 2 = 2 := by decide
  simp only [go_sem, Wd.v] at k0 ⊢
  refine cP k0 ?_
  have z0 : (0 : Int) < w.t := by omega
  simp only [go_sem, bne, u1, u2, u3, u4, u5, u6, y1, y2, x1, x2]
  refine loop_body 3000 k_ref04_Wind_r13.eq_1 ?_
  simp only [go_sem, z0, w0, Int.zero_add, w1, w2]
  refine ⟨by decide, ?_⟩
  refine loop_ind k_ref04_Wind_r13.eq_1 (fun a : Nat × Heap => a.1 ≤ m) (fun a => m - a.1)
    (fun a => (tsets 98 (rwdV ++ [(9, .int .i64 ((a.1 + 1 : Nat) : Int))]), wdH w ++ some (.cells true 4 (lkT w a.1)) :: some (.cells false 2 [.agg [.int .i64 (2 * w.t + 1), .sl 3 0 (lkT w a.1).length]]) :: a.2)) (0, [some (.cells false 4 [lkA 1 2 w.a w.b])]) (Nat.zero_le _) (by simp [go_sem, rwdV, lkT]) (by simp [wdH, lkT, lkA, Wd.v]) ?_
  rintro ⟨t, J⟩ hi ih
  dsimp only at hi ih ⊢
  by_cases h1 : t < m
  · have h2 : ((t + 1 : Nat) : Int) < w.t := by omega
    have ihn := fun J' => ih (t + 1, J') (by simp only; omega) h1
    clear ih
    have lk : lkT w (t + 1) = lkT w t ++ [lkA (2 * ((t + 1 : Nat) : Int) + 1) (2 * ((t + 1 : Nat) : Int) + 2) w.a w.b, lkA (2 * ((t + 1 : Nat) : Int) - 1) (2 * ((t + 1 : Nat) : Int) + 1) (stL w) (stH w)] := rfl
    dsimp only at ihn
    rw [lk] at ihn
    simp only [wdH, Wd.v, List.cons_append, List.nil_append, lkA, List.length_append, List.length_cons, List.length_nil, Nat.zero_add, ← Nat.add_assoc] at ihn
    obtain ⟨e1, e2, e3, e4, e5⟩ := wd_w1 (t + 1) (by omega)
    have h3 : ((t + 1 : Nat) : Int) > 0 := by omega
    have l1 := lkT_len w t
    generalize hL : lkT w t = L at *
    have l2 : L.length + 1 ≤ 100 := by omega
    simp only [go_sem, rwdV, wdH, Wd.v, h2, e1, e2, e3, h3, e4, e5, List.length_append, List.length_cons, List.length_nil]
    refine ⟨by omega, by omega, ?_⟩
    refine ihn _ _ (by simp [go_sem, rwdV, wdH])
  · obtain rfl : t = m := by omega
    have h2 : ¬ ((t + 1 : Nat) : Int) < w.t := by omega
    have l1 := lkT_len w t
    by_cases t0 : t = 0
    · subst t0
      have h3 : ¬ w.t > 1 := by omega
      have h4 : ¬ 1 < w.t := by omega
      simp only [go_sem, rwdV, wdH, Wd.v, h2, h3, h4]
      exact kept_one 3 (by rw [hm]; rfl) (lkF_bel w 0 true) rfl
    · have h3 : w.t > 1 := by omega
      have h4 : 1 < w.t := by omega
      generalize hL : lkT w t = L at *
      simp only [go_sem, rwdV, wdH, Wd.v, h2, h3, h4, x1]
      refine ⟨by omega, ?_⟩
      have f2 : lkF w t = L ++ [lkA 1 (2 * ((t + 1 : Nat) : Int)) w.i w.j] := by unfold lkF; rw [if_neg t0, hL]
      exact kept_one 3 (by rw [f2, List.length_append, hm]; rfl) (lkF_bel w t true) (by rw [f2, hm]; rfl)
end Go.Proofs

namespace Go.Proofs
open Go Go.Sx

def Dr (w : Int) : Row := .cells false 1 [.agg [.int .u64 w]]
def dstep (w : Int) : Int := IntKind.u64.wrap (w + 11400714819323198485)
def dmix (w : Int) : Int :=
  let z := IntKind.u64.wrap (bitW .xor .u64 w (shrW .u64 w 30) * 13787848793156543929)
  let z := IntKind.u64.wrap (bitW .xor .u64 z (shrW .u64 z 27) * 10723151780598845931)
  bitW .xor .u64 z (shrW .u64 z 31)

theorem dr_bel (w : Int) (S : Nat → Prop) : (Dr w).bel S := by unfold Dr; rw [row_bel_cells]; simp only [go_sem]

theorem bitW_u64 (op : BinOp) (a b : Int) : 0 ≤ bitW op .u64 a b ∧ bitW op .u64 a b ≤ 18446744073709551615 := by
  have hw : ∀ n : Int, 0 ≤ IntKind.u64.wrap n ∧ IntKind.u64.wrap n ≤ 18446744073709551615 := fun n => by simp only [IntKind.wrap, IntKind.bits, IntKind.signed, Bool.false_and, Bool.false_eq_true, if_false]; omega
  unfold bitW bitsOf
  cases op <;> simp only [Option.getD_some, Option.getD_none] <;> first
    | exact hw _
    | omega

def upto (w n : Int) : Int := if n < 1 then 0 else (dmix (dstep w)) % n
theorem upto_in {w n : Int} (h : 1 ≤ n) : 0 ≤ upto w n ∧ upto w n < n := by
  unfold upto
  rw [if_neg (by omega)]
  exact ⟨Int.emod_nonneg _ (by omega), Int.emod_lt_of_pos _ (by omega)⟩
def btw (w lo hi : Int) : Int := lo + upto w (hi - lo + 1)
theorem btw_in {w lo hi : Int} (h : lo ≤ hi) : lo ≤ btw w lo hi ∧ btw w lo hi ≤ hi := by
  have := upto_in (w := w) (n := hi - lo + 1) (by omega)
  unfold btw; omega

def feed (w : Int) : List Int → Int
  | [] => w
  | x :: xs => feed (dstep (bitW .xor .u64 w (IntKind.u64.wrap x))) xs
def seedW (xs : List Int) : Int := feed (IntKind.u64.wrap (IntKind.u64.wrap xs.length + 1374496523)) xs

structure Rg where
  lo : Int
  hi : Int
  deriving Inhabited, DecidableEq

def Rg.v (r : Rg) : AVal := .agg [.int .i64 r.lo, .int .i64 r.hi]
@[go_sem] theorem rg_bel_eq (r : Rg) (S : Nat → Prop) : Bel S r.v = True := by unfold Rg.v; simp only [go_sem]
@[go_sem] theorem rg_nv (r : Rg) : NV r.v = True := by unfold Rg.v; simp only [go_sem]
@[go_sem] theorem dr_bel_eq (w : Int) (S : Nat → Prop) : (Dr w).bel S = True := eq_true (dr_bel w S)
def hullR (a b : Int) : Rg := ⟨if b < a then b else a, if b > a then b else a⟩
def rngR (w lo hi : Int) : Rg := hullR (btw w lo hi) (btw (dstep w) lo hi)
theorem rngR_in {w lo hi : Int} (h : lo ≤ hi) : lo ≤ (rngR w lo hi).lo ∧ (rngR w lo hi).lo ≤ (rngR w lo hi).hi ∧ (rngR w lo hi).hi ≤ hi := by
  have := btw_in (w := w) h
  have := btw_in (w := dstep w) h
  unfold rngR hullR; simp only; constructor
  · split <;> (try dsimp only) <;> omega
  · constructor <;> (repeat' split) <;> omega

theorem w64 {n : Int} (h : -9223372036854775808 ≤ n ∧ n ≤ 9223372036854775807) : IntKind.i64.wrap n = n := IntWalk.i64_in _ h
end Go.Proofs

namespace Go.Proofs
open Go Go.Sx

theorem next_ok (w : Int) : Ans Try.prog n_kit_Dice_next [.ptr 0 0 0 1] [some (Dr w)] (.int .u64 (dmix (dstep w))) [some (Dr (dstep w))] := by
  refine spec_run e_kit_Dice_next fun G => ?_
  simp only [go_sem, Dr, dmix, dstep]
  exact ⟨_, rfl⟩

theorem upto_ok (w n : Int) (hn : n ≤ 9223372036854775807) : Ans Try.prog n_kit_Dice_Upto [.ptr 0 0 0 1, .int .i64 n] [some (Dr w)] (.int .i64 (upto w n)) [some (Dr (dstep w))] := by
  refine spec_run e_kit_Dice_Upto fun G => ?_
  simp only [go_sem]
  refine callD (next_ok w) rfl trivial (.int _ _) (dr_bel _ _) (dr_bel _ _) (by simp) (by simp) ?_
  simp only [go_sem]
  refine ⟨fun h => ⟨by simp [upto, h], by simp⟩, fun h => ?_⟩
  have hm : 0 ≤ dmix (dstep w) := (bitW_u64 _ _ _).1
  have h1 : IntKind.u64.wrap n = n := IntWalk.u64_in n (by omega)
  have h2 : (dmix (dstep w)).tmod n = dmix (dstep w) % n := Int.tmod_eq_emod_of_nonneg hm
  have h3 := Int.emod_nonneg (dmix (dstep w)) (show n ≠ 0 by omega)
  have h4 := Int.emod_lt_of_pos (dmix (dstep w)) (show 0 < n by omega)
  rw [h1, h2, IntWalk.i64_in _ (by omega)]
  refine ⟨by omega, by rw [upto, if_neg h], _, rfl⟩

theorem between_ok (w lo hi : Int) (h1 : -1152921504606846976 ≤ lo) (h2 : lo ≤ hi) (h3 : hi ≤ 1152921504606846976) : Ans Try.prog n_kit_Dice_Between [.ptr 0 0 0 1, .int .i64 lo, .int .i64 hi] [some (Dr w)] (.int .i64 (btw w lo hi)) [some (Dr (dstep w))] := by
  refine spec_run e_kit_Dice_Between fun G => ?_
  simp only [go_sem]
  rw [IntWalk.i64_in (hi - lo) (by omega), IntWalk.i64_in (hi - lo + 1) (by omega)]
  refine callD (upto_ok w _ (by omega)) rfl ⟨.int _ _, trivial⟩ (.int _ _) (dr_bel _ _) (dr_bel _ _) (by simp) (by simp) ?_
  have := btw_in (w := w) h2
  unfold btw at this
  simp only [go_sem]
  rw [IntWalk.i64_in _ (by omega)]
  exact ⟨rfl, _, rfl⟩

theorem newdice_ok (xs : List Int) (hl : xs.length ≤ 9223372036854775807) : Ans Try.prog n_kit_NewDice [.view (xs.map (.int .i64))] [] (.ptr 0 0 0 1) [some (Dr (seedW xs))] := by
  unfold seedW
  refine spec_run e_kit_NewDice fun G => ?_
  simp only [go_sem]
  have key : ∀ (zs : List Int) (i : Nat) (w : Int), xs.drop i = zs → i ≤ xs.length →
      Sx.Loop Try.prog G 0 none k_kit_NewDice_r7 [.blk 0, .seq (.seq (.reg k_kit_NewDice_r8 false) .ret)] ⟨[.view (xs.map (.int .i64)), .any, .nilptr, .ptr 0 0 0 1, .int .i64 i] ++ List.replicate 28 .any, [some (Dr w)], []⟩
        (RetPost [ARes.tmp 2] fun v H' => v = .ptr 0 0 0 1 ∧ ∃ X, H' = some (Dr (feed w zs)) :: X) := by
    intro zs
    induction zs with
    | nil =>
      intro i w hd hi
      have : xs.length ≤ i := by simpa using hd
      have h1 : ¬ (i : Int) < xs.length := by omega
      refine loop_body 200 k_kit_NewDice_r7.eq_1 ?_
      simp only [go_sem, h1, feed]
      exact ⟨_, rfl⟩
    | cons z zs ih =>
      intro i w hd hi
      have hx : xs[i]? = some z := by have := congrArg (·[0]?) hd; simpa using this
      have h1 : i < xs.length := (List.getElem?_eq_some_iff.1 hx).1
      have h2 : (i : Int) < xs.length := by omega
      have h3 : IntKind.i64.wrap ((i : Int) + 1) = ((i + 1 : Nat) : Int) := by rw [IntWalk.i64_in _ (by omega)]; rfl
      have hd' : xs.drop (i + 1) = zs := by have := congrArg (List.drop 1) hd; simpa [Nat.add_comm] using this
      refine loop_body 200 k_kit_NewDice_r7.eq_1 ?_
      simp only [go_sem, hx, h2, Dr]
      refine callD (next_ok _) rfl trivial (.int _ _) (dr_bel _ _) (dr_bel _ _) (by simp) (by simp) ?_
      simp only [go_sem, h3]
      refine loop_wk ?_ (ih (i + 1) _ hd' h1)
      simp [Wk]
  refine loop_wk ?_ (key xs 0 _ rfl (Nat.zero_le _))
  simp [Wk]

attribute [local irreducible] Run
theorem range_ok (w lo hi : Int) (h1 : -1152921504606846976 ≤ lo) (h2 : lo ≤ hi) (h3 : hi ≤ 1152921504606846976) : Ans Try.prog n_kit_Dice_Range [.ptr 0 0 0 1, .int .i64 lo, .int .i64 hi] [some (Dr w)] (rngR w lo hi).v [some (Dr (dstep (dstep w)))] := by
  refine spec_run e_kit_Dice_Range fun G => ?_
  simp only [go_sem]
  refine callD (between_ok w lo hi h1 h2 h3) rfl ⟨.int _ _, .int _ _, trivial⟩ (.int _ _) (dr_bel _ _) (dr_bel _ _) (by simp) (by simp) ?_
  simp only [go_sem]
  refine callD (between_ok (dstep w) lo hi h1 h2 h3) rfl ⟨.int _ _, .int _ _, trivial⟩ (.int _ _) (dr_bel _ _) (dr_bel _ _) (by simp) (by simp) ?_
  simp only [go_sem]
  exact ⟨rfl, _, rfl⟩
def d2 (w : Int) : Int := dstep (dstep w)
def wd9 (w : Int) : Int := d2 (d2 (d2 (d2 (dstep w))))
def midOf (t : Int) (a : Rg) (c : Rg) : Int := ((t - 1) * (c.lo + c.hi)) / 2 + a.lo
def lowL (x : Int) : Int := if x > 0 then x else 0
theorem mid_wr {M u v : Int} (h0 : 0 ≤ M) (h1 : M ≤ 10000) (hu : 0 ≤ u ∧ u < 200) (hv : 0 ≤ v ∧ v < 300) : IntKind.i64.wrap (M - u) = M - u ∧ IntKind.i64.wrap (M + v) = M + v := ⟨w64 (by omega), w64 (by omega)⟩
def windOf (w : Int) : Wd :=
  let t := btw w 1 11
  let a := rngR (dstep w) 20 60
  let c := rngR (d2 (dstep w)) 150 260
  let e := rngR (d2 (d2 (dstep w))) 0 30000
  let g := rngR (d2 (d2 (d2 (dstep w)))) 0 40
  ⟨t, a.lo, a.hi, c.lo, c.hi, e.lo, e.hi, g.lo, g.hi, lowL (midOf t a c - upto (wd9 w) 200), midOf t a c + upto (dstep (wd9 w)) 300⟩
theorem mid_in {t : Int} {a c : Rg} (ht : 1 ≤ t ∧ t ≤ 11) (ha : 20 ≤ a.lo ∧ a.lo ≤ a.hi ∧ a.hi ≤ 60) (hc : 150 ≤ c.lo ∧ c.lo ≤ c.hi ∧ c.hi ≤ 260) :
    IntKind.i64.wrap (t - 1) = t - 1 ∧ IntKind.i64.wrap (c.lo + c.hi) = c.lo + c.hi ∧ IntKind.i64.wrap ((t - 1) * (c.lo + c.hi)) = (t - 1) * (c.lo + c.hi) ∧
    IntKind.i64.wrap (((t - 1) * (c.lo + c.hi)).tdiv 2) = ((t - 1) * (c.lo + c.hi)) / 2 ∧ IntKind.i64.wrap (((t - 1) * (c.lo + c.hi)) / 2 + a.lo) = midOf t a c ∧ 0 ≤ midOf t a c ∧ midOf t a c ≤ 10000 := by
  have m1 := mul_le (x := t - 1) (y := c.lo + c.hi) (a := 10) (b := 520) (by omega) (by omega) (by omega) (by omega)
  have u1 := w64 (n := t - 1) (by omega)
  have u2 := w64 (n := c.lo + c.hi) (by omega)
  unfold midOf
  generalize (t - 1) * (c.lo + c.hi) = x at *
  have q : x.tdiv 2 = x / 2 := Int.tdiv_eq_ediv_of_nonneg m1.1
  rw [q]
  exact ⟨u1, u2, w64 (by omega), w64 (by omega), w64 (by omega), by omega, by omega⟩
set_option maxHeartbeats 4000000 in
set_option maxRecDepth 20000 in
theorem WindingOf_run (w : Int) : Ans Try.prog n_kit_WindingOf [.ptr 0 0 0 1] [some (Dr w)] (windOf w).v [some (Dr (d2 (wd9 w)))] := by
  have b1 := btw_in (w := w) (lo := 1) (hi := 11) (by decide)
  have b2 := rngR_in (w := dstep w) (lo := 20) (hi := 60) (by decide)
  have b3 := rngR_in (w := d2 (dstep w)) (lo := 150) (hi := 260) (by decide)
  obtain ⟨m1, m2, m3, m4, m5, m6, m7⟩ := mid_in b1 b2 b3
  simp only [d2] at m2 m3 m4 m5 m6 m7
  have b4 := upto_in (w := wd9 w) (n := 200) (by decide)
  have b5 := upto_in (w := dstep (wd9 w)) (n := 300) (by decide)
  unfold windOf
  dsimp only
  refine spec_run e_kit_WindingOf fun G => ?_
  simp only [go_sem]
  refine cD (between_ok w 1 11 (by decide) (by decide) (by decide)) ?_
  simp only [go_sem]
  refine cD (range_ok (dstep w) 20 60 (by decide) (by decide) (by decide)) ?_
  simp only [go_sem]
  refine cD (range_ok _ 150 260 (by decide) (by decide) (by decide)) ?_
  simp only [go_sem]
  refine cD (range_ok _ 0 30000 (by decide) (by decide) (by decide)) ?_
  simp only [go_sem]
  refine cD (range_ok _ 0 40 (by decide) (by decide) (by decide)) ?_
  simp only [go_sem, Rg.v, m1, m2, m3, m4, m5]
  refine cD (upto_ok (wd9 w) 200 (by decide)) ?_
  obtain ⟨u1, u2⟩ := mid_wr m6 m7 b4 b5
  simp only [go_sem, u1]
  refine cD (upto_ok _ 300 (by decide)) ?_
  simp only [go_sem, u2, Wd.v, d2]
  exact ⟨rfl, _, rfl⟩
end Go.Proofs

namespace Go.Proofs
open Go Go.Sx
attribute [local irreducible] Run

set_option maxHeartbeats 4000000 in
set_option maxRecDepth 20000 in
theorem sameChain_view (p : Int) (l : List AVal) (hl : ∀ v ∈ l, ∃ a b c d, v = lkA a b c d) (h : l.length ≤ 1000000) : Ans Try.prog n_law04_sameChain [.agg [.int .i64 p, .view l], .agg [.int .i64 p, .view l]] [] (.bool true) [] := by
  refine spec_run e_law04_sameChain fun G => ?_
  simp only [go_sem]
  refine loop_ind k_law04_sameChain_r8.eq_1 (fun i : Nat => i ≤ l.length) (fun i => l.length - i)
    (fun i => (tsets 38 [(2, .ptr 0 0 0 1), (3, .ptr 1 0 0 1), (5, .int .i64 i)], [some (.cells false 2 [.agg [.int .i64 p, .view l]]), some (.cells false 2 [.agg [.int .i64 p, .view l]])])) 0 (Nat.zero_le _) (by simp [go_sem]) rfl ?_
  intro i hi ih
  dsimp only at hi ih ⊢
  by_cases i1 : i < l.length
  · have i2 : (i : Int) < l.length := by omega
    have ni : ¬ (i : Int) < 0 := by omega
    have w5 : IntKind.i64.wrap ((i : Int) + 1) = ((i + 1 : Nat) : Int) := by rw [w64 (by omega)]; rfl
    obtain ⟨a, b, c, d, hv⟩ := hl l[i] (List.getElem_mem i1)
    have hz : l[i]? = some (lkA a b c d) := by rw [List.getElem?_eq_getElem i1, hv]
    have ihk := ih (i + 1) (by omega) (by omega)
    clear ih
    simp only [go_sem, i2, ni, hz, lkA, w5]
    exact ihk _ (by simp [go_sem])
  · have i2 : ¬ (i : Int) < l.length := by omega
    clear ih
    simp only [go_sem, i2]
theorem sameChain_nil : Ans Try.prog n_law04_sameChain [.agg [.int .i64 0, .nilsl], .agg [.int .i64 0, .nilsl]] [] (.bool true) [] := by
  refine spec_run e_law04_sameChain fun G => ?_
  simp only [go_sem]
  refine loop_body 3000 k_law04_sameChain_r8.eq_1 ?_
  simp only [go_sem]
def chA (n : Int) (r L : Nat) : AVal := .agg [.int .i64 n, .sl r 0 L]
theorem ch_frz {H : Heap} {g : Bool} {n : Int} {r L : Nat} {l : List AVal} (h : H[r]? = some (some (.cells g 4 l))) (hL : L = l.length) (hl : ∀ v ∈ l, ∃ a b c d, v = lkA a b c d) : frz 6 H (chA n r L) = .agg [.int .i64 n, .view l] := by
  have h1 : frz 5 H (.sl r 0 L) = .view l := by
    rw [frz_sl (d := 4) h (by omega)]
    congr 1
    conv => rhs; rw [← List.map_id l]
    refine List.map_congr_left fun v hv => ?_
    obtain ⟨a, b, c, d, rfl⟩ := hl v hv
    rfl
  show AVal.agg [_, frz 5 H (.sl r 0 L)] = _
  rw [h1]; rfl
theorem wd_turns {w : Wd} (h : wdE w = 0) : ∃ m : Nat, w.t = ((m + 1 : Nat) : Int) := ⟨(w.t - 1).toNat, by have := (wdE_ok h).t; omega⟩
theorem lkF_nv (w : Wd) (m : Nat) (g : Bool) : (Row.cells g 4 (lkF w m)).nv := by
  refine row_nv_cells _ _ (nvs_of fun v hv => ?_)
  obtain ⟨a, b, c, d, rfl⟩ := lkF_mem w m v hv
  simp only [go_sem, lkA]
theorem lkF_le {w : Wd} (h : wdE w = 0) {m : Nat} (hm : w.t = ((m + 1 : Nat) : Int)) : (lkF w m).length ≤ 1000000 := by
  have := (wdE_ok h).t
  have h1 := lkT_len w m
  unfold lkF
  split
  · simp [lkT]
  · simp [h1]; omega
set_option maxHeartbeats 8000000 in
set_option maxRecDepth 20000 in
theorem winds_law (w : Wd) (zs : List Int) (hl : zs.length ≤ 9223372036854775807) : Ans Try.prog n_law04_MountWinds [w.v, .view (zs.map (.int .i64))] [] (.bool true) [] := by
  have w0 : IntKind.i64.wrap 1 = 1 := by decide
  have w2 : IntKind.i64.wrap 2 = 2 := by decide
  refine spec_run e_law04_MountWinds fun G => ?_
  simp only [go_sem, Wd.v]
  refine dFN (newdice_ok zs hl) 6 [] ⟨.inl (by simp [frz, Function.comp_def]), trivial⟩ ?_ (hxn := row_nv_cells _ _ (by simp only [go_sem]))
  simp only [go_sem, ren, rens]
  refine dD (WindingOf_run (seedW zs)) ?_ (hr := by unfold Wd.v; simp only [go_sem])
  generalize windOf (seedW zs) = v
  simp only [go_sem, Wd.v]
  refine loop_body 3000 k_law04_MountWinds_r9.eq_1 ?_
  simp only [go_sem]
  by_cases c1 : wdE w = 0
  · obtain ⟨m, hm⟩ := wd_turns c1
    refine cFN (Wind_ok c1 hm) 6 ⟨.inl rfl, trivial⟩ ?_ (hx := lkF_bel _ _ _) (hxn := lkF_nv _ _ _)
    simp only [go_sem, ren, rens]
    refine cFN (rWind_ok c1 hm) 6 ⟨.inl rfl, trivial⟩ ?_ (hx := lkF_bel _ _ _) (hxn := lkF_nv _ _ _)
    simp only [go_sem, ren, rens, bne]
    refine cF (sameChain_view _ _ (lkF_mem _ _) (lkF_le c1 hm)) 6 ⟨.inl (ch_frz rfl rfl (lkF_mem _ _)), .inl (ch_frz rfl rfl (lkF_mem _ _)), trivial⟩ ?_
    simp only [go_sem]
    refine loop_body 3000 k_law04_MountWinds_r9.eq_1 ?_
    simp only [go_sem, w0, w2]
    by_cases c2 : wdE v = 0
    · obtain ⟨n, hn⟩ := wd_turns c2
      refine cFN (Wind_ok c2 hn) 6 ⟨.inl rfl, trivial⟩ ?_ (hx := lkF_bel _ _ _) (hxn := lkF_nv _ _ _)
      simp only [go_sem, ren, rens]
      refine cFN (rWind_ok c2 hn) 6 ⟨.inl rfl, trivial⟩ ?_ (hx := lkF_bel _ _ _) (hxn := lkF_nv _ _ _)
      simp only [go_sem, ren, rens, bne]
      refine cF (sameChain_view _ _ (lkF_mem _ _) (lkF_le c2 hn)) 6 ⟨.inl (ch_frz rfl rfl (lkF_mem _ _)), .inl (ch_frz rfl rfl (lkF_mem _ _)), trivial⟩ ?_
      simp only [go_sem]
      refine loop_body 3000 k_law04_MountWinds_r9.eq_1 ?_
      simp only [go_sem, w0, w2]
      refine cP awake_ok ?_
      simp only [go_sem]
    · refine cP (Wind_bad c2) ?_
      simp only [go_sem]
      refine cP (rWind_bad c2) ?_
      simp only [go_sem, bne]
      refine cP sameChain_nil ?_
      simp only [go_sem]
      refine loop_body 3000 k_law04_MountWinds_r9.eq_1 ?_
      simp only [go_sem, w0, w2]
      refine cP awake_ok ?_
      simp only [go_sem]
  · refine cP (Wind_bad c1) ?_
    simp only [go_sem]
    refine cP (rWind_bad c1) ?_
    simp only [go_sem, bne]
    refine cP sameChain_nil ?_
    simp only [go_sem]
    refine loop_body 3000 k_law04_MountWinds_r9.eq_1 ?_
    simp only [go_sem, w0, w2]
    by_cases c2 : wdE v = 0
    · obtain ⟨n, hn⟩ := wd_turns c2
      refine cFN (Wind_ok c2 hn) 6 ⟨.inl rfl, trivial⟩ ?_ (hx := lkF_bel _ _ _) (hxn := lkF_nv _ _ _)
      simp only [go_sem, ren, rens]
      refine cFN (rWind_ok c2 hn) 6 ⟨.inl rfl, trivial⟩ ?_ (hx := lkF_bel _ _ _) (hxn := lkF_nv _ _ _)
      simp only [go_sem, ren, rens, bne]
      refine cF (sameChain_view _ _ (lkF_mem _ _) (lkF_le c2 hn)) 6 ⟨.inl (ch_frz rfl rfl (lkF_mem _ _)), .inl (ch_frz rfl rfl (lkF_mem _ _)), trivial⟩ ?_
      simp only [go_sem]
      refine loop_body 3000 k_law04_MountWinds_r9.eq_1 ?_
      simp only [go_sem, w0, w2]
      refine cP awake_ok ?_
      simp only [go_sem]
    · refine cP (Wind_bad c2) ?_
      simp only [go_sem]
      refine cP (rWind_bad c2) ?_
      simp only [go_sem, bne]
      refine cP sameChain_nil ?_
      simp only [go_sem]
      refine loop_body 3000 k_law04_MountWinds_r9.eq_1 ?_
      simp only [go_sem, w0, w2]
      refine cP awake_ok ?_
      simp only [go_sem]
end Go.Proofs

namespace Go.Proofs
open Go Go.Sx

theorem at_struct {P : Program} {n : Nat} {t : TypeId} {fs : Array Field} (hu : P.underlying t = some (.struct fs)) {vs : List AVal} (h : AT P (n + 1) t vs) : ATs (AT P n) fs.toList vs := by
  unfold AT at h; rw [hu] at h; exact h
theorem at_int {P : Program} {n : Nat} {t : TypeId} {k : IntKind} (hu : P.underlying t = some (.int k)) {vs : List AVal} (h : AT P (n + 1) t vs) : ∃ m, vs = [.int k m] ∧ (Lit.int k m).wf = true := by
  unfold AT at h; rw [hu] at h; exact h
theorem at_slice {P : Program} {n : Nat} {t e : TypeId} (hu : P.underlying t = some (.slice e)) {vs : List AVal} (h : AT P (n + 1) t vs) : ∃ es, vs = [.view es] ∧ es.length ≤ maxLen ∧ ∀ x ∈ es, if aggT P e = true then ∃ ws, x = .agg ws ∧ AT P n e ws else AT P n e [x] := by
  unfold AT at h; rw [hu] at h; exact h
theorem list_mapQ {α β : Type} {f : α → β} {Q : α → Prop} : ∀ l : List β, (∀ x ∈ l, ∃ a, x = f a ∧ Q a) → ∃ l' : List α, l = l'.map f ∧ ∀ a ∈ l', Q a
  | [], _ => ⟨[], rfl, fun a ha => by simp at ha⟩
  | x :: l, h => by
    obtain ⟨a, rfl, ha⟩ := h x (by simp)
    obtain ⟨l', rfl, h'⟩ := list_mapQ l fun y hy => h y (by simp [hy])
    exact ⟨a :: l', rfl, fun b hb => by
      rcases List.mem_cons.1 hb with rfl | hb
      · exact ha
      · exact h' b hb⟩

attribute [local irreducible] AT
set_option maxRecDepth 100000
theorem atn_int {n : Nat} {vs : List AVal} (h : AT Try.prog (n + 1) 3 vs) : ∃ m, vs = [.int .i64 m] ∧ (Lit.int .i64 m).wf = true := at_int Try.underlying3 h
theorem at_ints {n : Nat} {x : AVal} (h : AT Try.prog (n + 2) 25 [x]) : ∃ l : List Int, x = .view (l.map (.int .i64)) ∧ l.length ≤ 9223372036854775807 := by
  obtain ⟨es, h1, hl, he⟩ := at_slice Try.underlying25 h
  obtain rfl : x = .view es := by simpa using h1
  have hg : ¬ aggT Try.prog 3 = true := by unfold aggT; rw [Try.underlying3]; decide
  obtain ⟨l, rfl, -⟩ := list_mapQ (f := AVal.int .i64) (Q := fun _ => True) es fun x hx => by
    have := he x hx
    rw [if_neg hg] at this
    obtain ⟨m, hm, -⟩ := atn_int this
    exact ⟨m, by simpa using hm, trivial⟩
  have hm : maxLen = 9223372036854775807 := rfl
  rw [hm] at hl
  exact ⟨l, rfl, by simpa using hl⟩
theorem at_rng {n : Nat} {ws : List AVal} (h : AT Try.prog (n + 2) 50 ws) : ∃ a b : Int, ws = [.int .i64 a, .int .i64 b] := by
  obtain ⟨a, _, rfl, ha, b, _, rfl, hb, rfl⟩ := at_struct Try.underlying50 h
  obtain ⟨x, rfl, hx⟩ := atn_int ha
  obtain ⟨y, rfl, hy⟩ := atn_int hb
  exact ⟨x, y, rfl⟩
theorem at_wd {n : Nat} {ws : List AVal} (h : AT Try.prog (n + 3) 52 ws) : ∃ w : Wd, .agg ws = w.v := by
  obtain ⟨t, _, rfl, ht, a, _, rfl, ha, b, _, rfl, hb, c, _, rfl, hc, d, _, rfl, hd, e, _, rfl, he, rfl⟩ := at_struct Try.underlying52 h
  obtain ⟨t, rfl, -⟩ := atn_int ht
  obtain ⟨a1, a2, rfl⟩ := at_rng ha
  obtain ⟨b1, b2, rfl⟩ := at_rng hb
  obtain ⟨c1, c2, rfl⟩ := at_rng hc
  obtain ⟨d1, d2, rfl⟩ := at_rng hd
  obtain ⟨e1, e2, rfl⟩ := at_rng he
  exact ⟨⟨t, a1, a2, b1, b2, c1, c2, d1, d2, e1, e2⟩, rfl⟩
end Go.Proofs

