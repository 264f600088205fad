/- Roots. -/
import Derived.Test.YtbjfjgiinjhikabYbC
namespace Go.Proofs
open Go Go.Sx

def isq : Nat → Nat
  | 0 => 0
  | n + 1 => if (isq n + 1) * (isq n + 1) ≤ n + 1 then isq n + 1 else isq n

theorem isq_ok (n : Nat) : isq n * isq n ≤ n ∧ n < (isq n + 1) * (isq n + 1) := by
  induction n with
  | zero => simp [isq]
  | succ n ih =>
    simp only [isq]
    split
    · rename_i h
      refine ⟨h, ?_⟩
      have h2 : (isq n + 1) * (isq n + 1) + (isq n + 1) < (isq n + 1 + 1) * (isq n + 1 + 1) := by
        simp only [Nat.add_mul, Nat.mul_add]; omega
      omega
    · omega

/-- The root, rounded down. -/
def root (n : Int) : Int := isq n.toNat
theorem root_ok {n : Int} (h : 0 ≤ n) : 0 ≤ root n ∧ root n * root n ≤ n ∧ n < (root n + 1) * (root n + 1) := by
  have := isq_ok n.toNat
  unfold root
  refine ⟨by omega, ?_, ?_⟩
  · have h1 : ((isq n.toNat * isq n.toNat : Nat) : Int) ≤ (n.toNat : Int) := by exact_mod_cast this.1
    push_cast at h1
    omega
  · have h1 : (n.toNat : Int) < (((isq n.toNat + 1) * (isq n.toNat + 1) : Nat) : Int) := by exact_mod_cast this.2
    push_cast at h1
    omega

theorem sq_le {a b : Int} (ha : 0 ≤ a) (h : a ≤ b) : a * a ≤ b * b := Int.mul_le_mul h h ha (by omega)
theorem root_unique {n r : Int} (hn : 0 ≤ n) (h0 : 0 ≤ r) (h1 : r * r ≤ n) (h2 : n < (r + 1) * (r + 1)) : r = root n := by
  obtain ⟨a, b, c⟩ := root_ok hn
  rcases Int.lt_trichotomy r (root n) with h | h | h
  · have := sq_le (a := r + 1) (b := root n) (by omega) (by omega); omega
  · exact h
  · have := sq_le (a := root n + 1) (b := r) (by omega) (by omega); omega

theorem newton {n r : Int} (hn : 0 ≤ n) (hr : 1 ≤ r) : n < ((r + n / r) / 2 + 1) * ((r + n / r) / 2 + 1) := by
  have h1 : n < r * (n / r + 1) := by
    have := Int.lt_mul_ediv_self_add (x := n) (show 0 < r by omega)
    rw [Int.mul_add, Int.mul_one]; exact this
  have hq : 0 ≤ n / r := Int.ediv_nonneg hn (by omega)
  generalize n / r = q at *
  generalize hm : (r + q) / 2 + 1 = m
  have h2 : r + (q + 1) ≤ 2 * m := by omega
  have hs0 : 0 ≤ q + 1 := by omega
  generalize q + 1 = s at *
  have h3 : (r + s) * (r + s) ≤ (2 * m) * (2 * m) := sq_le (by omega) h2
  have h4 : 0 ≤ (r - s) * (r - s) := by
    rcases Int.le_total 0 (r - s) with h | h
    · exact Int.mul_nonneg h h
    · exact Int.mul_nonneg_of_nonpos_of_nonpos h h
  have e1 : (r + s) * (r + s) = r * r + 2 * (r * s) + s * s := by
    rw [Int.add_mul, Int.mul_add, Int.mul_add, Int.mul_comm s r]; omega
  have e2 : (r - s) * (r - s) = r * r - 2 * (r * s) + s * s := by
    rw [Int.sub_mul, Int.mul_sub, Int.mul_sub, Int.mul_comm s r]; omega
  have e3 : (2 * m) * (2 * m) = 4 * (m * m) := by
    rw [Int.mul_assoc, Int.mul_left_comm m 2 m]; omega
  omega

theorem len_ok (x : Int) (h0 : 0 ≤ x) (h1 : x ≤ 1152921504606846976) : ∃ m : Nat, m ≤ 64 ∧ x < 2 ^ m ∧ Ans Try.prog n_bits_Len [.int .u64 x] [] (.int .i64 m) [] := by
  obtain ⟨m, h2, h3, h4⟩ := len64_ok x h0 h1
  refine ⟨m, h2, h3, spec_run e_bits_Len fun G => ?_⟩
  simp only [go_sem]
  refine callP h4 ⟨.int _ _, trivial⟩ (.int _ _) (by simp) (by simp) ?_
  simp only [go_sem]

theorem rootDown_ok (n : Int) (h0 : 0 ≤ n) (h1 : n ≤ 1152921504606846976) : Ans Try.prog n_curve_rootDown [.int .i64 n] [] (.int .i64 (root n)) [] := by
  obtain ⟨m, hm1, hm2, hm3⟩ := len_ok n h0 h1
  have key : ∀ (k : Nat) (r : Int), r.toNat = k → 1 ≤ r → r ≤ 4294967296 → 1 ≤ n → n < (r + 1) * (r + 1) → ∀ G,
      Sx.Loop Try.prog G 0 none k_curve_rootDown_r8 [.blk 0] ⟨[.int .i64 n, .any, .int .i64 0, .int .i64 r] ++ List.replicate 20 .any, [], []⟩ (RetPost [ARes.tmp 2] fun v H' => v = .int .i64 (root n)) := by
    intro k
    induction k using Nat.strongRecOn with
    | ind k ih =>
      intro r hk hr hr2 hn1 hn G
      have hq0 : 0 ≤ n / r := Int.ediv_nonneg h0 (by omega)
      have hq1 : n / r ≤ n := Int.ediv_le_self _ h0
      have e1 : n.tdiv r = n / r := Int.tdiv_eq_ediv_of_nonneg h0
      have e2 : IntKind.i64.wrap (n / r) = n / r := IntWalk.i64_in _ (by omega)
      have e3 : IntKind.i64.wrap (r + n / r) = r + n / r := IntWalk.i64_in _ (by omega)
      have e4 : (r + n / r).tdiv 2 = (r + n / r) / 2 := Int.tdiv_eq_ediv_of_nonneg (by omega)
      have e5 : IntKind.i64.wrap ((r + n / r) / 2) = (r + n / r) / 2 := IntWalk.i64_in _ (by omega)
      refine loop_body 200 k_curve_rootDown_r8.eq_1 ?_
      simp only [go_sem, e1, e2, e3, e4, e5]
      refine ⟨by omega, fun h => root_unique h0 (by omega) ?_ hn, fun h => ?_⟩
      · have h2 : r ≤ n / r := by omega
        have h3 : r * r ≤ r * (n / r) := Int.mul_le_mul_of_nonneg_left h2 (by omega)
        have h4 := Int.mul_ediv_self_le (x := n) (k := r) (by omega)
        omega
      · have h2 : 1 ≤ (r + n / r) / 2 := by
          rcases Int.lt_or_le r 2 with h3 | h3
          · obtain rfl : r = 1 := by omega
            rw [Int.ediv_one] at h ⊢
            omega
          · omega
        refine loop_wk ?_ (ih _ ?_ ((r + n / r) / 2) rfl h2 (by omega) hn1 (newton h0 hr) G)
        · simp [Wk]
        · omega
  have f0 : IntKind.u64.wrap n = n := IntWalk.u64_in _ (by omega)
  have f1 : IntKind.i64.wrap ((m : Int) + 1) = (m : Int) + 1 := IntWalk.i64_in _ (by omega)
  have f2 : ((m : Int) + 1).tdiv 2 = ((m : Int) + 1) / 2 := Int.tdiv_eq_ediv_of_nonneg (by omega)
  have f3 : IntKind.i64.wrap (((m : Int) + 1) / 2) = ((m : Int) + 1) / 2 := IntWalk.i64_in _ (by omega)
  have f5 : ¬ ((m : Int) + 1) / 2 < 0 := by omega
  have f6 : (((m : Int) + 1) / 2).toNat = (m + 1) / 2 := by omega
  have f7 : (2 : Nat) ^ ((m + 1) / 2) ≤ 2 ^ 32 := Nat.pow_le_pow_right (by decide) (by omega)
  have f8 : 1 ≤ (2 : Nat) ^ ((m + 1) / 2) := Nat.one_le_two_pow
  have f4 : shlW .i64 1 (((m : Int) + 1) / 2) = ((2 ^ ((m + 1) / 2) : Nat) : Int) := by
    unfold shlW
    have e : min (((m : Int) + 1) / 2).toNat IntKind.i64.bits = (m + 1) / 2 := by
      rw [f6]; exact Nat.min_eq_left (by show _ ≤ 64; omega)
    rw [e, Int.one_mul]
    have e2 : (2 : Int) ^ ((m + 1) / 2) = ((2 ^ ((m + 1) / 2) : Nat) : Int) := by push_cast; rfl
    rw [e2]
    exact IntWalk.i64_in _ (by omega)
  refine spec_run e_curve_rootDown fun G => ?_
  simp only [go_sem]
  refine ⟨fun h => by rw [h]; rfl, fun h => ?_⟩
  simp only [f0]
  refine callP hm3 ⟨.int _ _, trivial⟩ (.int _ _) (by simp) (by simp) ?_
  simp only [go_sem, f1, f2, f3, f4, f5]
  refine loop_wk ?_ (key _ ((2 ^ ((m + 1) / 2) : Nat) : Int) rfl (by omega) (by omega) (by omega) ?_ G)
  · simp [Wk]
  · have h2 : (2 : Nat) ^ m ≤ 2 ^ ((m + 1) / 2) * 2 ^ ((m + 1) / 2) := by
      rw [← Nat.pow_add]; exact Nat.pow_le_pow_right (by decide) (by omega)
    have h3 : ((2 ^ m : Nat) : Int) ≤ ((2 ^ ((m + 1) / 2) * 2 ^ ((m + 1) / 2) : Nat) : Int) := by exact_mod_cast h2
    have h4 : n < ((2 ^ m : Nat) : Int) := by push_cast; exact hm2
    generalize (2 : Nat) ^ ((m + 1) / 2) = z at *
    push_cast at h3
    rw [Int.add_mul, Int.mul_add]
    omega

/-- The root, rounded up. -/
def rootU (n : Int) : Int := if root n * root n < n then root n + 1 else root n

theorem root_le {n : Int} (h0 : 0 ≤ n) (h1 : n ≤ 1152921504606846976) : root n ≤ 1073741824 := by
  obtain ⟨a, b, c⟩ := root_ok h0
  refine Int.not_lt.1 fun h => ?_
  have := sq_le (a := 1073741825) (b := root n) (by decide) (by omega)
  omega

theorem rootUp_ok (n : Int) (h0 : 0 ≤ n) (h1 : n ≤ 1152921504606846976) : Ans Try.prog n_curve_rootUp [.int .i64 n] [] (.int .i64 (rootU n)) [] := by
  have h2 := root_le h0 h1
  obtain ⟨a, b, c⟩ := root_ok h0
  have e1 : IntKind.i64.wrap (root n * root n) = root n * root n := IntWalk.i64_in _ (by have := Int.mul_nonneg a a; omega)
  have e2 : IntKind.i64.wrap (root n + 1) = root n + 1 := IntWalk.i64_in _ (by omega)
  refine spec_run e_curve_rootUp fun G => ?_
  simp only [go_sem]
  refine callP (rootDown_ok n h0 h1) ⟨.int _ _, trivial⟩ (.int _ _) (by simp) (by simp) ?_
  simp only [go_sem, e1, e2]
  refine ⟨fun h => ?_, fun h => ?_⟩ <;> simp [rootU, h]
end Go.Proofs
