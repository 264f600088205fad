/- A part of the proof. -/
import Derived.Test.YtpbheanmmfmffaaPB
import Derived.IntWalk
set_option linter.unusedSimpArgs false
set_option linter.unusedVariables false
namespace Go.Proofs

def elK (a : Mat) : Nat → Mat
  | 0 => a
  | 1 => el1 a
  | 2 => el2 a
  | 3 => el3 a
  | _ => el4 a
def full (a : Mat) (k : Nat) (i j : Nat) : Int := if j < k then (if i = j then pv a k else 0) else elK a k i j
theorem full_late (a : Mat) {k i j : Nat} (h : k ≤ j) : full a k i j = elK a k i j := if_neg (by omega)
theorem full_done (a : Mat) {k i j : Nat} (h : j < k) : full a k i j = if i = j then pv a k else 0 := if_pos h
theorem elK_piv (a : Mat) {k : Nat} (hk : k < 4) : elK a k k k = pv a (k + 1) := by
  have : k = 0 ∨ k = 1 ∨ k = 2 ∨ k = 3 := by omega
  rcases this with rfl | rfl | rfl | rfl <;> simp [elK, pv, el1, el2, el3]
theorem elK_row (a : Mat) {k : Nat} (hk : k < 4) (j : Nat) : elK a (k + 1) k j = elK a k k j := by
  have : k = 0 ∨ k = 1 ∨ k = 2 ∨ k = 3 := by omega
  rcases this with rfl | rfl | rfl | rfl <;> simp [elK, el1, el2, el3, el4]
theorem elK_step (a : Mat) {k i : Nat} (hk : k < 4) (hi : i < 4) (hik : i ≠ k) (j : Nat) : elK a k i j * pv a (k + 1) - elK a k i k * elK a k k j = pv a k * elK a (k + 1) i j := by
  rw [← elK_piv a hk]
  have hc : k = 0 ∨ k = 1 ∨ k = 2 ∨ k = 3 := by omega
  have hd : i = 0 ∨ i = 1 ∨ i = 2 ∨ i = 3 := by omega
  rcases hc with rfl | rfl | rfl | rfl
  · exact el1_step a i j hik
  · rcases hd with rfl | rfl | rfl | rfl
    · exact el2_0 a j
    · exact absurd rfl hik
    · exact el2_step a 2 j (by omega)
    · exact el2_step a 3 j (by omega)
  · rcases hd with rfl | rfl | rfl | rfl
    · exact el3_0 a j
    · exact el3_1 a j
    · exact absurd rfl hik
    · exact el3_3 a j
  · rcases hd with rfl | rfl | rfl | rfl
    · exact el4_0 a j
    · exact el4_1 a j
    · exact el4_2 a j
    · exact absurd rfl hik
theorem full_piv (a : Mat) {k : Nat} (hk : k < 4) : full a k k k = pv a (k + 1) := by rw [full_late a (Nat.le_refl _), elK_piv a hk]
theorem full_row (a : Mat) {k : Nat} (hk : k < 4) (j : Nat) : full a (k + 1) k j = full a k k j := by
  by_cases h : j < k
  · rw [full_done a h, full_done a (by omega), if_neg (by omega), if_neg (by omega)]
  · by_cases h2 : j = k
    · subst h2; rw [full_done a (by omega), if_pos rfl, full_piv a hk]
    · rw [full_late a (by omega), full_late a (by omega), elK_row a hk]
theorem full_step (a : Mat) {k i : Nat} (hk : k < 4) (hi : i < 4) (hik : i ≠ k) (j : Nat) : full a k i j * pv a (k + 1) - full a k i k * full a k k j = pv a k * full a (k + 1) i j := by
  by_cases h : j < k
  · rw [full_done a h, full_done a (show j < k + 1 by omega), full_done a h (i := k), if_neg (show ¬ k = j by omega)]
    split
    · rw [Int.mul_zero]; omega
    · simp
  · by_cases h2 : j = k
    · subst h2
      rw [full_piv a hk, full_done a (show j < j + 1 by omega), if_neg hik]; simp
    · rw [full_late a (by omega), full_late a (Nat.le_refl k), full_late a (show k ≤ j by omega) (i := k), full_late a (show k + 1 ≤ j by omega)]
      exact elK_step a hk hi hik j

def sumT (f : Nat → Int) : Nat → Int
  | 0 => 0
  | n + 1 => sumT f n + f n
theorem sumT_congr {f g : Nat → Int} : ∀ n, (∀ j, j < n → f j = g j) → sumT f n = sumT g n
  | 0, _ => rfl
  | n + 1, h => by rw [sumT, sumT, sumT_congr n fun j hj => h j (by omega), h n (by omega)]
theorem sumT_lin (c d : Int) (f g : Nat → Int) : ∀ n, sumT (fun j => c * f j - d * g j) n = c * sumT f n - d * sumT g n
  | 0 => by simp [sumT]
  | n + 1 => by rw [sumT, sumT, sumT, sumT_lin c d f g n, Int.mul_add, Int.mul_add]; omega
theorem sumT_mul (c : Int) (f : Nat → Int) : ∀ n, sumT (fun j => c * f j) n = c * sumT f n
  | 0 => by simp [sumT]
  | n + 1 => by rw [sumT, sumT, sumT_mul c f n, Int.mul_add]
theorem sumT_one (x : Int) (i : Nat) : ∀ n, sumT (fun j => if i = j then x * 1 else 0) n = if i < n then x else 0
  | 0 => by simp [sumT]
  | n + 1 => by
    rw [sumT, sumT_one x i n]
    by_cases h : i = n
    · subst h; simp
    · rw [if_neg h]
      by_cases h2 : i < n
      · rw [if_pos h2, if_pos (by omega)]; omega
      · rw [if_neg h2, if_neg (by omega)]; omega
theorem sumT_le {f : Nat → Int} {i : Nat} : ∀ n, i < n → (∀ j, j < n → j ≠ i → f j ≤ 0) → sumT f n ≤ f i
  | 0, h, _ => by omega
  | n + 1, h, hf => by
    rw [sumT]
    by_cases e : i = n
    · subst e
      have : ∀ m, m ≤ i → sumT f m ≤ 0 := fun m => by
        induction m with
        | zero => intro _; exact Int.le_refl _
        | succ m ih => intro hm; rw [sumT]; have := ih (by omega); have := hf m (by omega) (by omega); omega
      have := this i (Nat.le_refl _)
      omega
    · have := sumT_le n (by omega) fun j hj hji => hf j (by omega) hji
      have := hf n (by omega) (fun h => e h.symm)
      omega

section
variable {a : Mat} {n : Nat} (hn : n ≤ 4)
def rs (a : Mat) (n k : Nat) (y : Nat → Int) (i : Nat) : Int := sumT (fun j => full a k i j * y j) n
include hn
theorem rs_step {k i : Nat} (hk : k < n) (hi : i < n) (hik : i ≠ k) (y : Nat → Int) : pv a k * rs a n (k + 1) y i = rs a n k y i * pv a (k + 1) - full a k i k * rs a n k y k := by
  unfold rs
  rw [← sumT_mul, Int.mul_comm (sumT _ n) (pv a (k + 1)), ← sumT_lin]
  refine sumT_congr n fun j _ => ?_
  have h := full_step a (show k < 4 by omega) (show i < 4 by omega) hik j
  grind
theorem rs_row {k : Nat} (hk : k < n) (y : Nat → Int) : rs a n (k + 1) y k = rs a n k y k := by
  unfold rs
  exact sumT_congr n fun j _ => by rw [full_row a (show k < 4 by omega)]
omit hn in
theorem rs_end (y : Nat → Int) {i : Nat} (hi : i < n) : rs a n n y i = pv a n * y i := by
  unfold rs
  have : sumT (fun j => full a n i j * y j) n = sumT (fun j => if i = j then (pv a n * y i) * 1 else 0) n := sumT_congr n fun j hj => by
    rw [full_done a hj]
    split
    · rename_i h; subst h; omega
    · simp
  rw [this, sumT_one, if_pos hi]

structure EliOK (a : Mat) (n k : Nat) (e : Nat → Int) : Prop where
  pvt : ∀ j, j ≤ k → 0 < Go.Proofs.pv a j
  off : ∀ i j, i < n → j < n → k ≤ j → i ≠ j → full a k i j ≤ 0
  dom : ∀ i, i < n → 0 < rs a n k e i
omit hn in
theorem pos_of {x y z : Int} (hx : 0 < x) (h : x * y = z) (hz : 0 < z) : 0 < y := by
  by_cases h0 : 0 < y
  · exact h0
  · have := Int.mul_le_mul_of_nonneg_left (show y ≤ 0 by omega) (show 0 ≤ x by omega)
    omega
omit hn in
theorem nonpos_of {x y z : Int} (hx : 0 < x) (h : x * y = z) (hz : z ≤ 0) : y ≤ 0 := by
  by_cases h0 : 0 < y
  · have := Int.mul_pos hx h0
    omega
  · omega
omit hn in
theorem nonneg_of {x y z : Int} (hx : 0 < x) (h : x * y = z) (hz : 0 ≤ z) : 0 ≤ y := by
  have := nonpos_of (y := -y) (z := -z) hx (by rw [Int.mul_neg, h]) (by omega)
  omega
theorem EliOK.next {k : Nat} {e : Nat → Int} (h : EliOK a n k e) (he : ∀ i, i < n → 0 < e i) (hk : k < n) : EliOK a n (k + 1) e := by
  have hp := h.pvt k (Nat.le_refl _)
  have hd := h.dom k hk
  have hpk : 0 < pv a (k + 1) := by
    rw [← full_piv a (show k < 4 by omega)]
    have h1 : rs a n k e k ≤ full a k k k * e k := sumT_le n hk fun j hj hjk => by
      by_cases hjl : j < k
      · rw [full_done a hjl, if_neg (by omega)]; simp
      · have h2 := h.off k j hk hj (by omega) (by omega)
        have h3 := Int.mul_le_mul_of_nonneg_right h2 (show 0 ≤ e j by have := he j hj; omega)
        omega
    have h2 := he k hk
    by_cases h3 : 0 < full a k k k
    · exact h3
    · have := Int.mul_le_mul_of_nonneg_right (show full a k k k ≤ 0 by omega) (show 0 ≤ e k by omega)
      omega
  refine ⟨fun j hj => ?_, fun i j hi hj hkj hij => ?_, fun i hi => ?_⟩
  · by_cases e1 : j = k + 1
    · subst e1; exact hpk
    · exact h.pvt j (by omega)
  · by_cases hik : i = k
    · subst hik
      rw [full_row a (by omega)]
      exact h.off i j hi hj (by omega) hij
    · have h1 := full_step a (show k < 4 by omega) (show i < 4 by omega) hik j
      have h2 := h.off i j hi hj (by omega) hij
      have h3 := h.off i k hi hk (Nat.le_refl _) hik
      have h4 := h.off k j hk hj (by omega) (by omega)
      refine nonpos_of hp h1.symm ?_
      have h5 := Int.mul_le_mul_of_nonneg_right h2 (show 0 ≤ pv a (k + 1) by omega)
      have h6 := Int.mul_nonneg_of_nonpos_of_nonpos h3 h4
      omega
  · by_cases hik : i = k
    · subst hik; rw [rs_row hn hi]; exact hd
    · have h1 := rs_step hn hk hi hik e (a := a)
      have h3 := h.off i k hi hk (Nat.le_refl _) hik
      refine pos_of hp h1 ?_
      have h5 := Int.mul_pos (h.dom i hi) hpk
      have h6 := Int.mul_le_mul_of_nonneg_right h3 (show 0 ≤ rs a n k e k by omega)
      omega

theorem res_next {k : Nat} {e y : Nat → Int} (h : EliOK a n k e) (he : ∀ i, i < n → 0 < e i) (hk : k < n) (hr : ∀ i, i < n → rs a n k y i ≤ full a k i 4) : ∀ i, i < n → rs a n (k + 1) y i ≤ full a (k + 1) i 4 := fun i hi => by
  have hp := h.pvt k (Nat.le_refl _)
  have hpk := (h.next hn he hk).pvt (k + 1) (Nat.le_refl _)
  by_cases hik : i = k
  · subst hik
    rw [rs_row hn hi, full_row a (by omega)]
    exact hr i hi
  · have h1 := rs_step hn hk hi hik y (a := a)
    have h2 := full_step a (show k < 4 by omega) (show i < 4 by omega) hik 4
    have h3 := h.off i k hi hk (Nat.le_refl _) hik
    have h4 := hr i hi
    have h5 := hr k hk
    have h6 := Int.mul_le_mul_of_nonneg_right h4 (show 0 ≤ pv a (k + 1) by omega)
    have h7 := Int.mul_le_mul_of_nonpos_left h3 h5
    have h8 := nonneg_of (y := full a (k + 1) i 4 - rs a n (k + 1) y i) (z := pv a k * full a (k + 1) i 4 - pv a k * rs a n (k + 1) y i) hp (by rw [Int.mul_sub]) (by omega)
    omega
theorem res_down {k : Nat} {e y : Nat → Int} (h : EliOK a n k e) (he : ∀ i, i < n → 0 < e i) (hk : k < n) (hr : ∀ i, i < n → full a k i 4 ≤ rs a n k y i) : ∀ i, i < n → full a (k + 1) i 4 ≤ rs a n (k + 1) y i := fun i hi => by
  have hp := h.pvt k (Nat.le_refl _)
  have hpk := (h.next hn he hk).pvt (k + 1) (Nat.le_refl _)
  by_cases hik : i = k
  · subst hik
    rw [rs_row hn hi, full_row a (by omega)]
    exact hr i hi
  · have h1 := rs_step hn hk hi hik y (a := a)
    have h2 := full_step a (show k < 4 by omega) (show i < 4 by omega) hik 4
    have h3 := h.off i k hi hk (Nat.le_refl _) hik
    have h4 := hr i hi
    have h5 := hr k hk
    have h6 := Int.mul_le_mul_of_nonneg_right h4 (show 0 ≤ pv a (k + 1) by omega)
    have h7 := Int.mul_le_mul_of_nonpos_left h3 h5
    have h8 := nonneg_of (y := rs a n (k + 1) y i - full a (k + 1) i 4) (z := pv a k * rs a n (k + 1) y i - pv a k * full a (k + 1) i 4) hp (by rw [Int.mul_sub]) (by omega)
    omega

theorem EliOK.all {e : Nat → Int} (h : EliOK a n 0 e) (he : ∀ i, i < n → 0 < e i) : ∀ k, k ≤ n → EliOK a n k e
  | 0, _ => h
  | k + 1, hk => (EliOK.all h he k (by omega)).next hn he (by omega)
theorem elim_ge {e y : Nat → Int} (h : EliOK a n 0 e) (he : ∀ i, i < n → 0 < e i) (hr : ∀ i, i < n → rs a n 0 y i ≤ full a 0 i 4) {i : Nat} (hi : i < n) : pv a n * y i ≤ full a n i 4 := by
  have key : ∀ k, k ≤ n → ∀ i, i < n → rs a n k y i ≤ full a k i 4 := fun k => by
    induction k with
    | zero => intro _; exact hr
    | succ k ih => intro hk; exact res_next hn (h.all hn he k (by omega)) he (by omega) (ih (by omega))
  rw [← rs_end y hi]
  exact key n (Nat.le_refl _) i hi
theorem elim_le {e y : Nat → Int} (h : EliOK a n 0 e) (he : ∀ i, i < n → 0 < e i) (hr : ∀ i, i < n → full a 0 i 4 ≤ rs a n 0 y i) {i : Nat} (hi : i < n) : full a n i 4 ≤ pv a n * y i := by
  have key : ∀ k, k ≤ n → ∀ i, i < n → full a k i 4 ≤ rs a n k y i := fun k => by
    induction k with
    | zero => intro _; exact hr
    | succ k ih => intro hk; exact res_down hn (h.all hn he k (by omega)) he (by omega) (ih (by omega))
  rw [← rs_end y hi]
  exact key n (Nat.le_refl _) i hi
end
end Go.Proofs

namespace Go.Proofs
open Go Go.Sx

def Dr (w : Int) : Row := .cells false 1 [.agg [.int .u64 w]]
def dstep (w : Int) : Int := IntKind.u64.wrap (w + 11400714819323198485)
def dmix (w : Int) : Int :=
  let z := IntKind.u64.wrap (bitW .xor .u64 w (shrW .u64 w 30) * 13787848793156543929)
  let z := IntKind.u64.wrap (bitW .xor .u64 z (shrW .u64 z 27) * 10723151780598845931)
  bitW .xor .u64 z (shrW .u64 z 31)

theorem dr_bel (w : Int) (S : Nat → Prop) : (Dr w).bel S := by unfold Dr; rw [row_bel_cells]; simp only [go_sem]

theorem bitW_u64 (op : BinOp) (a b : Int) : 0 ≤ bitW op .u64 a b ∧ bitW op .u64 a b ≤ 18446744073709551615 := by
  have hw : ∀ n : Int, 0 ≤ IntKind.u64.wrap n ∧ IntKind.u64.wrap n ≤ 18446744073709551615 := fun n => by simp only [IntKind.wrap, IntKind.bits, IntKind.signed, Bool.false_and, Bool.false_eq_true, if_false]; omega
  unfold bitW bitsOf
  cases op <;> simp only [Option.getD_some, Option.getD_none] <;> first
    | exact hw _
    | omega

def upto (w n : Int) : Int := if n < 1 then 0 else (dmix (dstep w)) % n
theorem upto_in {w n : Int} (h : 1 ≤ n) : 0 ≤ upto w n ∧ upto w n < n := by
  unfold upto
  rw [if_neg (by omega)]
  exact ⟨Int.emod_nonneg _ (by omega), Int.emod_lt_of_pos _ (by omega)⟩
def btw (w lo hi : Int) : Int := lo + upto w (hi - lo + 1)
theorem btw_in {w lo hi : Int} (h : lo ≤ hi) : lo ≤ btw w lo hi ∧ btw w lo hi ≤ hi := by
  have := upto_in (w := w) (n := hi - lo + 1) (by omega)
  unfold btw; omega

def feed (w : Int) : List Int → Int
  | [] => w
  | x :: xs => feed (dstep (bitW .xor .u64 w (IntKind.u64.wrap x))) xs
def seedW (xs : List Int) : Int := feed (IntKind.u64.wrap (IntKind.u64.wrap xs.length + 1374496523)) xs

structure Rg where
  lo : Int
  hi : Int
  deriving Inhabited, DecidableEq

def Rg.v (r : Rg) : AVal := .agg [.int .i64 r.lo, .int .i64 r.hi]
@[go_sem] theorem rg_bel_eq (r : Rg) (S : Nat → Prop) : Bel S r.v = True := by unfold Rg.v; simp only [go_sem]
@[go_sem] theorem rg_nv (r : Rg) : NV r.v = True := by unfold Rg.v; simp only [go_sem]
@[go_sem] theorem dr_bel_eq (w : Int) (S : Nat → Prop) : (Dr w).bel S = True := eq_true (dr_bel w S)
theorem w64 {n : Int} (h : -9223372036854775808 ≤ n ∧ n ≤ 9223372036854775807) : IntKind.i64.wrap n = n := IntWalk.i64_in _ h
end Go.Proofs

namespace Go.Proofs
open Go Go.Sx

structure Pl where
  w : Nat
  h : Nat
  rd : Bool
  cs : List Int
  deriving Inhabited, DecidableEq

def besW (rd : Bool) (x : Nat) : Int := if rd then 2 * ((x : Int) + 1) else 1
def abvW (rd : Bool) (x : Nat) : Int := if rd then 2 * (x : Int) + 1 else 1

def nbs (p : Pl) (i : Nat) : List (Nat × Int) :=
  (if 0 < i % p.w then [(i - 1, besW p.rd (i % p.w - 1))] else []) ++
  ((if i % p.w + 1 < p.w then [(i + 1, besW p.rd (i % p.w))] else []) ++
  ((if 0 < i / p.w then [(i - p.w, abvW p.rd (i % p.w))] else []) ++
  (if i / p.w + 1 < p.h then [(i + p.w, abvW p.rd (i % p.w))] else [])))

def wsum : List (Nat × Int) → (Nat → Int) → Int
  | [], _ => 0
  | q :: l, f => q.2 * f q.1 + wsum l f
def wtot (l : List (Nat × Int)) : Int := wsum l fun _ => 1

theorem wsum_append (l m : List (Nat × Int)) (f : Nat → Int) : wsum (l ++ m) f = wsum l f + wsum m f := by
  induction l with
  | nil => simp [wsum]
  | cons q l ih => simp only [List.cons_append, wsum, ih]; omega

theorem wsum_congr {l : List (Nat × Int)} {f g : Nat → Int} (h : ∀ q ∈ l, f q.1 = g q.1) : wsum l f = wsum l g := by
  induction l with
  | nil => rfl
  | cons q l ih => simp only [wsum, h q (by simp), ih fun q hq => h q (by simp [hq])]

theorem wsum_mono {l : List (Nat × Int)} {f g : Nat → Int} (h : ∀ q ∈ l, 0 ≤ q.2 ∧ f q.1 ≤ g q.1) : wsum l f ≤ wsum l g := by
  induction l with
  | nil => exact Int.le_refl _
  | cons q l ih =>
    have h1 := h q (by simp)
    have h2 := ih fun q hq => h q (by simp [hq])
    have h3 := Int.mul_le_mul_of_nonneg_left h1.2 h1.1
    simp only [wsum]; omega

theorem wsum_const (l : List (Nat × Int)) (c : Int) : (wsum l fun _ => c) = wtot l * c := by
  unfold wtot
  induction l with
  | nil => simp [wsum]
  | cons q l ih => simp only [wsum, ih, Int.add_mul, Int.mul_one]

theorem wsum_add (l : List (Nat × Int)) (f g : Nat → Int) : (wsum l fun n => f n + g n) = wsum l f + wsum l g := by
  induction l with
  | nil => rfl
  | cons q l ih => simp only [wsum, ih, Int.mul_add]; omega

theorem wsum_neg (l : List (Nat × Int)) (f : Nat → Int) : (wsum l fun n => - f n) = - wsum l f := by
  induction l with
  | nil => rfl
  | cons q l ih => simp only [wsum, ih, Int.mul_neg]; omega

theorem wsum_sub (l : List (Nat × Int)) (f g : Nat → Int) : (wsum l fun n => f n - g n) = wsum l f - wsum l g := by
  have := wsum_add l f fun n => - g n
  rw [wsum_neg] at this
  simpa [Int.sub_eq_add_neg] using this

theorem wsum_mul (l : List (Nat × Int)) (c : Int) (f : Nat → Int) : (wsum l fun n => c * f n) = c * wsum l f := by
  induction l with
  | nil => simp [wsum]
  | cons q l ih => simp only [wsum, ih, Int.mul_add]; rw [Int.mul_left_comm]

theorem cell_lt {w h i : Nat} (hi : i < w * h) : i % w < w ∧ i / w < h ∧ i / w * w + i % w = i := by
  have hw : 0 < w := by
    rcases Nat.eq_zero_or_pos w with h0 | h0
    · rw [h0] at hi; omega
    · exact h0
  exact ⟨Nat.mod_lt _ hw, Nat.div_lt_of_lt_mul hi, by rw [Nat.mul_comm]; exact Nat.div_add_mod i w⟩

theorem cell_at {w x y : Nat} (hx : x < w) : (y * w + x) % w = x ∧ (y * w + x) / w = y := by
  have hw : 0 < w := by omega
  constructor
  · rw [Nat.add_comm, Nat.add_mul_mod_self_right, Nat.mod_eq_of_lt hx]
  · rw [Nat.add_comm, Nat.add_mul_div_right _ _ hw, Nat.div_eq_of_lt hx, Nat.zero_add]

theorem cell_in {w h x y : Nat} (hx : x < w) (hy : y < h) : y * w + x < w * h := by
  have : (y + 1) * w ≤ h * w := Nat.mul_le_mul_right _ hy
  rw [Nat.add_mul, Nat.one_mul] at this
  rw [Nat.mul_comm w h]; omega

theorem nbs_at (p : Pl) {x y : Nat} (hx : x < p.w) : nbs p (y * p.w + x) =
    (if 0 < x then [(y * p.w + (x - 1), besW p.rd (x - 1))] else []) ++ ((if x + 1 < p.w then [(y * p.w + (x + 1), besW p.rd x)] else []) ++
    ((if 0 < y then [((y - 1) * p.w + x, abvW p.rd x)] else []) ++ (if y + 1 < p.h then [((y + 1) * p.w + x, abvW p.rd x)] else []))) := by
  obtain ⟨e1, e2⟩ := cell_at (y := y) hx
  unfold nbs
  rw [e1, e2]
  congr 1
  · split
    · rename_i h; rw [show y * p.w + x - 1 = y * p.w + (x - 1) by omega]
    · rfl
  congr 1
  congr 1
  · split
    · rename_i h
      have : y * p.w = (y - 1) * p.w + p.w := by
        have : y = y - 1 + 1 := by omega
        conv => lhs; rw [this, Nat.add_mul, Nat.one_mul]
      rw [show y * p.w + x - p.w = (y - 1) * p.w + x by omega]
    · rfl
  · split
    · rw [show y * p.w + x + p.w = (y + 1) * p.w + x by rw [Nat.add_mul]; omega]
    · rfl

inductive Nb (p : Pl) : Nat → Nat → Nat → Nat → Int → Prop where
  | left (x y : Nat) : x + 1 < p.w → Nb p (x + 1) y x y (besW p.rd x)
  | right (x y : Nat) : x + 1 < p.w → Nb p x y (x + 1) y (besW p.rd x)
  | up (x y : Nat) : y + 1 < p.h → Nb p x (y + 1) x y (abvW p.rd x)
  | down (x y : Nat) : y + 1 < p.h → Nb p x y x (y + 1) (abvW p.rd x)

theorem nbs_mem (p : Pl) {x y : Nat} (hx : x < p.w) (hy : y < p.h) (q : Nat × Int) : q ∈ nbs p (y * p.w + x) ↔ ∃ x' y', Nb p x y x' y' q.2 ∧ q.1 = y' * p.w + x' := by
  rw [nbs_at p hx]
  constructor
  · intro h
    simp only [List.mem_append] at h
    rcases h with h | h | h | h
    · split at h
      · simp only [List.mem_singleton] at h
        subst h
        obtain ⟨z, rfl⟩ : ∃ z, x = z + 1 := ⟨x - 1, by omega⟩
        exact ⟨_, _, .left z y hx, rfl⟩
      · simp at h
    · split at h
      · simp only [List.mem_singleton] at h
        subst h
        exact ⟨_, _, .right x y (by assumption), rfl⟩
      · simp at h
    · split at h
      · simp only [List.mem_singleton] at h
        subst h
        obtain ⟨z, rfl⟩ : ∃ z, y = z + 1 := ⟨y - 1, by omega⟩
        exact ⟨_, _, .up x z hy, rfl⟩
      · simp at h
    · split at h
      · simp only [List.mem_singleton] at h
        subst h
        exact ⟨_, _, .down x y (by assumption), rfl⟩
      · simp at h
  · rintro ⟨x', y', h, e⟩
    obtain ⟨n, wt⟩ := q
    dsimp only at h e
    subst e
    cases h with
    | left x y h => simp
    | right _ _ h => simp [h]
    | up x y h => simp
    | down x y h => simp [h]

theorem Nb.symm {p : Pl} {x y x' y' : Nat} {wt : Int} (h : Nb p x y x' y' wt) : Nb p x' y' x y wt := by
  cases h with
  | left a b h => exact .right _ _ h
  | right a b h => exact .left _ _ h
  | up a b h => exact .down _ _ h
  | down a b h => exact .up _ _ h

theorem Nb.in {p : Pl} {x y x' y' : Nat} {wt : Int} (h : Nb p x y x' y' wt) (hx : x < p.w) (hy : y < p.h) : x' < p.w ∧ y' < p.h := by
  cases h <;> omega

theorem Nb.ne {p : Pl} {x y x' y' : Nat} {wt : Int} (h : Nb p x y x' y' wt) : ¬ (x' = x ∧ y' = y) := by
  cases h <;> omega

theorem besW_in (rd : Bool) (x : Nat) (hx : x ≤ 15) : 1 ≤ besW rd x ∧ besW rd x ≤ 32 := by
  unfold besW; split <;> omega
theorem abvW_in (rd : Bool) (x : Nat) (hx : x ≤ 15) : 1 ≤ abvW rd x ∧ abvW rd x ≤ 32 := by
  unfold abvW; split <;> omega

theorem Nb.wt {p : Pl} {x y x' y' : Nat} {wt : Int} (h : Nb p x y x' y' wt) (hw : p.w ≤ 16) (hx : x < p.w) : 1 ≤ wt ∧ wt ≤ 32 := by
  cases h with
  | left x y h => exact besW_in _ _ (by omega)
  | right x y h => exact besW_in _ _ (by omega)
  | up x y h => exact abvW_in _ _ (by omega)
  | down x y h => exact abvW_in _ _ (by omega)

theorem nbs_in (p : Pl) (hw : p.w ≤ 16) {i : Nat} (hi : i < p.w * p.h) : ∀ q ∈ nbs p i, q.1 < p.w * p.h ∧ 1 ≤ q.2 ∧ q.2 ≤ 32 ∧ (i, q.2) ∈ nbs p q.1 ∧ q.1 ≠ i := by
  obtain ⟨h1, h2, h3⟩ := cell_lt hi
  intro q hq
  rw [← h3] at hq
  obtain ⟨x', y', hn, he⟩ := (nbs_mem p h1 h2 q).1 hq
  obtain ⟨h4, h5⟩ := hn.in h1 h2
  obtain ⟨h6, h7⟩ := hn.wt hw h1
  refine ⟨by rw [he]; exact cell_in h4 h5, h6, h7, ?_, ?_⟩
  · rw [he]
    refine (nbs_mem p h4 h5 _).2 ⟨_, _, hn.symm, ?_⟩
    exact h3.symm
  · rw [he]
    conv => rhs; rw [← h3]
    intro e
    have m1 := (cell_at (y := y') h4); have m2 := (cell_at (y := i / p.w) h1)
    rw [e] at m1
    have e1 : x' = i % p.w := by rw [← m1.1, m2.1]
    have e2 : y' = i / p.w := by rw [← m1.2, m2.2]
    exact hn.ne ⟨e1, e2⟩

theorem nbs_len (p : Pl) (i : Nat) : (nbs p i).length ≤ 4 := by
  unfold nbs
  simp only [List.length_append]
  split <;> split <;> split <;> split <;> simp

theorem grid_conn (p : Pl) (S : Nat → Prop) (h0 : ∃ i, i < p.w * p.h ∧ S i) (hs : ∀ i, i < p.w * p.h → S i → ∀ q ∈ nbs p i, S q.1) : ∀ i, i < p.w * p.h → S i := by
  obtain ⟨i, hi, hSi⟩ := h0
  obtain ⟨h1, h2, h3⟩ := cell_lt hi
  have st : ∀ {x y x' y' wt}, x < p.w → y < p.h → Nb p x y x' y' wt → S (y * p.w + x) → S (y' * p.w + x') := fun hx hy hn hS =>
    hs _ (cell_in hx hy) hS _ ((nbs_mem p hx hy (_, _)).2 ⟨_, _, hn, rfl⟩)
  have a1 : ∀ x, x < p.w → S (i / p.w * p.w + x) → S (i / p.w * p.w + 0) := by
    intro x
    induction x with
    | zero => intro _ h; exact h
    | succ x ih => intro hx h; exact ih (by omega) (st hx h2 (.left x _ hx) h)
  have a2 := a1 _ h1 (by rw [h3]; exact hSi)
  have a3 : ∀ y, y < p.h → S (y * p.w + 0) → S (0 * p.w + 0) := by
    intro y
    induction y with
    | zero => intro _ h; exact h
    | succ y ih => intro hy h; exact ih (by omega) (st (by omega) hy (.up 0 y hy) h)
  have a4 := a3 _ h2 a2
  have a5 : ∀ y, y < p.h → S (y * p.w + 0) := by
    intro y
    induction y with
    | zero => intro _; exact a4
    | succ y ih => intro hy; exact st (by omega) (by omega) (.down 0 y hy) (ih (by omega))
  have a6 : ∀ y, y < p.h → ∀ x, x < p.w → S (y * p.w + x) := by
    intro y hy x
    induction x with
    | zero => intro _; exact a5 y hy
    | succ x ih => intro hx; exact st (by omega) hy (.right x y hx) (ih (by omega))
  intro j hj
  obtain ⟨k1, k2, k3⟩ := cell_lt hj
  rw [← k3]
  exact a6 _ k2 _ k1

theorem nbs_some (p : Pl) {i : Nat} (hi : i < p.w * p.h) (h2 : 2 ≤ p.w * p.h) : nbs p i ≠ [] := by
  intro h
  have := grid_conn p (fun j => j = i) ⟨i, hi, rfl⟩ (fun j _ hji q hq => by subst hji; rw [h] at hq; simp at hq)
  have h0 := this 0 (by omega)
  have h1 := this 1 (by omega)
  omega

def SubH (p : Pl) (E : Nat → Prop) (f : Nat → Int) : Prop := ∀ i, i < p.w * p.h → ¬ E i → wtot (nbs p i) * f i ≤ wsum (nbs p i) f
def SupH (p : Pl) (E : Nat → Prop) (f : Nat → Int) : Prop := ∀ i, i < p.w * p.h → ¬ E i → wsum (nbs p i) f ≤ wtot (nbs p i) * f i

theorem SubH.neg {p : Pl} {E : Nat → Prop} {f : Nat → Int} (h : SubH p E f) : SupH p E fun i => - f i := fun i hi hE => by
  have := h i hi hE
  rw [wsum_neg, Int.mul_neg]; omega
theorem SupH.neg {p : Pl} {E : Nat → Prop} {f : Nat → Int} (h : SupH p E f) : SubH p E fun i => - f i := fun i hi hE => by
  have := h i hi hE
  rw [wsum_neg, Int.mul_neg]; omega
theorem SubH.add {p : Pl} {E : Nat → Prop} {f g : Nat → Int} (h : SubH p E f) (h' : SubH p E g) : SubH p E fun i => f i + g i := fun i hi hE => by
  have := h i hi hE
  have := h' i hi hE
  rw [wsum_add, Int.mul_add]; omega
theorem SupH.add {p : Pl} {E : Nat → Prop} {f g : Nat → Int} (h : SupH p E f) (h' : SupH p E g) : SupH p E fun i => f i + g i := fun i hi hE => by
  have := h i hi hE
  have := h' i hi hE
  rw [wsum_add, Int.mul_add]; omega

theorem wtot_in (p : Pl) (hw : p.w ≤ 16) {i : Nat} (hi : i < p.w * p.h) : 0 ≤ wtot (nbs p i) ∧ wtot (nbs p i) ≤ 128 ∧ (2 ≤ p.w * p.h → 1 ≤ wtot (nbs p i)) := by
  have h := nbs_in p hw hi
  have hl := nbs_len p i
  have hs := nbs_some p hi
  have gen : ∀ l : List (Nat × Int), (∀ q ∈ l, 1 ≤ q.2 ∧ q.2 ≤ 32) → (l.length : Int) ≤ wtot l ∧ wtot l ≤ 32 * l.length := by
    intro l
    induction l with
    | nil => intro _; simp [wtot, wsum]
    | cons q l ih =>
      intro h
      have h1 := h q (by simp)
      have h2 := ih fun q hq => h q (by simp [hq])
      have e : wtot (q :: l) = q.2 + wtot l := by simp only [wtot, wsum, Int.mul_one]
      rw [e, List.length_cons]; omega
  have g := gen _ fun q hq => ⟨(h q hq).2.1, (h q hq).2.2.1⟩
  refine ⟨by omega, by omega, fun h2 => ?_⟩
  have : 0 < (nbs p i).length := List.length_pos_iff.2 (hs h2)
  omega

theorem wsum_in {l : List (Nat × Int)} {f : Nat → Int} {a b : Int} (h : ∀ q ∈ l, 0 ≤ q.2 ∧ a ≤ f q.1 ∧ f q.1 ≤ b) : wtot l * a ≤ wsum l f ∧ wsum l f ≤ wtot l * b := by
  rw [← wsum_const, ← wsum_const]
  exact ⟨wsum_mono fun q hq => ⟨(h q hq).1, (h q hq).2.1⟩, wsum_mono fun q hq => ⟨(h q hq).1, (h q hq).2.2⟩⟩
end Go.Proofs

namespace Go.Proofs
open Go Go.Sx

def gt (l : List Int) (i : Nat) : Int := l.getD i 0
def Pl.n (p : Pl) : Nat := p.w * p.h
def Pl.el (p : Pl) (i : Nat) : Prop := gt p.cs i ≠ 0
instance (p : Pl) (i : Nat) : Decidable (p.el i) := by unfold Pl.el; infer_instance

structure PlOK (p : Pl) : Prop where
  w : 1 ≤ p.w ∧ p.w ≤ 16
  h : 1 ≤ p.h ∧ p.h ≤ 16
  len : p.cs.length = p.w * p.h
  cell : ∀ c ∈ p.cs, 0 ≤ c ∧ c ≤ 6
  some : ∃ i, i < p.w * p.h ∧ p.el i

def vo (v : List Int) (c : Int) : Int := gt v (c - 1).toNat
def VOK (v : List Int) : Prop := ∀ x ∈ v, -1000000 ≤ x ∧ x ≤ 1000000
def VLen (p : Pl) (v : List Int) : Prop := ∀ c ∈ p.cs, c ≤ v.length

theorem gt_mem {l : List Int} {i : Nat} (h : i < l.length) : gt l i ∈ l := by
  unfold gt; rw [List.getD_eq_getElem?_getD, List.getElem?_eq_getElem h]; exact List.getElem_mem h
theorem gt_get {l : List Int} {i : Nat} (h : i < l.length) : l[i]? = some (gt l i) := by
  unfold gt; rw [List.getD_eq_getElem?_getD, List.getElem?_eq_getElem h]; rfl
theorem gt_set (l : List Int) (i j : Nat) (x : Int) (h : i < l.length) : gt (l.set i x) j = if j = i then x else gt l j := by
  unfold gt
  rw [List.getD_eq_getElem?_getD, List.getD_eq_getElem?_getD]
  by_cases e : j = i
  · subst e; rw [List.getElem?_set_self h]; simp
  · rw [List.getElem?_set_ne (by omega)]; simp [e]
theorem gt_ext {a b : List Int} (hl : a.length = b.length) (h : ∀ i, i < a.length → gt a i = gt b i) : a = b := by
  refine List.ext_getElem hl fun i h1 h2 => ?_
  have := h i h1
  unfold gt at this
  rw [List.getD_eq_getElem?_getD, List.getD_eq_getElem?_getD, List.getElem?_eq_getElem h1, List.getElem?_eq_getElem h2] at this
  exact this
def ngs (l : List Int) : List Int := l.map fun x => - x
theorem ngs_len (l : List Int) : (ngs l).length = l.length := by simp [ngs]
theorem gt_ngs (l : List Int) (i : Nat) : gt (ngs l) i = - gt l i := by
  unfold gt ngs
  rw [List.getD_eq_getElem?_getD, List.getD_eq_getElem?_getD, List.getElem?_map]
  cases l[i]? <;> simp
theorem ngs_ngs (l : List Int) : ngs (ngs l) = l := by
  have : ((fun x : Int => -x) ∘ fun x => -x) = id := funext fun x => Int.neg_neg x
  simp [ngs, this]
theorem vo_ngs (v : List Int) (c : Int) : vo (ngs v) c = - vo v c := gt_ngs _ _
theorem VOK.neg {v : List Int} (h : VOK v) : VOK (ngs v) := fun x hx => by
  obtain ⟨y, hy, rfl⟩ := List.mem_map.1 hx
  have := h y hy; omega
theorem vo_in {v : List Int} (h : VOK v) (c : Int) : -1000000 ≤ vo v c ∧ vo v c ≤ 1000000 := by
  unfold vo
  by_cases hc : (c - 1).toNat < v.length
  · exact h _ (gt_mem hc)
  · unfold gt
    rw [List.getD_eq_getElem?_getD, List.getElem?_eq_none (by omega)]
    simp

def rdn (n b : Int) : Int := n / b
def rup (n b : Int) : Int := - (- n / b)

def stp (p : Pl) (rnd : Int → Int → Int) (a : List Int) (i : Nat) : List Int := if gt p.cs i = 0 then a.set i (rnd (wsum (nbs p i) (gt a)) (wtot (nbs p i))) else a
def swpTo (p : Pl) (rnd : Int → Int → Int) (a : List Int) : Nat → List Int
  | 0 => a
  | k + 1 => stp p rnd (swpTo p rnd a k) k
def swp (p : Pl) (rnd : Int → Int → Int) (a : List Int) : List Int := swpTo p rnd a p.cs.length
def itr (p : Pl) (rnd : Int → Int → Int) (a : List Int) : Nat → List Int
  | 0 => a
  | k + 1 => swp p rnd (itr p rnd a k)

def at0 (p : Pl) (v : List Int) (first : Int) : List Int := p.cs.map fun c => if c = 0 then first else vo v c
def endLs (v : List Int) (a : Int) : List Int → Int
  | [] => a
  | c :: cs => endLs v (if c = 0 then a else if vo v c < a then vo v c else a) cs
def endMs (v : List Int) (a : Int) : List Int → Int
  | [] => a
  | c :: cs => endMs v (if c = 0 then a else if vo v c > a then vo v c else a) cs
def endL (p : Pl) (v : List Int) : Int := endLs v 1000000 p.cs
def endM (p : Pl) (v : List Int) : Int := endMs v (-1000000) p.cs

def lowB (p : Pl) (v : List Int) (k : Nat) : List Int := itr p rdn (at0 p v (endL p v)) k
def highB (p : Pl) (v : List Int) (k : Nat) : List Int := itr p rup (at0 p v (endM p v)) k

theorem stp_len (p : Pl) (rnd) (a : List Int) (i : Nat) : (stp p rnd a i).length = a.length := by unfold stp; split <;> simp
theorem swpTo_len (p : Pl) (rnd) (a : List Int) : ∀ k, (swpTo p rnd a k).length = a.length
  | 0 => rfl
  | k + 1 => by rw [swpTo, stp_len, swpTo_len p rnd a k]
theorem stp_other (p : Pl) (rnd) (a : List Int) {i j : Nat} (h : j ≠ i) : gt (stp p rnd a i) j = gt a j := by
  unfold stp
  split
  · by_cases hi : i < a.length
    · rw [gt_set _ _ _ _ hi, if_neg h]
    · rw [List.set_eq_of_length_le (by omega)]
  · rfl
theorem swpTo_later (p : Pl) (rnd) (a : List Int) {j : Nat} : ∀ k, k ≤ j → gt (swpTo p rnd a k) j = gt a j
  | 0, _ => rfl
  | k + 1, h => by rw [swpTo, stp_other _ _ _ (by omega), swpTo_later p rnd a k (by omega)]
theorem swpTo_moved (p : Pl) (rnd) (a : List Int) {k : Nat} (hk : k < a.length) : (swpTo p rnd a (k + 1) ≠ a) ↔ (swpTo p rnd a k ≠ a ∨ (gt p.cs k = 0 ∧ rnd (wsum (nbs p k) (gt (swpTo p rnd a k))) (wtot (nbs p k)) ≠ gt (swpTo p rnd a k) k)) := by
  have hl := swpTo_len p rnd a k
  rw [swpTo]
  by_cases h1 : swpTo p rnd a k = a
  · rw [h1]
    unfold stp
    by_cases h2 : gt p.cs k = 0
    · rw [if_pos h2]
      simp only [h2, ne_eq, not_true_eq_false, false_or, true_and]
      constructor
      · intro h e
        apply h
        refine gt_ext (by simp) fun i hi => ?_
        rw [gt_set _ _ _ _ hk]
        by_cases e2 : i = k
        · subst e2; rw [if_pos rfl]; exact e
        · rw [if_neg e2]
      · intro h e
        apply h
        have := congrArg (fun l => gt l k) e
        rwa [gt_set _ _ _ _ hk, if_pos rfl] at this
    · simp [h2]
  · constructor
    · intro _; exact .inl h1
    · intro _ e
      apply h1
      refine gt_ext hl fun i hi => ?_
      rw [hl] at hi
      by_cases e2 : i = k
      · subst e2; exact swpTo_later p rnd a i (Nat.le_refl _)
      · have := congrArg (fun l => gt l i) e
        rwa [stp_other _ _ _ e2] at this

theorem stp_ngs (p : Pl) (a : List Int) (i : Nat) : stp p rup (ngs a) i = ngs (stp p rdn a i) := by
  unfold stp
  split
  · have e : wsum (nbs p i) (gt (ngs a)) = - wsum (nbs p i) (gt a) := by rw [← wsum_neg]; exact wsum_congr fun q _ => gt_ngs _ _
    rw [e]
    unfold rup rdn ngs
    rw [Int.neg_neg, List.map_set]
  · rfl
theorem swpTo_ngs (p : Pl) (a : List Int) : ∀ k, swpTo p rup (ngs a) k = ngs (swpTo p rdn a k)
  | 0 => rfl
  | k + 1 => by rw [swpTo, swpTo, swpTo_ngs p a k, stp_ngs]
theorem itr_ngs (p : Pl) (a : List Int) : ∀ k, itr p rup (ngs a) k = ngs (itr p rdn a k)
  | 0 => rfl
  | k + 1 => by
    rw [itr, itr, itr_ngs p a k]
    exact swpTo_ngs p _ _
theorem endLs_ngs (v : List Int) : ∀ (cs : List Int) (a : Int), endLs (ngs v) (-a) cs = - endMs v a cs
  | [], a => rfl
  | c :: cs, a => by
    rw [endLs, endMs, ← endLs_ngs v cs, vo_ngs]
    congr 1
    by_cases h : c = 0
    · simp [h]
    · simp only [h, if_false]
      by_cases h2 : vo v c > a
      · rw [if_pos h2, if_pos (by omega)]
      · rw [if_neg h2, if_neg (by omega)]
theorem endL_ngs (p : Pl) (v : List Int) : endL p (ngs v) = - endM p v := by
  have := endLs_ngs v p.cs (-1000000)
  rwa [Int.neg_neg] at this
theorem endM_ngs (p : Pl) (v : List Int) : endM p (ngs v) = - endL p v := by
  have := endL_ngs p (ngs v)
  rw [ngs_ngs] at this
  omega
theorem at0_ngs (p : Pl) (v : List Int) (f : Int) : at0 p (ngs v) (-f) = ngs (at0 p v f) := by
  unfold at0
  simp only [ngs, List.map_map]
  refine List.map_congr_left fun c _ => ?_
  simp only [Function.comp]
  split
  · rfl
  · exact vo_ngs v c
theorem highB_eq (p : Pl) (v : List Int) (k : Nat) : highB p v k = ngs (lowB p (ngs v) k) := by
  unfold highB lowB
  rw [endL_ngs, ← itr_ngs, at0_ngs, ngs_ngs]
theorem endLs_le (v : List Int) : ∀ (cs : List Int) (a : Int), endLs v a cs ≤ a ∧ ∀ c ∈ cs, c ≠ 0 → endLs v a cs ≤ vo v c
  | [], a => ⟨Int.le_refl _, fun c hc => by simp at hc⟩
  | c :: cs, a => by
    obtain ⟨h1, h2⟩ := endLs_le v cs (if c = 0 then a else if vo v c < a then vo v c else a)
    rw [endLs]
    have h3 : (if c = 0 then a else if vo v c < a then vo v c else a) ≤ a := by split <;> (try split) <;> omega
    refine ⟨by omega, fun d hd hn => ?_⟩
    rcases List.mem_cons.1 hd with rfl | hd
    · have : (if d = 0 then a else if vo v d < a then vo v d else a) ≤ vo v d := by rw [if_neg hn]; split <;> omega
      omega
    · exact h2 d hd hn
theorem endLs_in {v : List Int} (hv : VOK v) : ∀ (cs : List Int) (a : Int), -1000000 ≤ a → a ≤ 1000000 → -1000000 ≤ endLs v a cs ∧ endLs v a cs ≤ 1000000
  | [], a, h, h' => ⟨h, h'⟩
  | c :: cs, a, h, h' => by
    rw [endLs]
    have := vo_in hv c
    refine endLs_in hv cs _ ?_ ?_ <;> (split <;> (try split) <;> omega)
theorem endL_in {v : List Int} (hv : VOK v) (p : Pl) : -1000000 ≤ endL p v ∧ endL p v ≤ 1000000 := endLs_in hv _ _ (by omega) (by omega)
theorem endM_in {v : List Int} (hv : VOK v) (p : Pl) : -1000000 ≤ endM p v ∧ endM p v ≤ 1000000 := by
  have := endL_in hv.neg p
  rw [endL_ngs] at this; omega
theorem endL_le (p : Pl) (v : List Int) {c : Int} (hc : c ∈ p.cs) (h : c ≠ 0) : endL p v ≤ vo v c := (endLs_le v _ _).2 c hc h
theorem endM_ge (p : Pl) (v : List Int) {c : Int} (hc : c ∈ p.cs) (h : c ≠ 0) : vo v c ≤ endM p v := by
  have := endL_le p (ngs v) hc h
  rw [endL_ngs, vo_ngs] at this; omega

structure LowOK (p : Pl) (v : List Int) (a : List Int) : Prop where
  len : a.length = p.w * p.h
  elec : ∀ i, i < p.w * p.h → p.el i → gt a i = vo v (gt p.cs i)
  sub : SubH p p.el (gt a)
  bd : ∀ i, i < p.w * p.h → endL p v ≤ gt a i ∧ gt a i ≤ endM p v

theorem PlOK.mem {p : Pl} (hp : PlOK p) {i : Nat} (hi : i < p.w * p.h) : gt p.cs i ∈ p.cs := gt_mem (by rw [hp.len]; exact hi)
theorem PlOK.two {p : Pl} (hp : PlOK p) {i : Nat} (hi : i < p.w * p.h) (h : gt p.cs i = 0) : 2 ≤ p.w * p.h := by
  obtain ⟨j, hj, hE⟩ := hp.some
  have : j ≠ i := fun e => by subst e; exact hE h
  omega
theorem PlOK.ends {p : Pl} (hp : PlOK p) (v : List Int) : endL p v ≤ endM p v := by
  obtain ⟨j, hj, hE⟩ := hp.some
  have h1 := endL_le p v (hp.mem hj) hE
  have h2 := endM_ge p v (hp.mem hj) hE
  omega

theorem gt_at0 {p : Pl} (v : List Int) (f : Int) {i : Nat} (hi : i < p.cs.length) : gt (at0 p v f) i = if gt p.cs i = 0 then f else vo v (gt p.cs i) := by
  have := gt_get hi
  unfold at0
  conv => lhs; unfold gt
  rw [List.getD_eq_getElem?_getD, List.getElem?_map, this]
  rfl

theorem low0_ok {p : Pl} (hp : PlOK p) (v : List Int) : LowOK p v (at0 p v (endL p v)) := by
  have hbd : ∀ i, i < p.w * p.h → endL p v ≤ gt (at0 p v (endL p v)) i ∧ gt (at0 p v (endL p v)) i ≤ endM p v := fun i hi => by
    rw [gt_at0 v _ (by rw [hp.len]; exact hi)]
    split
    · have := hp.ends v; omega
    · rename_i h; exact ⟨endL_le p v (hp.mem hi) h, endM_ge p v (hp.mem hi) h⟩
  refine ⟨by simp [at0, hp.len], fun i hi hE => ?_, fun i hi hE => ?_, hbd⟩
  · rw [gt_at0 v _ (by rw [hp.len]; exact hi), if_neg hE]
  · have h0 : gt p.cs i = 0 := Classical.not_not.1 hE
    rw [gt_at0 v _ (by rw [hp.len]; exact hi), if_pos h0, ← wsum_const]
    exact wsum_mono fun q hq => by
      obtain ⟨k1, k2, _⟩ := nbs_in p hp.w.2 hi q hq
      exact ⟨by omega, (hbd _ k1).1⟩

theorem stp_ok {p : Pl} (hp : PlOK p) {v a : List Int} (h : LowOK p v a) {k : Nat} (hk : k < p.w * p.h) : LowOK p v (stp p rdn a k) ∧ ∀ i, gt a i ≤ gt (stp p rdn a k) i := by
  by_cases h0 : gt p.cs k = 0
  rotate_left
  · have e : stp p rdn a k = a := by unfold stp; rw [if_neg h0]
    rw [e]; exact ⟨h, fun i => Int.le_refl _⟩
  have hN := nbs_in p hp.w.2 hk
  obtain ⟨_, _, hW⟩ := wtot_in p hp.w.2 hk
  have hW := hW (hp.two hk h0)
  have hs := h.sub k hk (fun hE => hE h0)
  have hgt : ∀ i, gt (stp p rdn a k) i = if i = k then rdn (wsum (nbs p k) (gt a)) (wtot (nbs p k)) else gt a i := fun i => by
    unfold stp; rw [if_pos h0, gt_set _ _ _ _ (by rw [h.len]; exact hk)]
  have hup : gt a k ≤ rdn (wsum (nbs p k) (gt a)) (wtot (nbs p k)) := by
    unfold rdn
    exact Int.le_ediv_of_mul_le (by omega) (by rw [Int.mul_comm]; exact hs)
  have hdn : wtot (nbs p k) * rdn (wsum (nbs p k) (gt a)) (wtot (nbs p k)) ≤ wsum (nbs p k) (gt a) := by
    unfold rdn
    exact Int.mul_ediv_self_le (by omega)
  have hbd := wsum_in (l := nbs p k) (f := gt a) (a := endL p v) (b := endM p v) fun q hq => by
    obtain ⟨k1, k2, _⟩ := hN q hq
    exact ⟨by omega, h.bd _ k1⟩
  have hle : rdn (wsum (nbs p k) (gt a)) (wtot (nbs p k)) ≤ endM p v := by
    unfold rdn
    have : wsum (nbs p k) (gt a) < (endM p v + 1) * wtot (nbs p k) := by rw [Int.mul_comm, Int.mul_add]; omega
    have := Int.ediv_lt_of_lt_mul (by omega) this
    omega
  have hmono : ∀ i, gt a i ≤ gt (stp p rdn a k) i := fun i => by
    rw [hgt]; split
    · rename_i e; subst e; exact hup
    · exact Int.le_refl _
  refine ⟨⟨by rw [stp_len, h.len], fun i hi hE => ?_, fun i hi hE => ?_, fun i hi => ?_⟩, hmono⟩
  · rw [hgt, if_neg (fun e => by subst e; exact hE h0)]; exact h.elec i hi hE
  · by_cases e : i = k
    · subst e
      rw [hgt, if_pos rfl]
      refine Int.le_trans hdn (Int.le_of_eq (wsum_congr fun q hq => ?_))
      obtain ⟨_, _, _, _, k5⟩ := hN q hq
      rw [hgt, if_neg k5]
    · rw [hgt, if_neg e]
      refine Int.le_trans (h.sub i hi hE) (wsum_mono fun q hq => ?_)
      obtain ⟨_, k2, _⟩ := nbs_in p hp.w.2 hi q hq
      exact ⟨by omega, hmono _⟩
  · have := hmono i
    have := h.bd i hi
    refine ⟨by omega, ?_⟩
    rw [hgt]; split
    · exact hle
    · omega

theorem swpTo_ok {p : Pl} (hp : PlOK p) {v a : List Int} (h : LowOK p v a) : ∀ k, k ≤ p.w * p.h → LowOK p v (swpTo p rdn a k) ∧ ∀ i, gt a i ≤ gt (swpTo p rdn a k) i
  | 0, _ => ⟨h, fun i => Int.le_refl _⟩
  | k + 1, hk => by
    obtain ⟨h1, h2⟩ := swpTo_ok hp h k (by omega)
    obtain ⟨h3, h4⟩ := stp_ok hp h1 (k := k) (by omega)
    exact ⟨h3, fun i => Int.le_trans (h2 i) (h4 i)⟩

theorem low_ok {p : Pl} (hp : PlOK p) (v : List Int) : ∀ k, LowOK p v (lowB p v k)
  | 0 => low0_ok hp v
  | k + 1 => (swpTo_ok hp (low_ok hp v k) _ (by rw [hp.len]; exact Nat.le_refl _)).1
structure HighOK (p : Pl) (v : List Int) (a : List Int) : Prop where
  len : a.length = p.w * p.h
  elec : ∀ i, i < p.w * p.h → p.el i → gt a i = vo v (gt p.cs i)
  sup : SupH p p.el (gt a)
  bd : ∀ i, i < p.w * p.h → endL p v ≤ gt a i ∧ gt a i ≤ endM p v

theorem LowOK.neg {p : Pl} {v a : List Int} (h : LowOK p (ngs v) a) : HighOK p v (ngs a) := by
  have e : gt (ngs a) = fun i => - gt a i := funext fun i => gt_ngs a i
  refine ⟨by rw [ngs_len, h.len], fun i hi hE => ?_, ?_, fun i hi => ?_⟩
  · rw [gt_ngs, h.elec i hi hE, vo_ngs]; omega
  · rw [e]; exact h.sub.neg
  · have := h.bd i hi
    rw [endL_ngs, endM_ngs] at this
    rw [gt_ngs]; omega
theorem high_ok {p : Pl} (hp : PlOK p) (v : List Int) (k : Nat) : HighOK p v (highB p v k) := by
  rw [highB_eq]; exact (low_ok hp (ngs v) k).neg
def stl (p : Pl) (v : List Int) (k : Nat) : Bool := decide (0 < k ∧ lowB p v k = lowB p v (k - 1) ∧ highB p v k = highB p v (k - 1))
def cnt (p : Pl) (v : List Int) : Nat → Nat
  | 0 => 0
  | n + 1 => if stl p v (cnt p v n) = true then cnt p v n else cnt p v n + 1

theorem cnt_next {p : Pl} {v : List Int} {s : Nat} (h : cnt p v s = s) (hs : stl p v s = false) : cnt p v (s + 1) = s + 1 := by
  rw [cnt, h, hs]; simp
theorem cnt_still {p : Pl} {v : List Int} {s : Nat} (h : cnt p v s = s) (hs : stl p v s = true) : ∀ m, cnt p v (s + m) = s
  | 0 => h
  | m + 1 => by
    show cnt p v (s + m + 1) = s
    rw [cnt, cnt_still h hs m, hs]; simp
end Go.Proofs

namespace Go.Proofs
open Go Go.Sx

theorem wsum_one {g : Nat → Int} {X Y : Int} (hX : 0 ≤ X) (hY : 0 ≤ Y) : ∀ {l : List (Nat × Int)}, (∀ q ∈ l, 1 ≤ q.2 ∧ -X ≤ g q.1) → (∃ q ∈ l, Y ≤ g q.1) → Y - wtot l * X ≤ wsum l g
  | [], _, h => by obtain ⟨q, hq, _⟩ := h; simp at hq
  | q :: l, h, ⟨q0, hq0, h0⟩ => by
    have hq := h q (by simp)
    have hrest : - (wtot l * X) ≤ wsum l g := by
      have h1 := wsum_mono (l := l) (f := fun _ => -X) (g := g) fun r hr => by have := h r (by simp [hr]); exact ⟨by omega, this.2⟩
      rw [wsum_const, Int.mul_neg] at h1
      exact h1
    have ew : wtot (q :: l) * X = q.2 * X + wtot l * X := by
      show (q.2 * 1 + wtot l) * X = _
      rw [Int.mul_one, Int.add_mul]
    have hwX : 0 ≤ q.2 * X := Int.mul_nonneg (by omega) hX
    rw [ew, wsum]
    rcases List.mem_cons.1 hq0 with rfl | hq0
    · have h2 := Int.mul_le_mul_of_nonneg_left h0 (show 0 ≤ q0.2 by omega)
      have h3 := Int.mul_le_mul_of_nonneg_right hq.1 hY
      omega
    · have ih := wsum_one hX hY (l := l) (fun r hr => h r (by simp [hr])) ⟨q0, hq0, h0⟩
      have h2 := Int.mul_le_mul_of_nonneg_left hq.2 (show 0 ≤ q.2 by omega)
      rw [Int.mul_neg] at h2
      omega

def rch (p : Pl) : Nat → Nat → Prop
  | 0, i => p.el i
  | n + 1, i => rch p n i ∨ ∃ q ∈ nbs p i, rch p n q.1
theorem least_of {P : Nat → Prop} (h : ∃ n, P n) : ∃ n, P n ∧ ∀ m, m < n → ¬ P m := by
  obtain ⟨n, hn⟩ := h
  induction n using Nat.strongRecOn with
  | ind n ih =>
    by_cases hm : ∃ m, m < n ∧ P m
    · obtain ⟨m, h1, h2⟩ := hm
      exact ih m h1 h2
    · exact ⟨n, hn, fun m h1 h2 => hm ⟨m, h1, h2⟩⟩
theorem rch_all {p : Pl} (hp : PlOK p) : ∀ i, i < p.w * p.h → ∃ n, rch p n i := by
  refine grid_conn p (fun i => ∃ n, rch p n i) ?_ ?_
  · obtain ⟨i, hi, hE⟩ := hp.some
    exact ⟨i, hi, 0, hE⟩
  · rintro i hi ⟨n, hn⟩ q hq
    obtain ⟨_, _, _, k4, _⟩ := nbs_in p hp.w.2 hi q hq
    exact ⟨n + 1, .inr ⟨_, k4, hn⟩⟩
theorem rank_of {p : Pl} (hp : PlOK p) : ∃ r : Nat → Nat, (∀ i, i < p.w * p.h → p.el i → r i = 0) ∧ ∀ i, i < p.w * p.h → ¬ p.el i → ∃ q ∈ nbs p i, r q.1 < r i := by
  have h := fun i : Nat => (show ∃ n, i < p.w * p.h → rch p n i ∧ ∀ m, m < n → ¬ rch p m i from by
    by_cases hi : i < p.w * p.h
    · obtain ⟨n, h1, h2⟩ := least_of (rch_all hp i hi)
      exact ⟨n, fun _ => ⟨h1, h2⟩⟩
    · exact ⟨0, fun h => absurd h hi⟩)
  refine ⟨fun i => Classical.choose (h i), fun i hi hE => ?_, fun i hi hE => ?_⟩
  · have hs := Classical.choose_spec (h i) hi
    by_cases h0 : Classical.choose (h i) = 0
    · exact h0
    · exact absurd hE (hs.2 0 (by omega))
  · have hs := Classical.choose_spec (h i) hi
    dsimp only
    generalize Classical.choose (h i) = n at *
    match n, hs with
    | 0, hs => exact absurd hs.1 hE
    | n + 1, hs =>
      rcases hs.1 with h1 | ⟨q, hq, h1⟩
      · exact absurd h1 (hs.2 n (by omega))
      · refine ⟨q, hq, ?_⟩
        obtain ⟨k1, _⟩ := nbs_in p hp.w.2 hi q hq
        have hs2 := Classical.choose_spec (h q.1) k1
        by_cases h3 : Classical.choose (h q.1) < n + 1
        · exact h3
        · exact absurd h1 (hs2.2 n (by omega))
theorem bound_of (r : Nat → Nat) : ∀ n, ∃ M, ∀ i, i < n → r i ≤ M
  | 0 => ⟨0, fun i hi => by omega⟩
  | n + 1 => by
    obtain ⟨M, hM⟩ := bound_of r n
    refine ⟨max M (r n), fun i hi => ?_⟩
    by_cases h : i = n
    · subst h; omega
    · have := hM i (by omega); omega

theorem super_of {p : Pl} (hp : PlOK p) : ∃ e : Nat → Int, (∀ i, i < p.w * p.h → p.el i → e i = 0) ∧ (∀ i, i < p.w * p.h → ¬ p.el i → 0 < e i) ∧ ∀ i, i < p.w * p.h → ¬ p.el i → wsum (nbs p i) e < wtot (nbs p i) * e i := by
  obtain ⟨r, r0, r1⟩ := rank_of hp
  obtain ⟨M, hM⟩ := bound_of r (p.w * p.h)
  have hpos : ∀ n : Nat, 0 < (130 : Int) ^ n := fun n => Int.pow_pos (by decide)
  have hmono : ∀ m n : Nat, m ≤ n → (130 : Int) ^ m ≤ 130 ^ n := fun m n h => by
    obtain ⟨k, rfl⟩ : ∃ k, n = m + k := ⟨n - m, by omega⟩
    clear h
    induction k with
    | zero => exact Int.le_refl _
    | succ k ih =>
      have := hpos (m + k)
      rw [← Nat.add_assoc, Int.pow_succ]
      omega
  refine ⟨fun i => 130 ^ M - 130 ^ (M - r i), fun i hi hE => ?_, fun i hi hE => ?_, fun i hi hE => ?_⟩
  · dsimp only
    rw [r0 i hi hE, Nat.sub_zero]; omega
  · dsimp only
    obtain ⟨q, hq, hlt⟩ := r1 i hi hE
    have hMi := hM i hi
    have h1 := hmono (M - r i + 1) M (by omega)
    have h2 := hpos (M - r i)
    rw [Int.pow_succ] at h1
    omega
  · dsimp only
    obtain ⟨q, hq, hlt⟩ := r1 i hi hE
    have hMi := hM i hi
    have hX := hpos (M - r i)
    have hN := nbs_in p hp.w.2 hi
    have hW := wtot_in p hp.w.2 hi
    have key := wsum_one (g := fun n => ((130 : Int) ^ M - 130 ^ (M - r i)) - (130 ^ M - 130 ^ (M - r n))) (X := 130 ^ (M - r i)) (Y := 129 * 130 ^ (M - r i)) (by omega) (by omega) (l := nbs p i)
      (fun s hs => by
        have := hN s hs
        have h1 := hpos (M - r s.1)
        exact ⟨this.2.1, by omega⟩)
      ⟨q, hq, by
        have h1 := hmono (M - r i + 1) (M - r q.1) (by omega)
        rw [Int.pow_succ] at h1
        omega⟩
    rw [wsum_sub, wsum_const] at key
    have h3 := Int.mul_le_mul_of_nonneg_right hW.2.1 (show (0 : Int) ≤ 130 ^ (M - r i) by omega)
    omega
end Go.Proofs

namespace Go.Proofs
open Go Go.Sx

def pw (p : Pl) (i x : Nat) : Int := wsum (nbs p i) fun y => if y = x then 1 else 0
def pmat (p : Pl) (v : Nat → Int) (vac : Nat → Nat) (i j : Nat) : Int :=
  if j = 4 then wsum (nbs p (vac i)) (fun x => if p.el x then v x else 0) else if i = j then wtot (nbs p (vac i)) else - pw p (vac i) (vac j)

structure VacOK (p : Pl) (vac : Nat → Nat) (n : Nat) : Prop where
  inn : ∀ i, i < n → vac i < p.w * p.h ∧ ¬ p.el (vac i)
  inj : ∀ i j, i < n → j < n → vac i = vac j → i = j
  all : ∀ x, x < p.w * p.h → ¬ p.el x → ∃ i, i < n ∧ vac i = x

theorem wsum_sumT (l : List (Nat × Int)) (f : Nat → Nat → Int) : ∀ n, wsum l (fun x => sumT (fun j => f j x) n) = sumT (fun j => wsum l (f j)) n
  | 0 => by show wsum l (fun _ => 0) = 0; rw [wsum_const]; simp
  | n + 1 => by
    show wsum l (fun x => sumT (fun j => f j x) n + f n x) = _
    rw [wsum_add, wsum_sumT l f n]; rfl
theorem sumT_pick (c : Int) {g : Nat → Nat} {x : Nat} : ∀ n, (∀ i j, i < n → j < n → g i = g j → i = j) → sumT (fun j => if x = g j then c else 0) n = if ∃ j, j < n ∧ x = g j then c else 0
  | 0, _ => by rw [if_neg (by rintro ⟨j, h, _⟩; omega)]; rfl
  | n + 1, hg => by
    rw [sumT, sumT_pick c n fun i j hi hj => hg i j (by omega) (by omega)]
    by_cases h : x = g n
    · rw [if_pos h, if_neg, if_pos ⟨n, by omega, h⟩]
      · omega
      · rintro ⟨j, hj, e⟩
        have := hg j n (by omega) (by omega) (e.symm.trans h)
        omega
    · rw [if_neg h]
      by_cases h2 : ∃ j, j < n ∧ x = g j
      · rw [if_pos h2, if_pos (by obtain ⟨j, hj, e⟩ := h2; exact ⟨j, by omega, e⟩)]; omega
      · rw [if_neg h2, if_neg]
        · omega
        · rintro ⟨j, hj, e⟩
          by_cases hjn : j = n
          · subst hjn; exact h e
          · exact h2 ⟨j, by omega, e⟩

section
variable {p : Pl} (hp : PlOK p) {vac : Nat → Nat} {n : Nat} (hv : VacOK p vac n) (hn : n ≤ 4)
include hp hv hn
theorem pmat_row (v f : Nat → Int) {i : Nat} (hi : i < n) : rs (pmat p v vac) n 0 (fun j => f (vac j)) i = wtot (nbs p (vac i)) * f (vac i) - wsum (nbs p (vac i)) fun x => if p.el x then 0 else f x := by
  have hN := nbs_in p hp.w.2 (hv.inn i hi).1
  have e1 : rs (pmat p v vac) n 0 (fun j => f (vac j)) i = sumT (fun j => 1 * (if i = j then (wtot (nbs p (vac i)) * f (vac i)) * 1 else 0) - 1 * (wsum (nbs p (vac i)) fun x => if x = vac j then f x else 0)) n := by
    refine sumT_congr n fun j hj => ?_
    have e2 : (wsum (nbs p (vac i)) fun x => if x = vac j then f x else 0) = f (vac j) * pw p (vac i) (vac j) := by
      unfold pw
      rw [← wsum_mul]
      refine wsum_congr fun q _ => ?_
      split
      · rename_i h; rw [h, Int.mul_one]
      · rw [Int.mul_zero]
    rw [e2, full_late _ (Nat.zero_le _)]
    show pmat p v vac i j * f (vac j) = _
    unfold pmat
    rw [if_neg (show ¬ j = 4 by omega)]
    by_cases h : i = j
    · subst h
      have e3 : pw p (vac i) (vac i) = 0 := by
        unfold pw
        rw [wsum_congr (g := fun _ => 0) fun q hq => if_neg (hN q hq).2.2.2.2, wsum_const, Int.mul_zero]
      rw [if_pos rfl, if_pos rfl, e3]; simp
    · rw [if_neg h, if_neg h, Int.neg_mul, Int.mul_comm (f (vac j))]; simp
  rw [e1, sumT_lin, sumT_one, if_pos hi, ← wsum_sumT, Int.one_mul, Int.one_mul]
  congr 1
  refine wsum_congr fun q hq => ?_
  rw [sumT_pick (f q.1) n hv.inj]
  have hq1 := (hN q hq).1
  by_cases hE : p.el q.1
  · rw [if_pos hE, if_neg]
    rintro ⟨j, hj, e⟩
    exact (hv.inn j hj).2 (e ▸ hE)
  · obtain ⟨j, hj, e⟩ := hv.all q.1 hq1 hE
    rw [if_neg hE, if_pos ⟨j, hj, e.symm⟩]

theorem pmat_ok (v : Nat → Int) : ∃ e : Nat → Int, EliOK (pmat p v vac) n 0 e ∧ ∀ i, i < n → 0 < e i := by
  obtain ⟨e, e0, e1, e2⟩ := super_of hp
  refine ⟨fun j => e (vac j), ⟨fun j hj => ?_, fun i j hi hj _ hij => ?_, fun i hi => ?_⟩, fun i hi => e1 _ (hv.inn i hi).1 (hv.inn i hi).2⟩
  · obtain rfl : j = 0 := by omega
    exact Int.one_pos
  · rw [full_late _ (Nat.zero_le _)]
    show pmat p v vac i j ≤ 0
    unfold pmat
    rw [if_neg (show ¬ j = 4 by omega), if_neg hij]
    have : 0 ≤ pw p (vac i) (vac j) := by
      have h1 := wsum_mono (l := nbs p (vac i)) (f := fun _ => 0) (g := fun y => if y = vac j then 1 else 0) fun q hq => ⟨by have := nbs_in p hp.w.2 (hv.inn i hi).1 q hq; omega, by split <;> omega⟩
      rw [wsum_const, Int.mul_zero] at h1
      exact h1
    omega
  · rw [pmat_row hp hv hn v e hi]
    have h1 := e2 _ (hv.inn i hi).1 (hv.inn i hi).2
    have h2 : (wsum (nbs p (vac i)) fun x => if p.el x then 0 else e x) = wsum (nbs p (vac i)) e := wsum_congr fun q hq => by
      split
      · rename_i h; exact (e0 q.1 (nbs_in p hp.w.2 (hv.inn i hi).1 q hq).1 h).symm
      · rfl
    rw [h2]; omega

theorem pmat_piv (v : Nat → Int) {k : Nat} (hk : k ≤ n) : 0 < pv (pmat p v vac) k := by
  obtain ⟨e, h, he⟩ := pmat_ok hp hv hn v
  exact (h.all hn he k hk).pvt k (Nat.le_refl _)
theorem pmat_split (v f : Nat → Int) (hE : ∀ x, x < p.w * p.h → p.el x → f x = v x) {i : Nat} (hi : i < n) : rs (pmat p v vac) n 0 (fun j => f (vac j)) i = full (pmat p v vac) 0 i 4 + (wtot (nbs p (vac i)) * f (vac i) - wsum (nbs p (vac i)) f) := by
  rw [pmat_row hp hv hn v f hi, full_late _ (Nat.zero_le _)]
  show _ = pmat p v vac i 4 + _
  unfold pmat
  rw [if_pos rfl]
  have : wsum (nbs p (vac i)) f = (wsum (nbs p (vac i)) fun x => if p.el x then v x else 0) + wsum (nbs p (vac i)) fun x => if p.el x then 0 else f x := by
    rw [← wsum_add]
    refine wsum_congr fun q hq => ?_
    split
    · rename_i h; rw [hE q.1 (nbs_in p hp.w.2 (hv.inn i hi).1 q hq).1 h]; omega
    · omega
  rw [this]; omega
theorem exact_ge (v f : Nat → Int) (hE : ∀ x, x < p.w * p.h → p.el x → f x = v x) (hf : SubH p p.el f) {i : Nat} (hi : i < n) : pv (pmat p v vac) n * f (vac i) ≤ full (pmat p v vac) n i 4 := by
  obtain ⟨e, h, he⟩ := pmat_ok hp hv hn v
  refine elim_ge hn h he (y := fun j => f (vac j)) (fun j hj => ?_) hi
  have h1 := hf _ (hv.inn j hj).1 (hv.inn j hj).2
  rw [pmat_split hp hv hn v f hE hj]; omega
theorem exact_le (v f : Nat → Int) (hE : ∀ x, x < p.w * p.h → p.el x → f x = v x) (hf : SupH p p.el f) {i : Nat} (hi : i < n) : full (pmat p v vac) n i 4 ≤ pv (pmat p v vac) n * f (vac i) := by
  obtain ⟨e, h, he⟩ := pmat_ok hp hv hn v
  refine elim_le hn h he (y := fun j => f (vac j)) (fun j hj => ?_) hi
  have h1 := hf _ (hv.inn j hj).1 (hv.inn j hj).2
  rw [pmat_split hp hv hn v f hE hj]; omega
end
end Go.Proofs

namespace Go.Proofs
open Go Go.Sx

def In (B x : Int) : Prop := -B ≤ x ∧ x ≤ B
theorem In.mul {B C x y : Int} (hx : In B x) (hy : In C y) : In (B * C) (x * y) := by
  have hB : 0 ≤ B := by have := hx.1; have := hx.2; omega
  have hC : 0 ≤ C := by have := hy.1; have := hy.2; omega
  have e1 := Int.mul_nonneg (show 0 ≤ B - x by have := hx.2; omega) (show 0 ≤ C - y by have := hy.2; omega)
  have e2 := Int.mul_nonneg (show 0 ≤ B + x by have := hx.1; omega) (show 0 ≤ C + y by have := hy.1; omega)
  have e3 := Int.mul_nonneg (show 0 ≤ B - x by have := hx.2; omega) (show 0 ≤ C + y by have := hy.1; omega)
  have e4 := Int.mul_nonneg (show 0 ≤ B + x by have := hx.1; omega) (show 0 ≤ C - y by have := hy.2; omega)
  constructor <;> grind
theorem In.sub {B C x y : Int} (hx : In B x) (hy : In C y) : In (B + C) (x - y) := by
  have := hx.1; have := hx.2; have := hy.1; have := hy.2
  constructor <;> omega
theorem In.add {B C x y : Int} (hx : In B x) (hy : In C y) : In (B + C) (x + y) := by
  have := hx.1; have := hx.2; have := hy.1; have := hy.2
  constructor <;> omega
theorem In.to {B C x : Int} (hx : In B x) (h : B ≤ C) : In C x := ⟨by have := hx.1; omega, by have := hx.2; omega⟩

def kc (j : Nat) : Int := if j = 4 then 1000 else 1
theorem kc_pos (j : Nat) : 1 ≤ kc j := by unfold kc; split <;> omega
def Small (a : Mat) : Prop := ∀ i j, In (14 * kc j) (a i j)
section
variable {a : Mat} (h : Small a)
include h
theorem dt2_in (i0 i1 j0 j1 : Nat) : In (392 * (kc j0 * kc j1)) (dt2 a i0 i1 j0 j1) := by
  refine (((h i0 j0).mul (h i1 j1)).sub ((h i0 j1).mul (h i1 j0))).to (Int.le_of_eq ?_)
  grind
theorem dt3_in (i0 i1 i2 j0 j1 j2 : Nat) : In (16464 * (kc j0 * kc j1 * kc j2)) (dt3 a i0 i1 i2 j0 j1 j2) := by
  refine ((((h i0 j0).mul (dt2_in h i1 i2 j1 j2)).sub ((h i0 j1).mul (dt2_in h i1 i2 j0 j2))).add ((h i0 j2).mul (dt2_in h i1 i2 j0 j1))).to (Int.le_of_eq ?_)
  grind
theorem dt4_in (j0 j1 j2 j3 : Nat) : In (921984 * (kc j0 * kc j1 * kc j2 * kc j3)) (dt4 a j0 j1 j2 j3) := by
  refine (((((h 0 j0).mul (dt3_in h 1 2 3 j1 j2 j3)).sub ((h 0 j1).mul (dt3_in h 1 2 3 j0 j2 j3))).add ((h 0 j2).mul (dt3_in h 1 2 3 j0 j1 j3))).sub ((h 0 j3).mul (dt3_in h 1 2 3 j0 j1 j2))).to (Int.le_of_eq ?_)
  grind
theorem elK_in (k i j : Nat) : In (921984 * kc j) (elK a k i j) := by
  have hk := kc_pos j
  have k0 : kc 0 = 1 := rfl
  have k1 : kc 1 = 1 := rfl
  have k2 : kc 2 = 1 := rfl
  have k3 : kc 3 = 1 := rfl
  unfold elK
  split
  · exact (h i j).to (by omega)
  · unfold el1; split
    · exact (h 0 j).to (by omega)
    · exact (dt2_in h _ _ _ _).to (by simp only [k0]; omega)
  · unfold el2; split
    · exact (dt2_in h _ _ _ _).to (by simp only [k1]; omega)
    · split
      · exact (dt2_in h _ _ _ _).to (by simp only [k0]; omega)
      · exact (dt3_in h _ _ _ _ _ _).to (by simp only [k0, k1]; omega)
  · unfold el3; split
    · exact (dt3_in h _ _ _ _ _ _).to (by simp only [k1, k2]; omega)
    · split
      · exact (dt3_in h _ _ _ _ _ _).to (by simp only [k0, k2]; omega)
      · split
        · exact (dt3_in h _ _ _ _ _ _).to (by simp only [k0, k1]; omega)
        · exact (dt4_in h _ _ _ _).to (by simp only [k0, k1, k2]; omega)
  · unfold el4; split
    · exact (dt4_in h _ _ _ _).to (by simp only [k1, k2, k3]; omega)
    · split
      · exact (dt4_in h _ _ _ _).to (by simp only [k0, k2, k3]; omega)
      · split
        · exact (dt4_in h _ _ _ _).to (by simp only [k0, k1, k3]; omega)
        · exact (dt4_in h _ _ _ _).to (by simp only [k0, k1, k2]; omega)
theorem pv_in (k : Nat) : In 921984 (pv a k) := by
  have k0 : kc 0 = 1 := rfl
  have k1 : kc 1 = 1 := rfl
  have k2 : kc 2 = 1 := rfl
  have k3 : kc 3 = 1 := rfl
  unfold pv
  split
  · constructor <;> omega
  · exact (h 0 0).to (by simp only [k0]; omega)
  · exact (dt2_in h _ _ _ _).to (by simp only [k0, k1]; omega)
  · exact (dt3_in h _ _ _ _ _ _).to (by simp only [k0, k1, k2]; omega)
  · exact (dt4_in h _ _ _ _).to (by simp only [k0, k1, k2, k3]; omega)
theorem full_in (k i j : Nat) : In (921984 * kc j) (full a k i j) := by
  have hk := kc_pos j
  unfold full
  split
  · split
    · exact (pv_in h k).to (by omega)
    · constructor <;> omega
  · exact elK_in h k i j
theorem full_prod {k : Nat} (hk : k < 4) (i j : Nat) : In 921984000 (full a k i j) ∧ In 850054496256000 (full a k i j * full a k k k) ∧ In 850054496256000 (full a k i k * full a k k j) ∧ In 1700108992512000 (full a k i j * full a k k k - full a k i k * full a k k j) := by
  have hj : kc j ≤ 1000 := by unfold kc; split <;> omega
  have ek : kc k = 1 := by unfold kc; rw [if_neg (by omega)]
  have h1 := full_in h k i j
  have h2 := full_in h k k k
  have h3 := full_in h k i k
  have h4 := full_in h k k j
  rw [ek] at h2 h3
  have p1 : In 850054496256000 (full a k i j * full a k k k) := (h1.mul h2).to (by omega)
  have p2 : In 850054496256000 (full a k i k * full a k k j) := (h3.mul h4).to (by omega)
  exact ⟨h1.to (by omega), p1, p2, (p1.sub p2).to (by omega)⟩
end

theorem wtot_three (p : Pl) (hw : 1 ≤ p.w ∧ p.w ≤ 3) (i : Nat) : 0 ≤ wtot (nbs p i) ∧ wtot (nbs p i) ≤ 14 ∧ ∀ q ∈ nbs p i, 0 ≤ q.2 := by
  have hx : i % p.w < p.w := Nat.mod_lt _ (by omega)
  unfold nbs
  generalize i % p.w = x at *
  have hx3 : x = 0 ∨ x = 1 ∨ x = 2 := by omega
  refine ⟨?_, ?_, ?_⟩
  · unfold wtot besW abvW
    rcases hx3 with rfl | rfl | rfl <;> cases p.rd <;> (repeat' split) <;> simp [wsum] <;> omega
  · unfold wtot besW abvW
    rcases hx3 with rfl | rfl | rfl <;> cases p.rd <;> (repeat' split) <;> simp [wsum] <;> omega
  · intro q hq
    unfold besW abvW at hq
    rcases hx3 with rfl | rfl | rfl <;> cases p.rd <;> (revert hq; (repeat' split) <;> simp <;> grind)
theorem pmat_small {p : Pl} (hw : 1 ≤ p.w ∧ p.w ≤ 3) {v : Nat → Int} (hv : ∀ x, p.el x → In 1000 (v x)) (vac : Nat → Nat) : Small (pmat p v vac) := fun i j => by
  obtain ⟨w0, w1, w2⟩ := wtot_three p hw (vac i)
  unfold pmat
  by_cases h4 : j = 4
  · rw [if_pos h4]
    have hk : kc j = 1000 := by unfold kc; rw [if_pos h4]
    have h1 := wsum_mono (l := nbs p (vac i)) (f := fun _ => -1000) (g := fun x => if p.el x then v x else 0) fun q hq => ⟨w2 q hq, by
      split
      · rename_i h; exact (hv _ h).1
      · omega⟩
    have h2 := wsum_mono (l := nbs p (vac i)) (g := fun _ => 1000) (f := fun x => if p.el x then v x else 0) fun q hq => ⟨w2 q hq, by
      split
      · rename_i h; exact (hv _ h).2
      · omega⟩
    rw [wsum_const] at h1 h2
    rw [hk]
    constructor <;> omega
  · rw [if_neg h4]
    have hk : kc j = 1 := by unfold kc; rw [if_neg h4]
    rw [hk]
    split
    · constructor <;> omega
    · have h1 := wsum_mono (l := nbs p (vac i)) (f := fun _ => 0) (g := fun y => if y = vac j then 1 else 0) fun q hq => ⟨w2 q hq, by split <;> omega⟩
      have h2 := wsum_mono (l := nbs p (vac i)) (g := fun _ => 1) (f := fun y => if y = vac j then 1 else 0) fun q hq => ⟨w2 q hq, by split <;> omega⟩
      rw [wsum_const] at h1 h2
      unfold pw
      constructor <;> omega
end Go.Proofs

namespace Go.Proofs
open Go Go.Sx

def cm (n j : Nat) : Nat := if j = n then 4 else j
theorem cm_lt {n j : Nat} (h : j < n) : cm n j = j := if_neg (by omega)
theorem cm_end (n : Nat) : cm n n = 4 := if_pos rfl
def upd (X : Nat → Nat → Int) (i c : Nat) (x : Int) : Nat → Nat → Int := fun i' j => if i' = i ∧ j = c then x else X i' j
def stM (a : Mat) (n k i c : Nat) : Nat → Nat → Int := fun i' j => if i' ≠ k ∧ (i' < i ∨ (i' = i ∧ c ≤ j ∧ j ≠ k)) then full a (k + 1) i' (cm n j) else full a k i' (cm n j)
def EqM (n : Nat) (X Y : Nat → Nat → Int) : Prop := ∀ i j, i < n → j ≤ n → X i j = Y i j
section
variable {a : Mat} {n k : Nat}
theorem stM_start : EqM n (fun i j => full a k i (cm n j)) (stM a n k 0 (n + 1)) := fun i j hi hj => by
  unfold stM; rw [if_neg (by omega)]
theorem stM_end (hn : n ≤ 4) : EqM n (stM a n k n (n + 1)) (fun i j => full a (k + 1) i (cm n j)) := fun i j hi hj => by
  unfold stM
  by_cases h : i = k
  · subst h
    rw [if_neg (by omega)]
    exact (full_row a (show i < 4 by omega) _).symm
  · rw [if_pos ⟨h, .inl hi⟩]
theorem stM_skip (i : Nat) : EqM n (stM a n k i (k + 1)) (stM a n k i k) := fun i' j hi hj => by
  unfold stM
  by_cases h : i' ≠ k ∧ (i' < i ∨ (i' = i ∧ k ≤ j ∧ j ≠ k))
  · rw [if_pos h, if_pos ⟨h.1, by omega⟩]
  · rw [if_neg h, if_neg (by omega)]
theorem stM_rowk : EqM n (stM a n k k (n + 1)) (stM a n k (k + 1) (n + 1)) := fun i' j hi hj => by
  unfold stM
  by_cases h : i' ≠ k ∧ (i' < k ∨ (i' = k ∧ n + 1 ≤ j ∧ j ≠ k))
  · rw [if_pos h, if_pos ⟨h.1, by omega⟩]
  · rw [if_neg h, if_neg (by omega)]
theorem stM_row (hk : k < n) {i : Nat} (hik : i ≠ k) : EqM n (upd (stM a n k i 0) i k 0) (stM a n k (i + 1) (n + 1)) := fun i' j hi hj => by
  unfold upd stM
  by_cases h : i' = i ∧ j = k
  · obtain ⟨rfl, rfl⟩ := h
    rw [if_pos ⟨rfl, rfl⟩, if_pos ⟨hik, .inl (by omega)⟩, cm_lt hk, full_done a (by omega), if_neg hik]
  · rw [if_neg h]
    by_cases h1 : i' ≠ k ∧ (i' < i ∨ (i' = i ∧ 0 ≤ j ∧ j ≠ k))
    · rw [if_pos h1, if_pos ⟨h1.1, by omega⟩]
    · rw [if_neg h1, if_neg (by omega)]
theorem stM_read (hk : k < n) {i c : Nat} (hik : i ≠ k) (hck : c ≠ k) : stM a n k i (c + 1) i c = full a k i (cm n c) ∧ stM a n k i (c + 1) k k = full a k k k ∧ stM a n k i (c + 1) i k = full a k i k ∧ stM a n k i (c + 1) k c = full a k k (cm n c) := by
  unfold stM
  refine ⟨?_, ?_, ?_, ?_⟩
  · rw [if_neg (by omega)]
  · rw [if_neg (by omega), cm_lt hk]
  · rw [if_neg (by omega), cm_lt hk]
  · rw [if_neg (by omega)]
theorem stM_step {i c : Nat} (hik : i ≠ k) (hck : c ≠ k) : EqM n (upd (stM a n k i (c + 1)) i c (full a (k + 1) i (cm n c))) (stM a n k i c) := fun i' j hi hj => by
  unfold upd stM
  by_cases h : i' = i ∧ j = c
  · obtain ⟨rfl, rfl⟩ := h
    rw [if_pos ⟨rfl, rfl⟩, if_pos ⟨hik, .inr ⟨rfl, Nat.le_refl _, hck⟩⟩]
  · rw [if_neg h]
    by_cases h1 : i' ≠ k ∧ (i' < i ∨ (i' = i ∧ c + 1 ≤ j ∧ j ≠ k))
    · rw [if_pos h1, if_pos ⟨h1.1, by omega⟩]
    · rw [if_neg h1, if_neg (by omega)]
theorem stM_diag (hk : k < n) {j : Nat} (hj : j < k) : full a (k + 1) j (cm n j) = full a (k + 1) k (cm n k) := by
  rw [cm_lt (by omega), cm_lt hk, full_done a (show j < k + 1 by omega), if_pos rfl, full_done a (show k < k + 1 by omega), if_pos rfl]
theorem stM_quo (hs : Small a) (hp : 0 < pv a k) (hk4 : k < 4) {i c : Nat} (hi : i < 4) (hik : i ≠ k) :
    IntKind.i64.wrap (full a k i (cm n c) * full a k k k) = full a k i (cm n c) * full a k k k ∧ IntKind.i64.wrap (full a k i k * full a k k (cm n c)) = full a k i k * full a k k (cm n c) ∧
    IntKind.i64.wrap (full a k i (cm n c) * full a k k k - full a k i k * full a k k (cm n c)) = full a k i (cm n c) * full a k k k - full a k i k * full a k k (cm n c) ∧
    (full a k i (cm n c) * full a k k k - full a k i k * full a k k (cm n c)).tdiv (pv a k) = full a (k + 1) i (cm n c) ∧ IntKind.i64.wrap (full a (k + 1) i (cm n c)) = full a (k + 1) i (cm n c) := by
  obtain ⟨_, h2, h3, h4⟩ := full_prod hs hk4 i (cm n c)
  have h5 := full_in hs (k + 1) i (cm n c)
  have hj : kc (cm n c) ≤ 1000 := by unfold kc; split <;> omega
  refine ⟨w64 ⟨?_, ?_⟩, w64 ⟨?_, ?_⟩, w64 ⟨?_, ?_⟩, ?_, w64 ⟨?_, ?_⟩⟩
  · have := h2.1; omega
  · have := h2.2; omega
  · have := h3.1; omega
  · have := h3.2; omega
  · have := h4.1; omega
  · have := h4.2; omega
  · rw [full_piv a hk4, full_step a hk4 hi hik, Int.mul_tdiv_cancel_left _ (by omega)]
  · have := h5.1; omega
  · have := h5.2; omega
end
end Go.Proofs

namespace Go.Proofs
open Go Go.Sx

theorem next_ok (w : Int) : Ans Try.prog n_kit_Dice_next [.ptr 0 0 0 1] [some (Dr w)] (.int .u64 (dmix (dstep w))) [some (Dr (dstep w))] := by
  refine spec_run e_kit_Dice_next fun G => ?_
  simp only [go_sem, Dr, dmix, dstep]
  exact ⟨_, rfl⟩

theorem upto_ok (w n : Int) (hn : n ≤ 9223372036854775807) : Ans Try.prog n_kit_Dice_Upto [.ptr 0 0 0 1, .int .i64 n] [some (Dr w)] (.int .i64 (upto w n)) [some (Dr (dstep w))] := by
  refine spec_run e_kit_Dice_Upto fun G => ?_
  simp only [go_sem]
  refine callD (next_ok w) rfl trivial (.int _ _) (dr_bel _ _) (dr_bel _ _) (by simp) (by simp) ?_
  simp only [go_sem]
  refine ⟨fun h => ⟨by simp [upto, h], by simp⟩, fun h => ?_⟩
  have hm : 0 ≤ dmix (dstep w) := (bitW_u64 _ _ _).1
  have h1 : IntKind.u64.wrap n = n := IntWalk.u64_in n (by omega)
  have h2 : (dmix (dstep w)).tmod n = dmix (dstep w) % n := Int.tmod_eq_emod_of_nonneg hm
  have h3 := Int.emod_nonneg (dmix (dstep w)) (show n ≠ 0 by omega)
  have h4 := Int.emod_lt_of_pos (dmix (dstep w)) (show 0 < n by omega)
  rw [h1, h2, IntWalk.i64_in _ (by omega)]
  refine ⟨by omega, by rw [upto, if_neg h], _, rfl⟩

theorem between_ok (w lo hi : Int) (h1 : -1152921504606846976 ≤ lo) (h2 : lo ≤ hi) (h3 : hi ≤ 1152921504606846976) : Ans Try.prog n_kit_Dice_Between [.ptr 0 0 0 1, .int .i64 lo, .int .i64 hi] [some (Dr w)] (.int .i64 (btw w lo hi)) [some (Dr (dstep w))] := by
  refine spec_run e_kit_Dice_Between fun G => ?_
  simp only [go_sem]
  rw [IntWalk.i64_in (hi - lo) (by omega), IntWalk.i64_in (hi - lo + 1) (by omega)]
  refine callD (upto_ok w _ (by omega)) rfl ⟨.int _ _, trivial⟩ (.int _ _) (dr_bel _ _) (dr_bel _ _) (by simp) (by simp) ?_
  have := btw_in (w := w) h2
  unfold btw at this
  simp only [go_sem]
  rw [IntWalk.i64_in _ (by omega)]
  exact ⟨rfl, _, rfl⟩

theorem newdice_ok (xs : List Int) (hl : xs.length ≤ 9223372036854775807) : Ans Try.prog n_kit_NewDice [.view (xs.map (.int .i64))] [] (.ptr 0 0 0 1) [some (Dr (seedW xs))] := by
  unfold seedW
  refine spec_run e_kit_NewDice fun G => ?_
  simp only [go_sem]
  have key : ∀ (zs : List Int) (i : Nat) (w : Int), xs.drop i = zs → i ≤ xs.length →
      Sx.Loop Try.prog G 0 none k_kit_NewDice_r7 [.blk 0, .seq (.seq (.reg k_kit_NewDice_r8 false) .ret)] ⟨[.view (xs.map (.int .i64)), .any, .nilptr, .ptr 0 0 0 1, .int .i64 i] ++ List.replicate 28 .any, [some (Dr w)], []⟩
        (RetPost [ARes.tmp 2] fun v H' => v = .ptr 0 0 0 1 ∧ ∃ X, H' = some (Dr (feed w zs)) :: X) := by
    intro zs
    induction zs with
    | nil =>
      intro i w hd hi
      have : xs.length ≤ i := by simpa using hd
      have h1 : ¬ (i : Int) < xs.length := by omega
      refine loop_body 200 k_kit_NewDice_r7.eq_1 ?_
      simp only [go_sem, h1, feed]
      exact ⟨_, rfl⟩
    | cons z zs ih =>
      intro i w hd hi
      have hx : xs[i]? = some z := by have := congrArg (·[0]?) hd; simpa using this
      have h1 : i < xs.length := (List.getElem?_eq_some_iff.1 hx).1
      have h2 : (i : Int) < xs.length := by omega
      have h3 : IntKind.i64.wrap ((i : Int) + 1) = ((i + 1 : Nat) : Int) := by rw [IntWalk.i64_in _ (by omega)]; rfl
      have hd' : xs.drop (i + 1) = zs := by have := congrArg (List.drop 1) hd; simpa [Nat.add_comm] using this
      refine loop_body 200 k_kit_NewDice_r7.eq_1 ?_
      simp only [go_sem, hx, h2, Dr]
      refine callD (next_ok _) rfl trivial (.int _ _) (dr_bel _ _) (dr_bel _ _) (by simp) (by simp) ?_
      simp only [go_sem, h3]
      refine loop_wk ?_ (ih (i + 1) _ hd' h1)
      simp [Wk]
  refine loop_wk ?_ (key xs 0 _ rfl (Nat.zero_le _))
  simp [Wk]

theorem mod_ok (a b : Int) (hb : b ≤ 9223372036854775807) : Ans Try.prog n_kit_Mod [.int .i64 a, .int .i64 b] [] (.int .i64 (if b < 1 then 0 else a % b)) [] := by
  refine spec_run e_kit_Mod fun G => ?_
  simp only [go_sem]
  refine ⟨fun h => by simp [h], fun h => ?_⟩
  have e := Int.tmod_eq_emod (a := a) (b := b)
  have h1 := Int.emod_nonneg a (show b ≠ 0 by omega)
  have h2 := Int.emod_lt_of_pos a (show 0 < b by omega)
  rw [if_neg h]
  generalize a % b = m at *
  generalize a.tmod b = t at *
  refine ⟨by omega, fun h3 => ?_, fun h3 => ?_⟩
  · rw [IntWalk.i64_in _ (by split at e <;> omega)]
    split at e <;> omega
  · split at e <;> omega

theorem mod_pos (a b : Int) (hb : 1 ≤ b ∧ b ≤ 9223372036854775807) : Ans Try.prog n_kit_Mod [.int .i64 a, .int .i64 b] [] (.int .i64 (a % b)) [] := by
  have h := mod_ok a b hb.2
  rwa [if_neg (by omega)] at h
end Go.Proofs

namespace Go.Proofs
open Go Go.Sx
attribute [local irreducible] Run

theorem idx_next {i n : Nat} (h : i < n) (hn : n ≤ 9223372036854775807) : IntKind.i64.wrap ((i : Int) + 1) = ((i + 1 : Nat) : Int) := by rw [IntWalk.i64_in _ (by omega)]; rfl
theorem nat_rem (a b : Nat) : (a : Int).tmod (b : Int) = ((a % b : Nat) : Int) := by simp [Int.tmod_eq_emod_of_nonneg]
theorem nat_quo (a b : Nat) : (a : Int).tdiv (b : Int) = ((a / b : Nat) : Int) := by simp [Int.tdiv_eq_ediv_of_nonneg]

def vw (l : List Int) : AVal := .view (l.map (.int .i64))
def Pl.c4 (p : Pl) (c : AVal) : List AVal := [.int .i64 p.w, .int .i64 p.h, .bool p.rd, c]
def Pl.a (p : Pl) (c : AVal) : AVal := .agg (p.c4 c)
def Pl.v (p : Pl) : AVal := p.a (vw p.cs)
@[go_sem] theorem vw_bel (l : List Int) (S : Nat → Prop) : Bel S (vw l) = True := by unfold vw; simp only [go_sem]
@[go_sem] theorem plv_bel (p : Pl) (S : Nat → Prop) : Bel S p.v = True := by unfold Pl.v Pl.a Pl.c4; simp only [go_sem]

theorem within_ok (n a b : Int) : Ans Try.prog n_field_within [.int .i64 n, .int .i64 a, .int .i64 b] [] (.bool (decide (a ≤ n) && decide (n ≤ b))) [] := by
  refine spec_run e_field_within fun G => ?_
  simp only [go_sem]
  refine ⟨fun h => ?_, fun h => ?_⟩ <;> simp [h]
theorem within_yes {n a b : Int} (h : a ≤ n ∧ n ≤ b) : Ans Try.prog n_field_within [.int .i64 n, .int .i64 a, .int .i64 b] [] (.bool true) [] := by
  have := within_ok n a b
  rwa [show (decide (a ≤ n) && decide (n ≤ b)) = true by simp [h]] at this
theorem beside_ok (p : Pl) (x : Nat) (hx : x ≤ 15) : Ans Try.prog n_field_beside [p.v, .int .i64 x] [] (.int .i64 (besW p.rd x)) [] := by
  have e1 : IntKind.i64.wrap ((x : Int) + 1) = (x : Int) + 1 := w64 (by omega)
  have e2 : IntKind.i64.wrap (2 * ((x : Int) + 1)) = 2 * ((x : Int) + 1) := w64 (by omega)
  refine spec_run e_field_beside fun G => ?_
  unfold besW
  cases h : p.rd <;> simp only [go_sem, Pl.v, Pl.a, Pl.c4, h, e1, e2]
theorem above_ok (p : Pl) (x : Nat) (hx : x ≤ 15) : Ans Try.prog n_field_above [p.v, .int .i64 x] [] (.int .i64 (abvW p.rd x)) [] := by
  have e1 : IntKind.i64.wrap (2 * (x : Int)) = 2 * (x : Int) := w64 (by omega)
  have e2 : IntKind.i64.wrap (2 * (x : Int) + 1) = 2 * (x : Int) + 1 := w64 (by omega)
  refine spec_run e_field_above fun G => ?_
  unfold abvW
  cases h : p.rd <;> simp only [go_sem, Pl.v, Pl.a, Pl.c4, h, e1, e2]

theorem roundDown_ok (n b : Int) (hb : 0 < b ∧ b ≤ 1000000000) (hn : -1000000000000 ≤ n ∧ n ≤ 1000000000000) : Ans Try.prog n_field_roundDown [.int .i64 n, .int .i64 b] [] (.int .i64 (rdn n b)) [] := by
  have e := Int.tdiv_eq_ediv (a := n) (b := b)
  have e' := Int.tmod_eq_emod (a := n) (b := b)
  have h1 := Int.emod_nonneg n (show b ≠ 0 by omega)
  have h2 := Int.emod_lt_of_pos n (show 0 < b by omega)
  have hd := Int.dvd_iff_emod_eq_zero (a := b) (b := n)
  have hq1 : n / b ≤ 1000000000000 := Int.ediv_le_of_le_mul (by omega) (by have := Int.mul_le_mul_of_nonneg_left (show (1 : Int) ≤ b by omega) (show (0 : Int) ≤ 1000000000000 by omega); omega)
  have hq2 : -1000000000000 ≤ n / b := Int.le_ediv_of_mul_le (by omega) (by have := Int.mul_le_mul_of_nonneg_left (show (1 : Int) ≤ b by omega) (show (0 : Int) ≤ 1000000000000 by omega); omega)
  refine spec_run e_field_roundDown fun G => ?_
  have hs : b.sign = 1 := Int.sign_eq_one_of_pos (by omega)
  rw [hs] at e
  have e'' : n.tmod b = if 0 ≤ n ∨ b ∣ n then n % b else n % b - b := by
    rw [e']; split
    · omega
    · rw [Int.natAbs_of_nonneg (by omega)]
  have w1 : IntKind.i64.wrap (n.tdiv b) = n.tdiv b := w64 (by rw [e]; split <;> omega)
  unfold rdn
  simp only [go_sem, w1]
  by_cases hc : 0 ≤ n ∨ b ∣ n
  · rw [if_pos hc] at e e''
    have h3 : ¬ n.tmod b < 0 := by omega
    have h4 : b ≠ 0 := by omega
    simp only [go_sem, h3, h4]
    rw [e]; simp
  · rw [if_neg hc] at e e''
    have h3 : n.tmod b < 0 := by omega
    have h4 : b ≠ 0 := by omega
    have w2 : IntKind.i64.wrap (n.tdiv b - 1) = n.tdiv b - 1 := w64 (by rw [e]; omega)
    simp only [go_sem, h3, h4, w2]
    rw [e]; simp

theorem roundUp_ok (n b : Int) (hb : 0 < b ∧ b ≤ 1000000000) (hn : -1000000000000 ≤ n ∧ n ≤ 1000000000000) : Ans Try.prog n_field_roundUp [.int .i64 n, .int .i64 b] [] (.int .i64 (rup n b)) [] := by
  have hq1 : -n / b ≤ 1000000000000 := Int.ediv_le_of_le_mul (by omega) (by have := Int.mul_le_mul_of_nonneg_left (show (1 : Int) ≤ b by omega) (show (0 : Int) ≤ 1000000000000 by omega); omega)
  have hq2 : -1000000000000 ≤ -n / b := Int.le_ediv_of_mul_le (by omega) (by have := Int.mul_le_mul_of_nonneg_left (show (1 : Int) ≤ b by omega) (show (0 : Int) ≤ 1000000000000 by omega); omega)
  have w0 : IntKind.i64.wrap (0 - n) = -n := by rw [w64 (by omega)]; omega
  have w1 : IntKind.i64.wrap (0 - rdn (-n) b) = -rdn (-n) b := by unfold rdn; rw [w64 (by omega)]; omega
  refine spec_run e_field_roundUp fun G => ?_
  unfold rup
  simp only [go_sem, w0]
  refine cP (roundDown_ok (-n) b hb (by omega)) ?_
  simp only [go_sem, w1]
  rfl

theorem neighbours_ok (p : Pl) (i : Int) : Ans Try.prog n_field_neighbours [p.v, .int .i64 i] [] (.fn (.func n_field_neighbours_1) [] [.ptr 1 0 0 1, .ptr 0 0 0 1]) [some (.cells false 4 [p.v]), some (.cells false 1 [.int .i64 i])] := by
  refine spec_run e_field_neighbours fun G => ?_
  simp only [go_sem, Pl.v, Pl.a, Pl.c4]
  exact ⟨_, rfl⟩
end Go.Proofs

namespace Go.Proofs
open Go Go.Sx

section
variable {P : Program} {G : Ctx} {k : Nat} {rd : Option Nat} {fs : List Sx.Frame} {Q : Sx.Goal}
theorem run0_code {c : ACode} {ρ ρ' : List AVal} {H : Heap} {ms : List Nat} (hw : Wk ρ ρ') (h : AW P G k rd c (Sx.Fin P G k rd fs Q) ⟨ρ', H, ms⟩) : Sx.Run P G k rd 0 (.code c) fs ⟨ρ, H, ms⟩ Q := aw_less (less_wk hw) h
theorem run0_out {e : Exit} {s : St} (h : Sx.Fin P G k rd fs Q e s) : Sx.Run P G k rd 0 (.out e) fs s Q := h
end
attribute [local irreducible] Run

structure NbBody (G : Ctx) (p : Pl) (i r jc jp N : Nat) (Pre : Nat → Heap → Prop) (Stop : Heap → Prop) : Prop where
  row : ∀ k H, Pre k H → N ≤ H.length ∧ H[jc]? = some (some (.cells false 1 [.int .i64 i])) ∧ H[jp]? = some (some (.cells false 4 [p.v]))
  round : ∀ k q H, (nbs p i)[k]? = some q → Pre k H → RoundW Try.prog G r [.int .i64 (q.1 : Int), .int .i64 q.2] H fun v H' => (v = .bool true ∧ Pre (k + 1) H') ∨ (v = .bool false ∧ Stop H')

def nbC4 : ACode := .seq (.reg k_field_neighbours_1_r4 false) (.cond (.tmp 60) (.reg k_field_neighbours_1_r5 true) .skip)
def nbC3 : ACode := .seq (.seq (.reg k_field_neighbours_1_r3 true) (.cond (.tmp 55) .ret .skip)) nbC4
def nbC2 : ACode := .seq (.seq (.reg k_field_neighbours_1_r2 true) (.cond (.tmp 41) .ret .skip)) nbC3
def nbC1 : ACode := .seq (.seq (.reg k_field_neighbours_1_r1 true) (.cond (.tmp 26) .ret .skip)) nbC2
def nbT (r jc jp x y : Nat) : List AVal := tsets 70 [(0, .yfn r), (1, .ptr jc 0 0 1), (2, .ptr jp 0 0 1), (4, .int .i64 x), (5, .int .i64 y)]

section
variable {G : Ctx} {p : Pl} (hp : PlOK p) {i x y : Nat} (hx : x < p.w) (hy : y < p.h) (hi : y * p.w + x = i) {r jc jp N : Nat} {Pre : Nat → Heap → Prop} {Stop : Heap → Prop} (hB : NbBody G p i r jc jp N Pre Stop)
def nbQ (Pre : Nat → Heap → Prop) (Stop : Heap → Prop) (n : Nat) : AVal → Heap → Prop := fun v H' => v = .tup [] ∧ (Pre n H' ∨ Stop H')
include hp hx hy hi hB

set_option maxHeartbeats 4000000 in
set_option maxRecDepth 10000 in
theorem nb_c4 {k : Nat} {H : Heap} (hk : k + (if y + 1 < p.h then 1 else 0) = (nbs p i).length) (hq : y + 1 < p.h → (nbs p i)[k]? = some (i + p.w, abvW p.rd x)) (hP : Pre k H) :
    AW Try.prog G N none nbC4 (RetPost [] (nbQ Pre Stop (nbs p i).length)) ⟨nbT r jc jp x y, H, []⟩ := by
  obtain ⟨hN, hc, hpl⟩ := hB.row k H hP
  have hw := hp.w
  have hh := hp.h
  have hil : i < 256 := by have := cell_in hx hy; have := Nat.mul_le_mul hw.2 hh.2; omega
  refine run_aw 3000 ?_
  have w1 : IntKind.i64.wrap ((p.h : Int) - 1) = ((p.h - 1 : Nat) : Int) := by rw [w64 (by omega)]; omega
  have w2 : IntKind.i64.wrap ((i : Int) + p.w) = ((i + p.w : Nat) : Int) := by rw [w64 (by omega)]; omega
  simp only [go_sem, nbC4, nbT, cells_at hc, cells_at hpl, Pl.v, Pl.a, Pl.c4, w1, w2]
  by_cases h1 : y + 1 < p.h
  · have h2 : (y : Int) < ((p.h - 1 : Nat) : Int) := by omega
    rw [if_pos h1] at hk
    have hr := hB.round k _ H (hq h1) hP
    simp only [go_sem, h2, cells_at hc, cells_at hpl, Pl.v, Pl.a, Pl.c4, w2]
    refine dP (above_ok p x (by omega)) ?_
    simp only [go_sem]
    refine yieldR _ rfl rfl (by simp [go_sem]) (by simp [go_sem]) hN ?_
    refine hr.mono ?_
    rintro v H' (⟨rfl, q3⟩ | ⟨rfl, q3⟩)
    · refine ⟨fun q hq => by simp at hq, ?_⟩
      simp only [go_sem]
      exact ⟨rfl, .inl (by rw [← hk]; exact q3)⟩
    · refine ⟨fun q hq => by simp at hq, ?_⟩
      simp only [go_sem]
      exact ⟨rfl, .inr q3⟩
  · have h2 : ¬ (y : Int) < ((p.h - 1 : Nat) : Int) := by omega
    rw [if_neg h1] at hk
    simp only [go_sem, h2]
    exact ⟨rfl, .inl (by rw [← hk]; exact hP)⟩

set_option maxHeartbeats 4000000 in
set_option maxRecDepth 10000 in
theorem nb_c3 {k : Nat} {H : Heap} (hk : k + (if 0 < y then 1 else 0) + (if y + 1 < p.h then 1 else 0) = (nbs p i).length) (hq : 0 < y → (nbs p i)[k]? = some (i - p.w, abvW p.rd x)) (hq4 : y + 1 < p.h → (nbs p i)[k + (if 0 < y then 1 else 0)]? = some (i + p.w, abvW p.rd x)) (hP : Pre k H) :
    AW Try.prog G N none nbC3 (RetPost [] (nbQ Pre Stop (nbs p i).length)) ⟨nbT r jc jp x y, H, []⟩ := by
  obtain ⟨hN, hc, hpl⟩ := hB.row k H hP
  have hw := hp.w
  have hh := hp.h
  have hil : i < 256 := by have := cell_in hx hy; have := Nat.mul_le_mul hw.2 hh.2; omega
  refine run_aw 42 ?_
  by_cases h1 : 0 < y
  · have h2 : 0 < (y : Int) := by omega
    have hyw : p.w ≤ y * p.w := Nat.le_mul_of_pos_left _ h1
    have w2 : IntKind.i64.wrap ((i : Int) - p.w) = ((i - p.w : Nat) : Int) := by rw [w64 (by omega)]; omega
    simp only [if_pos h1] at hk hq4
    have hr := hB.round k _ H (hq h1) hP
    simp only [go_sem, nbC3, nbT, h2, cells_at hc, cells_at hpl, Pl.v, Pl.a, Pl.c4, w2]
    refine dP (above_ok p x (by omega)) ?_
    simp only [go_sem]
    refine yieldR _ rfl rfl (by simp [go_sem]) (by simp [go_sem]) hN ?_
    refine hr.mono ?_
    rintro v H' (⟨rfl, q3⟩ | ⟨rfl, q3⟩)
    · refine ⟨fun q hq => by simp at hq, ?_⟩
      simp only [go_sem]
      exact run0_code (ρ' := nbT r jc jp x y) (by simp [go_sem, nbT]) (nb_c4 hp hx hy hi hB hk hq4 q3)
    · refine ⟨fun q hq => by simp at hq, ?_⟩
      simp only [go_sem]
      refine run0_out ?_
      simp only [go_sem, Sx.Fin]
      exact ⟨rfl, .inr q3⟩
  · have h2 : ¬ 0 < (y : Int) := by omega
    simp only [if_neg h1, Nat.add_zero] at hk hq4
    simp only [go_sem, nbC3, nbT, h2, cells_at hc, cells_at hpl, Pl.v, Pl.a, Pl.c4]
    exact run0_code (ρ' := nbT r jc jp x y) (by simp [go_sem, nbT]) (nb_c4 hp hx hy hi hB hk hq4 hP)

set_option maxHeartbeats 4000000 in
set_option maxRecDepth 10000 in
theorem nb_c2 {k : Nat} {H : Heap} (hk : k + (if x + 1 < p.w then 1 else 0) + (if 0 < y then 1 else 0) + (if y + 1 < p.h then 1 else 0) = (nbs p i).length) (hq : x + 1 < p.w → (nbs p i)[k]? = some (i + 1, besW p.rd x)) (hq3 : 0 < y → (nbs p i)[k + (if x + 1 < p.w then 1 else 0)]? = some (i - p.w, abvW p.rd x)) (hq4 : y + 1 < p.h → (nbs p i)[k + (if x + 1 < p.w then 1 else 0) + (if 0 < y then 1 else 0)]? = some (i + p.w, abvW p.rd x)) (hP : Pre k H) :
    AW Try.prog G N none nbC2 (RetPost [] (nbQ Pre Stop (nbs p i).length)) ⟨nbT r jc jp x y, H, []⟩ := by
  obtain ⟨hN, hc, hpl⟩ := hB.row k H hP
  have hw := hp.w
  have hh := hp.h
  have hil : i < 256 := by have := cell_in hx hy; have := Nat.mul_le_mul hw.2 hh.2; omega
  have w0 : IntKind.i64.wrap ((p.w : Int) - 1) = ((p.w - 1 : Nat) : Int) := by rw [w64 (by omega)]; omega
  refine run_aw 42 ?_
  by_cases h1 : x + 1 < p.w
  · have h2 : (x : Int) < ((p.w - 1 : Nat) : Int) := by omega
    have w2 : IntKind.i64.wrap ((i : Int) + 1) = ((i + 1 : Nat) : Int) := by rw [w64 (by omega)]; omega
    simp only [if_pos h1] at hk hq3 hq4
    have hr := hB.round k _ H (hq h1) hP
    simp only [go_sem, nbC2, nbT, h2, cells_at hc, cells_at hpl, Pl.v, Pl.a, Pl.c4, w0, w2]
    refine dP (beside_ok p x (by omega)) ?_
    simp only [go_sem]
    refine yieldR _ rfl rfl (by simp [go_sem]) (by simp [go_sem]) hN ?_
    refine hr.mono ?_
    rintro v H' (⟨rfl, q3⟩ | ⟨rfl, q3⟩)
    · refine ⟨fun q hq => by simp at hq, ?_⟩
      simp only [go_sem]
      exact run0_code (ρ' := nbT r jc jp x y) (by simp [go_sem, nbT]) (nb_c3 hp hx hy hi hB hk hq3 hq4 q3)
    · refine ⟨fun q hq => by simp at hq, ?_⟩
      simp only [go_sem]
      refine run0_out ?_
      simp only [go_sem, Sx.Fin]
      exact ⟨rfl, .inr q3⟩
  · have h2 : ¬ (x : Int) < ((p.w - 1 : Nat) : Int) := by omega
    simp only [if_neg h1, Nat.add_zero] at hk hq3 hq4
    simp only [go_sem, nbC2, nbT, h2, cells_at hc, cells_at hpl, Pl.v, Pl.a, Pl.c4, w0]
    exact run0_code (ρ' := nbT r jc jp x y) (by simp [go_sem, nbT]) (nb_c3 hp hx hy hi hB hk hq3 hq4 hP)

set_option maxHeartbeats 4000000 in
set_option maxRecDepth 10000 in
theorem nb_c1 {k : Nat} {H : Heap} (hk : k + (if 0 < x then 1 else 0) + (if x + 1 < p.w then 1 else 0) + (if 0 < y then 1 else 0) + (if y + 1 < p.h then 1 else 0) = (nbs p i).length) (hq : 0 < x → (nbs p i)[k]? = some (i - 1, besW p.rd (x - 1))) (hq2 : x + 1 < p.w → (nbs p i)[k + (if 0 < x then 1 else 0)]? = some (i + 1, besW p.rd x)) (hq3 : 0 < y → (nbs p i)[k + (if 0 < x then 1 else 0) + (if x + 1 < p.w then 1 else 0)]? = some (i - p.w, abvW p.rd x)) (hq4 : y + 1 < p.h → (nbs p i)[k + (if 0 < x then 1 else 0) + (if x + 1 < p.w then 1 else 0) + (if 0 < y then 1 else 0)]? = some (i + p.w, abvW p.rd x)) (hP : Pre k H) :
    AW Try.prog G N none nbC1 (RetPost [] (nbQ Pre Stop (nbs p i).length)) ⟨nbT r jc jp x y, H, []⟩ := by
  obtain ⟨hN, hc, hpl⟩ := hB.row k H hP
  have hw := hp.w
  have hh := hp.h
  have hil : i < 256 := by have := cell_in hx hy; have := Nat.mul_le_mul hw.2 hh.2; omega
  refine run_aw 41 ?_
  by_cases h1 : 0 < x
  · have h2 : 0 < (x : Int) := by omega
    have w2 : IntKind.i64.wrap ((i : Int) - 1) = ((i - 1 : Nat) : Int) := by rw [w64 (by omega)]; omega
    have w3 : IntKind.i64.wrap ((x : Int) - 1) = ((x - 1 : Nat) : Int) := by rw [w64 (by omega)]; omega
    simp only [if_pos h1] at hk hq2 hq3 hq4
    have hr := hB.round k _ H (hq h1) hP
    simp only [go_sem, nbC1, nbT, h2, cells_at hc, cells_at hpl, Pl.v, Pl.a, Pl.c4, w2, w3]
    refine dP (beside_ok p (x - 1) (by omega)) ?_
    simp only [go_sem]
    refine yieldR _ rfl rfl (by simp [go_sem]) (by simp [go_sem]) hN ?_
    refine hr.mono ?_
    rintro v H' (⟨rfl, q3⟩ | ⟨rfl, q3⟩)
    · refine ⟨fun q hq => by simp at hq, ?_⟩
      simp only [go_sem]
      exact run0_code (ρ' := nbT r jc jp x y) (by simp [go_sem, nbT]) (nb_c2 hp hx hy hi hB hk hq2 hq3 hq4 q3)
    · refine ⟨fun q hq => by simp at hq, ?_⟩
      simp only [go_sem]
      refine run0_out ?_
      simp only [go_sem, Sx.Fin]
      exact ⟨rfl, .inr q3⟩
  · have h2 : ¬ 0 < (x : Int) := by omega
    simp only [if_neg h1, Nat.add_zero] at hk hq2 hq3 hq4
    simp only [go_sem, nbC1, nbT, h2, cells_at hc, cells_at hpl, Pl.v, Pl.a, Pl.c4]
    exact run0_code (ρ' := nbT r jc jp x y) (by simp [go_sem, nbT]) (nb_c2 hp hx hy hi hB hk hq2 hq3 hq4 hP)

end

theorem nbs_parts (p : Pl) {x y : Nat} (hx : x < p.w) :
    (0 + (if 0 < x then 1 else 0) + (if x + 1 < p.w then 1 else 0) + (if 0 < y then 1 else 0) + (if y + 1 < p.h then 1 else 0) = (nbs p (y * p.w + x)).length) ∧ (0 < x → (nbs p (y * p.w + x))[0]? = some (y * p.w + x - 1, besW p.rd (x - 1))) ∧
    (x + 1 < p.w → (nbs p (y * p.w + x))[0 + (if 0 < x then 1 else 0)]? = some (y * p.w + x + 1, besW p.rd x)) ∧ (0 < y → (nbs p (y * p.w + x))[0 + (if 0 < x then 1 else 0) + (if x + 1 < p.w then 1 else 0)]? = some (y * p.w + x - p.w, abvW p.rd x)) ∧
    (y + 1 < p.h → (nbs p (y * p.w + x))[0 + (if 0 < x then 1 else 0) + (if x + 1 < p.w then 1 else 0) + (if 0 < y then 1 else 0)]? = some (y * p.w + x + p.w, abvW p.rd x)) := by
  obtain ⟨e1, e2⟩ := cell_at (y := y) hx
  unfold nbs
  rw [e1, e2]
  refine ⟨?_, ?_, ?_, ?_, ?_⟩
  · split <;> split <;> split <;> split <;> simp
  · intro h; simp [h]
  · intro h; by_cases h0 : 0 < x <;> simp [h, h0]
  · intro h; by_cases h0 : 0 < x <;> by_cases h1 : x + 1 < p.w <;> simp [h, h0, h1]
  · intro h; by_cases h0 : 0 < x <;> by_cases h1 : x + 1 < p.w <;> by_cases h2 : 0 < y <;> simp [h, h0, h1, h2]

set_option maxHeartbeats 4000000 in
set_option maxRecDepth 10000 in
theorem nbs1_iter {G : Ctx} {p : Pl} (hp : PlOK p) {i : Nat} (hi : i < p.w * p.h) {r jc jp N : Nat} {Pre : Nat → Heap → Prop} {Stop : Heap → Prop} (hB : NbBody G p i r jc jp N Pre Stop) {H0 : Heap} (h0 : Pre 0 H0) (hN : H0.length = N) :
    CallW Try.prog G n_field_neighbours_1 [.yfn r, .ptr jc 0 0 1, .ptr jp 0 0 1] H0 fun v H' => v = .tup [] ∧ (Pre (nbs p i).length H' ∨ Stop H') := by
  obtain ⟨hx, hy, hxy⟩ := cell_lt hi
  obtain ⟨hN0, hc0, hp0⟩ := hB.row 0 H0 h0
  have hw := hp.w
  have hh := hp.h
  have hil : i < 256 := by have := Nat.mul_le_mul hw.2 hh.2; omega
  have e1 := nat_rem i p.w
  have e2 := nat_quo i p.w
  have hwz : ((p.w : Int) = 0) = False := eq_false (by omega)
  have hL := nbs_parts p (y := i / p.w) hx
  rw [hxy] at hL
  generalize i % p.w = x at *
  generalize i / p.w = y at *
  have e3 : IntKind.i64.wrap (y : Int) = y := w64 (by omega)
  obtain ⟨l0, l1, l2, l3, l4⟩ := hL
  refine callW_run 19 e_field_neighbours_1 ?_
  rw [show k_field_neighbours_1.body = .seq (.reg k_field_neighbours_1_r0 true) nbC1 from rfl]
  simp only [go_sem, cells_at hc0, cells_at hp0, Pl.v, Pl.a, Pl.c4, e1, e2, e3, hwz, hN]
  exact run0_code (ρ' := nbT r jc jp x y) (by simp [go_sem, nbT]) (nb_c1 hp hx hy hxy hB l0 l1 l2 l3 l4 h0)
end Go.Proofs

