/- A part of the proof. -/
import Derived.Test.YtcnpapgcojagpaaPB
import Derived.IntWalk
set_option linter.unusedSimpArgs false
set_option linter.unusedVariables false
namespace Go.Fam

def fnz (e : Nat → Int) : Nat → Nat → Int
  | _, 0 => 0
  | i, n + 1 => if e i = 0 then fnz e (i + 1) n else e i
theorem fnz_zero {e : Nat → Int} : ∀ {n i : Nat}, fnz e i n = 0 ↔ ∀ j, i ≤ j → j < i + n → e j = 0
  | 0, i => by simp only [fnz, true_iff]; intro j h1 h2; omega
  | n + 1, i => by
    simp only [fnz]
    split
    · rename_i h
      rw [fnz_zero]
      constructor
      · intro h1 j h2 h3
        by_cases hj : j = i
        · subst hj; exact h
        · exact h1 j (by omega) (by omega)
      · intro h1 j h2 h3; exact h1 j (by omega) (by omega)
    · rename_i h
      constructor
      · intro h1; exact absurd h1 h
      · intro h1; exact absurd (h1 i (Nat.le_refl _) (by omega)) h
structure Fa where
  g : List Int
  p : List Int
  lo : List (List Int)
  hi : List (List Int)

def at1 (l : List Int) (i : Nat) : Int := l.getD i 0
def tg (t : List (List Int)) (i k : Nat) : Int := (t.getD i []).getD k 0

def ascAt (a : Int) (l : List Int) (i : Nat) : Int := if a ≤ at1 l i ∧ at1 l i ≤ 1000000 then (if 0 < i ∧ at1 l i ≤ at1 l (i - 1) then 11 else 0) else 2
def ascE (a : Int) (l : List Int) : Int := fnz (ascAt a l) 0 l.length
def lineE (g p : List Int) : Int := if g.length = 0 ∨ p.length = 0 then 6 else if 40 < g.length ∨ 40 < p.length then 8 else if ascE (-1000000) g = 0 then ascE 0 p else ascE (-1000000) g
def formB (m n : Nat) (t : List (List Int)) : Bool := t.all (fun r => r.length == n) && t.length == m
def plE (f : Fa) (i k : Nat) : Int :=
  if (0 ≤ tg f.lo i k ∧ tg f.lo i k ≤ 1000000) ∧ (0 ≤ tg f.hi i k ∧ tg f.hi i k ≤ 1000000) then
    if tg f.hi i k < tg f.lo i k then 12
    else if 0 < k ∧ (tg f.lo i k < tg f.lo i (k - 1) ∨ tg f.hi i k < tg f.hi i (k - 1)) then 11
    else if 0 < i ∧ (tg f.lo i k < tg f.lo (i - 1) k ∨ tg f.hi i k < tg f.hi (i - 1) k) then 11 else 0
  else 2
def rowE (f : Fa) (i : Nat) : Int := fnz (plE f i) 0 f.p.length
def famE (f : Fa) : Int := if lineE f.g f.p = 0 then (if formB f.g.length f.p.length f.lo = true ∧ formB f.g.length f.p.length f.hi = true then fnz (rowE f) 0 f.g.length else 3) else lineE f.g f.p

structure Asc (a : Int) (l : List Int) : Prop where
  pos : 1 ≤ l.length
  most : l.length ≤ 40
  inn : ∀ i, i < l.length → a ≤ at1 l i ∧ at1 l i ≤ 1000000
  asc : ∀ i, i + 1 < l.length → at1 l i < at1 l (i + 1)

structure FaOK (f : Fa) : Prop where
  g : Asc (-1000000) f.g
  p : Asc 0 f.p
  llen : f.lo.length = f.g.length
  hlen : f.hi.length = f.g.length
  lrow : ∀ r ∈ f.lo, r.length = f.p.length
  hrow : ∀ r ∈ f.hi, r.length = f.p.length
  inn : ∀ i k, i < f.g.length → k < f.p.length → 0 ≤ tg f.lo i k ∧ tg f.lo i k ≤ tg f.hi i k ∧ tg f.hi i k ≤ 1000000
  right : ∀ i k, i < f.g.length → k + 1 < f.p.length → tg f.lo i k ≤ tg f.lo i (k + 1) ∧ tg f.hi i k ≤ tg f.hi i (k + 1)
  up : ∀ i k, i + 1 < f.g.length → k < f.p.length → tg f.lo i k ≤ tg f.lo (i + 1) k ∧ tg f.hi i k ≤ tg f.hi (i + 1) k

theorem ascAt_zero {a : Int} {l : List Int} {i : Nat} : ascAt a l i = 0 ↔ (a ≤ at1 l i ∧ at1 l i ≤ 1000000) ∧ (0 < i → at1 l (i - 1) < at1 l i) := by
  unfold ascAt
  constructor
  · intro h
    split at h
    · rename_i h1
      split at h
      · cases h
      · rename_i h2; exact ⟨h1, fun h3 => by omega⟩
    · cases h
  · rintro ⟨h1, h2⟩
    rw [if_pos h1, if_neg (by omega)]
theorem asc_iff {a : Int} {l : List Int} (h1 : 1 ≤ l.length) (h2 : l.length ≤ 40) : ascE a l = 0 ↔ Asc a l := by
  unfold ascE
  rw [fnz_zero]
  constructor
  · intro h
    refine ⟨h1, h2, fun i hi => (ascAt_zero.1 (h i (Nat.zero_le _) (by omega))).1, fun i hi => ?_⟩
    have := (ascAt_zero.1 (h (i + 1) (Nat.zero_le _) (by omega))).2 (by omega)
    simpa using this
  · intro h j _ hj
    refine ascAt_zero.2 ⟨h.inn j (by omega), fun h0 => ?_⟩
    have := h.asc (j - 1) (by omega)
    rwa [show j - 1 + 1 = j by omega] at this
theorem line_iff {g p : List Int} : lineE g p = 0 ↔ Asc (-1000000) g ∧ Asc 0 p := by
  unfold lineE
  by_cases h1 : g.length = 0 ∨ p.length = 0
  · rw [if_pos h1]
    constructor
    · intro h; cases h
    · rintro ⟨a, b⟩; have := a.pos; have := b.pos; omega
  · rw [if_neg h1]
    by_cases h2 : 40 < g.length ∨ 40 < p.length
    · rw [if_pos h2]
      constructor
      · intro h; cases h
      · rintro ⟨a, b⟩; have := a.most; have := b.most; omega
    · rw [if_neg h2]
      rw [← asc_iff (by omega) (by omega), ← asc_iff (by omega) (by omega)]
      by_cases h3 : ascE (-1000000) g = 0
      · rw [if_pos h3]; exact ⟨fun h => ⟨h3, h⟩, fun h => h.2⟩
      · rw [if_neg h3]; exact ⟨fun h => absurd h h3, fun h => absurd h.1 h3⟩
theorem form_iff {m n : Nat} {t : List (List Int)} : formB m n t = true ↔ t.length = m ∧ ∀ r ∈ t, r.length = n := by
  unfold formB
  simp only [Bool.and_eq_true, List.all_eq_true, beq_iff_eq]
  exact and_comm
theorem plE_zero {f : Fa} {i k : Nat} : plE f i k = 0 ↔ (0 ≤ tg f.lo i k ∧ tg f.lo i k ≤ tg f.hi i k ∧ tg f.hi i k ≤ 1000000) ∧ (0 < k → tg f.lo i (k - 1) ≤ tg f.lo i k ∧ tg f.hi i (k - 1) ≤ tg f.hi i k) ∧ (0 < i → tg f.lo (i - 1) k ≤ tg f.lo i k ∧ tg f.hi (i - 1) k ≤ tg f.hi i k) := by
  unfold plE
  generalize tg f.lo i k = a
  generalize tg f.hi i k = b
  generalize tg f.lo i (k - 1) = a1
  generalize tg f.hi i (k - 1) = b1
  generalize tg f.lo (i - 1) k = a2
  generalize tg f.hi (i - 1) k = b2
  constructor
  · intro h
    split at h
    · split at h
      · cases h
      · split at h
        · cases h
        · split at h
          · cases h
          · omega
    · cases h
  · intro h
    rw [if_pos (by omega), if_neg (by omega), if_neg (by omega), if_neg (by omega)]
theorem fam_iff {f : Fa} : famE f = 0 ↔ FaOK f := by
  unfold famE
  constructor
  · intro h
    split at h
    · rename_i h1
      obtain ⟨hg, hp⟩ := line_iff.1 h1
      split at h
      · rename_i h2
        obtain ⟨l1, l2⟩ := form_iff.1 h2.1
        obtain ⟨l3, l4⟩ := form_iff.1 h2.2
        have hpl : ∀ i k, i < f.g.length → k < f.p.length → plE f i k = 0 := fun i k hi hk =>
          fnz_zero.1 (fnz_zero.1 h i (Nat.zero_le _) (by omega)) k (Nat.zero_le _) (by omega)
        refine ⟨hg, hp, l1, l3, l2, l4, fun i k hi hk => (plE_zero.1 (hpl i k hi hk)).1, fun i k hi hk => ?_, fun i k hi hk => ?_⟩
        · have := (plE_zero.1 (hpl i (k + 1) hi hk)).2.1 (by omega)
          simpa using this
        · have := (plE_zero.1 (hpl (i + 1) k hi hk)).2.2 (by omega)
          simpa using this
      · cases h
    · rename_i h1; exact absurd h h1
  · intro h
    rw [if_pos (line_iff.2 ⟨h.g, h.p⟩), if_pos ⟨form_iff.2 ⟨h.llen, h.lrow⟩, form_iff.2 ⟨h.hlen, h.hrow⟩⟩]
    refine fnz_zero.2 fun i _ hi => fnz_zero.2 fun k _ hk => plE_zero.2 ⟨h.inn i k (by omega) (by omega), fun h0 => ?_, fun h0 => ?_⟩
    · have := h.right i (k - 1) (by omega) (by omega)
      rwa [show k - 1 + 1 = k by omega] at this
    · have := h.up (i - 1) k (by omega) (by omega)
      rwa [show i - 1 + 1 = i by omega] at this

theorem Asc.lt {a : Int} {l : List Int} (h : Asc a l) : ∀ {i j : Nat}, i < j → j < l.length → at1 l i < at1 l j := by
  intro i j hij hj
  induction j with
  | zero => omega
  | succ j ih =>
    by_cases hi : i = j
    · subst hi; exact h.asc i hj
    · have := ih (by omega) (by omega)
      have := h.asc j hj; omega
theorem Asc.le {a : Int} {l : List Int} (h : Asc a l) {i j : Nat} (hij : i ≤ j) (hj : j < l.length) : at1 l i ≤ at1 l j := by
  by_cases e : i = j
  · subst e; omega
  · have := h.lt (i := i) (j := j) (by omega) hj; omega

def cnt (v : Int) : List Int → Nat
  | [] => 0
  | x :: l => if x ≤ v then cnt v l + 1 else 0
theorem cnt_le (v : Int) : ∀ l, cnt v l ≤ l.length
  | [] => Nat.le_refl _
  | x :: l => by
    have := cnt_le v l
    simp only [cnt]
    split <;> simp <;> omega
theorem cnt_below {v : Int} : ∀ {l : List Int} {i : Nat}, i < cnt v l → at1 l i ≤ v
  | [], i, h => by simp [cnt] at h
  | x :: l, i, h => by
    simp only [cnt] at h
    split at h
    · rename_i hx
      cases i with
      | zero => exact hx
      | succ i => have := cnt_below (v := v) (l := l) (i := i) (by omega); simpa [at1] using this
    · omega
theorem cnt_at {v : Int} : ∀ {l : List Int}, cnt v l < l.length → v < at1 l (cnt v l)
  | [], h => by simp [cnt] at h
  | x :: l, h => by
    simp only [cnt] at h ⊢
    split
    · rename_i hx
      rw [if_pos hx] at h
      have := cnt_at (v := v) (l := l) (by simpa using h)
      simpa [at1] using this
    · rename_i hx; simp only [at1, List.getD_cons_zero]; omega
theorem cnt_eq {a v : Int} {l : List Int} (h : Asc a l) {n : Nat} (hn : n ≤ l.length) (h1 : ∀ i, i < n → at1 l i ≤ v) (h2 : n < l.length → v < at1 l n) : cnt v l = n := by
  by_cases c1 : cnt v l < n
  · have := cnt_at (v := v) (l := l) (by omega)
    have := h1 _ c1; omega
  · by_cases c2 : n < cnt v l
    · have := cnt_below c2
      have hl := cnt_le v l
      have := h2 (by omega); omega
    · omega

structure Sp where
  at_ : Nat
  part : Int
  whole : Int
def spot (l : List Int) (v : Int) : Sp := if cnt v l = 0 then ⟨0, 0, 1⟩ else if cnt v l = l.length then ⟨cnt v l - 1, 0, 1⟩ else ⟨cnt v l - 1, v - at1 l (cnt v l - 1), at1 l (cnt v l) - at1 l (cnt v l - 1)⟩
structure SpOK (n : Nat) (m : Int) (s : Sp) : Prop where
  at_ : s.at_ < n
  part : 0 ≤ s.part ∧ s.part < s.whole
  whole : s.whole ≤ m
  next : 0 < s.part → s.at_ + 1 < n
theorem spot_ok {a v : Int} {l : List Int} (h : Asc a l) (ha : a ≤ 1000000 - 1) : SpOK l.length (1000000 - a) (spot l v) := by
  have hp := h.pos
  unfold spot
  have hl := cnt_le v l
  split
  · exact ⟨by simp only; omega, by simp, by simp only; omega, by simp⟩
  · split
    · exact ⟨by simp only; omega, by simp, by simp only; omega, by simp⟩
    · rename_i h1 h2
      have b1 := cnt_below (v := v) (l := l) (i := cnt v l - 1) (by omega)
      have b2 := cnt_at (v := v) (l := l) (by omega)
      have i1 := h.inn (cnt v l - 1) (by omega)
      have i2 := h.inn (cnt v l) (by omega)
      exact ⟨by simp only; omega, by simp only; omega, by simp only; omega, fun _ => by simp only; omega⟩
def vN (t : List (List Int)) (x y : Sp) : Int :=
  (x.whole - x.part) * (y.whole - y.part) * tg t x.at_ y.at_ + (x.whole - x.part) * y.part * tg t x.at_ (y.at_ + 1) + x.part * (y.whole - y.part) * tg t (x.at_ + 1) y.at_ + x.part * y.part * tg t (x.at_ + 1) (y.at_ + 1)
def cup (n b : Int) : Int := (n + b - 1) / b
theorem cup_eq (n b : Int) (hb : 0 < b) : cup n b = -(-n / b) := by
  unfold cup
  have h1 := Int.emod_add_mul_ediv (-n) b
  have h2 := Int.emod_nonneg (-n) (show b ≠ 0 by omega)
  have h3 := Int.emod_lt_of_pos (-n) hb
  have e : n + b - 1 = (b - 1 - (-n) % b) + b * (-(-n / b)) := by rw [Int.mul_neg]; omega
  rw [e, Int.add_mul_ediv_left _ _ (by omega), Int.ediv_eq_zero_of_lt (by omega) (by omega), Int.zero_add]
def atR (f : Fa) (x y : Sp) : Int × Int := (vN f.lo x y / (x.whole * y.whole), cup (vN f.hi x y) (x.whole * y.whole))

end Go.Fam
namespace Go.Fam
def wgt (s : Sp) : Nat → Int
  | 0 => s.whole - s.part
  | _ => s.part
def pacc (t : List (List Int)) (x y : Sp) : Nat → Int
  | 0 => 0
  | n + 1 => pacc t x y n + wgt x (n / 2) * wgt y (n % 2) * tg t (x.at_ + n / 2) (y.at_ + n % 2)
theorem pacc_all (t : List (List Int)) (x y : Sp) : pacc t x y 4 = vN t x y := by
  simp only [pacc, vN, wgt, Nat.reduceDiv, Nat.reduceMod, Nat.add_zero, Int.zero_add]
def Small (m n : Nat) (t : List (List Int)) : Prop := ∀ i k, i < m → k < n → 0 ≤ tg t i k ∧ tg t i k ≤ 1000000
theorem wgt_in {n : Nat} {M : Int} {s : Sp} (h : SpOK n M s) (i : Nat) : 0 ≤ wgt s i ∧ wgt s i ≤ M := by
  have := h.part
  have := h.whole
  cases i <;> simp only [wgt] <;> omega
theorem term_in {m n : Nat} {t : List (List Int)} (ht : Small m n t) {x y : Sp} (hx : SpOK m 2000000 x) (hy : SpOK n 1000000 y) {i k : Nat} (hi : i < 2) (hk : k < 2) :
    0 ≤ wgt x i * wgt y k ∧ wgt x i * wgt y k ≤ 2000000000000 ∧ 0 ≤ wgt x i * wgt y k * tg t (x.at_ + i) (y.at_ + k) ∧ wgt x i * wgt y k * tg t (x.at_ + i) (y.at_ + k) ≤ wgt x i * wgt y k * 1000000 := by
  have a := wgt_in hx i
  have b := wgt_in hy k
  have h0 : 0 ≤ wgt x i * wgt y k := Int.mul_nonneg a.1 b.1
  have h1 : wgt x i * wgt y k ≤ 2000000 * 1000000 := Int.mul_le_mul a.2 b.2 b.1 (by omega)
  by_cases c : wgt x i = 0 ∨ wgt y k = 0
  · have : wgt x i * wgt y k = 0 := by rcases c with c | c <;> rw [c] <;> simp
    rw [this]; simp
  · have hi' : x.at_ + i < m := by
      cases i with
      | zero => have := hx.at_; omega
      | succ i => obtain rfl : i = 0 := by omega
                  simp only [wgt] at c a
                  have := hx.next (by omega); omega
    have hk' : y.at_ + k < n := by
      cases k with
      | zero => have := hy.at_; omega
      | succ k => obtain rfl : k = 0 := by omega
                  simp only [wgt] at c b
                  have := hy.next (by omega); omega
    have e := ht _ _ hi' hk'
    exact ⟨h0, by omega, Int.mul_nonneg h0 e.1, Int.mul_le_mul_of_nonneg_left e.2 h0⟩
theorem pacc_in {m n : Nat} {t : List (List Int)} (ht : Small m n t) {x y : Sp} (hx : SpOK m 2000000 x) (hy : SpOK n 1000000 y) :
    ∀ {q : Nat}, q ≤ 4 → 0 ≤ pacc t x y q ∧ pacc t x y q ≤ 2000000 * 1000000 * 1000000 ∧ (q = 4 → pacc t x y q ≤ 1000000 * (x.whole * y.whole)) := by
  have t0 := term_in ht hx hy (i := 0) (k := 0) (by omega) (by omega)
  have t1 := term_in ht hx hy (i := 0) (k := 1) (by omega) (by omega)
  have t2 := term_in ht hx hy (i := 1) (k := 0) (by omega) (by omega)
  have t3 := term_in ht hx hy (i := 1) (k := 1) (by omega) (by omega)
  have hw : wgt x 0 * wgt y 0 + wgt x 0 * wgt y 1 + wgt x 1 * wgt y 0 + wgt x 1 * wgt y 1 = x.whole * y.whole := by
    have e1 : x.whole = wgt x 0 + wgt x 1 := by simp only [wgt]; omega
    have e2 : y.whole = wgt y 0 + wgt y 1 := by simp only [wgt]; omega
    rw [e1, e2, Int.add_mul, Int.mul_add, Int.mul_add]; omega
  have hp : x.whole * y.whole ≤ 2000000 * 1000000 := Int.mul_le_mul hx.whole hy.whole (by have := hy.part; omega) (by omega)
  intro q hq
  have e4 : pacc t x y 4 = pacc t x y 3 + wgt x 1 * wgt y 1 * tg t (x.at_ + 1) (y.at_ + 1) := rfl
  have e3 : pacc t x y 3 = pacc t x y 2 + wgt x 1 * wgt y 0 * tg t (x.at_ + 1) (y.at_ + 0) := rfl
  have e2 : pacc t x y 2 = pacc t x y 1 + wgt x 0 * wgt y 1 * tg t (x.at_ + 0) (y.at_ + 1) := rfl
  have e1 : pacc t x y 1 = 0 + wgt x 0 * wgt y 0 * tg t (x.at_ + 0) (y.at_ + 0) := rfl
  have e0 : pacc t x y 0 = 0 := rfl
  obtain rfl | rfl | rfl | rfl | rfl : q = 0 ∨ q = 1 ∨ q = 2 ∨ q = 3 ∨ q = 4 := by omega
  all_goals omega
end Go.Fam

namespace Go.Fam
open Go.Proofs

def insL (n : Int) : List Int → List Int
  | [] => [n]
  | x :: l => if x < n then x :: insL n l else if x = n then x :: l else n :: x :: l
def cntL (n : Int) : List Int → Nat
  | [] => 0
  | x :: l => if x < n then cntL n l + 1 else 0
theorem cntL_le (n : Int) : ∀ l, cntL n l ≤ l.length
  | [] => Nat.le_refl _
  | x :: l => by
    have := cntL_le n l
    simp only [cntL]
    split <;> simp <;> omega
theorem insL_eq (n : Int) : ∀ l, insL n l = if l[cntL n l]? = some n then l else l.take (cntL n l) ++ n :: l.drop (cntL n l)
  | [] => by simp [insL, cntL]
  | x :: l => by
    have ih := insL_eq n l
    simp only [insL, cntL]
    by_cases h : x < n
    · simp only [h, if_true, List.getElem?_cons_succ, List.take_succ_cons, List.drop_succ_cons, ih]
      split <;> simp
    · by_cases h2 : x = n
      · simp [h2]
      · simp [h, h2]
theorem insL_len (n : Int) : ∀ l, 1 ≤ (insL n l).length ∧ (insL n l).length ≤ l.length + 1
  | [] => by simp [insL]
  | x :: l => by
    have := insL_len n l
    simp only [insL]
    split
    · simp; omega
    · split <;> simp
theorem insL_mem {n : Int} : ∀ {l : List Int} {y : Int}, y ∈ insL n l → y = n ∨ y ∈ l
  | [], y, h => by simp [insL] at h; exact .inl h
  | x :: l, y, h => by
    simp only [insL] at h
    split at h
    · rcases List.mem_cons.1 h with rfl | h
      · exact .inr (by simp)
      · rcases insL_mem h with h | h
        · exact .inl h
        · exact .inr (by simp [h])
    · split at h
      · exact .inr h
      · rcases List.mem_cons.1 h with h | h
        · exact .inl h
        · exact .inr h
theorem insL_asc {n : Int} : ∀ {l : List Int}, l.Pairwise (· < ·) → (insL n l).Pairwise (· < ·)
  | [], _ => by simp [insL]
  | x :: l, h => by
    rw [List.pairwise_cons] at h
    simp only [insL]
    split
    · rename_i hx
      rw [List.pairwise_cons]
      refine ⟨fun y hy => ?_, insL_asc h.2⟩
      rcases insL_mem hy with rfl | hy
      · exact hx
      · exact h.1 y hy
    · split
      · rw [List.pairwise_cons]; exact h
      · rw [List.pairwise_cons, List.pairwise_cons]
        refine ⟨fun y hy => ?_, h⟩
        rcases List.mem_cons.1 hy with rfl | hy
        · omega
        · have := h.1 y hy; omega

def linesGo (lo hi : Int) : Nat → Int → List Int → List Int × Int
  | 0, w, out => (out, w)
  | m + 1, w, out => linesGo lo hi m (dstep w) (insL (btw w lo hi) out)
def linesOf (w lo hi most : Int) : List Int := (linesGo lo hi (btw w 1 most).toNat (dstep w) []).1
def linesEnd (w lo hi most : Int) : Int := (linesGo lo hi (btw w 1 most).toNat (dstep w) []).2
theorem linesGo_ok {lo hi : Int} (hlh : lo ≤ hi) : ∀ (m : Nat) (w : Int) (out : List Int), out.Pairwise (· < ·) → (∀ x ∈ out, lo ≤ x ∧ x ≤ hi) → (0 < m ∨ 1 ≤ out.length) →
    ((linesGo lo hi m w out).1.Pairwise (· < ·) ∧ (∀ x ∈ (linesGo lo hi m w out).1, lo ≤ x ∧ x ≤ hi) ∧ 1 ≤ (linesGo lo hi m w out).1.length ∧ (linesGo lo hi m w out).1.length ≤ out.length + m)
  | 0, w, out, h1, h2, h3 => ⟨h1, h2, by simp only [linesGo]; omega, by simp [linesGo]⟩
  | m + 1, w, out, h1, h2, h3 => by
    have hb := btw_in (w := w) hlh
    have hl := insL_len (btw w lo hi) out
    obtain ⟨a, b, c, d⟩ := linesGo_ok hlh m (dstep w) (insL (btw w lo hi) out) (insL_asc h1) (fun x hx => by
      rcases insL_mem hx with rfl | hx
      · exact hb
      · exact h2 x hx) (.inr hl.1)
    exact ⟨a, b, c, by simp only [linesGo] at d ⊢; omega⟩
theorem asc_of {a lo hi : Int} {l : List Int} (h1 : l.Pairwise (· < ·)) (h2 : ∀ x ∈ l, lo ≤ x ∧ x ≤ hi) (h3 : 1 ≤ l.length) (h4 : l.length ≤ 40) (ha : a ≤ lo) (hb : hi ≤ 1000000) : Asc a l := by
  have get : ∀ i (hi : i < l.length), at1 l i = l[i] := fun i hi => by unfold at1; rw [List.getD_eq_getElem?_getD, List.getElem?_eq_getElem hi]; rfl
  refine ⟨h3, h4, fun i hi => ?_, fun i hi => ?_⟩
  · rw [get i hi]
    have := h2 _ (List.getElem_mem hi); omega
  · rw [get i (by omega), get (i + 1) hi]
    exact List.pairwise_iff_getElem.1 h1 i (i + 1) (by omega) hi (by omega)
theorem linesOf_ok {w lo hi most a : Int} (hlh : lo ≤ hi) (hm : 1 ≤ most ∧ most ≤ 40) (ha : a ≤ lo) (hb : hi ≤ 1000000) : Asc a (linesOf w lo hi most) ∧ (linesOf w lo hi most).length ≤ most.toNat := by
  have hbt := btw_in (w := w) hm.1
  obtain ⟨h1, h2, h3, h4⟩ := linesGo_ok hlh (btw w 1 most).toNat (dstep w) [] List.Pairwise.nil (by simp) (.inl (by omega))
  simp only [List.length_nil, Nat.zero_add] at h4
  have h5 : (linesOf w lo hi most).length ≤ (btw w 1 most).toNat := h4
  exact ⟨asc_of h1 h2 h3 (by omega) ha hb, by omega⟩

def mx (a b : Int) : Int := if b > a then b else a
structure Cell where
  lo : Int
  hi : Int
  w : Int
def cellA (w : Int) (u : Option (Int × Int)) : Int := match u with | none => upto w 60 | some u => mx (upto w 60) (u.1 + upto (dstep (dstep w)) 20)
def cellB (w : Int) (u : Option (Int × Int)) : Int := match u with | none => upto (dstep w) 30 | some u => mx (cellA w (some u) + upto (dstep w) 30) u.2 - cellA w (some u)
def cellA2 (w : Int) (u l : Option (Int × Int)) : Int := match l with | none => cellA w u | some l => mx (cellA w u) l.1
def cellB2 (w : Int) (u l : Option (Int × Int)) : Int := match l with | none => cellB w u | some l => mx (cellA2 w u (some l) + cellB w u) l.2 - cellA2 w u (some l)
def cellB3 (w : Int) (u l : Option (Int × Int)) : Int := match u with | none => cellB2 w u l | some v => mx (cellA2 w u l + cellB2 w u l) v.2 - cellA2 w u l
def cellW (w : Int) (u : Option (Int × Int)) : Int := match u with | none => dstep (dstep w) | some _ => dstep (dstep (dstep w))
def cell (w : Int) (u l : Option (Int × Int)) : Cell := ⟨cellA2 w u l, cellA2 w u l + mx 0 (cellB3 w u l), cellW w u⟩

def prevOf (lo hi : List Int) : Option (Int × Int) := if lo.length = 0 then none else some (at1 lo (lo.length - 1), at1 hi (lo.length - 1))
def upOf (U : Option (List Int × List Int)) (k : Nat) : Option (Int × Int) := U.map fun u => (at1 u.1 k, at1 u.2 k)
def lastOf (L H : List (List Int)) : Option (List Int × List Int) := if L.length = 0 then none else some (L.getD (L.length - 1) [], H.getD (L.length - 1) [])
end Go.Fam

namespace Go.Proofs
open Go Go.Sx Go.Fam
attribute [local irreducible] Run

def vw (l : List Int) : AVal := .view (l.map (.int .i64))
def tw (t : List (List Int)) : AVal := .view (t.map vw)
def Fcs (f : Fa) : List AVal := [vw f.g, vw f.p, tw f.lo, tw f.hi]
def Fv (f : Fa) : AVal := .agg (Fcs f)
@[go_sem] theorem vw_bel (l : List Int) (S : Nat → Prop) : Bel S (vw l) = True := by unfold vw; rw [bel_view, bels_ints]
@[go_sem] theorem tw_bel (t : List (List Int)) (S : Nat → Prop) : Bel S (tw t) = True := by
  unfold tw; rw [bel_view]; exact eq_true (bels_map _ _ fun l => by rw [vw_bel]; trivial)
@[go_sem] theorem Fv_bel (f : Fa) (S : Nat → Prop) : Bel S (Fv f) = True := by unfold Fv Fcs; simp only [go_sem]
theorem get_at {l : List Int} {i : Nat} (h : i < l.length) : l[i]? = some (at1 l i) := by
  unfold at1; rw [List.getD_eq_getElem?_getD, List.getElem?_eq_getElem h]; rfl
theorem idx_next {i n : Nat} (h : i < n) (hn : n ≤ 9223372036854775807) : IntKind.i64.wrap ((i : Int) + 1) = ((i + 1 : Nat) : Int) := by rw [w64 (by omega)]; rfl

theorem rightG_fn (v : Int) : Ans Try.prog n_curve_rightGrid [.int .i64 v] [] (.bool (decide (-1000000 ≤ v ∧ v ≤ 1000000))) [] := by
  have := rightGrid_ok v
  rwa [← Bool.decide_and] at this
theorem rightP_fn (v : Int) : Ans Try.prog n_curve_rightPlate [.int .i64 v] [] (.bool (decide (0 ≤ v ∧ v ≤ 1000000))) [] := by
  have := rightPlate_ok v
  rwa [← Bool.decide_and] at this

theorem checkAscending_run (a : Int) (g : Nat) (hg : ∀ v : Int, Ans Try.prog g [.int .i64 v] [] (.bool (decide (a ≤ v ∧ v ≤ 1000000))) []) (l : List Int) (hl : l.length ≤ 9223372036854775807) :
    Ans Try.prog n_curve_checkAscending [vw l, .fn (.func g) [] []] [] (.int .i64 (ascE a l)) [] := by
  refine spec_run e_curve_checkAscending fun G => ?_
  simp only [go_sem, vw, List.length_map]
  refine loop_ind k_curve_checkAscending_r9.eq_1 (fun i : Nat => i ≤ l.length ∧ ascE a l = fnz (ascAt a l) i (l.length - i)) (fun i => l.length - i)
    (fun i => (tsets 30 [(1, .fn (.func g) [] []), (4, .int .i64 0), (7, .view (l.map (.int .i64))), (8, .int .i64 l.length), (9, .int .i64 i), (0, .view (l.map (.int .i64)))], [])) 0 ⟨Nat.zero_le _, rfl⟩ (by simp [go_sem]) rfl ?_
  rintro i ⟨hi, hE⟩ ih
  dsimp only at hi hE ih ⊢
  by_cases h1 : i < l.length
  · have h2 : (i : Int) < l.length := by omega
    have n0 : ¬ (i : Int) < 0 := by omega
    have h3 := idx_next h1 hl
    have hx := get_at h1
    have hs : l.length - i = (l.length - (i + 1)) + 1 := by omega
    rw [hs] at hE
    simp only [fnz] at hE
    have hq := hg (at1 l i)
    simp only [go_sem, h2, n0, hx]
    refine cP hq ?_
    by_cases c1 : a ≤ at1 l i ∧ at1 l i ≤ 1000000
    · by_cases h0 : 0 < i
      · obtain ⟨j, rfl⟩ : ∃ j, i = j + 1 := ⟨i - 1, by omega⟩
        have hy := get_at (l := l) (i := j) (by omega)
        have e0 : ((j + 1 : Nat) : Int) > 0 := by omega
        have e2 : IntKind.i64.wrap (((j + 1 : Nat) : Int) - 1) = j := by rw [w64 (by omega)]; omega
        have e4 : ¬ (j : Int) < 0 := by omega
        by_cases c2 : at1 l (j + 1) ≤ at1 l j
        · have : ascAt a l (j + 1) = 11 := by unfold ascAt; rw [if_pos c1, if_pos ⟨h0, by simpa using c2⟩]
          rw [this] at hE
          simp only [go_sem, c1, e0, e2, e4, hy, Int.toNat_natCast, c2]
          exact hE.symm
        · have : ascAt a l (j + 1) = 0 := by unfold ascAt; rw [if_pos c1, if_neg (by simpa using c2)]
          rw [this, if_pos rfl] at hE
          simp only [go_sem, c1, e0, e2, e4, hy, Int.toNat_natCast, c2, h3]
          exact ih (j + 1 + 1) (by omega) ⟨h1, hE⟩ _ (by simp [go_sem])
      · obtain rfl : i = 0 := by omega
        have e0 : ¬ ((0 : Nat) : Int) > 0 := by omega
        have : ascAt a l 0 = 0 := by unfold ascAt; rw [if_pos c1, if_neg (by omega)]
        rw [this, if_pos rfl] at hE
        simp only [go_sem, c1, e0, h3]
        exact ih (0 + 1) (by omega) ⟨h1, hE⟩ _ (by simp [go_sem]; rfl)
    · have : ascAt a l i = 2 := by unfold ascAt; rw [if_neg c1]
      rw [this] at hE
      simp only [go_sem, c1]
      exact hE.symm
  · have h2 : ¬ (i : Int) < l.length := by omega
    have : l.length - i = 0 := by omega
    rw [this] at hE
    simp only [go_sem, h2]
    exact hE.symm
end Go.Proofs

namespace Go.Proofs
open Go Go.Sx Go.Fam
attribute [local irreducible] Run

theorem checkLines_run (g p : List Int) (hg : g.length ≤ 9223372036854775807) (hp : p.length ≤ 9223372036854775807) : Ans Try.prog n_curve_checkLines [vw g, vw p] [] (.int .i64 (lineE g p)) [] := by
  have k1 := checkAscending_run (-1000000) _ rightG_fn g hg
  have k2 := checkAscending_run 0 _ rightP_fn p hp
  simp only [vw] at k1 k2
  refine spec_run e_curve_checkLines fun G => ?_
  unfold lineE
  by_cases c1 : g.length = 0 ∨ p.length = 0
  · rw [if_pos c1]
    by_cases c2 : g.length = 0
    · simp only [go_sem, vw, List.length_map, c2]
    · have c3 : p.length = 0 := by omega
      have n1 : ((g.length : Int) == 0) = false := beq_eq_false_iff_ne.2 (by omega)
      simp only [go_sem, vw, List.length_map, n1, c3]
  · rw [if_neg c1]
    have n1 : ((g.length : Int) == 0) = false := beq_eq_false_iff_ne.2 (by omega)
    have n2 : ((p.length : Int) == 0) = false := beq_eq_false_iff_ne.2 (by omega)
    by_cases c2 : 40 < g.length ∨ 40 < p.length
    · rw [if_pos c2]
      by_cases c3 : 40 < g.length
      · have n3 : (g.length : Int) > 40 := by omega
        simp only [go_sem, vw, List.length_map, n1, n2, n3]
      · have n3 : ¬ (g.length : Int) > 40 := by omega
        have n4 : (p.length : Int) > 40 := by omega
        simp only [go_sem, vw, List.length_map, n1, n2, n3, n4]
    · rw [if_neg c2]
      have n3 : ¬ (g.length : Int) > 40 := by omega
      have n4 : ¬ (p.length : Int) > 40 := by omega
      simp only [go_sem, vw, List.length_map, n1, n2, n3, n4]
      refine cP k1 ?_
      by_cases c3 : ascE (-1000000) g = 0
      · rw [if_pos c3]
        simp only [go_sem, c3]
        refine cP k2 ?_
        simp only [go_sem]
      · rw [if_neg c3]
        have n5 : (ascE (-1000000) g == 0) = false := beq_eq_false_iff_ne.2 c3
        simp only [go_sem, n5, bne]

theorem hasForm_run (t : List (List Int)) (f : Fa) (ht : t.length ≤ 9223372036854775807) : Ans Try.prog n_curve_hasForm [tw t, Fv f] [] (.bool (formB f.g.length f.p.length t)) [] := by
  refine spec_run e_curve_hasForm fun G => ?_
  simp only [go_sem, tw, Fv, Fcs, vw, List.length_map]
  refine loop_ind k_curve_hasForm_r7.eq_1 (fun i : Nat => i ≤ t.length ∧ ∀ r ∈ t.take i, r.length = f.p.length) (fun i => t.length - i)
    (fun i => (tsets 26 [(0, tw t), (3, .ptr 0 0 0 1), (4, .bool false), (7, tw t), (8, .int .i64 t.length), (9, .int .i64 i)], [some (.cells false 4 [Fv f])])) 0 ⟨Nat.zero_le _, by simp⟩ (by simp [go_sem, tw, vw]) (by simp [Fv, Fcs, vw, tw]) ?_
  rintro i ⟨hi, hT⟩ ih
  dsimp only at hi hT ih ⊢
  by_cases h1 : i < t.length
  · have h2 : (i : Int) < t.length := by omega
    have n0 : ¬ (i : Int) < 0 := by omega
    have h3 := idx_next h1 ht
    obtain ⟨r, hr⟩ : ∃ r, t[i]? = some r := ⟨_, List.getElem?_eq_getElem h1⟩
    by_cases c : r.length = f.p.length
    · have n1 : ((r.length : Int) == f.p.length) = true := by simp [c]
      simp only [go_sem, h2, n0, hr, tw, vw, Fv, Fcs, List.length_map, n1, bne, h3]
      exact ih (i + 1) (by omega) ⟨h1, fun q hq => by
        rw [List.take_add_one, hr] at hq
        rcases List.mem_append.1 hq with hq | hq
        · exact hT q hq
        · simp at hq; subst hq; exact c⟩ _ (by simp [go_sem, tw, vw])
    · have n1 : ((r.length : Int) == f.p.length) = false := beq_eq_false_iff_ne.2 (by omega)
      have : formB f.g.length f.p.length t = false := by
        rw [Bool.eq_false_iff]; intro hf
        exact c ((form_iff.1 hf).2 r (List.mem_of_getElem? hr))
      simp only [go_sem, h2, n0, hr, tw, vw, Fv, Fcs, List.length_map, n1, bne, this]
  · have h2 : ¬ (i : Int) < t.length := by omega
    obtain rfl : i = t.length := by omega
    rw [List.take_length] at hT
    have : formB f.g.length f.p.length t = ((t.length : Int) == f.g.length) := by
      rw [Bool.eq_iff_iff, form_iff]
      simp only [beq_iff_eq]
      exact ⟨fun h => by omega, fun h => ⟨by omega, hT⟩⟩
    simp only [go_sem, h2, tw, vw, Fv, Fcs, List.length_map, this]

theorem tg_get {t : List (List Int)} {i : Nat} {r : List Int} (h : t[i]? = some r) (k : Nat) : tg t i k = at1 r k := by
  unfold tg at1; simp only [List.getD_eq_getElem?_getD, h, Option.getD_some]
structure Tab (m n : Nat) (t : List (List Int)) : Prop where
  len : t.length = m
  row : ∀ i, i < m → ∃ r, t[i]? = some r ∧ r.length = n
theorem tab_of {m n : Nat} {t : List (List Int)} (h : formB m n t = true) : Tab m n t := by
  obtain ⟨h1, h2⟩ := form_iff.1 h
  exact ⟨h1, fun i hi => ⟨_, List.getElem?_eq_getElem (by omega), h2 _ (List.getElem_mem _)⟩⟩

theorem within_run (n a b : Int) : Ans Try.prog n_curve_within [.int .i64 n, .int .i64 a, .int .i64 b] [] (.bool (decide (a ≤ n ∧ n ≤ b))) [] := by
  have := within_ok n a b
  rwa [← Bool.decide_and] at this
end Go.Proofs

namespace Go.Proofs
open Go Go.Sx Go.Fam
attribute [local irreducible] Run

set_option maxHeartbeats 4000000 in
set_option maxRecDepth 20000 in
theorem checkPlace_run (f : Fa) (hL : Tab f.g.length f.p.length f.lo) (hH : Tab f.g.length f.p.length f.hi) {i k : Nat} (hi : i < f.g.length) (hk : k < f.p.length) (hm : f.g.length ≤ 1000 ∧ f.p.length ≤ 1000) :
    Ans Try.prog n_curve_checkPlace [Fv f, .int .i64 i, .int .i64 k] [] (.int .i64 (plE f i k)) [] := by
  obtain ⟨r, hr, hrl⟩ := hL.row i hi
  obtain ⟨s, hs, hsl⟩ := hH.row i hi
  have a1 := get_at (l := r) (i := k) (by omega)
  have b1 := get_at (l := s) (i := k) (by omega)
  rw [← tg_get hr] at a1
  rw [← tg_get hs] at b1
  have n1 : ¬ (i : Int) < 0 := by omega
  have n2 : ¬ (k : Int) < 0 := by omega
  have w1 := within_run (tg f.lo i k) 0 1000000
  have w2 := within_run (tg f.hi i k) 0 1000000
  refine spec_run e_curve_checkPlace fun G => ?_
  simp only [go_sem, Fv, Fcs, tw, vw, hr, hs, a1, b1, n1, n2, Int.toNat_natCast]
  refine cP w1 ?_
  obtain ⟨e, he⟩ : ∃ e, plE f i k = e := ⟨_, rfl⟩
  rw [he]
  by_cases c1 : 0 ≤ tg f.lo i k ∧ tg f.lo i k ≤ 1000000
  · simp only [go_sem, c1]
    refine cP w2 ?_
    by_cases c2 : 0 ≤ tg f.hi i k ∧ tg f.hi i k ≤ 1000000
    · skip
      by_cases c3 : tg f.hi i k < tg f.lo i k
      · skip
        simp only [go_sem, tw, vw, c2, c3]
        (rw [← he]; unfold plE; (try simp only [Nat.add_sub_cancel]); (repeat' split) <;> omega)
      · skip
        -- the number before in the row
        have before : ∀ (j : Nat), k = j + 1 → r[j]? = some (tg f.lo i j) ∧ s[j]? = some (tg f.hi i j) := fun j hj => by
          rw [tg_get hr, tg_get hs]; exact ⟨get_at (by omega), get_at (by omega)⟩
        have up : ∀ (j : Nat), i = j + 1 → ∃ r' s', f.lo[j]? = some r' ∧ f.hi[j]? = some s' ∧ r'[k]? = some (tg f.lo j k) ∧ s'[k]? = some (tg f.hi j k) := fun j hj => by
          obtain ⟨r', h1, h2⟩ := hL.row j (by omega)
          obtain ⟨s', h3, h4⟩ := hH.row j (by omega)
          refine ⟨r', s', h1, h3, ?_, ?_⟩
          · rw [tg_get h1]; exact get_at (by omega)
          · rw [tg_get h3]; exact get_at (by omega)
        by_cases k0 : 0 < k
        · obtain ⟨j, rfl⟩ : ∃ j, k = j + 1 := ⟨k - 1, by omega⟩
          obtain ⟨u1, u2⟩ := before j rfl
          have e1 : ((j + 1 : Nat) : Int) > 0 := by omega
          have e2 : IntKind.i64.wrap (((j + 1 : Nat) : Int) - 1) = j := by rw [w64 (by omega)]; omega
          have e3 : ¬ (j : Int) < 0 := by omega
          by_cases c4 : tg f.lo i (j + 1) < tg f.lo i j
          · skip
            simp only [go_sem, tw, vw, c2, c3, e1, e2, e3, hr, n1, Int.toNat_natCast, u1, c4]
            (rw [← he]; unfold plE; (try simp only [Nat.add_sub_cancel]); (repeat' split) <;> omega)
          · by_cases c5 : tg f.hi i (j + 1) < tg f.hi i j
            · skip
              simp only [go_sem, tw, vw, c2, c3, e1, e2, e3, hr, hs, n1, Int.toNat_natCast, u1, u2, c4, c5]
              (rw [← he]; unfold plE; (try simp only [Nat.add_sub_cancel]); (repeat' split) <;> omega)
            · skip
              by_cases i0 : 0 < i
              · obtain ⟨m, rfl⟩ : ∃ m, i = m + 1 := ⟨i - 1, by omega⟩
                obtain ⟨r', s', v1, v2, v3, v4⟩ := up m rfl
                have g1 : ((m + 1 : Nat) : Int) > 0 := by omega
                have g2 : IntKind.i64.wrap (((m + 1 : Nat) : Int) - 1) = m := by rw [w64 (by omega)]; omega
                have g3 : ¬ (m : Int) < 0 := by omega
                by_cases c6 : tg f.lo (m + 1) (j + 1) < tg f.lo m (j + 1)
                · skip
                  simp only [go_sem, tw, vw, c2, c3, e1, e2, e3, hr, hs, n1, n2, Int.toNat_natCast, u1, u2, c4, c5, g1, g2, g3, v1, v3, c6]
                  (rw [← he]; unfold plE; (try simp only [Nat.add_sub_cancel]); (repeat' split) <;> omega)
                · by_cases c7 : tg f.hi (m + 1) (j + 1) < tg f.hi m (j + 1)
                  · skip
                    simp only [go_sem, tw, vw, c2, c3, e1, e2, e3, hr, hs, n1, n2, Int.toNat_natCast, u1, u2, c4, c5, g1, g2, g3, v1, v2, v3, v4, c6, c7]
                    (rw [← he]; unfold plE; (try simp only [Nat.add_sub_cancel]); (repeat' split) <;> omega)
                  · skip
                    simp only [go_sem, tw, vw, c2, c3, e1, e2, e3, hr, hs, n1, n2, Int.toNat_natCast, u1, u2, c4, c5, g1, g2, g3, v1, v2, v3, v4, c6, c7]
                    (rw [← he]; unfold plE; (try simp only [Nat.add_sub_cancel]); (repeat' split) <;> omega)
              · skip
                have g1 : ¬ (i : Int) > 0 := by omega
                simp only [go_sem, tw, vw, c2, c3, e1, e2, e3, hr, hs, n1, Int.toNat_natCast, u1, u2, c4, c5, g1]
                (rw [← he]; unfold plE; (try simp only [Nat.add_sub_cancel]); (repeat' split) <;> omega)
        · skip
          have e1 : ¬ (k : Int) > 0 := by omega
          by_cases i0 : 0 < i
          · obtain ⟨m, rfl⟩ : ∃ m, i = m + 1 := ⟨i - 1, by omega⟩
            obtain ⟨r', s', v1, v2, v3, v4⟩ := up m rfl
            have g1 : ((m + 1 : Nat) : Int) > 0 := by omega
            have g2 : IntKind.i64.wrap (((m + 1 : Nat) : Int) - 1) = m := by rw [w64 (by omega)]; omega
            have g3 : ¬ (m : Int) < 0 := by omega
            by_cases c6 : tg f.lo (m + 1) k < tg f.lo m k
            · skip
              simp only [go_sem, tw, vw, c2, c3, e1, n2, Int.toNat_natCast, g1, g2, g3, v1, v3, c6]
              (rw [← he]; unfold plE; (try simp only [Nat.add_sub_cancel]); (repeat' split) <;> omega)
            · by_cases c7 : tg f.hi (m + 1) k < tg f.hi m k
              · skip
                simp only [go_sem, tw, vw, c2, c3, e1, n2, Int.toNat_natCast, g1, g2, g3, v1, v2, v3, v4, c6, c7]
                (rw [← he]; unfold plE; (try simp only [Nat.add_sub_cancel]); (repeat' split) <;> omega)
              · skip
                simp only [go_sem, tw, vw, c2, c3, e1, n2, Int.toNat_natCast, g1, g2, g3, v1, v2, v3, v4, c6, c7]
                (rw [← he]; unfold plE; (try simp only [Nat.add_sub_cancel]); (repeat' split) <;> omega)
          · skip
            have g1 : ¬ (i : Int) > 0 := by omega
            simp only [go_sem, tw, vw, c2, c3, e1, g1]
            (rw [← he]; unfold plE; (try simp only [Nat.add_sub_cancel]); (repeat' split) <;> omega)
    · skip
      simp only [go_sem, c2]
      (rw [← he]; unfold plE; (try simp only [Nat.add_sub_cancel]); (repeat' split) <;> omega)
  · skip
    simp only [go_sem, c1]
    (rw [← he]; unfold plE; (try simp only [Nat.add_sub_cancel]); (repeat' split) <;> omega)
end Go.Proofs

namespace Go.Proofs
open Go Go.Sx Go.Fam
attribute [local irreducible] Run

theorem rowE_step {f : Fa} {i : Nat} (hi : i < f.g.length) : fnz (rowE f) i (f.g.length - i) = if rowE f i = 0 then fnz (rowE f) (i + 1) (f.g.length - (i + 1)) else rowE f i := by
  rw [show f.g.length - i = (f.g.length - (i + 1)) + 1 by omega]; rfl
theorem plE_step {f : Fa} {i k : Nat} (hk : k < f.p.length) : fnz (plE f i) k (f.p.length - k) = if plE f i k = 0 then fnz (plE f i) (k + 1) (f.p.length - (k + 1)) else plE f i k := by
  rw [show f.p.length - k = (f.p.length - (k + 1)) + 1 by omega]; rfl

set_option maxHeartbeats 2000000 in
set_option maxRecDepth 10000 in
theorem Check_run (f : Fa) (hg : f.g.length ≤ 1000000) (hp : f.p.length ≤ 1000000) (hl : f.lo.length ≤ 1000000) (hh : f.hi.length ≤ 1000000) : Ans Try.prog n_curve_Check [Fv f] [] (.int .i64 (famE f)) [] := by
  have k1 := checkLines_run f.g f.p (by omega) (by omega)
  have k2 := hasForm_run f.lo f (by omega)
  have k3 := hasForm_run f.hi f (by omega)
  obtain ⟨e, he⟩ : ∃ e, famE f = e := ⟨_, rfl⟩
  rw [he]
  unfold famE at he
  simp only [Fv, Fcs] at k2 k3
  refine spec_run e_curve_Check fun G => ?_
  simp only [go_sem, Fv, Fcs]
  refine cP k1 ?_
  by_cases c1 : lineE f.g f.p = 0
  · rw [if_pos c1] at he
    obtain ⟨hG, hP⟩ := line_iff.1 c1
    have m1 := hG.most
    have m2 := hP.most
    simp only [go_sem, c1]
    refine cP k2 ?_
    by_cases c2 : formB f.g.length f.p.length f.lo = true
    · simp only [go_sem, c2]
      refine cP k3 ?_
      by_cases c3 : formB f.g.length f.p.length f.hi = true
      · rw [if_pos ⟨c2, c3⟩] at he
        have tL := tab_of c2
        have tH := tab_of c3
        simp only [go_sem, c3, vw, List.length_map]
        refine loop_ind k_curve_Check_r18.eq_1 (fun i : Nat => i ≤ f.g.length ∧ fnz (rowE f) i (f.g.length - i) = e) (fun i => f.g.length - i)
          (fun i => (tsets 48 [(1, .ptr 0 0 0 1), (2, .int .i64 0), (29, .int .i64 f.g.length), (30, .int .i64 i)], [some (.cells false 4 [Fv f])])) 0 ⟨Nat.zero_le _, he⟩ (by simp [go_sem]) (by simp [Fv, Fcs, vw]) ?_
        rintro i ⟨hi, hE⟩ ih
        dsimp only at hi hE ih ⊢
        by_cases h1 : i < f.g.length
        · have h2 : (i : Int) < f.g.length := by omega
          have h3 := idx_next h1 (by omega)
          rw [rowE_step h1] at hE
          simp only [go_sem, h2, Fv, Fcs, vw, List.length_map]
          refine loop_ind k_curve_Check_r16.eq_1 (fun k : Nat => k ≤ f.p.length ∧ fnz (plE f i) k (f.p.length - k) = rowE f i) (fun k => f.p.length - k)
            (fun k => (tsets 48 [(1, .ptr 0 0 0 1), (2, .int .i64 0), (4, .int .i64 i), (29, .int .i64 f.g.length), (30, .int .i64 i), (35, .int .i64 f.p.length), (36, .int .i64 k)], [some (.cells false 4 [Fv f])])) 0 ⟨Nat.zero_le _, rfl⟩ (by simp [go_sem]) (by simp [Fv, Fcs, vw]) ?_
          rintro k ⟨hk, hF⟩ ihk
          dsimp only at hk hF ihk ⊢
          by_cases j1 : k < f.p.length
          · have j2 : (k : Int) < f.p.length := by omega
            have j3 := idx_next j1 (by omega)
            rw [plE_step j1] at hF
            have kp := checkPlace_run f tL tH h1 j1 (by omega)
            simp only [Fv, Fcs, vw] at kp
            simp only [go_sem, j2, Fv, Fcs, vw]
            refine cP kp ?_
            by_cases c4 : plE f i k = 0
            · rw [if_pos c4] at hF
              simp only [go_sem, c4, bne, j3]
              exact ihk (k + 1) (by omega) ⟨j1, hF⟩ _ (by simp [go_sem])
            · rw [if_neg c4] at hF
              have n5 : (plE f i k == 0) = false := beq_eq_false_iff_ne.2 c4
              rw [if_neg (by rw [← hF]; exact c4), ← hF] at hE
              simp only [go_sem, n5, bne]
              exact hE
          · have j2 : ¬ (k : Int) < f.p.length := by omega
            obtain rfl : k = f.p.length := by omega
            rw [Nat.sub_self] at hF
            have hF0 : rowE f i = 0 := hF.symm
            rw [if_pos hF0] at hE
            simp only [go_sem, j2, h3]
            exact ih (i + 1) (by omega) ⟨h1, hE⟩ _ (by simp [go_sem])
        · have h2 : ¬ (i : Int) < f.g.length := by omega
          obtain rfl : i = f.g.length := by omega
          rw [Nat.sub_self] at hE
          simp only [go_sem, h2]
          exact hE
      · rw [if_neg (fun h => c3 h.2)] at he
        rw [Bool.not_eq_true] at c3
        simp only [go_sem, c3]
        exact he
    · rw [if_neg (fun h => c2 h.1)] at he
      rw [Bool.not_eq_true] at c2
      simp only [go_sem, c2]
      exact he
  · rw [if_neg c1] at he
    have n5 : (lineE f.g f.p == 0) = false := beq_eq_false_iff_ne.2 c1
    simp only [go_sem, n5, bne]
    exact he
end Go.Proofs

namespace Go.Proofs
open Go Go.Sx Go.Fam
attribute [local irreducible] Run

theorem s1 (x : Int) : shrW .u64 x 1 = x / 2 := by rw [shr_u64]; rfl

theorem search_ok (n : Nat) (hn : n ≤ 1000000000000000000) (g : Nat) (cs : List AVal) (hcs : Bels (fun _ => False) cs) (m : Nat) (hm : m ≤ n)
    (hp : ∀ i : Nat, i < n → Ans Try.prog g (.int .i64 i :: cs) [] (.bool (decide (m ≤ i))) []) : Ans Try.prog n_sort_Search [.int .i64 n, .fn (.func g) [] cs] [] (.int .i64 m) [] := by
  refine spec_run e_sort_Search fun G => ?_
  simp only [go_sem]
  refine loop_ind k_sort_Search_r7.eq_1 (fun a : Nat × Nat => a.1 ≤ m ∧ m ≤ a.2 ∧ a.2 ≤ n) (fun a => a.2 - a.1)
    (fun a => ([.int .i64 n, .fn (.func g) [] cs, .any, .any, .int .i64 0, .int .i64 a.1, .int .i64 a.2] ++ List.replicate 19 .any, [])) (0, n) ⟨Nat.zero_le _, hm, Nat.le_refl _⟩ (by simp [Wk]) rfl ?_
  rintro ⟨i, j⟩ ⟨hi, hj, hjn⟩ ih
  dsimp only at hi hj hjn ih ⊢
  by_cases h1 : i < j
  · have h2 : (i : Int) < j := by omega
    have e1 : IntKind.i64.wrap ((i : Int) + j) = i + j := w64 (by omega)
    have e2 : IntKind.u64.wrap ((i : Int) + j) = i + j := IntWalk.u64_in _ (by omega)
    have e3 : IntKind.i64.wrap (((i : Int) + j) / 2) = (((i + j) / 2 : Nat) : Int) := by rw [w64 (by omega)]; omega
    have e4 : IntKind.i64.wrap ((((i + j) / 2 : Nat) : Int) + 1) = (((i + j) / 2 + 1 : Nat) : Int) := by rw [w64 (by omega)]; omega
    have hq := hp ((i + j) / 2) (by omega)
    simp only [go_sem, h2, e1, e2, s1, e3]
    refine cP hq ?_ ⟨.int _ _, hcs⟩
    by_cases h3 : m ≤ (i + j) / 2
    · simp only [go_sem, h3]
      exact ih (i, (i + j) / 2) (by dsimp only; omega) ⟨hi, h3, by omega⟩ _ (by simp [Wk])
    · simp only [go_sem, h3, e4]
      exact ih ((i + j) / 2 + 1, j) (by dsimp only; omega) ⟨by dsimp only; omega, hj, hjn⟩ _ (by simp [Wk])
  · have h2 : ¬ (i : Int) < j := by omega
    simp only [go_sem, h2]
    omega

theorem cnt_iff {a v : Int} {l : List Int} (h : Asc a l) {i : Nat} (hi : i < l.length) : cnt v l ≤ i ↔ v + 1 ≤ at1 l i := by
  constructor
  · intro c
    have := cnt_at (v := v) (l := l) (by omega)
    have := h.le c hi
    omega
  · intro c
    by_cases d : i < cnt v l
    · have := cnt_below d; omega
    · omega
theorem searchInts_run {a : Int} {l : List Int} (h : Asc a l) (v : Int) : Ans Try.prog n_sort_SearchInts [vw l, .int .i64 (v + 1)] [] (.int .i64 (cnt v l)) [] := by
  have hl := h.most
  have hs := search_ok l.length (by omega) n_sort_SearchInts_1 [.rptr (vw l) 0, .rptr (.int .i64 (v + 1)) 0] (by simp only [go_sem]) (cnt v l) (cnt_le v l) (fun i hi => by
    have hx := get_at hi
    have n0 : ¬ (i : Int) < 0 := by omega
    have e := cnt_iff (v := v) h hi
    refine spec_run e_sort_SearchInts_1 fun G => ?_
    simp only [go_sem, vw, hx, n0, Int.toNat_natCast, e])
  refine spec_run e_sort_SearchInts fun G => ?_
  simp only [go_sem, vw, List.length_map]
  refine callF0 hs 6 (by simp only [go_sem, frz, vw]; simp [frz]) ?_
  simp only [go_sem]

def Sv (s : Sp) : AVal := .agg [.int .i64 s.at_, .int .i64 s.part, .int .i64 s.whole]
theorem spotOf_run {a : Int} (ha : -1000000 ≤ a ∧ a ≤ 999999) {l : List Int} (h : Asc a l) {v : Int} (hv : -1000000 ≤ v ∧ v ≤ 1000000) : Ans Try.prog n_curve_spotOf [vw l, .int .i64 v] [] (Sv (spot l v)) [] := by
  have hl := h.most
  have hp := h.pos
  have hs := searchInts_run h v
  have hc := cnt_le v l
  have w1 : IntKind.i64.wrap (v + 1) = v + 1 := w64 (by omega)
  have w2 : IntKind.i64.wrap ((cnt v l : Int) - 1) = (cnt v l : Int) - 1 := w64 (by omega)
  have w3 : IntKind.i64.wrap ((l.length : Int) - 1) = (l.length : Int) - 1 := w64 (by omega)
  simp only [vw] at hs
  refine spec_run e_curve_spotOf fun G => ?_
  simp only [go_sem, vw, w1]
  refine cP hs ?_
  unfold spot
  generalize hcn : cnt v l = n at *
  by_cases c1 : n = 0
  · subst c1
    have wm : IntKind.i64.wrap (((0 : Nat) : Int) - 1) = -1 := rfl
    have wm2 : IntKind.i64.wrap (-1) = -1 := rfl
    simp only [go_sem, Sv, wm, wm2]
  · obtain ⟨j, rfl⟩ : ∃ j, n = j + 1 := ⟨n - 1, by omega⟩
    have e1 : ((j + 1 : Nat) : Int) - 1 = j := by omega
    rw [e1] at w2
    have n1 : ¬ (j : Int) < 0 := by omega
    rw [if_neg c1]
    by_cases c2 : j + 1 = l.length
    · rw [if_pos c2]
      have e2 : ((j : Int) == (l.length : Int) - 1) = true := by simp; omega
      simp only [go_sem, e1, w2, n1, List.length_map, w3, e2, Sv, Nat.add_sub_cancel]
    · rw [if_neg c2]
      have e2 : ((j : Int) == (l.length : Int) - 1) = false := by simp; omega
      have x1 := get_at (l := l) (i := j) (by omega)
      have x2 := get_at (l := l) (i := j + 1) (by omega)
      have i1 := h.inn j (by omega)
      have i2 := h.inn (j + 1) (by omega)
      have w4 : IntKind.i64.wrap ((j : Int) + 1) = ((j + 1 : Nat) : Int) := by rw [w64 (by omega)]; omega
      have w5 : IntKind.i64.wrap (v - at1 l j) = v - at1 l j := w64 (by omega)
      have w6 : IntKind.i64.wrap (at1 l (j + 1) - at1 l j) = at1 l (j + 1) - at1 l j := w64 (by omega)
      have n2 : ¬ ((j + 1 : Nat) : Int) < 0 := by omega
      simp only [go_sem, e1, w2, n1, List.length_map, w3, e2, x1, x2, w4, w5, w6, n2, Sv, Nat.add_sub_cancel, Int.toNat_natCast]

theorem weights_run {n : Nat} {M : Int} (hM : M ≤ 2000000) {s : Sp} (h : SpOK n M s) : Ans Try.prog n_curve_spot_weights [Sv s] [] (.agg [.int .i64 (wgt s 0), .int .i64 (wgt s 1)]) [] := by
  have h1 := h.part
  have h2 := h.whole
  have w1 : IntKind.i64.wrap (s.whole - s.part) = s.whole - s.part := w64 (by omega)
  refine spec_run e_curve_spot_weights fun G => ?_
  simp only [go_sem, Sv, w1, wgt]
end Go.Proofs

namespace Go.Proofs
open Go Go.Sx Go.Fam
attribute [local irreducible] Run

def Wv (x : Sp) : AVal := .agg [.int .i64 (wgt x 0), .int .i64 (wgt x 1)]
def vH (t : List (List Int)) (x y : Sp) (q : Nat) : Heap := [some (.cells false 3 [Sv x]), some (.cells false 3 [Sv y]), some (.cells false 2 [.agg [.int .i64 0, .int .i64 0]]), some (.cells false 2 [.agg [.int .i64 (pacc t x y q), .int .i64 (x.whole * y.whole)]])]
def vT (t : List (List Int)) (x : Sp) : List (Nat × AVal) := [(0, tw t), (4, .ptr 0 0 0 1), (5, .ptr 1 0 0 1), (6, .ptr 2 0 0 1), (7, .ptr 3 0 0 1), (19, Wv x)]
theorem pacc_step (t : List (List Int)) (x y : Sp) {i k : Nat} (hk : k < 2) : pacc t x y (2 * i + k + 1) = pacc t x y (2 * i + k) + wgt x i * wgt y k * tg t (x.at_ + i) (y.at_ + k) := by
  show pacc t x y (2 * i + k) + wgt x ((2 * i + k) / 2) * wgt y ((2 * i + k) % 2) * tg t (x.at_ + (2 * i + k) / 2) (y.at_ + (2 * i + k) % 2) = _
  rw [show (2 * i + k) / 2 = i by omega, show (2 * i + k) % 2 = k by omega]

set_option maxHeartbeats 4000000 in
set_option maxRecDepth 20000 in
theorem value_run {m n : Nat} {t : List (List Int)} (hT : Tab m n t) (hS : Small m n t) (hmn : m ≤ 1000 ∧ n ≤ 1000) {x y : Sp} (hx : SpOK m 2000000 x) (hy : SpOK n 1000000 y) :
    Ans Try.prog n_curve_value [tw t, Sv x, Sv y] [] (.agg [.int .i64 (vN t x y), .int .i64 (x.whole * y.whole)]) [] := by
  have kx := weights_run (by omega) hx
  have ky := weights_run (by omega) hy
  have hw : 0 ≤ x.whole * y.whole ∧ x.whole * y.whole ≤ 2000000 * 1000000 := ⟨Int.mul_nonneg (by have := hx.part; omega) (by have := hy.part; omega), Int.mul_le_mul hx.whole hy.whole (by have := hy.part; omega) (by omega)⟩
  have w0 : IntKind.i64.wrap (x.whole * y.whole) = x.whole * y.whole := w64 (by omega)
  have hx1 := hx.at_
  have hy1 := hy.at_
  simp only [Sv] at kx ky
  refine spec_run e_curve_value fun G => ?_
  simp only [go_sem, Sv, w0]
  refine cP kx ?_
  simp only [go_sem]
  refine loop_ind k_curve_value_r13.eq_1 (fun i : Nat => i ≤ 2) (fun i => 2 - i) (fun i => (tsets 60 (vT t x ++ [(20, .int .i64 i)]), vH t x y (2 * i))) 0 (Nat.zero_le _) (by simp [go_sem, vT, Wv]) (by simp [vH, Sv, pacc]) ?_
  intro i hi ih
  dsimp only at hi ih ⊢
  by_cases h1 : i < 2
  · have h2 : (i : Int) < 2 := by omega
    have h3 := idx_next h1 (by omega)
    have hwi : [AVal.int .i64 (wgt x 0), AVal.int .i64 (wgt x 1)][i]? = some (.int .i64 (wgt x i)) := by
      obtain rfl | rfl : i = 0 ∨ i = 1 := by omega
      all_goals rfl
    have n0 : (0 : Int) ≤ i := by omega
    simp only [go_sem, vT, vH, h2, Wv, n0, Int.toNat_natCast, Nat.mul_one, hwi, Sv]
    refine cP ky ?_
    simp only [go_sem]
    refine loop_ind k_curve_value_r11.eq_1 (fun k : Nat => k ≤ 2) (fun k => 2 - k) (fun k => (tsets 60 (vT t x ++ [(8, .int .i64 i), (9, .int .i64 (wgt x i)), (20, .int .i64 i), (25, Wv y), (26, .int .i64 k)]), vH t x y (2 * i + k))) 0 (Nat.zero_le _) (by simp [go_sem, vT, Wv]) (by simp [vH, Sv]) ?_
    intro k hk ihk
    dsimp only at hk ihk ⊢
    by_cases j1 : k < 2
    · have j2 : (k : Int) < 2 := by omega
      have j3 := idx_next j1 (by omega)
      have hwk : [AVal.int .i64 (wgt y 0), AVal.int .i64 (wgt y 1)][k]? = some (.int .i64 (wgt y k)) := by
        obtain rfl | rfl : k = 0 ∨ k = 1 := by omega
        all_goals rfl
      have n1 : (0 : Int) ≤ k := by omega
      have hst := pacc_step t x y (i := i) j1
      have htm := term_in hS hx hy h1 j1
      have hp0 := (pacc_in hS hx hy (q := 2 * i + k) (by omega))
      have hp1 := (pacc_in hS hx hy (q := 2 * i + k + 1) (by omega))
      rw [hst] at hp1
      by_cases c : wgt x i ≠ 0 ∧ wgt y k ≠ 0
      · have hi' : x.at_ + i < m := by
          obtain rfl | rfl : i = 0 ∨ i = 1 := by omega
          · omega
          · have := (wgt_in hx 1).1
            have c1 := c.1
            simp only [wgt] at c1 this
            exact hx.next (by omega)
        have hk' : y.at_ + k < n := by
          obtain rfl | rfl : k = 0 ∨ k = 1 := by omega
          · omega
          · have := (wgt_in hy 1).1
            have c1 := c.2
            simp only [wgt] at c1 this
            exact hy.next (by omega)
        obtain ⟨r, hr, hrl⟩ := hT.row _ hi'
        have hrk := get_at (l := r) (i := y.at_ + k) (by omega)
        rw [← tg_get hr] at hrk
        have b1 : (wgt x i == 0) = false := beq_eq_false_iff_ne.2 c.1
        have b2 : (wgt y k == 0) = false := beq_eq_false_iff_ne.2 c.2
        have w1 : IntKind.i64.wrap (wgt x i * wgt y k) = wgt x i * wgt y k := w64 (by omega)
        have w2 : IntKind.i64.wrap ((x.at_ : Int) + i) = ((x.at_ + i : Nat) : Int) := by rw [w64 (by omega)]; omega
        have w3 : IntKind.i64.wrap ((y.at_ : Int) + k) = ((y.at_ + k : Nat) : Int) := by rw [w64 (by omega)]; omega
        have w4 : IntKind.i64.wrap (wgt x i * wgt y k * tg t (x.at_ + i) (y.at_ + k)) = wgt x i * wgt y k * tg t (x.at_ + i) (y.at_ + k) := w64 (by omega)
        have w5 : IntKind.i64.wrap (pacc t x y (2 * i + k) + wgt x i * wgt y k * tg t (x.at_ + i) (y.at_ + k)) = pacc t x y (2 * i + k + 1) := by rw [w64 (by omega), hst]
        have n2 : ¬ ((x.at_ + i : Nat) : Int) < 0 := by omega
        have n3 : ¬ ((y.at_ + k : Nat) : Int) < 0 := by omega
        simp only [go_sem, vT, vH, j2, Wv, n1, Int.toNat_natCast, Nat.mul_one, hwk, Sv, bne, b1, b2, w1, w2, w3, w4, w5, n2, n3, tw, vw, hr, hrk, j3]
        exact ihk (k + 1) (by omega) j1 _ (by simp [go_sem, vT, Wv, tw, vw])
      · have hz : wgt x i * wgt y k * tg t (x.at_ + i) (y.at_ + k) = 0 := by
          rcases Classical.not_and_iff_not_or_not.1 c with d | d
          · rw [Classical.not_not.1 d]; simp
          · rw [Classical.not_not.1 d]; simp
        rw [hz, Int.add_zero] at hst
        have go : ∀ ρ', Wk ρ' (tsets 60 (vT t x ++ [(8, .int .i64 i), (9, .int .i64 (wgt x i)), (20, .int .i64 i), (25, Wv y), (26, .int .i64 ((k + 1 : Nat) : Int))])) → Sx.Loop Try.prog G _ none _ _ ⟨ρ', vH t x y (2 * i + k), []⟩ _ := fun ρ' hw => by
          have := ihk (k + 1) (by omega) j1 ρ' hw
          rw [show vH t x y (2 * i + (k + 1)) = vH t x y (2 * i + k) by unfold vH; rw [← Nat.add_assoc, hst]] at this
          exact this
        by_cases d : wgt x i = 0
        · have b1 : (wgt x i == 0) = true := by rw [d]; rfl
          simp only [go_sem, vT, vH, j2, Wv, n1, Int.toNat_natCast, Nat.mul_one, hwk, Sv, bne, b1, j3]
          exact go _ (by simp [go_sem, vT, Wv, tw, vw])
        · have b1 : (wgt x i == 0) = false := beq_eq_false_iff_ne.2 d
          have b2 : (wgt y k == 0) = true := by
            have : wgt y k = 0 := Classical.not_not.1 fun h => c ⟨d, h⟩
            rw [this]; rfl
          simp only [go_sem, vT, vH, j2, Wv, n1, Int.toNat_natCast, Nat.mul_one, hwk, Sv, bne, b1, b2, j3]
          exact go _ (by simp [go_sem, vT, Wv, tw, vw])
    · have j2 : ¬ (k : Int) < 2 := by omega
      obtain rfl : k = 2 := by omega
      simp only [go_sem, vT, vH, j2, h3]
      exact ih (i + 1) (by omega) h1 _ (by simp [go_sem, vT, Wv])
  · have h2 : ¬ (i : Int) < 2 := by omega
    obtain rfl : i = 2 := by omega
    have e := pacc_all t x y
    simp only [go_sem, vT, vH, h2, e]
end Go.Proofs

namespace Go.Proofs
open Go Go.Sx Go.Fam
attribute [local irreducible] Run

@[go_sem] theorem tws_bel (t : List (List Int)) (S : Nat → Prop) : Bels S (t.map vw) = True := eq_true (bels_map _ _ fun l => by rw [vw_bel]; trivial)
theorem roundUp_run {n b : Int} (h0 : 0 ≤ n ∧ n ≤ 4000000000000000000) (h1 : 1 ≤ b ∧ b ≤ 1000000000000000000) : Ans Try.prog n_curve_roundUp [.int .i64 n, .int .i64 b] [] (.int .i64 (cup n b)) [] := by
  refine spec_run e_curve_roundUp fun G => ?_
  have hq : 0 ≤ (n + b - 1) / b := Int.ediv_nonneg (by omega) (by omega)
  have hq2 : (n + b - 1) / b ≤ n + b - 1 := Int.ediv_le_self _ (by omega)
  simp only [go_sem]
  rw [w64 (n := n + b) (by omega), w64 (n := n + b - 1) (by omega), Int.tdiv_eq_ediv_of_nonneg (by omega), w64 (by omega)]
  exact ⟨by omega, rfl⟩

def atV (f : Fa) (g p : Int) : Int × Int := atR f (spot f.g g) (spot f.p p)
def atA (f : Fa) (g p : Int) : AVal := if famE f = 0 then (if (-1000000 ≤ g ∧ g ≤ 1000000) ∧ 0 ≤ p ∧ p ≤ 1000000 then .tup [.agg [.int .i64 (atV f g p).1, .int .i64 (atV f g p).2], .int .i64 0] else .tup [.agg [.int .i64 0, .int .i64 0], .int .i64 2]) else .tup [.agg [.int .i64 0, .int .i64 0], .int .i64 (famE f)]
theorem _root_.Go.Fam.FaOK.tabs {f : Fa} (h : FaOK f) : Tab f.g.length f.p.length f.lo ∧ Tab f.g.length f.p.length f.hi ∧ Small f.g.length f.p.length f.lo ∧ Small f.g.length f.p.length f.hi :=
  ⟨⟨h.llen, fun i hi => ⟨_, List.getElem?_eq_getElem (by rw [h.llen]; exact hi), h.lrow _ (List.getElem_mem _)⟩⟩, ⟨h.hlen, fun i hi => ⟨_, List.getElem?_eq_getElem (by rw [h.hlen]; exact hi), h.hrow _ (List.getElem_mem _)⟩⟩,
    fun i k hi hk => by have := h.inn i k hi hk; omega, fun i k hi hk => by have := h.inn i k hi hk; omega⟩

set_option maxHeartbeats 4000000 in
set_option maxRecDepth 20000 in
theorem At_run (f : Fa) (hg : f.g.length ≤ 1000000) (hp : f.p.length ≤ 1000000) (hl : f.lo.length ≤ 1000000) (hh : f.hi.length ≤ 1000000) (g p : Int) : Ans Try.prog n_curve_At [Fv f, .int .i64 g, .int .i64 p] [] (atA f g p) [] := by
  have k1 := Check_run f hg hp hl hh
  have k2 := rightG_fn g
  have k3 := rightP_fn p
  obtain ⟨r, hr⟩ : ∃ r, atA f g p = r := ⟨_, rfl⟩
  rw [hr]
  unfold atA at hr
  refine spec_run e_curve_At fun G => ?_
  simp only [Fv, Fcs] at k1
  simp only [go_sem, Fv, Fcs]
  refine cP k1 ?_
  by_cases c1 : famE f = 0
  · rw [if_pos c1] at hr
    have hf := fam_iff.1 c1
    obtain ⟨tL, tH, sL, sH⟩ := hf.tabs
    have m1 := hf.g.most
    have m2 := hf.p.most
    simp only [go_sem, c1]
    refine cP k2 ?_
    by_cases c2 : -1000000 ≤ g ∧ g ≤ 1000000
    · simp only [go_sem, c2]
      refine cP k3 ?_
      by_cases c3 : 0 ≤ p ∧ p ≤ 1000000
      · rw [if_pos ⟨c2, c3⟩] at hr
        have k4 := spotOf_run (by omega) hf.g (v := g) (by omega)
        have k5 := spotOf_run (by omega) hf.p (v := p) (by omega)
        have ox : SpOK f.g.length 2000000 (spot f.g g) := spot_ok hf.g (by omega)
        have oy : SpOK f.p.length 1000000 (spot f.p p) := spot_ok hf.p (by omega)
        have k6 := value_run tL sL (by omega) ox oy
        have k7 := value_run tH sH (by omega) ox oy
        have hp4 := (pacc_in sH ox oy (q := 4) (Nat.le_refl _))
        have hq4 := (pacc_in sL ox oy (q := 4) (Nat.le_refl _))
        rw [pacc_all] at hp4 hq4
        have hw : 1 ≤ (spot f.g g).whole * (spot f.p p).whole := Int.mul_pos (by have := ox.part; omega) (by have := oy.part; omega)
        have hw2 : (spot f.g g).whole * (spot f.p p).whole ≤ 2000000 * 1000000 := Int.mul_le_mul ox.whole oy.whole (by have := oy.part; omega) (by omega)
        unfold atV atR at hr
        simp only [vw, Sv] at k4 k5
        simp only [tw, vw, Sv] at k6 k7
        generalize spot f.g g = x at *
        generalize spot f.p p = y at *
        generalize x.whole * y.whole = W at *
        generalize vN f.lo x y = A at *
        generalize vN f.hi x y = B at *
        have k8 := roundUp_run (n := B) (b := W) (by omega) (by omega)
        have hq : 0 ≤ A / W := Int.ediv_nonneg (by omega) (by omega)
        have hq2 : A / W ≤ A := Int.ediv_le_self _ (by omega)
        have ed : A.tdiv W = A / W := Int.tdiv_eq_ediv_of_nonneg (by omega)
        have wd : IntKind.i64.wrap (A / W) = A / W := w64 (by omega)
        have wz : (W == 0) = false := beq_eq_false_iff_ne.2 (by omega)
        have wz2 : ¬ W = 0 := by omega
        simp only [go_sem, c3, tw, vw]
        refine dP k4 ?_
        simp only [go_sem]
        refine dP k5 ?_
        simp only [go_sem]
        refine dP k6 ?_
        simp only [go_sem]
        refine dP k7 ?_
        simp only [go_sem, ed, wd, wz, wz2]
        refine dP k8 ?_
        simp only [go_sem, ed, wd]
        exact hr
      · rw [if_neg (fun h => c3 h.2)] at hr
        simp only [go_sem, c3]
        exact hr
    · rw [if_neg (fun h => c2 h.1)] at hr
      simp only [go_sem, c2]
      exact hr
  · rw [if_neg c1] at hr
    have n5 : (famE f == 0) = false := beq_eq_false_iff_ne.2 c1
    simp only [go_sem, n5, bne]
    exact hr
end Go.Proofs

namespace Go.Proofs
open Go Go.Sx Go.Fam
attribute [local irreducible] Run

theorem wrapU (n : Int) : IntKind.u64.wrap n = n % 18446744073709551616 := by simp [IntKind.wrap, IntKind.bits, IntKind.signed]
theorem and32 {a : Int} (h0 : 0 ≤ a) (h1 : a ≤ 18446744073709551615) : bitW .and .u64 a 4294967295 = a % 4294967296 := by
  obtain ⟨n, rfl⟩ : ∃ n : Nat, a = n := ⟨a.toNat, by omega⟩
  have e : (BitVec.ofInt 64 (n : Int) &&& BitVec.ofInt 64 4294967295).toNat = n % 4294967296 := by
    rw [BitVec.toNat_and, BitVec.toNat_ofInt, BitVec.toNat_ofInt]
    have e1 : ((n : Int) % ((2 ^ 64 : Nat) : Int)).toNat = n := by omega
    have e2 : ((4294967295 : Int) % ((2 ^ 64 : Nat) : Int)).toNat = 2 ^ 32 - 1 := by decide
    rw [e1, e2, Nat.and_two_pow_sub_one_eq_mod]
  unfold bitW bitsOf
  simp only [Option.getD_some]
  show IntKind.u64.wrap ((BitVec.ofInt 64 (n : Int) &&& BitVec.ofInt 64 4294967295).toNat : Int) = _
  rw [e, wrapU]
  omega
theorem shr32 (a : Int) : shrW .u64 a 32 = a / 4294967296 := by
  unfold shrW
  show a.fdiv (2 ^ 32) = _
  rw [Int.fdiv_eq_ediv_of_nonneg _ (by decide)]; rfl
theorem wU {a : Int} (h0 : 0 ≤ a) (h1 : a ≤ 18446744073709551615) : IntKind.u64.wrap a = a := by rw [wrapU]; omega
theorem Mul64_run (x y : Int) (hx : 0 ≤ x ∧ x ≤ 18446744073709551615) (hy : 0 ≤ y ∧ y ≤ 18446744073709551615) :
    Ans Try.prog n_bits_Mul64 [.int .u64 x, .int .u64 y] [] (.tup [.int .u64 (x * y / 18446744073709551616), .int .u64 (x * y % 18446744073709551616)]) [] := by
  obtain ⟨x0, hx0⟩ : ∃ q, x % 4294967296 = q := ⟨_, rfl⟩
  obtain ⟨x1, hx1⟩ : ∃ q, x / 4294967296 = q := ⟨_, rfl⟩
  obtain ⟨y0, hy0⟩ : ∃ q, y % 4294967296 = q := ⟨_, rfl⟩
  obtain ⟨y1, hy1⟩ : ∃ q, y / 4294967296 = q := ⟨_, rfl⟩
  have bx0 : 0 ≤ x0 ∧ x0 ≤ 4294967295 := by omega
  have bx1 : 0 ≤ x1 ∧ x1 ≤ 4294967295 := by omega
  have by0 : 0 ≤ y0 ∧ y0 ≤ 4294967295 := by omega
  have by1 : 0 ≤ y1 ∧ y1 ≤ 4294967295 := by omega
  have M : ∀ {a b : Int}, (0 ≤ a ∧ a ≤ 4294967295) → (0 ≤ b ∧ b ≤ 4294967295) → 0 ≤ a * b ∧ a * b ≤ 4294967295 * 4294967295 := fun ha hb => ⟨Int.mul_nonneg ha.1 hb.1, Int.mul_le_mul ha.2 hb.2 hb.1 (by decide)⟩
  have m00 := M bx0 by0
  have m10 := M bx1 by0
  have m01 := M bx0 by1
  have m11 := M bx1 by1
  have ex : x = x1 * 4294967296 + x0 := by omega
  have ey : y = y1 * 4294967296 + y0 := by omega
  have exy : x * y = x1 * y1 * 18446744073709551616 + (x1 * y0 + x0 * y1) * 4294967296 + x0 * y0 := by
    rw [ex, ey, Int.add_mul, Int.mul_add, Int.mul_add]
    have a1 : x1 * 4294967296 * (y1 * 4294967296) = x1 * y1 * 18446744073709551616 := by
      rw [Int.mul_assoc, Int.mul_left_comm 4294967296, ← Int.mul_assoc, ← Int.mul_assoc]; omega
    have a2 : x1 * 4294967296 * y0 = x1 * y0 * 4294967296 := by rw [Int.mul_assoc, Int.mul_comm 4294967296, Int.mul_assoc]
    have a3 : x0 * (y1 * 4294967296) = x0 * y1 * 4294967296 := by rw [Int.mul_assoc]
    rw [a1, a2, a3]; omega
  have s32 : ¬ ((32 : Int) < 0) := by decide
  have A1 := and32 hx.1 hx.2
  have A2 := and32 hy.1 hy.2
  rw [hx0] at A1
  rw [hy0] at A2
  have S1 := shr32 x
  have S2 := shr32 y
  rw [hx1] at S1
  rw [hy1] at S2
  have W1 := wU m00.1 (by omega)
  have W2 := wU m10.1 (by omega)
  have S3 := shr32 (x0 * y0)
  obtain ⟨t, ht⟩ : ∃ q, x1 * y0 + x0 * y0 / 4294967296 = q := ⟨_, rfl⟩
  have bt : 0 ≤ t ∧ t ≤ 18446744069414584320 := by omega
  have W3 : IntKind.u64.wrap (x1 * y0 + x0 * y0 / 4294967296) = t := by rw [ht]; exact wU bt.1 (by omega)
  have A3 := and32 bt.1 (by omega)
  have S4 := shr32 t
  have W4 := wU m01.1 (by omega)
  obtain ⟨w1, hw1⟩ : ∃ q, t % 4294967296 + x0 * y1 = q := ⟨_, rfl⟩
  have bw : 0 ≤ w1 ∧ w1 ≤ 18446744069414584320 := by omega
  have W5 : IntKind.u64.wrap (t % 4294967296 + x0 * y1) = w1 := by rw [hw1]; exact wU bw.1 (by omega)
  have W6 := wU m11.1 (by omega)
  obtain ⟨u, hu⟩ : ∃ q, x1 * y1 + t / 4294967296 = q := ⟨_, rfl⟩
  have bu : 0 ≤ u ∧ u ≤ 18446744073709551615 := by omega
  have W7 : IntKind.u64.wrap (x1 * y1 + t / 4294967296) = u := by rw [hu]; exact wU bu.1 bu.2
  have S5 := shr32 w1
  have eh : u + w1 / 4294967296 = x * y / 18446744073709551616 := by rw [exy]; omega
  have W8 : IntKind.u64.wrap (u + w1 / 4294967296) = x * y / 18446744073709551616 := by rw [eh]; exact wU (by rw [exy]; omega) (by rw [exy]; omega)
  have W9 : IntKind.u64.wrap (x * y) = x * y % 18446744073709551616 := by rw [wrapU]
  refine spec_run e_bits_Mul64 fun G => ?_
  simp only [go_sem, s32, A1, A2, S1, S2, W1, W2, S3, W3, A3, S4, W4, W5, W6, W7, S5, W8, W9]
theorem less_run (a b c d : Int) (ha : 0 ≤ a ∧ a ≤ 9223372036854775807) (hb : 0 ≤ b ∧ b ≤ 9223372036854775807) (hc : 0 ≤ c ∧ c ≤ 9223372036854775807) (hd : 0 ≤ d ∧ d ≤ 9223372036854775807) :
    Ans Try.prog n_curve_fraction_less [.agg [.int .i64 a, .int .i64 b], .agg [.int .i64 c, .int .i64 d]] [] (.bool (decide (a * d < c * b))) [] := by
  have k1 := Mul64_run a d (by omega) (by omega)
  have k2 := Mul64_run c b (by omega) (by omega)
  have w1 := wU ha.1 (by omega)
  have w2 := wU hb.1 (by omega)
  have w3 := wU hc.1 (by omega)
  have w4 := wU hd.1 (by omega)
  refine spec_run e_curve_fraction_less fun G => ?_
  simp only [go_sem, w1, w2, w3, w4]
  refine cP k1 ?_
  simp only [go_sem, w1, w2, w3, w4]
  refine cP k2 ?_
  generalize a * d = p at *
  generalize c * b = q at *
  by_cases h1 : p / 18446744073709551616 < q / 18446744073709551616
  · have h2 : p < q := by omega
    simp only [go_sem, h1, h2]
  · by_cases h3 : p / 18446744073709551616 = q / 18446744073709551616
    · have b3 : (p / 18446744073709551616 == q / 18446744073709551616) = true := beq_iff_eq.2 h3
      by_cases h4 : p % 18446744073709551616 < q % 18446744073709551616
      · have h2 : p < q := by omega
        simp only [go_sem, h1, b3, h4, h2]
      · have h2 : ¬ p < q := by omega
        simp only [go_sem, h1, b3, h4, h2]
    · have b3 : (p / 18446744073709551616 == q / 18446744073709551616) = false := beq_eq_false_iff_ne.2 h3
      have h2 : ¬ p < q := by omega
      simp only [go_sem, h1, b3, h2]
end Go.Proofs

namespace Go.Proofs
open Go Go.Sx
def yes : Option (AVal × Heap) → Bool
  | some (.bool b, _) => b
  | _ => false
theorem yes_ans {P : Program} (hm : P.follows .mixedOrders = true) {tab : Nat → Option AFun} (hT : ∀ g af, tab g = some af → EntryOK P g af) {m n g : Nat} (h : yes (exFn tab m n g [] []) = true) : Ans P g [] [] (.bool true) [] := by
  match hx : exFn tab m n g [] [] with
  | none => rw [hx] at h; cases h
  | some (v, H') =>
    rw [hx] at h
    cases v <;> try (cases h; done)
    rename_i b
    have hb : b = true := h
    subst hb
    exact (spec_ex hm hT hx).mono fun v H'' hv => ⟨hv.1, H'', rfl⟩
end Go.Proofs

namespace Go.Proofs
open Go Go.Sx

def isq : Nat → Nat
  | 0 => 0
  | n + 1 => if (isq n + 1) * (isq n + 1) ≤ n + 1 then isq n + 1 else isq n

theorem isq_ok (n : Nat) : isq n * isq n ≤ n ∧ n < (isq n + 1) * (isq n + 1) := by
  induction n with
  | zero => simp [isq]
  | succ n ih =>
    simp only [isq]
    split
    · rename_i h
      refine ⟨h, ?_⟩
      have h2 : (isq n + 1) * (isq n + 1) + (isq n + 1) < (isq n + 1 + 1) * (isq n + 1 + 1) := by
        simp only [Nat.add_mul, Nat.mul_add]; omega
      omega
    · omega

def root (n : Int) : Int := isq n.toNat
theorem root_ok {n : Int} (h : 0 ≤ n) : 0 ≤ root n ∧ root n * root n ≤ n ∧ n < (root n + 1) * (root n + 1) := by
  have := isq_ok n.toNat
  unfold root
  refine ⟨by omega, ?_, ?_⟩
  · have h1 : ((isq n.toNat * isq n.toNat : Nat) : Int) ≤ (n.toNat : Int) := by exact_mod_cast this.1
    push_cast at h1
    omega
  · have h1 : (n.toNat : Int) < (((isq n.toNat + 1) * (isq n.toNat + 1) : Nat) : Int) := by exact_mod_cast this.2
    push_cast at h1
    omega

theorem sq_le {a b : Int} (ha : 0 ≤ a) (h : a ≤ b) : a * a ≤ b * b := Int.mul_le_mul h h ha (by omega)
theorem root_unique {n r : Int} (hn : 0 ≤ n) (h0 : 0 ≤ r) (h1 : r * r ≤ n) (h2 : n < (r + 1) * (r + 1)) : r = root n := by
  obtain ⟨a, b, c⟩ := root_ok hn
  rcases Int.lt_trichotomy r (root n) with h | h | h
  · have := sq_le (a := r + 1) (b := root n) (by omega) (by omega); omega
  · exact h
  · have := sq_le (a := root n + 1) (b := r) (by omega) (by omega); omega

theorem newton {n r : Int} (hn : 0 ≤ n) (hr : 1 ≤ r) : n < ((r + n / r) / 2 + 1) * ((r + n / r) / 2 + 1) := by
  have h1 : n < r * (n / r + 1) := by
    have := Int.lt_mul_ediv_self_add (x := n) (show 0 < r by omega)
    rw [Int.mul_add, Int.mul_one]; exact this
  have hq : 0 ≤ n / r := Int.ediv_nonneg hn (by omega)
  generalize n / r = q at *
  generalize hm : (r + q) / 2 + 1 = m
  have h2 : r + (q + 1) ≤ 2 * m := by omega
  have hs0 : 0 ≤ q + 1 := by omega
  generalize q + 1 = s at *
  have h3 : (r + s) * (r + s) ≤ (2 * m) * (2 * m) := sq_le (by omega) h2
  have h4 : 0 ≤ (r - s) * (r - s) := by
    rcases Int.le_total 0 (r - s) with h | h
    · exact Int.mul_nonneg h h
    · exact Int.mul_nonneg_of_nonpos_of_nonpos h h
  have e1 : (r + s) * (r + s) = r * r + 2 * (r * s) + s * s := by
    rw [Int.add_mul, Int.mul_add, Int.mul_add, Int.mul_comm s r]; omega
  have e2 : (r - s) * (r - s) = r * r - 2 * (r * s) + s * s := by
    rw [Int.sub_mul, Int.mul_sub, Int.mul_sub, Int.mul_comm s r]; omega
  have e3 : (2 * m) * (2 * m) = 4 * (m * m) := by
    rw [Int.mul_assoc, Int.mul_left_comm m 2 m]; omega
  omega

theorem len_ok (x : Int) (h0 : 0 ≤ x) (h1 : x ≤ 1152921504606846976) : ∃ m : Nat, m ≤ 64 ∧ x < 2 ^ m ∧ Ans Try.prog n_bits_Len [.int .u64 x] [] (.int .i64 m) [] := by
  obtain ⟨m, h2, h3, h4⟩ := len64_ok x h0 h1
  refine ⟨m, h2, h3, spec_run e_bits_Len fun G => ?_⟩
  simp only [go_sem]
  refine callP h4 ⟨.int _ _, trivial⟩ (.int _ _) (by simp) (by simp) ?_
  simp only [go_sem]

theorem rootDown_ok (n : Int) (h0 : 0 ≤ n) (h1 : n ≤ 1152921504606846976) : Ans Try.prog n_curve_rootDown [.int .i64 n] [] (.int .i64 (root n)) [] := by
  obtain ⟨m, hm1, hm2, hm3⟩ := len_ok n h0 h1
  have key : ∀ (k : Nat) (r : Int), r.toNat = k → 1 ≤ r → r ≤ 4294967296 → 1 ≤ n → n < (r + 1) * (r + 1) → ∀ G,
      Sx.Loop Try.prog G 0 none k_curve_rootDown_r8 [.blk 0] ⟨[.int .i64 n, .any, .int .i64 0, .int .i64 r] ++ List.replicate 20 .any, [], []⟩ (RetPost [ARes.tmp 2] fun v H' => v = .int .i64 (root n)) := by
    intro k
    induction k using Nat.strongRecOn with
    | ind k ih =>
      intro r hk hr hr2 hn1 hn G
      have hq0 : 0 ≤ n / r := Int.ediv_nonneg h0 (by omega)
      have hq1 : n / r ≤ n := Int.ediv_le_self _ h0
      have e1 : n.tdiv r = n / r := Int.tdiv_eq_ediv_of_nonneg h0
      have e2 : IntKind.i64.wrap (n / r) = n / r := IntWalk.i64_in _ (by omega)
      have e3 : IntKind.i64.wrap (r + n / r) = r + n / r := IntWalk.i64_in _ (by omega)
      have e4 : (r + n / r).tdiv 2 = (r + n / r) / 2 := Int.tdiv_eq_ediv_of_nonneg (by omega)
      have e5 : IntKind.i64.wrap ((r + n / r) / 2) = (r + n / r) / 2 := IntWalk.i64_in _ (by omega)
      refine loop_body 200 k_curve_rootDown_r8.eq_1 ?_
      simp only [go_sem, e1, e2, e3, e4, e5]
      refine ⟨by omega, fun h => root_unique h0 (by omega) ?_ hn, fun h => ?_⟩
      · have h2 : r ≤ n / r := by omega
        have h3 : r * r ≤ r * (n / r) := Int.mul_le_mul_of_nonneg_left h2 (by omega)
        have h4 := Int.mul_ediv_self_le (x := n) (k := r) (by omega)
        omega
      · have h2 : 1 ≤ (r + n / r) / 2 := by
          rcases Int.lt_or_le r 2 with h3 | h3
          · obtain rfl : r = 1 := by omega
            rw [Int.ediv_one] at h ⊢
            omega
          · omega
        refine loop_wk ?_ (ih _ ?_ ((r + n / r) / 2) rfl h2 (by omega) hn1 (newton h0 hr) G)
        · simp [Wk]
        · omega
  have f0 : IntKind.u64.wrap n = n := IntWalk.u64_in _ (by omega)
  have f1 : IntKind.i64.wrap ((m : Int) + 1) = (m : Int) + 1 := IntWalk.i64_in _ (by omega)
  have f2 : ((m : Int) + 1).tdiv 2 = ((m : Int) + 1) / 2 := Int.tdiv_eq_ediv_of_nonneg (by omega)
  have f3 : IntKind.i64.wrap (((m : Int) + 1) / 2) = ((m : Int) + 1) / 2 := IntWalk.i64_in _ (by omega)
  have f5 : ¬ ((m : Int) + 1) / 2 < 0 := by omega
  have f6 : (((m : Int) + 1) / 2).toNat = (m + 1) / 2 := by omega
  have f7 : (2 : Nat) ^ ((m + 1) / 2) ≤ 2 ^ 32 := Nat.pow_le_pow_right (by decide) (by omega)
  have f8 : 1 ≤ (2 : Nat) ^ ((m + 1) / 2) := Nat.one_le_two_pow
  have f4 : shlW .i64 1 (((m : Int) + 1) / 2) = ((2 ^ ((m + 1) / 2) : Nat) : Int) := by
    unfold shlW
    have e : min (((m : Int) + 1) / 2).toNat IntKind.i64.bits = (m + 1) / 2 := by
      rw [f6]; exact Nat.min_eq_left (by show _ ≤ 64; omega)
    rw [e, Int.one_mul]
    have e2 : (2 : Int) ^ ((m + 1) / 2) = ((2 ^ ((m + 1) / 2) : Nat) : Int) := by push_cast; rfl
    rw [e2]
    exact IntWalk.i64_in _ (by omega)
  refine spec_run e_curve_rootDown fun G => ?_
  simp only [go_sem]
  refine ⟨fun h => by rw [h]; rfl, fun h => ?_⟩
  simp only [f0]
  refine callP hm3 ⟨.int _ _, trivial⟩ (.int _ _) (by simp) (by simp) ?_
  simp only [go_sem, f1, f2, f3, f4, f5]
  refine loop_wk ?_ (key _ ((2 ^ ((m + 1) / 2) : Nat) : Int) rfl (by omega) (by omega) (by omega) ?_ G)
  · simp [Wk]
  · have h2 : (2 : Nat) ^ m ≤ 2 ^ ((m + 1) / 2) * 2 ^ ((m + 1) / 2) := by
      rw [← Nat.pow_add]; exact Nat.pow_le_pow_right (by decide) (by omega)
    have h3 : ((2 ^ m : Nat) : Int) ≤ ((2 ^ ((m + 1) / 2) * 2 ^ ((m + 1) / 2) : Nat) : Int) := by exact_mod_cast h2
    have h4 : n < ((2 ^ m : Nat) : Int) := by push_cast; exact hm2
    generalize (2 : Nat) ^ ((m + 1) / 2) = z at *
    push_cast at h3
    rw [Int.add_mul, Int.mul_add]
    omega

def rootU (n : Int) : Int := if root n * root n < n then root n + 1 else root n

theorem root_le {n : Int} (h0 : 0 ≤ n) (h1 : n ≤ 1152921504606846976) : root n ≤ 1073741824 := by
  obtain ⟨a, b, c⟩ := root_ok h0
  refine Int.not_lt.1 fun h => ?_
  have := sq_le (a := 1073741825) (b := root n) (by decide) (by omega)
  omega

theorem rootUp_ok (n : Int) (h0 : 0 ≤ n) (h1 : n ≤ 1152921504606846976) : Ans Try.prog n_curve_rootUp [.int .i64 n] [] (.int .i64 (rootU n)) [] := by
  have h2 := root_le h0 h1
  obtain ⟨a, b, c⟩ := root_ok h0
  have e1 : IntKind.i64.wrap (root n * root n) = root n * root n := IntWalk.i64_in _ (by have := Int.mul_nonneg a a; omega)
  have e2 : IntKind.i64.wrap (root n + 1) = root n + 1 := IntWalk.i64_in _ (by omega)
  refine spec_run e_curve_rootUp fun G => ?_
  simp only [go_sem]
  refine callP (rootDown_ok n h0 h1) ⟨.int _ _, trivial⟩ (.int _ _) (by simp) (by simp) ?_
  simp only [go_sem, e1, e2]
  refine ⟨fun h => ?_, fun h => ?_⟩ <;> simp [rootU, h]
end Go.Proofs

namespace Go.Proofs
open Go Go.Sx

def cube (n : Int) : Int := n * n * n
def mn (a b : Int) : Int := if b < a then b else a
def spaceLo (l : Lw) (d : Rg) : Int := l.perv.lo * root (cube d.lo) / 1000000
def spaceHi (l : Lw) (d : Rg) : Int := rup (l.perv.hi * rootU (cube d.hi)) 1000000
def curLo (l : Lw) (d : Rg) : Int := l.part.lo * mn (spaceLo l d) l.full.lo / 1000000
def curHi (l : Lw) (d : Rg) : Int := rup (l.part.hi * mn (spaceHi l d) l.full.hi) 1000000
def curOf (l : Lw) (g p : Int) : Rg := ⟨curLo l (driveOf l g p), curHi l (driveOf l g p)⟩

theorem bnd_in (n : Int) : 0 ≤ bnd n ∧ bnd n ≤ 1000000 := by unfold bnd; (repeat' split) <;> omega

theorem cube_in {n : Int} (h0 : 0 ≤ n) (h1 : n ≤ 1000000) : 0 ≤ n * n ∧ n * n ≤ 1000000000000 ∧ 0 ≤ cube n ∧ cube n ≤ 1000000000000000000 := by
  have a := Int.mul_nonneg h0 h0
  have b := Int.mul_le_mul h1 h1 h0 (by decide)
  have c := Int.mul_nonneg a h0
  have d := Int.mul_le_mul b h1 h0 (by decide)
  unfold cube; omega

theorem mul_in {a b A B : Int} (h1 : 0 ≤ a ∧ a ≤ A) (h2 : 0 ≤ b ∧ b ≤ B) : 0 ≤ a * b ∧ a * b ≤ A * B :=
  ⟨Int.mul_nonneg h1.1 h2.1, Int.mul_le_mul h1.2 h2.2 h2.1 (by omega)⟩

theorem rup_in {n b : Int} (h0 : 0 ≤ n) (h1 : 1 ≤ b) : 0 ≤ rup n b ∧ rup n b ≤ n + b - 1 := ⟨Int.ediv_nonneg (by omega) (by omega), Int.ediv_le_self _ (by omega)⟩

theorem mn_in {a b : Int} (h0 : 0 ≤ a) (h1 : 0 ≤ b) : 0 ≤ mn a b ∧ mn a b ≤ b := by unfold mn; split <;> omega

theorem current_ok (l : Lw) (h : LwOK l) (g p : Int) (h1 : -1000000 ≤ g ∧ g ≤ 1000000) (h2 : 0 ≤ p ∧ p ≤ 1000000) : Ans Try.prog n_curve_current [l.v, .int .i64 g, .int .i64 p] [] (curOf l g p).v [] := by
  have hd := drive_ok l h g p h1 h2
  have hlo := bnd_in (g + l.shift.lo + (1000 * p) / l.gain.hi)
  have hhi := bnd_in (g + l.shift.hi + rup (1000 * p) l.gain.lo)
  rw [show bnd (g + l.shift.lo + (1000 * p) / l.gain.hi) = (driveOf l g p).lo from rfl] at hlo
  rw [show bnd (g + l.shift.hi + rup (1000 * p) l.gain.lo) = (driveOf l g p).hi from rfl] at hhi
  unfold curOf
  generalize driveOf l g p = d at *
  obtain ⟨⟨a1, a2, a3⟩, _, _, ⟨d1, d2, d3⟩, ⟨e1, e2, e3⟩⟩ := h
  obtain ⟨c1, c2, c3, c4⟩ := cube_in hlo.1 hlo.2
  obtain ⟨c5, c6, c7, c8⟩ := cube_in hhi.1 hhi.2
  obtain ⟨r1, _, _⟩ := root_ok c3
  have r2 := root_le c3 (by omega)
  obtain ⟨r3, _, _⟩ := root_ok c7
  have r4 := root_le c7 (by omega)
  have r5 : 0 ≤ rootU (cube d.hi) ∧ rootU (cube d.hi) ≤ 1073741825 := by unfold rootU; split <;> omega
  have p1 := mul_in (a := l.perv.lo) (A := 1000000) ⟨a1, by omega⟩ ⟨r1, r2⟩
  have p2 := mul_in (a := l.perv.hi) (A := 1000000) ⟨by omega, by omega⟩ r5
  have s1 : 0 ≤ spaceLo l d ∧ spaceLo l d ≤ l.perv.lo * root (cube d.lo) := ⟨Int.ediv_nonneg p1.1 (by decide), Int.ediv_le_self _ p1.1⟩
  have s2 : 0 ≤ spaceHi l d ∧ _ := rup_in p2.1 (by decide)
  have m1 := mn_in s1.1 d1
  have m2 := mn_in s2.1 (show 0 ≤ l.full.hi by omega)
  have p3 := mul_in (a := l.part.lo) (A := 1000000) (B := 1000000) ⟨e1, by omega⟩ ⟨m1.1, by omega⟩
  have p4 := mul_in (a := l.part.hi) (A := 1000000) (B := 1000000) ⟨by omega, by omega⟩ ⟨m2.1, by omega⟩
  have t1 : 0 ≤ curLo l d ∧ curLo l d ≤ l.part.lo * mn (spaceLo l d) l.full.lo := ⟨Int.ediv_nonneg p3.1 (by decide), Int.ediv_le_self _ p3.1⟩
  have w1 : IntKind.i64.wrap (d.lo * d.lo) = d.lo * d.lo := IntWalk.i64_in _ (by omega)
  have w2 : IntKind.i64.wrap (d.lo * d.lo * d.lo) = cube d.lo := IntWalk.i64_in (cube d.lo) (by omega)
  have w3 : IntKind.i64.wrap (d.hi * d.hi) = d.hi * d.hi := IntWalk.i64_in _ (by omega)
  have w4 : IntKind.i64.wrap (d.hi * d.hi * d.hi) = cube d.hi := IntWalk.i64_in (cube d.hi) (by omega)
  have w5 : IntKind.i64.wrap (l.perv.lo * root (cube d.lo)) = l.perv.lo * root (cube d.lo) := IntWalk.i64_in _ (by omega)
  have w6 : (l.perv.lo * root (cube d.lo)).tdiv 1000000 = spaceLo l d := Int.tdiv_eq_ediv_of_nonneg p1.1
  have w7 : IntKind.i64.wrap (spaceLo l d) = spaceLo l d := IntWalk.i64_in _ (by omega)
  have w8 : IntKind.i64.wrap (l.perv.hi * rootU (cube d.hi)) = l.perv.hi * rootU (cube d.hi) := IntWalk.i64_in _ (by omega)
  have n1 : (if l.full.lo < spaceLo l d then l.full.lo else spaceLo l d) = mn (spaceLo l d) l.full.lo := rfl
  have n2 : (if l.full.hi < spaceHi l d then l.full.hi else spaceHi l d) = mn (spaceHi l d) l.full.hi := rfl
  have w9 : IntKind.i64.wrap (l.part.lo * mn (spaceLo l d) l.full.lo) = l.part.lo * mn (spaceLo l d) l.full.lo := IntWalk.i64_in _ (by omega)
  have w10 : (l.part.lo * mn (spaceLo l d) l.full.lo).tdiv 1000000 = curLo l d := Int.tdiv_eq_ediv_of_nonneg p3.1
  have w11 : IntKind.i64.wrap (curLo l d) = curLo l d := IntWalk.i64_in _ (by omega)
  have w12 : IntKind.i64.wrap (l.part.hi * mn (spaceHi l d) l.full.hi) = l.part.hi * mn (spaceHi l d) l.full.hi := IntWalk.i64_in _ (by omega)
  have z1 : rup (l.perv.hi * rootU (cube d.hi)) 1000000 = spaceHi l d := rfl
  have z2 : rup (l.part.hi * mn (spaceHi l d) l.full.hi) 1000000 = curHi l d := rfl
  refine spec_run e_curve_current fun G => ?_
  simp only [go_sem, Lw.v, Lw.cs]
  refine callP hd ⟨lw_bel _ _, .int _ _, .int _ _, trivial⟩ (rg_bel _ _) (by simp) (by simp) ?_
  simp only [go_sem, Rg.v, w1, w2]
  refine dcallP (rootDown_ok _ c3 (by omega)) ⟨.int _ _, trivial⟩ (.int _ _) (by simp only [go_sem]) ?_
  simp only [go_sem, w3, w4, w5, w6, w7]
  refine dcallP (rootUp_ok _ c7 (by omega)) ⟨.int _ _, trivial⟩ (.int _ _) (by simp only [go_sem]) ?_
  simp only [go_sem, w8]
  refine dcallP (roundUp_ok _ _ p2.1 (by decide) (by omega) (by decide)) ⟨.int _ _, .int _ _, trivial⟩ (.int _ _) (by simp only [go_sem]) ?_
  simp only [go_sem, z1, n1, n2, w9, w10, w11, w12]
  refine dcallP (roundUp_ok _ _ p4.1 (by decide) (by omega) (by decide)) ⟨.int _ _, .int _ _, trivial⟩ (.int _ _) (by simp only [go_sem]) ?_
  simp only [go_sem, z2]

theorem Current_ok (l : Lw) (h : LwOK l) (g p : Int) (h1 : -1000000 ≤ g ∧ g ≤ 1000000) (h2 : 0 ≤ p ∧ p ≤ 1000000) : Ans Try.prog n_curve_Current [l.v, .int .i64 g, .int .i64 p] [] (.tup [(curOf l g p).v, .int .i64 0]) [] := by
  refine spec_run e_curve_Current fun G => ?_
  simp only [go_sem, Lw.v, Lw.cs]
  refine callP (checkVolts_ok l h g p h1 h2) ⟨lw_bel _ _, .int _ _, .int _ _, trivial⟩ (.int _ _) (by simp) (by simp) ?_
  simp only [go_sem]
  refine callP (current_ok l h g p h1 h2) ⟨lw_bel _ _, .int _ _, .int _ _, trivial⟩ (rg_bel _ _) (by simp) (by simp) ?_
  simp only [go_sem, Rg.v]

def exact (q : Int) : Lw := ⟨⟨q, q⟩, ⟨1000, 1000⟩, ⟨0, 0⟩, ⟨1000000, 1000000⟩, ⟨1000000, 1000000⟩⟩
end Go.Proofs

namespace Go.Proofs
open Go Go.Sx

theorem rootU_ok {n : Int} (h : 0 ≤ n) : root n ≤ rootU n ∧ rootU n ≤ root n + 1 ∧ n ≤ rootU n * rootU n := by
  obtain ⟨h0, h1, h2⟩ := root_ok h
  unfold rootU
  split
  · exact ⟨by omega, by omega, by omega⟩
  · exact ⟨by omega, by omega, by omega⟩

end Go.Proofs

namespace Go.Proofs
open Go Go.Sx

theorem cube_le {a b : Int} (h0 : 0 ≤ a) (h : a ≤ b) : cube a ≤ cube b := by
  have h1 := sq_le h0 h
  exact Int.mul_le_mul h1 h h0 (Int.mul_nonneg (by omega) (by omega))
theorem cube_nonneg {a : Int} (h0 : 0 ≤ a) : 0 ≤ cube a := Int.mul_nonneg (Int.mul_nonneg h0 h0) h0

theorem root_mono {n m : Int} (h0 : 0 ≤ n) (h : n ≤ m) : root n ≤ root m := by
  obtain ⟨a0, a1, a2⟩ := root_ok h0
  obtain ⟨b0, b1, b2⟩ := root_ok (Int.le_trans h0 h)
  by_cases hr : root n ≤ root m
  · exact hr
  · exfalso
    have := sq_le (a := root m + 1) (b := root n) (by omega) (by omega)
    omega

theorem rootU_mono {n m : Int} (h0 : 0 ≤ n) (h : n ≤ m) : rootU n ≤ rootU m := by
  obtain ⟨a0, a1, a2⟩ := root_ok h0
  obtain ⟨u0, u1, u2⟩ := rootU_ok (Int.le_trans h0 h)
  obtain ⟨b0, b1, b2⟩ := root_ok (Int.le_trans h0 h)
  by_cases hr : rootU n ≤ rootU m
  · exact hr
  · exfalso
    have hm0 : 0 ≤ rootU m := by omega
    unfold rootU at hr
    split at hr
    · have := sq_le (a := rootU m) (b := root n) hm0 (by unfold rootU; omega)
      omega
    · have hlt : rootU m + 1 ≤ root n := by unfold rootU; omega
      have h3 := sq_le (a := rootU m + 1) (b := root n) (by omega) hlt
      have h4 : (rootU m + 1) * (rootU m + 1) = rootU m * rootU m + 2 * rootU m + 1 := by
        rw [Int.add_mul, Int.mul_add]; omega
      omega

theorem rup_mono {n m b : Int} (h : n ≤ m) (hb : 1 ≤ b) : rup n b ≤ rup m b := Int.ediv_le_ediv (by omega) (by omega)
theorem mn_mono {a b c : Int} (h : a ≤ b) : mn a c ≤ mn b c := by unfold mn; split <;> split <;> omega
theorem bnd_mono {a b : Int} (h : a ≤ b) : bnd a ≤ bnd b := by unfold bnd; (repeat' split) <;> omega

theorem spaceLo_mono {l : Lw} (h : LwOK l) {d e : Rg} (h0 : 0 ≤ d.lo) (hl : d.lo ≤ e.lo) : spaceLo l d ≤ spaceLo l e :=
  Int.ediv_le_ediv (by decide) (Int.mul_le_mul_of_nonneg_left (root_mono (cube_nonneg h0) (cube_le h0 hl)) h.perv.1)
theorem spaceHi_mono {l : Lw} (h : LwOK l) {d e : Rg} (h0 : 0 ≤ d.hi) (hl : d.hi ≤ e.hi) : spaceHi l d ≤ spaceHi l e :=
  rup_mono (Int.mul_le_mul_of_nonneg_left (rootU_mono (cube_nonneg h0) (cube_le h0 hl)) (by have := h.perv; omega)) (by decide)

theorem cur_mono {l : Lw} (h : LwOK l) {d e : Rg} (h0 : 0 ≤ d.lo ∧ 0 ≤ d.hi) (hl : d.lo ≤ e.lo) (hh : d.hi ≤ e.hi) : curLo l d ≤ curLo l e ∧ curHi l d ≤ curHi l e :=
  ⟨Int.ediv_le_ediv (by decide) (Int.mul_le_mul_of_nonneg_left (mn_mono (spaceLo_mono h h0.1 hl)) h.part.1),
   rup_mono (Int.mul_le_mul_of_nonneg_left (mn_mono (spaceHi_mono h h0.2 hh)) (by have := h.part; omega)) (by decide)⟩

theorem le_rup {n b : Int} (hb : 1 ≤ b) : n / b ≤ rup n b := Int.ediv_le_ediv (by omega) (by omega)

theorem drive_le {l : Lw} (h : LwOK l) {g p : Int} (hp : 0 ≤ p) : (driveOf l g p).lo ≤ (driveOf l g p).hi := by
  have h1 : 1000 * p / l.gain.hi ≤ 1000 * p / l.gain.lo := by
    have hg := h.gain
    rw [Int.le_ediv_iff_mul_le (by omega)]
    have h2 : 1000 * p / l.gain.hi * l.gain.lo ≤ 1000 * p / l.gain.hi * l.gain.hi := Int.mul_le_mul_of_nonneg_left hg.2.1 (Int.ediv_nonneg (by omega) (by omega))
    have h3 := Int.ediv_mul_le (1000 * p) (b := l.gain.hi) (by omega)
    omega
  have h4 := le_rup (n := 1000 * p) h.gain.1
  exact bnd_mono (by have := h.shift; omega)

theorem cur_le {l : Lw} (h : LwOK l) {d : Rg} (h0 : 0 ≤ d.lo) (hd : d.lo ≤ d.hi) : curLo l d ≤ curHi l d := by
  obtain ⟨r0, _, _⟩ := root_ok (cube_nonneg h0)
  obtain ⟨u0, _, _⟩ := rootU_ok (cube_nonneg (Int.le_trans h0 hd))
  obtain ⟨p1, p2, p3⟩ := h.perv
  obtain ⟨q1, q2, q3⟩ := h.part
  obtain ⟨f1, f2, f3⟩ := h.full
  have hr := root_mono (cube_nonneg h0) (cube_le h0 hd)
  have e1 : l.perv.lo * root (cube d.lo) ≤ l.perv.hi * rootU (cube d.hi) := Int.mul_le_mul p2 (by omega) r0 (by omega)
  have e2 : spaceLo l d ≤ spaceHi l d := Int.le_trans (Int.ediv_le_ediv (by decide) e1) (le_rup (by decide))
  have e0 : 0 ≤ spaceLo l d := Int.ediv_nonneg (Int.mul_nonneg p1 r0) (by decide)
  have e3 : mn (spaceLo l d) l.full.lo ≤ mn (spaceHi l d) l.full.hi := by unfold mn; split <;> split <;> omega
  have e4 : 0 ≤ mn (spaceLo l d) l.full.lo := by unfold mn; split <;> omega
  have e5 : l.part.lo * mn (spaceLo l d) l.full.lo ≤ l.part.hi * mn (spaceHi l d) l.full.hi := Int.mul_le_mul q2 e3 e4 (by omega)
  exact Int.le_trans (Int.ediv_le_ediv (by decide) e5) (le_rup (by decide))

theorem rises {l : Lw} (h : LwOK l) {g p b : Int} (hp : 0 ≤ p) (hb : 0 ≤ b) :
    (curOf l g p).lo ≤ (curOf l g p).hi ∧ (curOf l g p).lo ≤ (curOf l (g + b) p).lo ∧ (curOf l g p).hi ≤ (curOf l (g + b) p).hi ∧
    (curOf l g p).lo ≤ (curOf l g (p + b)).lo ∧ (curOf l g p).hi ≤ (curOf l g (p + b)).hi := by
  have d0 := (bnd_in (g + l.shift.lo + (1000 * p) / l.gain.hi)).1
  have d1 := (bnd_in (g + l.shift.hi + rup (1000 * p) l.gain.lo)).1
  have m1 := cur_mono h (d := driveOf l g p) (e := driveOf l (g + b) p) ⟨d0, d1⟩ (bnd_mono (by omega)) (bnd_mono (by omega))
  have k1 : 1000 * p / l.gain.hi ≤ 1000 * (p + b) / l.gain.hi := Int.ediv_le_ediv (by have := h.gain; omega) (by omega)
  have k2 : rup (1000 * p) l.gain.lo ≤ rup (1000 * (p + b)) l.gain.lo := rup_mono (by omega) h.gain.1
  have m2 := cur_mono h (d := driveOf l g p) (e := driveOf l g (p + b)) ⟨d0, d1⟩ (bnd_mono (by omega)) (bnd_mono (by omega))
  exact ⟨cur_le h d0 (drive_le h hp), m1.1, m1.2, m2.1, m2.2⟩
end Go.Proofs

namespace Go.Proofs
open Go Go.Sx Go.Fam
attribute [local irreducible] Run

end Go.Proofs

namespace Go.Proofs
open Go Go.Sx Go.Fam
attribute [local irreducible] Run

end Go.Proofs

namespace Go.Proofs
open Go Go.Sx Go.Fam
attribute [local irreducible] Run

end Go.Proofs

namespace Go.Proofs
open Go Go.Sx Go.Fam
attribute [local irreducible] Run

end Go.Proofs

namespace Go.Proofs
open Go Go.Sx Go.Fam
attribute [local irreducible] Run

end Go.Proofs

