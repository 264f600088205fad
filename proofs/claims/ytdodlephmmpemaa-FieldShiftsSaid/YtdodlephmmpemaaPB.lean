/- A part of the proof. -/
import Derived.Test.YtdodlephmmpemaaPA
import Derived.IntWalk
set_option linter.unusedSimpArgs false
set_option linter.unusedVariables false
namespace Go.Proofs
open Go Go.Sx

def Dr (w : Int) : Row := .cells false 1 [.agg [.int .u64 w]]
def dstep (w : Int) : Int := IntKind.u64.wrap (w + 11400714819323198485)
def dmix (w : Int) : Int :=
  let z := IntKind.u64.wrap (bitW .xor .u64 w (shrW .u64 w 30) * 13787848793156543929)
  let z := IntKind.u64.wrap (bitW .xor .u64 z (shrW .u64 z 27) * 10723151780598845931)
  bitW .xor .u64 z (shrW .u64 z 31)

theorem dr_bel (w : Int) (S : Nat → Prop) : (Dr w).bel S := by unfold Dr; rw [row_bel_cells]; simp only [go_sem]

theorem bitW_u64 (op : BinOp) (a b : Int) : 0 ≤ bitW op .u64 a b ∧ bitW op .u64 a b ≤ 18446744073709551615 := by
  have hw : ∀ n : Int, 0 ≤ IntKind.u64.wrap n ∧ IntKind.u64.wrap n ≤ 18446744073709551615 := fun n => by simp only [IntKind.wrap, IntKind.bits, IntKind.signed, Bool.false_and, Bool.false_eq_true, if_false]; omega
  unfold bitW bitsOf
  cases op <;> simp only [Option.getD_some, Option.getD_none] <;> first
    | exact hw _
    | omega

def upto (w n : Int) : Int := if n < 1 then 0 else (dmix (dstep w)) % n
theorem upto_in {w n : Int} (h : 1 ≤ n) : 0 ≤ upto w n ∧ upto w n < n := by
  unfold upto
  rw [if_neg (by omega)]
  exact ⟨Int.emod_nonneg _ (by omega), Int.emod_lt_of_pos _ (by omega)⟩
def btw (w lo hi : Int) : Int := lo + upto w (hi - lo + 1)
theorem btw_in {w lo hi : Int} (h : lo ≤ hi) : lo ≤ btw w lo hi ∧ btw w lo hi ≤ hi := by
  have := upto_in (w := w) (n := hi - lo + 1) (by omega)
  unfold btw; omega

def feed (w : Int) : List Int → Int
  | [] => w
  | x :: xs => feed (dstep (bitW .xor .u64 w (IntKind.u64.wrap x))) xs
def seedW (xs : List Int) : Int := feed (IntKind.u64.wrap (IntKind.u64.wrap xs.length + 1374496523)) xs

structure Rg where
  lo : Int
  hi : Int
  deriving Inhabited, DecidableEq

def Rg.v (r : Rg) : AVal := .agg [.int .i64 r.lo, .int .i64 r.hi]
@[go_sem] theorem rg_bel_eq (r : Rg) (S : Nat → Prop) : Bel S r.v = True := by unfold Rg.v; simp only [go_sem]
@[go_sem] theorem rg_nv (r : Rg) : NV r.v = True := by unfold Rg.v; simp only [go_sem]
@[go_sem] theorem dr_bel_eq (w : Int) (S : Nat → Prop) : (Dr w).bel S = True := eq_true (dr_bel w S)
theorem w64 {n : Int} (h : -9223372036854775808 ≤ n ∧ n ≤ 9223372036854775807) : IntKind.i64.wrap n = n := IntWalk.i64_in _ h
end Go.Proofs

namespace Go.Proofs
open Go Go.Sx

theorem next_ok (w : Int) : Ans Try.prog n_kit_Dice_next [.ptr 0 0 0 1] [some (Dr w)] (.int .u64 (dmix (dstep w))) [some (Dr (dstep w))] := by
  refine spec_run e_kit_Dice_next fun G => ?_
  simp only [go_sem, Dr, dmix, dstep]
  exact ⟨_, rfl⟩

theorem upto_ok (w n : Int) (hn : n ≤ 9223372036854775807) : Ans Try.prog n_kit_Dice_Upto [.ptr 0 0 0 1, .int .i64 n] [some (Dr w)] (.int .i64 (upto w n)) [some (Dr (dstep w))] := by
  refine spec_run e_kit_Dice_Upto fun G => ?_
  simp only [go_sem]
  refine callD (next_ok w) rfl trivial (.int _ _) (dr_bel _ _) (dr_bel _ _) (by simp) (by simp) ?_
  simp only [go_sem]
  refine ⟨fun h => ⟨by simp [upto, h], by simp⟩, fun h => ?_⟩
  have hm : 0 ≤ dmix (dstep w) := (bitW_u64 _ _ _).1
  have h1 : IntKind.u64.wrap n = n := IntWalk.u64_in n (by omega)
  have h2 : (dmix (dstep w)).tmod n = dmix (dstep w) % n := Int.tmod_eq_emod_of_nonneg hm
  have h3 := Int.emod_nonneg (dmix (dstep w)) (show n ≠ 0 by omega)
  have h4 := Int.emod_lt_of_pos (dmix (dstep w)) (show 0 < n by omega)
  rw [h1, h2, IntWalk.i64_in _ (by omega)]
  refine ⟨by omega, by rw [upto, if_neg h], _, rfl⟩

theorem between_ok (w lo hi : Int) (h1 : -1152921504606846976 ≤ lo) (h2 : lo ≤ hi) (h3 : hi ≤ 1152921504606846976) : Ans Try.prog n_kit_Dice_Between [.ptr 0 0 0 1, .int .i64 lo, .int .i64 hi] [some (Dr w)] (.int .i64 (btw w lo hi)) [some (Dr (dstep w))] := by
  refine spec_run e_kit_Dice_Between fun G => ?_
  simp only [go_sem]
  rw [IntWalk.i64_in (hi - lo) (by omega), IntWalk.i64_in (hi - lo + 1) (by omega)]
  refine callD (upto_ok w _ (by omega)) rfl ⟨.int _ _, trivial⟩ (.int _ _) (dr_bel _ _) (dr_bel _ _) (by simp) (by simp) ?_
  have := btw_in (w := w) h2
  unfold btw at this
  simp only [go_sem]
  rw [IntWalk.i64_in _ (by omega)]
  exact ⟨rfl, _, rfl⟩

theorem newdice_ok (xs : List Int) (hl : xs.length ≤ 9223372036854775807) : Ans Try.prog n_kit_NewDice [.view (xs.map (.int .i64))] [] (.ptr 0 0 0 1) [some (Dr (seedW xs))] := by
  unfold seedW
  refine spec_run e_kit_NewDice fun G => ?_
  simp only [go_sem]
  have key : ∀ (zs : List Int) (i : Nat) (w : Int), xs.drop i = zs → i ≤ xs.length →
      Sx.Loop Try.prog G 0 none k_kit_NewDice_r7 [.blk 0, .seq (.seq (.reg k_kit_NewDice_r8 false) .ret)] ⟨[.view (xs.map (.int .i64)), .any, .nilptr, .ptr 0 0 0 1, .int .i64 i] ++ List.replicate 28 .any, [some (Dr w)], []⟩
        (RetPost [ARes.tmp 2] fun v H' => v = .ptr 0 0 0 1 ∧ ∃ X, H' = some (Dr (feed w zs)) :: X) := by
    intro zs
    induction zs with
    | nil =>
      intro i w hd hi
      have : xs.length ≤ i := by simpa using hd
      have h1 : ¬ (i : Int) < xs.length := by omega
      refine loop_body 200 k_kit_NewDice_r7.eq_1 ?_
      simp only [go_sem, h1, feed]
      exact ⟨_, rfl⟩
    | cons z zs ih =>
      intro i w hd hi
      have hx : xs[i]? = some z := by have := congrArg (·[0]?) hd; simpa using this
      have h1 : i < xs.length := (List.getElem?_eq_some_iff.1 hx).1
      have h2 : (i : Int) < xs.length := by omega
      have h3 : IntKind.i64.wrap ((i : Int) + 1) = ((i + 1 : Nat) : Int) := by rw [IntWalk.i64_in _ (by omega)]; rfl
      have hd' : xs.drop (i + 1) = zs := by have := congrArg (List.drop 1) hd; simpa [Nat.add_comm] using this
      refine loop_body 200 k_kit_NewDice_r7.eq_1 ?_
      simp only [go_sem, hx, h2, Dr]
      refine callD (next_ok _) rfl trivial (.int _ _) (dr_bel _ _) (dr_bel _ _) (by simp) (by simp) ?_
      simp only [go_sem, h3]
      refine loop_wk ?_ (ih (i + 1) _ hd' h1)
      simp [Wk]
  refine loop_wk ?_ (key xs 0 _ rfl (Nat.zero_le _))
  simp [Wk]

theorem mod_ok (a b : Int) (hb : b ≤ 9223372036854775807) : Ans Try.prog n_kit_Mod [.int .i64 a, .int .i64 b] [] (.int .i64 (if b < 1 then 0 else a % b)) [] := by
  refine spec_run e_kit_Mod fun G => ?_
  simp only [go_sem]
  refine ⟨fun h => by simp [h], fun h => ?_⟩
  have e := Int.tmod_eq_emod (a := a) (b := b)
  have h1 := Int.emod_nonneg a (show b ≠ 0 by omega)
  have h2 := Int.emod_lt_of_pos a (show 0 < b by omega)
  rw [if_neg h]
  generalize a % b = m at *
  generalize a.tmod b = t at *
  refine ⟨by omega, fun h3 => ?_, fun h3 => ?_⟩
  · rw [IntWalk.i64_in _ (by split at e <;> omega)]
    split at e <;> omega
  · split at e <;> omega

theorem mod_pos (a b : Int) (hb : 1 ≤ b ∧ b ≤ 9223372036854775807) : Ans Try.prog n_kit_Mod [.int .i64 a, .int .i64 b] [] (.int .i64 (a % b)) [] := by
  have h := mod_ok a b hb.2
  rwa [if_neg (by omega)] at h
end Go.Proofs

namespace Go.Proofs
open Go Go.Sx

structure Pl where
  w : Nat
  h : Nat
  rd : Bool
  cs : List Int
  deriving Inhabited, DecidableEq

def besW (rd : Bool) (x : Nat) : Int := if rd then 2 * ((x : Int) + 1) else 1
def abvW (rd : Bool) (x : Nat) : Int := if rd then 2 * (x : Int) + 1 else 1

def nbs (p : Pl) (i : Nat) : List (Nat × Int) :=
  (if 0 < i % p.w then [(i - 1, besW p.rd (i % p.w - 1))] else []) ++
  ((if i % p.w + 1 < p.w then [(i + 1, besW p.rd (i % p.w))] else []) ++
  ((if 0 < i / p.w then [(i - p.w, abvW p.rd (i % p.w))] else []) ++
  (if i / p.w + 1 < p.h then [(i + p.w, abvW p.rd (i % p.w))] else [])))

def wsum : List (Nat × Int) → (Nat → Int) → Int
  | [], _ => 0
  | q :: l, f => q.2 * f q.1 + wsum l f
def wtot (l : List (Nat × Int)) : Int := wsum l fun _ => 1

theorem wsum_append (l m : List (Nat × Int)) (f : Nat → Int) : wsum (l ++ m) f = wsum l f + wsum m f := by
  induction l with
  | nil => simp [wsum]
  | cons q l ih => simp only [List.cons_append, wsum, ih]; omega

theorem wsum_congr {l : List (Nat × Int)} {f g : Nat → Int} (h : ∀ q ∈ l, f q.1 = g q.1) : wsum l f = wsum l g := by
  induction l with
  | nil => rfl
  | cons q l ih => simp only [wsum, h q (by simp), ih fun q hq => h q (by simp [hq])]

theorem wsum_mono {l : List (Nat × Int)} {f g : Nat → Int} (h : ∀ q ∈ l, 0 ≤ q.2 ∧ f q.1 ≤ g q.1) : wsum l f ≤ wsum l g := by
  induction l with
  | nil => exact Int.le_refl _
  | cons q l ih =>
    have h1 := h q (by simp)
    have h2 := ih fun q hq => h q (by simp [hq])
    have h3 := Int.mul_le_mul_of_nonneg_left h1.2 h1.1
    simp only [wsum]; omega

theorem wsum_const (l : List (Nat × Int)) (c : Int) : (wsum l fun _ => c) = wtot l * c := by
  unfold wtot
  induction l with
  | nil => simp [wsum]
  | cons q l ih => simp only [wsum, ih, Int.add_mul, Int.mul_one]

theorem wsum_add (l : List (Nat × Int)) (f g : Nat → Int) : (wsum l fun n => f n + g n) = wsum l f + wsum l g := by
  induction l with
  | nil => rfl
  | cons q l ih => simp only [wsum, ih, Int.mul_add]; omega

theorem wsum_neg (l : List (Nat × Int)) (f : Nat → Int) : (wsum l fun n => - f n) = - wsum l f := by
  induction l with
  | nil => rfl
  | cons q l ih => simp only [wsum, ih, Int.mul_neg]; omega

theorem wsum_sub (l : List (Nat × Int)) (f g : Nat → Int) : (wsum l fun n => f n - g n) = wsum l f - wsum l g := by
  have := wsum_add l f fun n => - g n
  rw [wsum_neg] at this
  simpa [Int.sub_eq_add_neg] using this

theorem wsum_max {l : List (Nat × Int)} {f : Nat → Int} {m : Int} (h : ∀ q ∈ l, 1 ≤ q.2 ∧ f q.1 ≤ m) (hm : wtot l * m ≤ wsum l f) : ∀ q ∈ l, f q.1 = m := by
  induction l with
  | nil => intro q hq; simp at hq
  | cons q l ih =>
    have h1 := h q (by simp)
    have h2 : ∀ q ∈ l, 1 ≤ q.2 ∧ f q.1 ≤ m := fun q hq => h q (by simp [hq])
    have h3 : wsum l f ≤ wtot l * m := by
      rw [← wsum_const]; exact wsum_mono fun q hq => ⟨by have := h2 q hq; omega, (h2 q hq).2⟩
    have h4 : q.2 * f q.1 ≤ q.2 * m := Int.mul_le_mul_of_nonneg_left h1.2 (by omega)
    have e : wtot (q :: l) * m = q.2 * m + wtot l * m := by simp only [wtot, wsum, Int.mul_one, Int.add_mul]
    rw [e] at hm
    simp only [wsum] at hm
    intro q' hq'
    rcases List.mem_cons.1 hq' with rfl | hq'
    · have h5 : q'.2 * f q'.1 = q'.2 * m := by omega
      exact Int.eq_of_mul_eq_mul_left (by omega) h5
    · exact ih h2 (by omega) q' hq'

theorem cell_lt {w h i : Nat} (hi : i < w * h) : i % w < w ∧ i / w < h ∧ i / w * w + i % w = i := by
  have hw : 0 < w := by
    rcases Nat.eq_zero_or_pos w with h0 | h0
    · rw [h0] at hi; omega
    · exact h0
  exact ⟨Nat.mod_lt _ hw, Nat.div_lt_of_lt_mul hi, by rw [Nat.mul_comm]; exact Nat.div_add_mod i w⟩

theorem cell_at {w x y : Nat} (hx : x < w) : (y * w + x) % w = x ∧ (y * w + x) / w = y := by
  have hw : 0 < w := by omega
  constructor
  · rw [Nat.add_comm, Nat.add_mul_mod_self_right, Nat.mod_eq_of_lt hx]
  · rw [Nat.add_comm, Nat.add_mul_div_right _ _ hw, Nat.div_eq_of_lt hx, Nat.zero_add]

theorem cell_in {w h x y : Nat} (hx : x < w) (hy : y < h) : y * w + x < w * h := by
  have : (y + 1) * w ≤ h * w := Nat.mul_le_mul_right _ hy
  rw [Nat.add_mul, Nat.one_mul] at this
  rw [Nat.mul_comm w h]; omega

theorem nbs_at (p : Pl) {x y : Nat} (hx : x < p.w) : nbs p (y * p.w + x) =
    (if 0 < x then [(y * p.w + (x - 1), besW p.rd (x - 1))] else []) ++ ((if x + 1 < p.w then [(y * p.w + (x + 1), besW p.rd x)] else []) ++
    ((if 0 < y then [((y - 1) * p.w + x, abvW p.rd x)] else []) ++ (if y + 1 < p.h then [((y + 1) * p.w + x, abvW p.rd x)] else []))) := by
  obtain ⟨e1, e2⟩ := cell_at (y := y) hx
  unfold nbs
  rw [e1, e2]
  congr 1
  · split
    · rename_i h; rw [show y * p.w + x - 1 = y * p.w + (x - 1) by omega]
    · rfl
  congr 1
  congr 1
  · split
    · rename_i h
      have : y * p.w = (y - 1) * p.w + p.w := by
        have : y = y - 1 + 1 := by omega
        conv => lhs; rw [this, Nat.add_mul, Nat.one_mul]
      rw [show y * p.w + x - p.w = (y - 1) * p.w + x by omega]
    · rfl
  · split
    · rw [show y * p.w + x + p.w = (y + 1) * p.w + x by rw [Nat.add_mul]; omega]
    · rfl

inductive Nb (p : Pl) : Nat → Nat → Nat → Nat → Int → Prop where
  | left (x y : Nat) : x + 1 < p.w → Nb p (x + 1) y x y (besW p.rd x)
  | right (x y : Nat) : x + 1 < p.w → Nb p x y (x + 1) y (besW p.rd x)
  | up (x y : Nat) : y + 1 < p.h → Nb p x (y + 1) x y (abvW p.rd x)
  | down (x y : Nat) : y + 1 < p.h → Nb p x y x (y + 1) (abvW p.rd x)

theorem nbs_mem (p : Pl) {x y : Nat} (hx : x < p.w) (hy : y < p.h) (q : Nat × Int) : q ∈ nbs p (y * p.w + x) ↔ ∃ x' y', Nb p x y x' y' q.2 ∧ q.1 = y' * p.w + x' := by
  rw [nbs_at p hx]
  constructor
  · intro h
    simp only [List.mem_append] at h
    rcases h with h | h | h | h
    · split at h
      · simp only [List.mem_singleton] at h
        subst h
        obtain ⟨z, rfl⟩ : ∃ z, x = z + 1 := ⟨x - 1, by omega⟩
        exact ⟨_, _, .left z y hx, rfl⟩
      · simp at h
    · split at h
      · simp only [List.mem_singleton] at h
        subst h
        exact ⟨_, _, .right x y (by assumption), rfl⟩
      · simp at h
    · split at h
      · simp only [List.mem_singleton] at h
        subst h
        obtain ⟨z, rfl⟩ : ∃ z, y = z + 1 := ⟨y - 1, by omega⟩
        exact ⟨_, _, .up x z hy, rfl⟩
      · simp at h
    · split at h
      · simp only [List.mem_singleton] at h
        subst h
        exact ⟨_, _, .down x y (by assumption), rfl⟩
      · simp at h
  · rintro ⟨x', y', h, e⟩
    obtain ⟨n, wt⟩ := q
    dsimp only at h e
    subst e
    cases h with
    | left x y h => simp
    | right _ _ h => simp [h]
    | up x y h => simp
    | down x y h => simp [h]

theorem Nb.symm {p : Pl} {x y x' y' : Nat} {wt : Int} (h : Nb p x y x' y' wt) : Nb p x' y' x y wt := by
  cases h with
  | left a b h => exact .right _ _ h
  | right a b h => exact .left _ _ h
  | up a b h => exact .down _ _ h
  | down a b h => exact .up _ _ h

theorem Nb.in {p : Pl} {x y x' y' : Nat} {wt : Int} (h : Nb p x y x' y' wt) (hx : x < p.w) (hy : y < p.h) : x' < p.w ∧ y' < p.h := by
  cases h <;> omega

theorem Nb.ne {p : Pl} {x y x' y' : Nat} {wt : Int} (h : Nb p x y x' y' wt) : ¬ (x' = x ∧ y' = y) := by
  cases h <;> omega

theorem besW_in (rd : Bool) (x : Nat) (hx : x ≤ 15) : 1 ≤ besW rd x ∧ besW rd x ≤ 32 := by
  unfold besW; split <;> omega
theorem abvW_in (rd : Bool) (x : Nat) (hx : x ≤ 15) : 1 ≤ abvW rd x ∧ abvW rd x ≤ 32 := by
  unfold abvW; split <;> omega

theorem Nb.wt {p : Pl} {x y x' y' : Nat} {wt : Int} (h : Nb p x y x' y' wt) (hw : p.w ≤ 16) (hx : x < p.w) : 1 ≤ wt ∧ wt ≤ 32 := by
  cases h with
  | left x y h => exact besW_in _ _ (by omega)
  | right x y h => exact besW_in _ _ (by omega)
  | up x y h => exact abvW_in _ _ (by omega)
  | down x y h => exact abvW_in _ _ (by omega)

theorem nbs_in (p : Pl) (hw : p.w ≤ 16) {i : Nat} (hi : i < p.w * p.h) : ∀ q ∈ nbs p i, q.1 < p.w * p.h ∧ 1 ≤ q.2 ∧ q.2 ≤ 32 ∧ (i, q.2) ∈ nbs p q.1 ∧ q.1 ≠ i := by
  obtain ⟨h1, h2, h3⟩ := cell_lt hi
  intro q hq
  rw [← h3] at hq
  obtain ⟨x', y', hn, he⟩ := (nbs_mem p h1 h2 q).1 hq
  obtain ⟨h4, h5⟩ := hn.in h1 h2
  obtain ⟨h6, h7⟩ := hn.wt hw h1
  refine ⟨by rw [he]; exact cell_in h4 h5, h6, h7, ?_, ?_⟩
  · rw [he]
    refine (nbs_mem p h4 h5 _).2 ⟨_, _, hn.symm, ?_⟩
    exact h3.symm
  · rw [he]
    conv => rhs; rw [← h3]
    intro e
    have m1 := (cell_at (y := y') h4); have m2 := (cell_at (y := i / p.w) h1)
    rw [e] at m1
    have e1 : x' = i % p.w := by rw [← m1.1, m2.1]
    have e2 : y' = i / p.w := by rw [← m1.2, m2.2]
    exact hn.ne ⟨e1, e2⟩

theorem nbs_len (p : Pl) (i : Nat) : (nbs p i).length ≤ 4 := by
  unfold nbs
  simp only [List.length_append]
  split <;> split <;> split <;> split <;> simp

theorem grid_conn (p : Pl) (S : Nat → Prop) (h0 : ∃ i, i < p.w * p.h ∧ S i) (hs : ∀ i, i < p.w * p.h → S i → ∀ q ∈ nbs p i, S q.1) : ∀ i, i < p.w * p.h → S i := by
  obtain ⟨i, hi, hSi⟩ := h0
  obtain ⟨h1, h2, h3⟩ := cell_lt hi
  have st : ∀ {x y x' y' wt}, x < p.w → y < p.h → Nb p x y x' y' wt → S (y * p.w + x) → S (y' * p.w + x') := fun hx hy hn hS =>
    hs _ (cell_in hx hy) hS _ ((nbs_mem p hx hy (_, _)).2 ⟨_, _, hn, rfl⟩)
  have a1 : ∀ x, x < p.w → S (i / p.w * p.w + x) → S (i / p.w * p.w + 0) := by
    intro x
    induction x with
    | zero => intro _ h; exact h
    | succ x ih => intro hx h; exact ih (by omega) (st hx h2 (.left x _ hx) h)
  have a2 := a1 _ h1 (by rw [h3]; exact hSi)
  have a3 : ∀ y, y < p.h → S (y * p.w + 0) → S (0 * p.w + 0) := by
    intro y
    induction y with
    | zero => intro _ h; exact h
    | succ y ih => intro hy h; exact ih (by omega) (st (by omega) hy (.up 0 y hy) h)
  have a4 := a3 _ h2 a2
  have a5 : ∀ y, y < p.h → S (y * p.w + 0) := by
    intro y
    induction y with
    | zero => intro _; exact a4
    | succ y ih => intro hy; exact st (by omega) (by omega) (.down 0 y hy) (ih (by omega))
  have a6 : ∀ y, y < p.h → ∀ x, x < p.w → S (y * p.w + x) := by
    intro y hy x
    induction x with
    | zero => intro _; exact a5 y hy
    | succ x ih => intro hx; exact st (by omega) hy (.right x y hx) (ih (by omega))
  intro j hj
  obtain ⟨k1, k2, k3⟩ := cell_lt hj
  rw [← k3]
  exact a6 _ k2 _ k1

theorem nbs_some (p : Pl) {i : Nat} (hi : i < p.w * p.h) (h2 : 2 ≤ p.w * p.h) : nbs p i ≠ [] := by
  intro h
  have := grid_conn p (fun j => j = i) ⟨i, hi, rfl⟩ (fun j _ hji q hq => by subst hji; rw [h] at hq; simp at hq)
  have h0 := this 0 (by omega)
  have h1 := this 1 (by omega)
  omega

theorem max_at (d : Nat → Int) : ∀ n, 0 < n → ∃ m, m < n ∧ ∀ i, i < n → d i ≤ d m
  | 0, h => absurd h (by omega)
  | 1, _ => by
    refine ⟨0, by omega, fun i hi => ?_⟩
    have h0 : i = 0 := by omega
    rw [h0]; exact Int.le_refl _
  | n + 2, _ => by
    obtain ⟨m, hm, h⟩ := max_at d (n + 1) (by omega)
    by_cases hc : d (n + 1) ≤ d m
    · exact ⟨m, by omega, fun i hi => by
        by_cases e : i = n + 1
        · subst e; exact hc
        · exact h i (by omega)⟩
    · exact ⟨n + 1, by omega, fun i hi => by
        by_cases e : i = n + 1
        · subst e; exact Int.le_refl _
        · have := h i (by omega); omega⟩

def SubH (p : Pl) (E : Nat → Prop) (f : Nat → Int) : Prop := ∀ i, i < p.w * p.h → ¬ E i → wtot (nbs p i) * f i ≤ wsum (nbs p i) f
def SupH (p : Pl) (E : Nat → Prop) (f : Nat → Int) : Prop := ∀ i, i < p.w * p.h → ¬ E i → wsum (nbs p i) f ≤ wtot (nbs p i) * f i

theorem compare {p : Pl} (hw : p.w ≤ 16) {E : Nat → Prop} {f g : Nat → Int} (hf : SubH p E f) (hg : SupH p E g) (hE : ∃ i, i < p.w * p.h ∧ E i) (hb : ∀ i, i < p.w * p.h → E i → f i ≤ g i) : ∀ i, i < p.w * p.h → f i ≤ g i := by
  obtain ⟨e, he, hEe⟩ := hE
  obtain ⟨m, hm, hmax⟩ := max_at (fun i => f i - g i) (p.w * p.h) (by omega)
  suffices h : f m - g m ≤ 0 by
    intro i hi
    have := hmax i hi
    omega
  by_cases hpos : f m - g m ≤ 0
  · exact hpos
  · exfalso
    have hall := grid_conn p (fun i => f i - g i = f m - g m) ⟨m, hm, rfl⟩ (fun i hi hSi => by
      by_cases hEi : E i
      · have := hb i hi hEi; omega
      · have h1 := hf i hi hEi
        have h2 := hg i hi hEi
        have h3 : wtot (nbs p i) * (f m - g m) ≤ wsum (nbs p i) fun n => f n - g n := by
          rw [wsum_sub, ← hSi, Int.mul_sub]; omega
        have h4 := wsum_max (l := nbs p i) (f := fun n => f n - g n) (m := f m - g m) (fun q hq => by
          obtain ⟨k1, k2, _⟩ := nbs_in p hw hi q hq
          exact ⟨k2, hmax _ k1⟩) h3
        exact h4)
    have := hall e he
    have := hb e he hEe
    omega

theorem SubH.neg {p : Pl} {E : Nat → Prop} {f : Nat → Int} (h : SubH p E f) : SupH p E fun i => - f i := fun i hi hE => by
  have := h i hi hE
  rw [wsum_neg, Int.mul_neg]; omega
theorem SupH.neg {p : Pl} {E : Nat → Prop} {f : Nat → Int} (h : SupH p E f) : SubH p E fun i => - f i := fun i hi hE => by
  have := h i hi hE
  rw [wsum_neg, Int.mul_neg]; omega
theorem SubH.add {p : Pl} {E : Nat → Prop} {f g : Nat → Int} (h : SubH p E f) (h' : SubH p E g) : SubH p E fun i => f i + g i := fun i hi hE => by
  have := h i hi hE
  have := h' i hi hE
  rw [wsum_add, Int.mul_add]; omega
theorem SupH.add {p : Pl} {E : Nat → Prop} {f g : Nat → Int} (h : SupH p E f) (h' : SupH p E g) : SupH p E fun i => f i + g i := fun i hi hE => by
  have := h i hi hE
  have := h' i hi hE
  rw [wsum_add, Int.mul_add]; omega

theorem wtot_in (p : Pl) (hw : p.w ≤ 16) {i : Nat} (hi : i < p.w * p.h) : 0 ≤ wtot (nbs p i) ∧ wtot (nbs p i) ≤ 128 ∧ (2 ≤ p.w * p.h → 1 ≤ wtot (nbs p i)) := by
  have h := nbs_in p hw hi
  have hl := nbs_len p i
  have hs := nbs_some p hi
  have gen : ∀ l : List (Nat × Int), (∀ q ∈ l, 1 ≤ q.2 ∧ q.2 ≤ 32) → (l.length : Int) ≤ wtot l ∧ wtot l ≤ 32 * l.length := by
    intro l
    induction l with
    | nil => intro _; simp [wtot, wsum]
    | cons q l ih =>
      intro h
      have h1 := h q (by simp)
      have h2 := ih fun q hq => h q (by simp [hq])
      have e : wtot (q :: l) = q.2 + wtot l := by simp only [wtot, wsum, Int.mul_one]
      rw [e, List.length_cons]; omega
  have g := gen _ fun q hq => ⟨(h q hq).2.1, (h q hq).2.2.1⟩
  refine ⟨by omega, by omega, fun h2 => ?_⟩
  have : 0 < (nbs p i).length := List.length_pos_iff.2 (hs h2)
  omega

theorem wsum_in {l : List (Nat × Int)} {f : Nat → Int} {a b : Int} (h : ∀ q ∈ l, 0 ≤ q.2 ∧ a ≤ f q.1 ∧ f q.1 ≤ b) : wtot l * a ≤ wsum l f ∧ wsum l f ≤ wtot l * b := by
  rw [← wsum_const, ← wsum_const]
  exact ⟨wsum_mono fun q hq => ⟨(h q hq).1, (h q hq).2.1⟩, wsum_mono fun q hq => ⟨(h q hq).1, (h q hq).2.2⟩⟩
end Go.Proofs

namespace Go.Proofs
open Go Go.Sx

def gt (l : List Int) (i : Nat) : Int := l.getD i 0
def Pl.n (p : Pl) : Nat := p.w * p.h
def Pl.el (p : Pl) (i : Nat) : Prop := gt p.cs i ≠ 0
instance (p : Pl) (i : Nat) : Decidable (p.el i) := by unfold Pl.el; infer_instance

structure PlOK (p : Pl) : Prop where
  w : 1 ≤ p.w ∧ p.w ≤ 16
  h : 1 ≤ p.h ∧ p.h ≤ 16
  len : p.cs.length = p.w * p.h
  cell : ∀ c ∈ p.cs, 0 ≤ c ∧ c ≤ 6
  some : ∃ i, i < p.w * p.h ∧ p.el i

def vo (v : List Int) (c : Int) : Int := gt v (c - 1).toNat
def VOK (v : List Int) : Prop := ∀ x ∈ v, -1000000 ≤ x ∧ x ≤ 1000000
def VLen (p : Pl) (v : List Int) : Prop := ∀ c ∈ p.cs, c ≤ v.length

theorem gt_mem {l : List Int} {i : Nat} (h : i < l.length) : gt l i ∈ l := by
  unfold gt; rw [List.getD_eq_getElem?_getD, List.getElem?_eq_getElem h]; exact List.getElem_mem h
theorem gt_get {l : List Int} {i : Nat} (h : i < l.length) : l[i]? = some (gt l i) := by
  unfold gt; rw [List.getD_eq_getElem?_getD, List.getElem?_eq_getElem h]; rfl
theorem gt_set (l : List Int) (i j : Nat) (x : Int) (h : i < l.length) : gt (l.set i x) j = if j = i then x else gt l j := by
  unfold gt
  rw [List.getD_eq_getElem?_getD, List.getD_eq_getElem?_getD]
  by_cases e : j = i
  · subst e; rw [List.getElem?_set_self h]; simp
  · rw [List.getElem?_set_ne (by omega)]; simp [e]
theorem gt_ext {a b : List Int} (hl : a.length = b.length) (h : ∀ i, i < a.length → gt a i = gt b i) : a = b := by
  refine List.ext_getElem hl fun i h1 h2 => ?_
  have := h i h1
  unfold gt at this
  rw [List.getD_eq_getElem?_getD, List.getD_eq_getElem?_getD, List.getElem?_eq_getElem h1, List.getElem?_eq_getElem h2] at this
  exact this
def ngs (l : List Int) : List Int := l.map fun x => - x
theorem ngs_len (l : List Int) : (ngs l).length = l.length := by simp [ngs]
theorem gt_ngs (l : List Int) (i : Nat) : gt (ngs l) i = - gt l i := by
  unfold gt ngs
  rw [List.getD_eq_getElem?_getD, List.getD_eq_getElem?_getD, List.getElem?_map]
  cases l[i]? <;> simp
theorem ngs_ngs (l : List Int) : ngs (ngs l) = l := by
  have : ((fun x : Int => -x) ∘ fun x => -x) = id := funext fun x => Int.neg_neg x
  simp [ngs, this]
theorem vo_ngs (v : List Int) (c : Int) : vo (ngs v) c = - vo v c := gt_ngs _ _
theorem VOK.neg {v : List Int} (h : VOK v) : VOK (ngs v) := fun x hx => by
  obtain ⟨y, hy, rfl⟩ := List.mem_map.1 hx
  have := h y hy; omega
theorem vo_in {v : List Int} (h : VOK v) (c : Int) : -1000000 ≤ vo v c ∧ vo v c ≤ 1000000 := by
  unfold vo
  by_cases hc : (c - 1).toNat < v.length
  · exact h _ (gt_mem hc)
  · unfold gt
    rw [List.getD_eq_getElem?_getD, List.getElem?_eq_none (by omega)]
    simp

def rdn (n b : Int) : Int := n / b
def rup (n b : Int) : Int := - (- n / b)

def stp (p : Pl) (rnd : Int → Int → Int) (a : List Int) (i : Nat) : List Int := if gt p.cs i = 0 then a.set i (rnd (wsum (nbs p i) (gt a)) (wtot (nbs p i))) else a
def swpTo (p : Pl) (rnd : Int → Int → Int) (a : List Int) : Nat → List Int
  | 0 => a
  | k + 1 => stp p rnd (swpTo p rnd a k) k
def swp (p : Pl) (rnd : Int → Int → Int) (a : List Int) : List Int := swpTo p rnd a p.cs.length
def itr (p : Pl) (rnd : Int → Int → Int) (a : List Int) : Nat → List Int
  | 0 => a
  | k + 1 => swp p rnd (itr p rnd a k)

def at0 (p : Pl) (v : List Int) (first : Int) : List Int := p.cs.map fun c => if c = 0 then first else vo v c
def endLs (v : List Int) (a : Int) : List Int → Int
  | [] => a
  | c :: cs => endLs v (if c = 0 then a else if vo v c < a then vo v c else a) cs
def endMs (v : List Int) (a : Int) : List Int → Int
  | [] => a
  | c :: cs => endMs v (if c = 0 then a else if vo v c > a then vo v c else a) cs
def endL (p : Pl) (v : List Int) : Int := endLs v 1000000 p.cs
def endM (p : Pl) (v : List Int) : Int := endMs v (-1000000) p.cs

def lowB (p : Pl) (v : List Int) (k : Nat) : List Int := itr p rdn (at0 p v (endL p v)) k
def highB (p : Pl) (v : List Int) (k : Nat) : List Int := itr p rup (at0 p v (endM p v)) k

theorem stp_len (p : Pl) (rnd) (a : List Int) (i : Nat) : (stp p rnd a i).length = a.length := by unfold stp; split <;> simp
theorem swpTo_len (p : Pl) (rnd) (a : List Int) : ∀ k, (swpTo p rnd a k).length = a.length
  | 0 => rfl
  | k + 1 => by rw [swpTo, stp_len, swpTo_len p rnd a k]
theorem stp_other (p : Pl) (rnd) (a : List Int) {i j : Nat} (h : j ≠ i) : gt (stp p rnd a i) j = gt a j := by
  unfold stp
  split
  · by_cases hi : i < a.length
    · rw [gt_set _ _ _ _ hi, if_neg h]
    · rw [List.set_eq_of_length_le (by omega)]
  · rfl
theorem swpTo_later (p : Pl) (rnd) (a : List Int) {j : Nat} : ∀ k, k ≤ j → gt (swpTo p rnd a k) j = gt a j
  | 0, _ => rfl
  | k + 1, h => by rw [swpTo, stp_other _ _ _ (by omega), swpTo_later p rnd a k (by omega)]
theorem swpTo_moved (p : Pl) (rnd) (a : List Int) {k : Nat} (hk : k < a.length) : (swpTo p rnd a (k + 1) ≠ a) ↔ (swpTo p rnd a k ≠ a ∨ (gt p.cs k = 0 ∧ rnd (wsum (nbs p k) (gt (swpTo p rnd a k))) (wtot (nbs p k)) ≠ gt (swpTo p rnd a k) k)) := by
  have hl := swpTo_len p rnd a k
  rw [swpTo]
  by_cases h1 : swpTo p rnd a k = a
  · rw [h1]
    unfold stp
    by_cases h2 : gt p.cs k = 0
    · rw [if_pos h2]
      simp only [h2, ne_eq, not_true_eq_false, false_or, true_and]
      constructor
      · intro h e
        apply h
        refine gt_ext (by simp) fun i hi => ?_
        rw [gt_set _ _ _ _ hk]
        by_cases e2 : i = k
        · subst e2; rw [if_pos rfl]; exact e
        · rw [if_neg e2]
      · intro h e
        apply h
        have := congrArg (fun l => gt l k) e
        rwa [gt_set _ _ _ _ hk, if_pos rfl] at this
    · simp [h2]
  · constructor
    · intro _; exact .inl h1
    · intro _ e
      apply h1
      refine gt_ext hl fun i hi => ?_
      rw [hl] at hi
      by_cases e2 : i = k
      · subst e2; exact swpTo_later p rnd a i (Nat.le_refl _)
      · have := congrArg (fun l => gt l i) e
        rwa [stp_other _ _ _ e2] at this

theorem stp_ngs (p : Pl) (a : List Int) (i : Nat) : stp p rup (ngs a) i = ngs (stp p rdn a i) := by
  unfold stp
  split
  · have e : wsum (nbs p i) (gt (ngs a)) = - wsum (nbs p i) (gt a) := by rw [← wsum_neg]; exact wsum_congr fun q _ => gt_ngs _ _
    rw [e]
    unfold rup rdn ngs
    rw [Int.neg_neg, List.map_set]
  · rfl
theorem swpTo_ngs (p : Pl) (a : List Int) : ∀ k, swpTo p rup (ngs a) k = ngs (swpTo p rdn a k)
  | 0 => rfl
  | k + 1 => by rw [swpTo, swpTo, swpTo_ngs p a k, stp_ngs]
theorem itr_ngs (p : Pl) (a : List Int) : ∀ k, itr p rup (ngs a) k = ngs (itr p rdn a k)
  | 0 => rfl
  | k + 1 => by
    rw [itr, itr, itr_ngs p a k]
    exact swpTo_ngs p _ _
theorem endLs_ngs (v : List Int) : ∀ (cs : List Int) (a : Int), endLs (ngs v) (-a) cs = - endMs v a cs
  | [], a => rfl
  | c :: cs, a => by
    rw [endLs, endMs, ← endLs_ngs v cs, vo_ngs]
    congr 1
    by_cases h : c = 0
    · simp [h]
    · simp only [h, if_false]
      by_cases h2 : vo v c > a
      · rw [if_pos h2, if_pos (by omega)]
      · rw [if_neg h2, if_neg (by omega)]
theorem endL_ngs (p : Pl) (v : List Int) : endL p (ngs v) = - endM p v := by
  have := endLs_ngs v p.cs (-1000000)
  rwa [Int.neg_neg] at this
theorem endM_ngs (p : Pl) (v : List Int) : endM p (ngs v) = - endL p v := by
  have := endL_ngs p (ngs v)
  rw [ngs_ngs] at this
  omega
theorem at0_ngs (p : Pl) (v : List Int) (f : Int) : at0 p (ngs v) (-f) = ngs (at0 p v f) := by
  unfold at0
  simp only [ngs, List.map_map]
  refine List.map_congr_left fun c _ => ?_
  simp only [Function.comp]
  split
  · rfl
  · exact vo_ngs v c
theorem highB_eq (p : Pl) (v : List Int) (k : Nat) : highB p v k = ngs (lowB p (ngs v) k) := by
  unfold highB lowB
  rw [endL_ngs, ← itr_ngs, at0_ngs, ngs_ngs]
theorem endLs_le (v : List Int) : ∀ (cs : List Int) (a : Int), endLs v a cs ≤ a ∧ ∀ c ∈ cs, c ≠ 0 → endLs v a cs ≤ vo v c
  | [], a => ⟨Int.le_refl _, fun c hc => by simp at hc⟩
  | c :: cs, a => by
    obtain ⟨h1, h2⟩ := endLs_le v cs (if c = 0 then a else if vo v c < a then vo v c else a)
    rw [endLs]
    have h3 : (if c = 0 then a else if vo v c < a then vo v c else a) ≤ a := by split <;> (try split) <;> omega
    refine ⟨by omega, fun d hd hn => ?_⟩
    rcases List.mem_cons.1 hd with rfl | hd
    · have : (if d = 0 then a else if vo v d < a then vo v d else a) ≤ vo v d := by rw [if_neg hn]; split <;> omega
      omega
    · exact h2 d hd hn
theorem endLs_in {v : List Int} (hv : VOK v) : ∀ (cs : List Int) (a : Int), -1000000 ≤ a → a ≤ 1000000 → -1000000 ≤ endLs v a cs ∧ endLs v a cs ≤ 1000000
  | [], a, h, h' => ⟨h, h'⟩
  | c :: cs, a, h, h' => by
    rw [endLs]
    have := vo_in hv c
    refine endLs_in hv cs _ ?_ ?_ <;> (split <;> (try split) <;> omega)
theorem endL_in {v : List Int} (hv : VOK v) (p : Pl) : -1000000 ≤ endL p v ∧ endL p v ≤ 1000000 := endLs_in hv _ _ (by omega) (by omega)
theorem endM_in {v : List Int} (hv : VOK v) (p : Pl) : -1000000 ≤ endM p v ∧ endM p v ≤ 1000000 := by
  have := endL_in hv.neg p
  rw [endL_ngs] at this; omega
theorem endL_le (p : Pl) (v : List Int) {c : Int} (hc : c ∈ p.cs) (h : c ≠ 0) : endL p v ≤ vo v c := (endLs_le v _ _).2 c hc h
theorem endM_ge (p : Pl) (v : List Int) {c : Int} (hc : c ∈ p.cs) (h : c ≠ 0) : vo v c ≤ endM p v := by
  have := endL_le p (ngs v) hc h
  rw [endL_ngs, vo_ngs] at this; omega

structure LowOK (p : Pl) (v : List Int) (a : List Int) : Prop where
  len : a.length = p.w * p.h
  elec : ∀ i, i < p.w * p.h → p.el i → gt a i = vo v (gt p.cs i)
  sub : SubH p p.el (gt a)
  bd : ∀ i, i < p.w * p.h → endL p v ≤ gt a i ∧ gt a i ≤ endM p v

theorem PlOK.mem {p : Pl} (hp : PlOK p) {i : Nat} (hi : i < p.w * p.h) : gt p.cs i ∈ p.cs := gt_mem (by rw [hp.len]; exact hi)
theorem PlOK.two {p : Pl} (hp : PlOK p) {i : Nat} (hi : i < p.w * p.h) (h : gt p.cs i = 0) : 2 ≤ p.w * p.h := by
  obtain ⟨j, hj, hE⟩ := hp.some
  have : j ≠ i := fun e => by subst e; exact hE h
  omega
theorem PlOK.ends {p : Pl} (hp : PlOK p) (v : List Int) : endL p v ≤ endM p v := by
  obtain ⟨j, hj, hE⟩ := hp.some
  have h1 := endL_le p v (hp.mem hj) hE
  have h2 := endM_ge p v (hp.mem hj) hE
  omega

theorem gt_at0 {p : Pl} (v : List Int) (f : Int) {i : Nat} (hi : i < p.cs.length) : gt (at0 p v f) i = if gt p.cs i = 0 then f else vo v (gt p.cs i) := by
  have := gt_get hi
  unfold at0
  conv => lhs; unfold gt
  rw [List.getD_eq_getElem?_getD, List.getElem?_map, this]
  rfl

theorem low0_ok {p : Pl} (hp : PlOK p) (v : List Int) : LowOK p v (at0 p v (endL p v)) := by
  have hbd : ∀ i, i < p.w * p.h → endL p v ≤ gt (at0 p v (endL p v)) i ∧ gt (at0 p v (endL p v)) i ≤ endM p v := fun i hi => by
    rw [gt_at0 v _ (by rw [hp.len]; exact hi)]
    split
    · have := hp.ends v; omega
    · rename_i h; exact ⟨endL_le p v (hp.mem hi) h, endM_ge p v (hp.mem hi) h⟩
  refine ⟨by simp [at0, hp.len], fun i hi hE => ?_, fun i hi hE => ?_, hbd⟩
  · rw [gt_at0 v _ (by rw [hp.len]; exact hi), if_neg hE]
  · have h0 : gt p.cs i = 0 := Classical.not_not.1 hE
    rw [gt_at0 v _ (by rw [hp.len]; exact hi), if_pos h0, ← wsum_const]
    exact wsum_mono fun q hq => by
      obtain ⟨k1, k2, _⟩ := nbs_in p hp.w.2 hi q hq
      exact ⟨by omega, (hbd _ k1).1⟩

theorem stp_ok {p : Pl} (hp : PlOK p) {v a : List Int} (h : LowOK p v a) {k : Nat} (hk : k < p.w * p.h) : LowOK p v (stp p rdn a k) ∧ ∀ i, gt a i ≤ gt (stp p rdn a k) i := by
  by_cases h0 : gt p.cs k = 0
  rotate_left
  · have e : stp p rdn a k = a := by unfold stp; rw [if_neg h0]
    rw [e]; exact ⟨h, fun i => Int.le_refl _⟩
  have hN := nbs_in p hp.w.2 hk
  obtain ⟨_, _, hW⟩ := wtot_in p hp.w.2 hk
  have hW := hW (hp.two hk h0)
  have hs := h.sub k hk (fun hE => hE h0)
  have hgt : ∀ i, gt (stp p rdn a k) i = if i = k then rdn (wsum (nbs p k) (gt a)) (wtot (nbs p k)) else gt a i := fun i => by
    unfold stp; rw [if_pos h0, gt_set _ _ _ _ (by rw [h.len]; exact hk)]
  have hup : gt a k ≤ rdn (wsum (nbs p k) (gt a)) (wtot (nbs p k)) := by
    unfold rdn
    exact Int.le_ediv_of_mul_le (by omega) (by rw [Int.mul_comm]; exact hs)
  have hdn : wtot (nbs p k) * rdn (wsum (nbs p k) (gt a)) (wtot (nbs p k)) ≤ wsum (nbs p k) (gt a) := by
    unfold rdn
    exact Int.mul_ediv_self_le (by omega)
  have hbd := wsum_in (l := nbs p k) (f := gt a) (a := endL p v) (b := endM p v) fun q hq => by
    obtain ⟨k1, k2, _⟩ := hN q hq
    exact ⟨by omega, h.bd _ k1⟩
  have hle : rdn (wsum (nbs p k) (gt a)) (wtot (nbs p k)) ≤ endM p v := by
    unfold rdn
    have : wsum (nbs p k) (gt a) < (endM p v + 1) * wtot (nbs p k) := by rw [Int.mul_comm, Int.mul_add]; omega
    have := Int.ediv_lt_of_lt_mul (by omega) this
    omega
  have hmono : ∀ i, gt a i ≤ gt (stp p rdn a k) i := fun i => by
    rw [hgt]; split
    · rename_i e; subst e; exact hup
    · exact Int.le_refl _
  refine ⟨⟨by rw [stp_len, h.len], fun i hi hE => ?_, fun i hi hE => ?_, fun i hi => ?_⟩, hmono⟩
  · rw [hgt, if_neg (fun e => by subst e; exact hE h0)]; exact h.elec i hi hE
  · by_cases e : i = k
    · subst e
      rw [hgt, if_pos rfl]
      refine Int.le_trans hdn (Int.le_of_eq (wsum_congr fun q hq => ?_))
      obtain ⟨_, _, _, _, k5⟩ := hN q hq
      rw [hgt, if_neg k5]
    · rw [hgt, if_neg e]
      refine Int.le_trans (h.sub i hi hE) (wsum_mono fun q hq => ?_)
      obtain ⟨_, k2, _⟩ := nbs_in p hp.w.2 hi q hq
      exact ⟨by omega, hmono _⟩
  · have := hmono i
    have := h.bd i hi
    refine ⟨by omega, ?_⟩
    rw [hgt]; split
    · exact hle
    · omega

theorem swpTo_ok {p : Pl} (hp : PlOK p) {v a : List Int} (h : LowOK p v a) : ∀ k, k ≤ p.w * p.h → LowOK p v (swpTo p rdn a k) ∧ ∀ i, gt a i ≤ gt (swpTo p rdn a k) i
  | 0, _ => ⟨h, fun i => Int.le_refl _⟩
  | k + 1, hk => by
    obtain ⟨h1, h2⟩ := swpTo_ok hp h k (by omega)
    obtain ⟨h3, h4⟩ := stp_ok hp h1 (k := k) (by omega)
    exact ⟨h3, fun i => Int.le_trans (h2 i) (h4 i)⟩

theorem low_ok {p : Pl} (hp : PlOK p) (v : List Int) : ∀ k, LowOK p v (lowB p v k)
  | 0 => low0_ok hp v
  | k + 1 => (swpTo_ok hp (low_ok hp v k) _ (by rw [hp.len]; exact Nat.le_refl _)).1
structure HighOK (p : Pl) (v : List Int) (a : List Int) : Prop where
  len : a.length = p.w * p.h
  elec : ∀ i, i < p.w * p.h → p.el i → gt a i = vo v (gt p.cs i)
  sup : SupH p p.el (gt a)
  bd : ∀ i, i < p.w * p.h → endL p v ≤ gt a i ∧ gt a i ≤ endM p v

theorem LowOK.neg {p : Pl} {v a : List Int} (h : LowOK p (ngs v) a) : HighOK p v (ngs a) := by
  have e : gt (ngs a) = fun i => - gt a i := funext fun i => gt_ngs a i
  refine ⟨by rw [ngs_len, h.len], fun i hi hE => ?_, ?_, fun i hi => ?_⟩
  · rw [gt_ngs, h.elec i hi hE, vo_ngs]; omega
  · rw [e]; exact h.sub.neg
  · have := h.bd i hi
    rw [endL_ngs, endM_ngs] at this
    rw [gt_ngs]; omega
theorem high_ok {p : Pl} (hp : PlOK p) (v : List Int) (k : Nat) : HighOK p v (highB p v k) := by
  rw [highB_eq]; exact (low_ok hp (ngs v) k).neg
def stl (p : Pl) (v : List Int) (k : Nat) : Bool := decide (0 < k ∧ lowB p v k = lowB p v (k - 1) ∧ highB p v k = highB p v (k - 1))
def cnt (p : Pl) (v : List Int) : Nat → Nat
  | 0 => 0
  | n + 1 => if stl p v (cnt p v n) = true then cnt p v n else cnt p v n + 1

theorem cnt_next {p : Pl} {v : List Int} {s : Nat} (h : cnt p v s = s) (hs : stl p v s = false) : cnt p v (s + 1) = s + 1 := by
  rw [cnt, h, hs]; simp
theorem cnt_still {p : Pl} {v : List Int} {s : Nat} (h : cnt p v s = s) (hs : stl p v s = true) : ∀ m, cnt p v (s + m) = s
  | 0 => h
  | m + 1 => by
    show cnt p v (s + m + 1) = s
    rw [cnt, cnt_still h hs m, hs]; simp
end Go.Proofs

namespace Go.Proofs
open Go Go.Sx
attribute [local irreducible] Run

theorem idx_next {i n : Nat} (h : i < n) (hn : n ≤ 9223372036854775807) : IntKind.i64.wrap ((i : Int) + 1) = ((i + 1 : Nat) : Int) := by rw [IntWalk.i64_in _ (by omega)]; rfl
theorem nat_rem (a b : Nat) : (a : Int).tmod (b : Int) = ((a % b : Nat) : Int) := by simp [Int.tmod_eq_emod_of_nonneg]
theorem nat_quo (a b : Nat) : (a : Int).tdiv (b : Int) = ((a / b : Nat) : Int) := by simp [Int.tdiv_eq_ediv_of_nonneg]

def vw (l : List Int) : AVal := .view (l.map (.int .i64))
def Pl.c4 (p : Pl) (c : AVal) : List AVal := [.int .i64 p.w, .int .i64 p.h, .bool p.rd, c]
def Pl.a (p : Pl) (c : AVal) : AVal := .agg (p.c4 c)
def Pl.v (p : Pl) : AVal := p.a (vw p.cs)
@[go_sem] theorem vw_bel (l : List Int) (S : Nat → Prop) : Bel S (vw l) = True := by unfold vw; simp only [go_sem]
@[go_sem] theorem plv_bel (p : Pl) (S : Nat → Prop) : Bel S p.v = True := by unfold Pl.v Pl.a Pl.c4; simp only [go_sem]

theorem within_ok (n a b : Int) : Ans Try.prog n_field_within [.int .i64 n, .int .i64 a, .int .i64 b] [] (.bool (decide (a ≤ n) && decide (n ≤ b))) [] := by
  refine spec_run e_field_within fun G => ?_
  simp only [go_sem]
  refine ⟨fun h => ?_, fun h => ?_⟩ <;> simp [h]
theorem within_yes {n a b : Int} (h : a ≤ n ∧ n ≤ b) : Ans Try.prog n_field_within [.int .i64 n, .int .i64 a, .int .i64 b] [] (.bool true) [] := by
  have := within_ok n a b
  rwa [show (decide (a ≤ n) && decide (n ≤ b)) = true by simp [h]] at this
theorem within_no {n a b : Int} (h : ¬ (a ≤ n ∧ n ≤ b)) : Ans Try.prog n_field_within [.int .i64 n, .int .i64 a, .int .i64 b] [] (.bool false) [] := by
  have := within_ok n a b
  rwa [show (decide (a ≤ n) && decide (n ≤ b)) = false by simpa using h] at this

theorem beside_ok (p : Pl) (x : Nat) (hx : x ≤ 15) : Ans Try.prog n_field_beside [p.v, .int .i64 x] [] (.int .i64 (besW p.rd x)) [] := by
  have e1 : IntKind.i64.wrap ((x : Int) + 1) = (x : Int) + 1 := w64 (by omega)
  have e2 : IntKind.i64.wrap (2 * ((x : Int) + 1)) = 2 * ((x : Int) + 1) := w64 (by omega)
  refine spec_run e_field_beside fun G => ?_
  unfold besW
  cases h : p.rd <;> simp only [go_sem, Pl.v, Pl.a, Pl.c4, h, e1, e2]
theorem above_ok (p : Pl) (x : Nat) (hx : x ≤ 15) : Ans Try.prog n_field_above [p.v, .int .i64 x] [] (.int .i64 (abvW p.rd x)) [] := by
  have e1 : IntKind.i64.wrap (2 * (x : Int)) = 2 * (x : Int) := w64 (by omega)
  have e2 : IntKind.i64.wrap (2 * (x : Int) + 1) = 2 * (x : Int) + 1 := w64 (by omega)
  refine spec_run e_field_above fun G => ?_
  unfold abvW
  cases h : p.rd <;> simp only [go_sem, Pl.v, Pl.a, Pl.c4, h, e1, e2]

theorem roundDown_ok (n b : Int) (hb : 0 < b ∧ b ≤ 1000000000) (hn : -1000000000000 ≤ n ∧ n ≤ 1000000000000) : Ans Try.prog n_field_roundDown [.int .i64 n, .int .i64 b] [] (.int .i64 (rdn n b)) [] := by
  have e := Int.tdiv_eq_ediv (a := n) (b := b)
  have e' := Int.tmod_eq_emod (a := n) (b := b)
  have h1 := Int.emod_nonneg n (show b ≠ 0 by omega)
  have h2 := Int.emod_lt_of_pos n (show 0 < b by omega)
  have hd := Int.dvd_iff_emod_eq_zero (a := b) (b := n)
  have hq1 : n / b ≤ 1000000000000 := Int.ediv_le_of_le_mul (by omega) (by have := Int.mul_le_mul_of_nonneg_left (show (1 : Int) ≤ b by omega) (show (0 : Int) ≤ 1000000000000 by omega); omega)
  have hq2 : -1000000000000 ≤ n / b := Int.le_ediv_of_mul_le (by omega) (by have := Int.mul_le_mul_of_nonneg_left (show (1 : Int) ≤ b by omega) (show (0 : Int) ≤ 1000000000000 by omega); omega)
  refine spec_run e_field_roundDown fun G => ?_
  have hs : b.sign = 1 := Int.sign_eq_one_of_pos (by omega)
  rw [hs] at e
  have e'' : n.tmod b = if 0 ≤ n ∨ b ∣ n then n % b else n % b - b := by
    rw [e']; split
    · omega
    · rw [Int.natAbs_of_nonneg (by omega)]
  have w1 : IntKind.i64.wrap (n.tdiv b) = n.tdiv b := w64 (by rw [e]; split <;> omega)
  unfold rdn
  simp only [go_sem, w1]
  by_cases hc : 0 ≤ n ∨ b ∣ n
  · rw [if_pos hc] at e e''
    have h3 : ¬ n.tmod b < 0 := by omega
    have h4 : b ≠ 0 := by omega
    simp only [go_sem, h3, h4]
    rw [e]; simp
  · rw [if_neg hc] at e e''
    have h3 : n.tmod b < 0 := by omega
    have h4 : b ≠ 0 := by omega
    have w2 : IntKind.i64.wrap (n.tdiv b - 1) = n.tdiv b - 1 := w64 (by rw [e]; omega)
    simp only [go_sem, h3, h4, w2]
    rw [e]; simp

theorem roundUp_ok (n b : Int) (hb : 0 < b ∧ b ≤ 1000000000) (hn : -1000000000000 ≤ n ∧ n ≤ 1000000000000) : Ans Try.prog n_field_roundUp [.int .i64 n, .int .i64 b] [] (.int .i64 (rup n b)) [] := by
  have hq1 : -n / b ≤ 1000000000000 := Int.ediv_le_of_le_mul (by omega) (by have := Int.mul_le_mul_of_nonneg_left (show (1 : Int) ≤ b by omega) (show (0 : Int) ≤ 1000000000000 by omega); omega)
  have hq2 : -1000000000000 ≤ -n / b := Int.le_ediv_of_mul_le (by omega) (by have := Int.mul_le_mul_of_nonneg_left (show (1 : Int) ≤ b by omega) (show (0 : Int) ≤ 1000000000000 by omega); omega)
  have w0 : IntKind.i64.wrap (0 - n) = -n := by rw [w64 (by omega)]; omega
  have w1 : IntKind.i64.wrap (0 - rdn (-n) b) = -rdn (-n) b := by unfold rdn; rw [w64 (by omega)]; omega
  refine spec_run e_field_roundUp fun G => ?_
  unfold rup
  simp only [go_sem, w0]
  refine cP (roundDown_ok (-n) b hb (by omega)) ?_
  simp only [go_sem, w1]
  rfl

theorem neighbours_ok (p : Pl) (i : Int) : Ans Try.prog n_field_neighbours [p.v, .int .i64 i] [] (.fn (.func n_field_neighbours_1) [] [.ptr 1 0 0 1, .ptr 0 0 0 1]) [some (.cells false 4 [p.v]), some (.cells false 1 [.int .i64 i])] := by
  refine spec_run e_field_neighbours fun G => ?_
  simp only [go_sem, Pl.v, Pl.a, Pl.c4]
  exact ⟨_, rfl⟩
end Go.Proofs

namespace Go.Proofs
open Go Go.Sx

section
variable {P : Program} {G : Ctx} {k : Nat} {rd : Option Nat} {fs : List Sx.Frame} {Q : Sx.Goal}
theorem run0_code {c : ACode} {ρ ρ' : List AVal} {H : Heap} {ms : List Nat} (hw : Wk ρ ρ') (h : AW P G k rd c (Sx.Fin P G k rd fs Q) ⟨ρ', H, ms⟩) : Sx.Run P G k rd 0 (.code c) fs ⟨ρ, H, ms⟩ Q := aw_less (less_wk hw) h
theorem run0_out {e : Exit} {s : St} (h : Sx.Fin P G k rd fs Q e s) : Sx.Run P G k rd 0 (.out e) fs s Q := h
end
attribute [local irreducible] Run

structure NbBody (G : Ctx) (p : Pl) (i r jc jp N : Nat) (Pre : Nat → Heap → Prop) (Stop : Heap → Prop) : Prop where
  row : ∀ k H, Pre k H → N ≤ H.length ∧ H[jc]? = some (some (.cells false 1 [.int .i64 i])) ∧ H[jp]? = some (some (.cells false 4 [p.v]))
  round : ∀ k q H, (nbs p i)[k]? = some q → Pre k H → RoundW Try.prog G r [.int .i64 (q.1 : Int), .int .i64 q.2] H fun v H' => (v = .bool true ∧ Pre (k + 1) H') ∨ (v = .bool false ∧ Stop H')

def nbC4 : ACode := .seq (.reg k_field_neighbours_1_r4 false) (.cond (.tmp 60) (.reg k_field_neighbours_1_r5 true) .skip)
def nbC3 : ACode := .seq (.seq (.reg k_field_neighbours_1_r3 true) (.cond (.tmp 55) .ret .skip)) nbC4
def nbC2 : ACode := .seq (.seq (.reg k_field_neighbours_1_r2 true) (.cond (.tmp 41) .ret .skip)) nbC3
def nbC1 : ACode := .seq (.seq (.reg k_field_neighbours_1_r1 true) (.cond (.tmp 26) .ret .skip)) nbC2
def nbT (r jc jp x y : Nat) : List AVal := tsets 70 [(0, .yfn r), (1, .ptr jc 0 0 1), (2, .ptr jp 0 0 1), (4, .int .i64 x), (5, .int .i64 y)]

section
variable {G : Ctx} {p : Pl} (hp : PlOK p) {i x y : Nat} (hx : x < p.w) (hy : y < p.h) (hi : y * p.w + x = i) {r jc jp N : Nat} {Pre : Nat → Heap → Prop} {Stop : Heap → Prop} (hB : NbBody G p i r jc jp N Pre Stop)
def nbQ (Pre : Nat → Heap → Prop) (Stop : Heap → Prop) (n : Nat) : AVal → Heap → Prop := fun v H' => v = .tup [] ∧ (Pre n H' ∨ Stop H')
include hp hx hy hi hB

set_option maxHeartbeats 4000000 in
set_option maxRecDepth 10000 in
theorem nb_c4 {k : Nat} {H : Heap} (hk : k + (if y + 1 < p.h then 1 else 0) = (nbs p i).length) (hq : y + 1 < p.h → (nbs p i)[k]? = some (i + p.w, abvW p.rd x)) (hP : Pre k H) :
    AW Try.prog G N none nbC4 (RetPost [] (nbQ Pre Stop (nbs p i).length)) ⟨nbT r jc jp x y, H, []⟩ := by
  obtain ⟨hN, hc, hpl⟩ := hB.row k H hP
  have hw := hp.w
  have hh := hp.h
  have hil : i < 256 := by have := cell_in hx hy; have := Nat.mul_le_mul hw.2 hh.2; omega
  refine run_aw 3000 ?_
  have w1 : IntKind.i64.wrap ((p.h : Int) - 1) = ((p.h - 1 : Nat) : Int) := by rw [w64 (by omega)]; omega
  have w2 : IntKind.i64.wrap ((i : Int) + p.w) = ((i + p.w : Nat) : Int) := by rw [w64 (by omega)]; omega
  simp only [go_sem, nbC4, nbT, cells_at hc, cells_at hpl, Pl.v, Pl.a, Pl.c4, w1, w2]
  by_cases h1 : y + 1 < p.h
  · have h2 : (y : Int) < ((p.h - 1 : Nat) : Int) := by omega
    rw [if_pos h1] at hk
    have hr := hB.round k _ H (hq h1) hP
    simp only [go_sem, h2, cells_at hc, cells_at hpl, Pl.v, Pl.a, Pl.c4, w2]
    refine dP (above_ok p x (by omega)) ?_
    simp only [go_sem]
    refine yieldR _ rfl rfl (by simp [go_sem]) (by simp [go_sem]) hN ?_
    refine hr.mono ?_
    rintro v H' (⟨rfl, q3⟩ | ⟨rfl, q3⟩)
    · refine ⟨fun q hq => by simp at hq, ?_⟩
      simp only [go_sem]
      exact ⟨rfl, .inl (by rw [← hk]; exact q3)⟩
    · refine ⟨fun q hq => by simp at hq, ?_⟩
      simp only [go_sem]
      exact ⟨rfl, .inr q3⟩
  · have h2 : ¬ (y : Int) < ((p.h - 1 : Nat) : Int) := by omega
    rw [if_neg h1] at hk
    simp only [go_sem, h2]
    exact ⟨rfl, .inl (by rw [← hk]; exact hP)⟩

set_option maxHeartbeats 4000000 in
set_option maxRecDepth 10000 in
theorem nb_c3 {k : Nat} {H : Heap} (hk : k + (if 0 < y then 1 else 0) + (if y + 1 < p.h then 1 else 0) = (nbs p i).length) (hq : 0 < y → (nbs p i)[k]? = some (i - p.w, abvW p.rd x)) (hq4 : y + 1 < p.h → (nbs p i)[k + (if 0 < y then 1 else 0)]? = some (i + p.w, abvW p.rd x)) (hP : Pre k H) :
    AW Try.prog G N none nbC3 (RetPost [] (nbQ Pre Stop (nbs p i).length)) ⟨nbT r jc jp x y, H, []⟩ := by
  obtain ⟨hN, hc, hpl⟩ := hB.row k H hP
  have hw := hp.w
  have hh := hp.h
  have hil : i < 256 := by have := cell_in hx hy; have := Nat.mul_le_mul hw.2 hh.2; omega
  refine run_aw 42 ?_
  by_cases h1 : 0 < y
  · have h2 : 0 < (y : Int) := by omega
    have hyw : p.w ≤ y * p.w := Nat.le_mul_of_pos_left _ h1
    have w2 : IntKind.i64.wrap ((i : Int) - p.w) = ((i - p.w : Nat) : Int) := by rw [w64 (by omega)]; omega
    simp only [if_pos h1] at hk hq4
    have hr := hB.round k _ H (hq h1) hP
    simp only [go_sem, nbC3, nbT, h2, cells_at hc, cells_at hpl, Pl.v, Pl.a, Pl.c4, w2]
    refine dP (above_ok p x (by omega)) ?_
    simp only [go_sem]
    refine yieldR _ rfl rfl (by simp [go_sem]) (by simp [go_sem]) hN ?_
    refine hr.mono ?_
    rintro v H' (⟨rfl, q3⟩ | ⟨rfl, q3⟩)
    · refine ⟨fun q hq => by simp at hq, ?_⟩
      simp only [go_sem]
      exact run0_code (ρ' := nbT r jc jp x y) (by simp [go_sem, nbT]) (nb_c4 hp hx hy hi hB hk hq4 q3)
    · refine ⟨fun q hq => by simp at hq, ?_⟩
      simp only [go_sem]
      refine run0_out ?_
      simp only [go_sem, Sx.Fin]
      exact ⟨rfl, .inr q3⟩
  · have h2 : ¬ 0 < (y : Int) := by omega
    simp only [if_neg h1, Nat.add_zero] at hk hq4
    simp only [go_sem, nbC3, nbT, h2, cells_at hc, cells_at hpl, Pl.v, Pl.a, Pl.c4]
    exact run0_code (ρ' := nbT r jc jp x y) (by simp [go_sem, nbT]) (nb_c4 hp hx hy hi hB hk hq4 hP)

set_option maxHeartbeats 4000000 in
set_option maxRecDepth 10000 in
theorem nb_c2 {k : Nat} {H : Heap} (hk : k + (if x + 1 < p.w then 1 else 0) + (if 0 < y then 1 else 0) + (if y + 1 < p.h then 1 else 0) = (nbs p i).length) (hq : x + 1 < p.w → (nbs p i)[k]? = some (i + 1, besW p.rd x)) (hq3 : 0 < y → (nbs p i)[k + (if x + 1 < p.w then 1 else 0)]? = some (i - p.w, abvW p.rd x)) (hq4 : y + 1 < p.h → (nbs p i)[k + (if x + 1 < p.w then 1 else 0) + (if 0 < y then 1 else 0)]? = some (i + p.w, abvW p.rd x)) (hP : Pre k H) :
    AW Try.prog G N none nbC2 (RetPost [] (nbQ Pre Stop (nbs p i).length)) ⟨nbT r jc jp x y, H, []⟩ := by
  obtain ⟨hN, hc, hpl⟩ := hB.row k H hP
  have hw := hp.w
  have hh := hp.h
  have hil : i < 256 := by have := cell_in hx hy; have := Nat.mul_le_mul hw.2 hh.2; omega
  have w0 : IntKind.i64.wrap ((p.w : Int) - 1) = ((p.w - 1 : Nat) : Int) := by rw [w64 (by omega)]; omega
  refine run_aw 42 ?_
  by_cases h1 : x + 1 < p.w
  · have h2 : (x : Int) < ((p.w - 1 : Nat) : Int) := by omega
    have w2 : IntKind.i64.wrap ((i : Int) + 1) = ((i + 1 : Nat) : Int) := by rw [w64 (by omega)]; omega
    simp only [if_pos h1] at hk hq3 hq4
    have hr := hB.round k _ H (hq h1) hP
    simp only [go_sem, nbC2, nbT, h2, cells_at hc, cells_at hpl, Pl.v, Pl.a, Pl.c4, w0, w2]
    refine dP (beside_ok p x (by omega)) ?_
    simp only [go_sem]
    refine yieldR _ rfl rfl (by simp [go_sem]) (by simp [go_sem]) hN ?_
    refine hr.mono ?_
    rintro v H' (⟨rfl, q3⟩ | ⟨rfl, q3⟩)
    · refine ⟨fun q hq => by simp at hq, ?_⟩
      simp only [go_sem]
      exact run0_code (ρ' := nbT r jc jp x y) (by simp [go_sem, nbT]) (nb_c3 hp hx hy hi hB hk hq3 hq4 q3)
    · refine ⟨fun q hq => by simp at hq, ?_⟩
      simp only [go_sem]
      refine run0_out ?_
      simp only [go_sem, Sx.Fin]
      exact ⟨rfl, .inr q3⟩
  · have h2 : ¬ (x : Int) < ((p.w - 1 : Nat) : Int) := by omega
    simp only [if_neg h1, Nat.add_zero] at hk hq3 hq4
    simp only [go_sem, nbC2, nbT, h2, cells_at hc, cells_at hpl, Pl.v, Pl.a, Pl.c4, w0]
    exact run0_code (ρ' := nbT r jc jp x y) (by simp [go_sem, nbT]) (nb_c3 hp hx hy hi hB hk hq3 hq4 hP)

set_option maxHeartbeats 4000000 in
set_option maxRecDepth 10000 in
theorem nb_c1 {k : Nat} {H : Heap} (hk : k + (if 0 < x then 1 else 0) + (if x + 1 < p.w then 1 else 0) + (if 0 < y then 1 else 0) + (if y + 1 < p.h then 1 else 0) = (nbs p i).length) (hq : 0 < x → (nbs p i)[k]? = some (i - 1, besW p.rd (x - 1))) (hq2 : x + 1 < p.w → (nbs p i)[k + (if 0 < x then 1 else 0)]? = some (i + 1, besW p.rd x)) (hq3 : 0 < y → (nbs p i)[k + (if 0 < x then 1 else 0) + (if x + 1 < p.w then 1 else 0)]? = some (i - p.w, abvW p.rd x)) (hq4 : y + 1 < p.h → (nbs p i)[k + (if 0 < x then 1 else 0) + (if x + 1 < p.w then 1 else 0) + (if 0 < y then 1 else 0)]? = some (i + p.w, abvW p.rd x)) (hP : Pre k H) :
    AW Try.prog G N none nbC1 (RetPost [] (nbQ Pre Stop (nbs p i).length)) ⟨nbT r jc jp x y, H, []⟩ := by
  obtain ⟨hN, hc, hpl⟩ := hB.row k H hP
  have hw := hp.w
  have hh := hp.h
  have hil : i < 256 := by have := cell_in hx hy; have := Nat.mul_le_mul hw.2 hh.2; omega
  refine run_aw 41 ?_
  by_cases h1 : 0 < x
  · have h2 : 0 < (x : Int) := by omega
    have w2 : IntKind.i64.wrap ((i : Int) - 1) = ((i - 1 : Nat) : Int) := by rw [w64 (by omega)]; omega
    have w3 : IntKind.i64.wrap ((x : Int) - 1) = ((x - 1 : Nat) : Int) := by rw [w64 (by omega)]; omega
    simp only [if_pos h1] at hk hq2 hq3 hq4
    have hr := hB.round k _ H (hq h1) hP
    simp only [go_sem, nbC1, nbT, h2, cells_at hc, cells_at hpl, Pl.v, Pl.a, Pl.c4, w2, w3]
    refine dP (beside_ok p (x - 1) (by omega)) ?_
    simp only [go_sem]
    refine yieldR _ rfl rfl (by simp [go_sem]) (by simp [go_sem]) hN ?_
    refine hr.mono ?_
    rintro v H' (⟨rfl, q3⟩ | ⟨rfl, q3⟩)
    · refine ⟨fun q hq => by simp at hq, ?_⟩
      simp only [go_sem]
      exact run0_code (ρ' := nbT r jc jp x y) (by simp [go_sem, nbT]) (nb_c2 hp hx hy hi hB hk hq2 hq3 hq4 q3)
    · refine ⟨fun q hq => by simp at hq, ?_⟩
      simp only [go_sem]
      refine run0_out ?_
      simp only [go_sem, Sx.Fin]
      exact ⟨rfl, .inr q3⟩
  · have h2 : ¬ 0 < (x : Int) := by omega
    simp only [if_neg h1, Nat.add_zero] at hk hq2 hq3 hq4
    simp only [go_sem, nbC1, nbT, h2, cells_at hc, cells_at hpl, Pl.v, Pl.a, Pl.c4]
    exact run0_code (ρ' := nbT r jc jp x y) (by simp [go_sem, nbT]) (nb_c2 hp hx hy hi hB hk hq2 hq3 hq4 hP)

end

theorem nbs_parts (p : Pl) {x y : Nat} (hx : x < p.w) :
    (0 + (if 0 < x then 1 else 0) + (if x + 1 < p.w then 1 else 0) + (if 0 < y then 1 else 0) + (if y + 1 < p.h then 1 else 0) = (nbs p (y * p.w + x)).length) ∧ (0 < x → (nbs p (y * p.w + x))[0]? = some (y * p.w + x - 1, besW p.rd (x - 1))) ∧
    (x + 1 < p.w → (nbs p (y * p.w + x))[0 + (if 0 < x then 1 else 0)]? = some (y * p.w + x + 1, besW p.rd x)) ∧ (0 < y → (nbs p (y * p.w + x))[0 + (if 0 < x then 1 else 0) + (if x + 1 < p.w then 1 else 0)]? = some (y * p.w + x - p.w, abvW p.rd x)) ∧
    (y + 1 < p.h → (nbs p (y * p.w + x))[0 + (if 0 < x then 1 else 0) + (if x + 1 < p.w then 1 else 0) + (if 0 < y then 1 else 0)]? = some (y * p.w + x + p.w, abvW p.rd x)) := by
  obtain ⟨e1, e2⟩ := cell_at (y := y) hx
  unfold nbs
  rw [e1, e2]
  refine ⟨?_, ?_, ?_, ?_, ?_⟩
  · split <;> split <;> split <;> split <;> simp
  · intro h; simp [h]
  · intro h; by_cases h0 : 0 < x <;> simp [h, h0]
  · intro h; by_cases h0 : 0 < x <;> by_cases h1 : x + 1 < p.w <;> simp [h, h0, h1]
  · intro h; by_cases h0 : 0 < x <;> by_cases h1 : x + 1 < p.w <;> by_cases h2 : 0 < y <;> simp [h, h0, h1, h2]

set_option maxHeartbeats 4000000 in
set_option maxRecDepth 10000 in
theorem nbs1_iter {G : Ctx} {p : Pl} (hp : PlOK p) {i : Nat} (hi : i < p.w * p.h) {r jc jp N : Nat} {Pre : Nat → Heap → Prop} {Stop : Heap → Prop} (hB : NbBody G p i r jc jp N Pre Stop) {H0 : Heap} (h0 : Pre 0 H0) (hN : H0.length = N) :
    CallW Try.prog G n_field_neighbours_1 [.yfn r, .ptr jc 0 0 1, .ptr jp 0 0 1] H0 fun v H' => v = .tup [] ∧ (Pre (nbs p i).length H' ∨ Stop H') := by
  obtain ⟨hx, hy, hxy⟩ := cell_lt hi
  obtain ⟨hN0, hc0, hp0⟩ := hB.row 0 H0 h0
  have hw := hp.w
  have hh := hp.h
  have hil : i < 256 := by have := Nat.mul_le_mul hw.2 hh.2; omega
  have e1 := nat_rem i p.w
  have e2 := nat_quo i p.w
  have hwz : ((p.w : Int) = 0) = False := eq_false (by omega)
  have hL := nbs_parts p (y := i / p.w) hx
  rw [hxy] at hL
  generalize i % p.w = x at *
  generalize i / p.w = y at *
  have e3 : IntKind.i64.wrap (y : Int) = y := w64 (by omega)
  obtain ⟨l0, l1, l2, l3, l4⟩ := hL
  refine callW_run 19 e_field_neighbours_1 ?_
  rw [show k_field_neighbours_1.body = .seq (.reg k_field_neighbours_1_r0 true) nbC1 from rfl]
  simp only [go_sem, cells_at hc0, cells_at hp0, Pl.v, Pl.a, Pl.c4, e1, e2, e3, hwz, hN]
  exact run0_code (ρ' := nbT r jc jp x y) (by simp [go_sem, nbT]) (nb_c1 hp hx hy hxy hB l0 l1 l2 l3 l4 h0)
end Go.Proofs

namespace Go.Proofs
open Go Go.Sx
attribute [local irreducible] Run

section
variable {P : Program} {G : Ctx} {k : Nat} {rd : Option Nat} {R : Runner} {l : List AOper} {fs : List Sx.Frame} {ρ : List AVal} {H : Heap} {ms : List Nat} {Q : Sx.Goal} {dst : Option Nat} {x y : Row} {g : FuncId} {args : List AVal} {r : AVal}
theorem cN2 (h : Ans P g args [] r [some x, some y]) (hK : R (.ops l) fs ⟨setD ρ dst (ren (fun i => H.length + i) r), H ++ [some x, some y], ms⟩ Q)
    (hb : Bels (fun _ => False) args := by simp only [go_sem]) (hr : Bel (· < 2) r := by simp [go_sem]) (hx : x.bel (fun _ => False) := by first | (simp only [go_sem]; done) | (rw [row_bel_cells]; simp only [go_sem])) (hy : y.bel (fun _ => False) := by first | (simp only [go_sem]; done) | (rw [row_bel_cells]; simp only [go_sem])) (hk : k ≤ H.length := by simp) (hms : ∀ q ∈ ms, H[q]? = some (some .dfr) := by simp) : CallR P G k R g args dst l fs ρ H ms Q := by
  have e : outΔ (outσ [] H.length) 0 [some x, some y] = [(H.length, x), (H.length + 1, y)] := by
    simp only [outΔ, Row.ren_same hx, Row.ren_same hy]
    rfl
  have eσ : outσ [] H.length = fun i => H.length + i := by funext i; simp [outσ]
  refine callS h [] (by simp) trivial (by
    conv => lhs; rw [← List.map_id args]
    exact List.map_congr_left fun v hv => (ren_same (bels_mem hb v hv)).symm) (bels_of fun v hv => (bels_mem hb v hv).mono fun _ h => h.elim) trivial (by simp) (by simpa using hr)
    ⟨bel_mono_row hx fun _ h => h.elim, bel_mono_row hy fun _ h => h.elim, trivial⟩ (fun q hq => by simp at hq) hk (fun q hq => ?_) ?_
  · refine ⟨?_, hms q hq⟩
    rw [e]
    have := (List.getElem?_eq_some_iff.1 (hms q hq)).1
    simp; omega
  · rw [e, eσ]
    have e3 : Heap.put (H ++ [some x]) (H.length + 1) y = H ++ [some x, some y] := by
      have := Heap.put_end (H ++ [some x]) y
      simpa using this
    simp only [Heap.puts, Heap.put_end, e3]
    exact hK
end

structure AtOK (p : Pl) (a : List Int) : Prop where
  len : a.length = p.w * p.h
  bd : ∀ i, i < p.w * p.h → -1000000 ≤ gt a i ∧ gt a i ≤ 1000000

theorem wsum_take {l : List (Nat × Int)} {k : Nat} {q : Nat × Int} (h : l[k]? = some q) (f : Nat → Int) : wsum (l.take (k + 1)) f = wsum (l.take k) f + q.2 * f q.1 := by
  rw [List.take_add_one, h, wsum_append]
  simp [wsum]
theorem wtot_bd {l : List (Nat × Int)} (h : ∀ q ∈ l, 1 ≤ q.2 ∧ q.2 ≤ 32) : (l.length : Int) ≤ wtot l ∧ wtot l ≤ 32 * l.length := by
  induction l with
  | nil => simp [wtot, wsum]
  | cons q l ih =>
    have h1 := h q (by simp)
    have h2 := ih fun q hq => h q (by simp [hq])
    have e : wtot (q :: l) = q.2 + wtot l := by simp only [wtot, wsum, Int.mul_one]
    rw [e, List.length_cons]; omega
theorem wsum_bd {p : Pl} (hp : PlOK p) {a : List Int} (ha : AtOK p a) {i : Nat} (hi : i < p.w * p.h) (k : Nat) : 0 ≤ wtot ((nbs p i).take k) ∧ wtot ((nbs p i).take k) ≤ 128 ∧ -128000000 ≤ wsum ((nbs p i).take k) (gt a) ∧ wsum ((nbs p i).take k) (gt a) ≤ 128000000 := by
  have hN := nbs_in p hp.w.2 hi
  have hl := nbs_len p i
  have h1 := wtot_bd (l := (nbs p i).take k) fun q hq => ⟨(hN q (List.mem_of_mem_take hq)).2.1, (hN q (List.mem_of_mem_take hq)).2.2.1⟩
  have h2 := wsum_in (l := (nbs p i).take k) (f := gt a) (a := -1000000) (b := 1000000) fun q hq => by
    obtain ⟨k1, k2, _⟩ := hN q (List.mem_of_mem_take hq)
    exact ⟨by omega, ha.bd _ k1⟩
  have h3 : ((nbs p i).take k).length ≤ 4 := by rw [List.length_take]; omega
  omega

def arT : List (Nat × AVal) := [(3, .ptr 0 0 0 1), (4, .ptr 1 0 0 1), (6, .ptr 2 0 0 1), (7, .ptr 3 0 0 1), (12, .fn (.func n_field_neighbours_1) [] [.ptr 5 0 0 1, .ptr 4 0 0 1])]
def arL (st : LoopState) (pe : Option ACode) : Row := .loop (tsets 28 arT) [13, 14] k_field_around_r6 k_field_around_r7 6 st pe
def arH (p : Pl) (a : List Int) (s w : Int) (i : Nat) (x : Row) (X : Heap) : Heap :=
  [some (.cells false 4 [p.v]), some (.cells false 1 [vw a]), some (.cells false 1 [.int .i64 s]), some (.cells false 1 [.int .i64 w]), some (.cells false 4 [p.v]), some (.cells false 1 [.int .i64 i]), some .dfr, some x] ++ X

set_option maxHeartbeats 4000000 in
set_option maxRecDepth 4000 in
theorem around_ok {p : Pl} (hp : PlOK p) {a : List Int} (ha : AtOK p a) {i : Nat} (hi : i < p.w * p.h) :
    Ans Try.prog n_field_around [p.v, vw a, .int .i64 i] [] (.tup [.int .i64 (wsum (nbs p i) (gt a)), .int .i64 (wtot (nbs p i))]) [] := by
  have hN := nbs_in p hp.w.2 hi
  refine spec_run e_field_around fun G => ?_
  simp only [go_sem, Pl.v, Pl.a, Pl.c4, vw]
  refine cN2 (neighbours_ok p i) ?_
  simp only [go_sem, ren, rens]
  refine rangeF 2000 (ρ := tsets 28 arT) (by simp [go_sem, arT]) (by simp only [go_sem, arT]; rfl)
    (nbs1_iter hp hi (r := 7) (jc := 5) (jp := 4) (N := 8) (Pre := fun k H => ∃ X, H = arH p a (wsum ((nbs p i).take k) (gt a)) (wtot ((nbs p i).take k)) i (arL .ready none) X) (Stop := fun _ => False)
      ⟨?_, ?_⟩ ⟨[], rfl⟩ rfl) (by simp) ?_
  · rintro k H ⟨X, rfl⟩
    exact ⟨by simp [arH], rfl, rfl⟩
  · rintro k ⟨n, wt⟩ H hq ⟨X, rfl⟩
    obtain ⟨h1, h2, h3, _, _⟩ := hN _ (List.mem_of_getElem? hq)
    dsimp only at h1 h2 h3 ⊢
    have hw1 : wsum ((nbs p i).take (k + 1)) (gt a) = wsum ((nbs p i).take k) (gt a) + wt * gt a n := wsum_take hq _
    have hw2 : wtot ((nbs p i).take (k + 1)) = wtot ((nbs p i).take k) + wt * 1 := wsum_take hq _
    have b1 := wsum_bd hp ha hi k
    have b2 := wsum_bd hp ha hi (k + 1)
    have b3 := ha.bd n h1
    have hget : a[n]? = some (gt a n) := gt_get (by rw [ha.len]; exact h1)
    have m1 : wt * gt a n ≤ 32000000 ∧ -32000000 ≤ wt * gt a n := by
      have h4 := Int.mul_le_mul_of_nonneg_left b3.1 (show 0 ≤ wt by omega)
      have h5 := Int.mul_le_mul_of_nonneg_left b3.2 (show 0 ≤ wt by omega)
      omega
    have u1 : IntKind.i64.wrap (wt * gt a n) = wt * gt a n := w64 (by omega)
    have u2 : IntKind.i64.wrap (wsum ((nbs p i).take k) (gt a) + wt * gt a n) = wsum ((nbs p i).take (k + 1)) (gt a) := by rw [hw1]; exact w64 (by omega)
    have u3 : IntKind.i64.wrap (wtot ((nbs p i).take k) + wt) = wtot ((nbs p i).take (k + 1)) := by rw [hw2, Int.mul_one]; exact w64 (by omega)
    have g1 : (n : Int) < a.length := by rw [ha.len]; omega
    have g2 : ¬ (n : Int) < 0 := by omega
    generalize wsum ((nbs p i).take (k + 1)) (gt a) = s1 at *
    generalize wtot ((nbs p i).take (k + 1)) = t1 at *
    generalize wsum ((nbs p i).take k) (gt a) = s0 at *
    generalize wtot ((nbs p i).take k) = t0 at *
    refine RoundW.mono (R := fun v H' => v = .bool true ∧ ∃ Y, H' = arH p a s1 t1 i (arL .ready none) (X ++ Y)) ?_ ?_
    rotate_left
    · rintro v H' ⟨rfl, Y, rfl⟩
      exact .inl ⟨rfl, _, rfl⟩
    generalize hR : (fun (v : AVal) (H' : Heap) => v = .bool true ∧ ∃ Y, H' = arH p a s1 t1 i (arL .ready none) (X ++ Y)) = R
    have hfin : ∀ Y, R (.bool true) (arH p a s1 t1 i (arL .ready none) (X ++ Y)) := fun Y => by rw [← hR]; exact ⟨rfl, Y, rfl⟩
    clear hR
    refine roundW_run 500 k_field_around_r6.eq_1 rfl rfl (ρ' := tsets 28 (arT ++ [(13, .int .i64 (n : Int)), (14, .int .i64 wt)])) rfl ?_
    simp only [go_sem, arT, arH, vw]
    refine roundMid_run 500 k_field_around_r7.eq_1 rfl rfl ?_
    simp only [go_sem, vw, hget, g1, g2, u1, u2, u3, Int.toNat_natCast, List.length_map]
    refine roundEnd_on rfl ?_
    simp only [go_sem]
    have h0 := hfin []
    rw [List.append_nil] at h0
    exact h0
  · rintro v H' ⟨rfl, ⟨X, rfl⟩ | h⟩
    · refine ⟨fun q hq => by simp at hq; subst hq; rfl, _, _, _, _, _, _, _, rfl, by decide, ?_⟩
      rw [List.take_length]
      simp only [go_sem, arH, arT, tsets]
      simp
    · exact h.elim
end Go.Proofs

namespace Go.Proofs
open Go Go.Sx
attribute [local irreducible] Run

def mxL (a : Int) : List Int → Int
  | [] => a
  | c :: cs => mxL (if c > a then c else a) cs
theorem mxL_ge : ∀ (l : List Int) (a : Int), a ≤ mxL a l ∧ ∀ c ∈ l, c ≤ mxL a l
  | [], a => ⟨Int.le_refl _, fun c hc => by simp at hc⟩
  | c :: l, a => by
    obtain ⟨h1, h2⟩ := mxL_ge l (if c > a then c else a)
    rw [mxL]
    have h3 : a ≤ (if c > a then c else a) ∧ c ≤ (if c > a then c else a) := by split <;> omega
    refine ⟨by omega, fun d hd => ?_⟩
    rcases List.mem_cons.1 hd with rfl | hd
    · omega
    · exact h2 d hd
theorem mxL_le : ∀ (l : List Int) (a b : Int), a ≤ b → (∀ c ∈ l, c ≤ b) → mxL a l ≤ b
  | [], a, b, h, _ => h
  | c :: l, a, b, h, h' => by
    rw [mxL]
    exact mxL_le l _ b (by have := h' c (by simp); split <;> omega) fun d hd => h' d (by simp [hd])
def gmax (l : List Int) : Int := mxL 0 l
theorem gmax_cons {c : Int} {l : List Int} (h : 0 ≤ c) : gmax (c :: l) = mxL c l := by
  unfold gmax
  rw [mxL]
  congr 1
  split <;> omega

theorem drop_step {l : List Int} {i : Nat} (h : i < l.length) : l.drop i = gt l i :: l.drop (i + 1) := by
  rw [List.drop_eq_getElem_cons h]
  congr 1
  unfold gt
  rw [List.getD_eq_getElem?_getD, List.getElem?_eq_getElem h]; rfl
theorem drop_end {l : List Int} {i : Nat} (h : l.length ≤ i) : l.drop i = [] := List.drop_of_length_le h

theorem max_ok {l : List Int} (hl : l ≠ []) (h0 : ∀ c ∈ l, 0 ≤ c) (hlen : l.length ≤ 1000000) : Ans Try.prog n_slices_Max_int_int [vw l] [] (.int .i64 (gmax l)) [] := by
  obtain ⟨c, cs, rfl⟩ := List.exists_cons_of_ne_nil hl
  generalize hRES : gmax (c :: cs) = RES
  rw [gmax_cons (h0 c (by simp))] at hRES
  refine spec_run e_slices_Max_int_int fun G => ?_
  have g1 : ¬ (((cs.length + 1 : Nat) : Int) < 1) := by omega
  have g2 : (0 : Int) < ((cs.length + 1 : Nat) : Int) := by omega
  simp only [go_sem, vw, List.length_map, List.length_cons, List.map_cons, g1, g2]
  refine loop_ind k_slices_Max_int_int_r8.eq_1 (fun a : Nat × Int × Heap => 1 ≤ a.1 ∧ a.1 ≤ cs.length + 1 ∧ mxL a.2.1 ((c :: cs).drop a.1) = RES) (fun a => cs.length + 1 - a.1)
    (fun a => (tsets 25 [(0, vw (c :: cs)), (3, .int .i64 a.2.1), (4, .int .i64 a.1)], a.2.2)) (1, c, []) ⟨Nat.le_refl _, by omega, hRES⟩ (by simp [go_sem, vw]) rfl ?_
  rintro ⟨i, m, X⟩ ⟨hi0, hi, hm⟩ ih
  dsimp only at hi0 hi hm ih ⊢
  by_cases h1 : i < cs.length + 1
  · have h2 : (i : Int) < ((cs.length + 1 : Nat) : Int) := by omega
    have h3 := idx_next h1 (by simp at hlen; omega)
    have n0 : ¬ (i : Int) < 0 := by omega
    have hlt : i < (c :: cs).length := by simpa using h1
    have hx := gt_get hlt
    rw [drop_step hlt, mxL] at hm
    generalize gt (c :: cs) i = z at *
    have hx2 : (List.map (AVal.int IntKind.i64) (c :: cs))[i]? = some (.int .i64 z) := by rw [List.getElem?_map, hx]; rfl
    simp only [List.map_cons] at hx2
    simp only [go_sem, vw, List.length_map, List.length_cons, List.map_cons, h2, n0, hx2, h3]
    exact ih (i + 1, _, _) (by dsimp only; omega) ⟨by omega, h1, hm⟩ _ (by simp [go_sem, vw]; rfl)
  · have h2 : ¬ (i : Int) < ((cs.length + 1 : Nat) : Int) := by omega
    rw [drop_end (by simp; omega)] at hm
    simp only [go_sem, vw, List.length_map, List.length_cons, List.map_cons, h2]
    rw [← hm]; rfl

theorem checkSweeps_ok {n : Int} (h : 0 ≤ n ∧ n ≤ 200) : Ans Try.prog n_field_checkSweeps [.int .i64 n] [] (.int .i64 0) [] := by
  refine spec_run e_field_checkSweeps fun G => ?_
  simp only [go_sem]
  refine cP (within_yes h) ?_
  simp only [go_sem]

theorem ends_ok {p : Pl} (hp : PlOK p) {v : List Int} (hv : VOK v) (hvl : VLen p v) : Ans Try.prog n_field_ends [p.v, vw v] [] (.tup [.int .i64 (endL p v), .int .i64 (endM p v)]) [] := by
  have hlen := hp.len
  have hw := hp.w; have hh := hp.h
  have hN : p.w * p.h ≤ 256 := Nat.mul_le_mul hw.2 hh.2
  generalize hRL : endL p v = RL
  generalize hRM : endM p v = RM
  refine spec_run e_field_ends fun G => ?_
  simp only [go_sem, Pl.v, Pl.a, Pl.c4, vw, List.length_map]
  refine loop_ind k_field_ends_r9.eq_1 (fun a : Nat × Int × Int × Heap => a.1 ≤ p.cs.length ∧ endLs v a.2.1 (p.cs.drop a.1) = RL ∧ endMs v a.2.2.1 (p.cs.drop a.1) = RM) (fun a => p.cs.length - a.1)
    (fun a => (tsets 34 [(1, vw v), (4, .int .i64 a.2.1), (5, .int .i64 a.2.2.1), (9, vw p.cs), (10, .int .i64 p.cs.length), (11, .int .i64 a.1)], a.2.2.2)) (0, 1000000, -1000000, _) ⟨Nat.zero_le _, hRL, hRM⟩ (by simp [go_sem, vw]) rfl ?_
  rintro ⟨i, lo, hi, X⟩ ⟨hil, hL, hM⟩ ih
  dsimp only at hil hL hM ih ⊢
  by_cases h1 : i < p.cs.length
  · have h2 : (i : Int) < p.cs.length := by omega
    have h3 := idx_next h1 (by omega)
    have n0 : ¬ (i : Int) < 0 := by omega
    have hx := gt_get h1
    have hcm := hvl _ (gt_mem h1)
    have hcr := hp.cell _ (gt_mem h1)
    rw [drop_step h1] at hL hM
    rw [endLs] at hL
    rw [endMs] at hM
    generalize gt p.cs i = z at *
    by_cases hz : z = 0
    · have hz' : (z != 0) = false := by simp [hz]
      rw [if_pos hz] at hL hM
      simp only [go_sem, vw, List.length_map, h2, n0, hx, hz', h3]
      exact ih (i + 1, lo, hi, _) (by dsimp only; omega) ⟨h1, hL, hM⟩ _ (by simp [go_sem, vw])
    · have hz' : (z != 0) = true := by simp [hz]
      rw [if_neg hz] at hL hM
      have w1 : IntKind.i64.wrap (z - 1) = z - 1 := w64 (by omega)
      have k1 : ¬ z - 1 < 0 := by omega
      have k2 : z - 1 < v.length := by omega
      have hxv : v[(z - 1).toNat]? = some (vo v z) := gt_get (by omega)
      simp only [go_sem, vw, List.length_map, h2, n0, hx, hz', h3, w1, k1, k2, hxv]
      exact ih (i + 1, _, _, _) (by dsimp only; omega) ⟨h1, hL, hM⟩ _ (by simp [go_sem, vw]; exact ⟨rfl, rfl⟩)
  · have h2 : ¬ (i : Int) < p.cs.length := by omega
    rw [drop_end (by omega)] at hL hM
    simp only [go_sem, vw, List.length_map, h2]
    rw [← hL, ← hM]; rfl
end Go.Proofs

namespace Go.Proofs
open Go Go.Sx
attribute [local irreducible] Run

def iv (l : List Int) : List AVal := l.map (.int .i64)
theorem iv_len (l : List Int) : (iv l).length = l.length := by simp [iv]
theorem iv_set (l : List Int) (i : Nat) (x : Int) : (iv l).set i (.int .i64 x) = iv (l.set i x) := by simp [iv, List.map_set]
theorem iv_get {l : List Int} {i : Nat} (h : i < l.length) : (iv l)[i]? = some (.int .i64 (gt l i)) := by simp [iv, gt_get h]
theorem iv_bel (l : List Int) (S : Nat → Prop) : Bels S (iv l) := by unfold iv; simp only [go_sem]
theorem iv_row (g : Bool) (l : List Int) (S : Nat → Prop) : (Row.cells g 1 (iv l)).bel S := by rw [row_bel_cells]; exact iv_bel l S
theorem iv_nv (g : Bool) (l : List Int) : (Row.cells g 1 (iv l)).nv := row_nv_cells _ _ (nvs_map _ _ fun x => .int _ _)
theorem iv_frz (d : Nat) (H : Heap) (l : List Int) : (iv l).map (frz (d + 1) H) = iv l := by
  unfold iv; rw [List.map_map]
  rfl
theorem iv_frz_sl {H : Heap} {j d n : Nat} {g : Bool} {l : List Int} (h : H[j]? = some (some (.cells g 1 (iv l)))) (hn : n = l.length) : frz (d + 2) H (.sl j 0 n) = vw l := by
  rw [frz_sl h (by rw [iv_len]; exact hn), iv_frz]; rfl
theorem vw_frz (d : Nat) (H : Heap) (l : List Int) : frz (d + 2) H (vw l) = vw l := by
  show AVal.view ((iv l).map (frz (d + 1) H)) = _
  rw [iv_frz]; rfl
theorem plv_frz (d : Nat) (H : Heap) (p : Pl) : frz (d + 3) H p.v = p.v := by
  show AVal.agg [_, _, _, frz (d + 2) H (vw p.cs)] = _
  rw [vw_frz]; rfl
theorem pla_frz (d : Nat) {H : Heap} {j n : Nat} {g : Bool} {p : Pl} (h : H[j]? = some (some (.cells g 1 (iv p.cs)))) (hn : n = p.cs.length) : frz (d + 3) H (p.a (.sl j 0 n)) = p.v := by
  show AVal.agg [_, _, _, frz (d + 2) H (.sl j 0 n)] = _
  rw [iv_frz_sl h hn]; rfl

section
variable {P : Program} {G : Ctx} {g : FuncId} {args largs : List AVal} {H : Heap} {k : Nat} {rd : Option Nat} {R : Runner} {l : List AOper} {fs : List Sx.Frame} {ρ : List AVal} {ms : List Nat} {Q : Sx.Goal} {ao : AOper} {lo hi : Nat} {tr : List (List Nat × List Nat)} {ss : List (List AOper)} {dst : Option Nat}
theorem dS1 {x x' : Row} {r : AVal} {j : Nat} (h : Ans P g largs [some x] r [some x']) (hj : H[j]? = some (some x)) (hargs : args = largs.map (ren (nth [j]))) (hb : Bels (· < 1) largs) (hx : x.bel (fun _ => False)) (hx' : x'.bel (fun _ => False)) (hr : Bel (fun _ => False) r)
    (hms : ∀ q ∈ ms, q ≠ j) (hd : dynOK ao.free [j] [j] tr lo = true) (hK : R (.grp lo l (tr ++ [([j], [j])]) hi ss) fs ⟨setD ρ ao.dst r, H.set j (some x'), ms⟩ Q) : DCallR P R g args ao lo l tr hi ss fs ρ H ms Q := by
  have hlt := (List.getElem?_eq_some_iff.1 hj).1
  have e : outΔ (outσ [j] H.length) 0 [some x'] = [(j, x')] := by
    simp only [outΔ, Row.ren_same hx']
    rfl
  refine dS h [j] (by simp) ⟨by rw [Row.ren_same hx]; exact hj, trivial⟩ hargs hb ⟨bel_mono_row hx fun _ h => h.elim, trivial⟩ rfl hr ⟨bel_mono_row hx' fun _ h => h.elim, trivial⟩ (by simpa using hlt) (fun q hq => ?_) ?_ ?_
  · rw [e]; simpa using hms q hq
  · rw [e]; exact hd
  · rw [e]
    simp only [Heap.puts, put_lt hlt]
    exact hK
theorem cS1 {x x' : Row} {r : AVal} {j : Nat} (h : Ans P g largs [some x] r [some x']) (hj : H[j]? = some (some x)) (hargs : args = largs.map (ren (nth [j]))) (hb : Bels (· < 1) largs) (hx : x.bel (fun _ => False)) (hx' : x'.bel (fun _ => False)) (hr : Bel (fun _ => False) r)
    (hk : k ≤ H.length) (hms : ∀ q ∈ ms, q ≠ j ∧ H[q]? = some (some .dfr)) (hK : R (.ops l) fs ⟨setD ρ dst r, H.set j (some x'), ms⟩ Q) : CallR P G k R g args dst l fs ρ H ms Q := by
  have hlt := (List.getElem?_eq_some_iff.1 hj).1
  have e : outΔ (outσ [j] H.length) 0 [some x'] = [(j, x')] := by
    simp only [outΔ, Row.ren_same hx']
    rfl
  refine callS h [j] (by simp) ⟨by rw [Row.ren_same hx]; exact hj, trivial⟩ hargs hb ⟨bel_mono_row hx fun _ h => h.elim, trivial⟩ (Nat.le_refl _) (hr.mono fun _ h => h.elim) ⟨bel_mono_row hx' fun _ h => h.elim, trivial⟩ (by simpa using hlt) hk (fun q hq => ?_) ?_
  · rw [e]; exact ⟨by simpa using (hms q hq).1, (hms q hq).2⟩
  · rw [e, ren_same hr]
    simp only [Heap.puts, put_lt hlt]
    exact hK
end

def fillTo (l : List Int) (i : Nat) : List Int := l.take i ++ List.replicate (l.length - i) 0
theorem fill_len (l : List Int) {i : Nat} (h : i ≤ l.length) : (fillTo l i).length = l.length := by simp [fillTo]; omega
theorem fill_set (l : List Int) {i : Nat} (h : i < l.length) : (fillTo l i).set i (gt l i) = fillTo l (i + 1) := by
  unfold fillTo
  rw [List.set_append_right _ _ (by simp; omega)]
  have e1 : i - (l.take i).length = 0 := by simp; omega
  have e2 : l.length - i = l.length - (i + 1) + 1 := by omega
  rw [e1, e2, List.replicate_succ, List.set_cons_zero, List.take_add_one, gt_get h]
  simp
theorem fill_end (l : List Int) : fillTo l l.length = l := by simp [fillTo]

theorem newBound_ok {p : Pl} (hp : PlOK p) {v : List Int} (hvl : VLen p v) (f : Int) (n : Nat) :
    Ans Try.prog n_field_newBound [p.v, vw v, .int .i64 f, .fn (.func n) [] []] [] (.agg [.sl 0 0 p.cs.length, .fn (.func n) [] []]) [some (.cells false 1 (iv (at0 p v f)))] := by
  have hw := hp.w; have hh := hp.h
  have hN : p.cs.length ≤ 256 := by rw [hp.len]; exact Nat.mul_le_mul hw.2 hh.2
  have hal : (at0 p v f).length = p.cs.length := by simp [at0]
  refine Ans.keep (run_fn e_field_newBound fun G => ?_) (by simp) (by simp [go_sem]) ⟨iv_row _ _ _, trivial⟩
  have g1 : (p.cs.length : Int) ≤ 2 ^ 44 := by omega
  have g2 : (p.cs.length : Int) * 8 ≤ 2 ^ 44 := by omega
  have g3 : (0 : Int) ≤ p.cs.length := by omega
  simp only [go_sem, Pl.v, Pl.a, Pl.c4, vw, List.length_map, g1, g2, g3]
  refine ⟨Int.le_refl _, ?_⟩
  have hz : List.replicate p.cs.length (AVal.int IntKind.i64 0) = iv (fillTo (at0 p v f) 0) := by simp [fillTo, iv, hal]
  refine loop_ind k_field_newBound_r9.eq_1 (fun a : Nat => a ≤ p.cs.length) (fun a => p.cs.length - a)
    (fun a => (tsets 42 [(1, vw v), (2, .int .i64 f), (3, .fn (.func n) [] []), (4, .ptr 0 0 0 1), (8, .ptr 1 0 0 1), (9, .sl 2 0 p.cs.length), (17, vw p.cs), (18, .int .i64 p.cs.length), (19, .int .i64 a)],
      [some (.cells false 4 [p.v]), some (.cells false 2 [.agg [.nilsl, .nilfn]]), some (.cells false 1 (iv (fillTo (at0 p v f) a)))])) 0 (Nat.zero_le _) (by simp [go_sem, vw]) (by rw [← hz]; simp [Pl.v, Pl.a, Pl.c4, vw]) ?_
  intro i hi ih
  dsimp only at hi ih ⊢
  by_cases h1 : i < p.cs.length
  · have h2 : (i : Int) < p.cs.length := by omega
    have h3 := idx_next h1 (by omega)
    have n0 : ¬ (i : Int) < 0 := by omega
    have hx := gt_get h1
    have hfl := fill_len (at0 p v f) (i := i) (by omega)
    have hil : i < (fillTo (at0 p v f) i).length := by omega
    have hcm := hvl _ (gt_mem h1)
    have hcr := hp.cell _ (gt_mem h1)
    have hset := fill_set (at0 p v f) (i := i) (by omega)
    rw [gt_at0 v f h1] at hset
    generalize gt p.cs i = z at *
    have hgi := iv_get hil
    have hgi2 : ∀ x, (iv ((fillTo (at0 p v f) i).set i x))[i]? = some (.int .i64 x) := fun x => by
      rw [iv_get (by simpa using hil), gt_set _ _ _ _ hil, if_pos rfl]
    by_cases hz : z = 0
    · have hz' : (z != 0) = false := by simp [hz]
      rw [if_pos hz] at hset
      simp only [go_sem, vw, List.length_map, h2, n0, hx, hz', h3, hgi, iv_set, iv_len, hset]
      exact ih (i + 1) (by omega) h1 _ (by simp [go_sem, vw])
    · have hz' : (z != 0) = true := by simp [hz]
      rw [if_neg hz] at hset
      have w1 : IntKind.i64.wrap (z - 1) = z - 1 := w64 (by omega)
      have k1 : ¬ z - 1 < 0 := by omega
      have k2 : z - 1 < v.length := by omega
      have hxv : v[(z - 1).toNat]? = some (vo v z) := gt_get (by omega)
      simp only [go_sem, vw, List.length_map, h2, n0, hx, hz', h3, hgi, hgi2, iv_set, iv_len, hset, w1, k1, k2, hxv, List.set_set]
      exact ih (i + 1) (by omega) h1 _ (by simp [go_sem, vw])
  · have h2 : ¬ (i : Int) < p.cs.length := by omega
    have hie : i = (at0 p v f).length := by omega
    rw [hie, fill_end]
    rw [hal]
    simp only [go_sem, vw, List.length_map, h2]
    exact kept_one 2 rfl (iv_row _ _ _) rfl
end Go.Proofs

namespace Go.Proofs
open Go Go.Sx
attribute [local irreducible] Run

def RndOK (n : Nat) (rnd : Int → Int → Int) : Prop := ∀ a b : Int, 0 < b ∧ b ≤ 1000 → -1000000000 ≤ a ∧ a ≤ 1000000000 → Ans Try.prog n [.int .i64 a, .int .i64 b] [] (.int .i64 (rnd a b)) []
theorem rnd_down : RndOK n_field_roundDown rdn := fun a b hb ha => roundDown_ok a b (by omega) (by omega)
theorem rnd_up : RndOK n_field_roundUp rup := fun a b hb ha => roundUp_ok a b (by omega) (by omega)

theorem swp_flag (p : Pl) (rnd) (a : List Int) {k : Nat} (hk : k < a.length) (h : gt p.cs k = 0) :
    decide (swpTo p rnd a (k + 1) ≠ a) = (decide (swpTo p rnd a k ≠ a) || (rnd (wsum (nbs p k) (gt (swpTo p rnd a k))) (wtot (nbs p k)) != gt (swpTo p rnd a k) k)) := by
  have := swpTo_moved p rnd a hk
  by_cases h1 : swpTo p rnd a k ≠ a
  · rw [decide_eq_true (this.2 (.inl h1)), decide_eq_true h1]; rfl
  · by_cases h2 : rnd (wsum (nbs p k) (gt (swpTo p rnd a k))) (wtot (nbs p k)) = gt (swpTo p rnd a k) k
    · rw [decide_eq_false (fun h3 => by rcases this.1 h3 with h4 | h4; exact h1 h4; exact h4.2 h2), decide_eq_false h1, h2]; simp
    · rw [decide_eq_true (this.2 (.inr ⟨h, h2⟩)), decide_eq_false h1]; simp [h2]

set_option maxHeartbeats 4000000 in
theorem sweep_ok {n : Nat} {rnd : Int → Int → Int} (hr : RndOK n rnd) {p : Pl} (hp : PlOK p) {a : List Int} (ha : ∀ k, k ≤ p.w * p.h → AtOK p (swpTo p rnd a k)) :
    Ans Try.prog n_field_bound_sweep [.agg [.sl 0 0 p.cs.length, .fn (.func n) [] []], p.v] [some (.cells false 1 (iv a))] (.bool (decide (swp p rnd a ≠ a))) [some (.cells false 1 (iv (swp p rnd a)))] := by
  have hw := hp.w; have hh := hp.h
  have hN : p.w * p.h ≤ 256 := Nat.mul_le_mul hw.2 hh.2
  have hal : a.length = p.w * p.h := (ha 0 (Nat.zero_le _)).len
  refine spec_run e_field_bound_sweep fun G => ?_
  simp only [go_sem, Pl.v, Pl.a, Pl.c4, vw, List.length_map]
  refine loop_ind k_field_bound_sweep_r11.eq_1 (fun i : Nat => i ≤ p.cs.length) (fun i => p.cs.length - i)
    (fun i => (tsets 51 [(2, .ptr 1 0 0 1), (3, .ptr 2 0 0 1), (5, .bool (decide (swpTo p rnd a i ≠ a))), (12, vw p.cs), (13, .int .i64 p.cs.length), (14, .int .i64 i)],
      [some (.cells false 1 (iv (swpTo p rnd a i))), some (.cells false 2 [.agg [.sl 0 0 p.cs.length, .fn (.func n) [] []]]), some (.cells false 4 [p.v])])) 0 (Nat.zero_le _) (by simp [go_sem, vw, swpTo]) (by simp [Pl.v, Pl.a, Pl.c4, vw, swpTo]) ?_
  intro i hi ih
  dsimp only at hi ih ⊢
  by_cases h1 : i < p.cs.length
  · have h2 : (i : Int) < p.cs.length := by omega
    have h3 := idx_next h1 (by rw [hp.len]; omega)
    have n0 : ¬ (i : Int) < 0 := by omega
    have hiN : i < p.w * p.h := by rw [← hp.len]; exact h1
    have hx := gt_get h1
    have hak := ha i (by omega)
    have hsl := swpTo_len p rnd a i
    have hfl := swp_flag p rnd a (k := i) (by omega)
    have hst : swpTo p rnd a (i + 1) = stp p rnd (swpTo p rnd a i) i := rfl
    have ihn := ih (i + 1) (by omega) h1
    clear ih
    unfold stp at hst
    by_cases hz : gt p.cs i = 0
    · have hz' : (gt p.cs i != 0) = false := by simp [hz]
      have hfl1 := hfl hz
      clear hfl
      rw [if_pos hz] at hst
      have har := around_ok hp hak hiN
      obtain ⟨_, w2, w3⟩ := wtot_in p hw.2 hiN
      have w3 := w3 (hp.two hiN hz)
      have hwb := wsum_bd hp hak hiN (nbs p i).length
      rw [List.take_length] at hwb
      have hb0 : 0 < wtot (nbs p i) ∧ wtot (nbs p i) ≤ 1000 := by omega
      have hb1 : -1000000000 ≤ wsum (nbs p i) (gt (swpTo p rnd a i)) ∧ wsum (nbs p i) (gt (swpTo p rnd a i)) ≤ 1000000000 := by omega
      have hrr := hr _ _ hb0 hb1
      have hil : i < (swpTo p rnd a i).length := by rw [hsl, hal]; exact hiN
      have hgi := iv_get hil
      have e1 : (swpTo p rnd a i).length = p.cs.length := by rw [hsl, hal, hp.len]
      generalize wsum (nbs p i) (gt (swpTo p rnd a i)) = s at *
      generalize wtot (nbs p i) = t at *
      generalize gt p.cs i = z at *
      generalize swpTo p rnd a (i + 1) = b at *
      generalize swpTo p rnd a i = c at *
      clear hb0 hb1
      generalize decide (c ≠ a) = f0 at *
      generalize decide (b ≠ a) = f1 at *
      simp only [go_sem, vw, List.length_map, h2, n0, hx, hz', h3, Pl.v, Pl.a, Pl.c4]
      refine cF har 6 ⟨.inl (plv_frz 3 _ p), .inl (iv_frz_sl (d := 4) (j := 0) (g := false) (l := c) rfl e1.symm), .inl rfl, trivial⟩ ?_
      simp only [go_sem]
      refine cP hrr ?_
      generalize rnd s t = m at *
      subst hst
      subst hfl1
      cases f0 with
      | false =>
        simp only [go_sem, h2, n0, hgi, iv_set, iv_len, h3, e1]
        exact ihn _ (by simp [go_sem, vw])
      | true =>
        simp only [go_sem, h2, n0, hgi, iv_set, iv_len, h3, e1]
        exact ihn _ (by simp [go_sem, vw])
    · have hz' : (gt p.cs i != 0) = true := by simp [hz]
      rw [if_neg hz] at hst
      generalize gt p.cs i = z at *
      simp only [go_sem, vw, List.length_map, h2, n0, hx, hz', h3]
      rw [← hst] at *
      exact ihn _ (by simp [go_sem, vw])
  · have h2 : ¬ (i : Int) < p.cs.length := by omega
    have hie : i = p.cs.length := by omega
    subst hie
    simp only [go_sem, vw, List.length_map, h2]
    exact ⟨rfl, _, rfl⟩
end Go.Proofs

namespace Go.Proofs
open Go Go.Sx
attribute [local irreducible] Run

theorem plv_ren (f : Nat → Nat) (p : Pl) : ren f p.v = p.v := ren_same (by simp only [go_sem])
theorem kept_pair {x y : Row} {r v : AVal} {H' : Heap} (j0 j1 : Nat) (hne : j0 ≠ j1) (hv : v = ren (fun i => if i = 0 then j0 else j1) r) (hx : x.bel (fun _ => False)) (hy : y.bel (fun _ => False)) (h0 : H'[j0]? = some (some x)) (h1 : H'[j1]? = some (some y)) : ∃ σ, Kept [] [some x, some y] r v H' σ :=
  ⟨fun i => if i = 0 then j0 else j1, fun i hi => by simp at hi, fun i k hi hk h => by
    simp only [List.length_cons, List.length_nil] at hi hk
    by_cases e1 : i = 0 <;> by_cases e2 : k = 0 <;> simp [e1, e2] at h ⊢ <;> omega, hv, fun i z hz => by
    match i, hz with
    | 0, hz => simp at hz; subst hz; rw [Row.ren_same hx]; exact h0
    | 1, hz => simp at hz; subst hz; rw [Row.ren_same hy]; exact h1⟩

theorem LowOK.at {p : Pl} {v a : List Int} (hv : VOK v) (h : LowOK p v a) : AtOK p a := ⟨h.len, fun i hi => by
  have := h.bd i hi
  have := endL_in hv p
  have := endM_in hv p
  omega⟩
theorem HighOK.at {p : Pl} {v a : List Int} (hv : VOK v) (h : HighOK p v a) : AtOK p a := ⟨h.len, fun i hi => by
  have := h.bd i hi
  have := endL_in hv p
  have := endM_in hv p
  omega⟩
theorem low_at {p : Pl} (hp : PlOK p) {v : List Int} (hv : VOK v) (s k : Nat) (hk : k ≤ p.w * p.h) : AtOK p (swpTo p rdn (lowB p v s) k) := ((swpTo_ok hp (low_ok hp v s) k hk).1).at hv
theorem high_at {p : Pl} (hp : PlOK p) {v : List Int} (hv : VOK v) (s k : Nat) (hk : k ≤ p.w * p.h) : AtOK p (swpTo p rup (highB p v s) k) := by
  rw [highB_eq, swpTo_ngs]
  exact (((swpTo_ok hp (low_ok hp (ngs v) s) k hk).1).neg).at hv

theorem stl_succ (p : Pl) (v : List Int) (s : Nat) : stl p v (s + 1) = (!decide (swp p rdn (lowB p v s) ≠ lowB p v s) && !decide (swp p rup (highB p v s) ≠ highB p v s)) := by
  have e1 : lowB p v (s + 1) = swp p rdn (lowB p v s) := rfl
  have e2 : highB p v (s + 1) = swp p rup (highB p v s) := rfl
  unfold stl
  rw [Nat.add_sub_cancel, e1, e2]
  by_cases h1 : swp p rdn (lowB p v s) = lowB p v s <;> by_cases h2 : swp p rup (highB p v s) = highB p v s <;> simp [h1, h2]

def fldV (n : Nat) (s : Nat) (t : Bool) (j0 j1 : Nat) : AVal := .agg [.sl j0 0 n, .sl j1 0 n, .int .i64 s, .bool t]

set_option maxHeartbeats 4000000 in
theorem solve_ok {p : Pl} (hp : PlOK p) {v : List Int} (hv : VOK v) (hvl : VLen p v) {n : Nat} (hn : n ≤ 200) :
    Ans Try.prog n_field_solve [p.v, vw v, .int .i64 n] [] (fldV p.cs.length (cnt p v n) (stl p v (cnt p v n)) 0 1) [some (.cells false 1 (iv (lowB p v (cnt p v n)))), some (.cells false 1 (iv (highB p v (cnt p v n))))] := by
  refine Ans.keep (run_fn e_field_solve fun G => ?_) (by simp) (by simp [go_sem, fldV]) ⟨iv_row _ _ _, iv_row _ _ _, trivial⟩
  have hen := ends_ok hp hv hvl
  have hb1 := newBound_ok hp hvl (endL p v) n_field_roundDown
  have hb2 := newBound_ok hp hvl (endM p v) n_field_roundUp
  simp only [go_sem, Pl.v, Pl.a, Pl.c4, vw]
  refine cP hen ?_
  simp only [go_sem]
  refine cN1 hb1 ?_ (hx := iv_row _ _ _)
  simp only [go_sem, ren, rens]
  refine cN1 hb2 ?_ (hx := iv_row _ _ _)
  simp only [go_sem, ren, rens]
  refine loop_ind k_field_solve_r9.eq_1 (fun s : Nat => s ≤ n ∧ cnt p v s = s) (fun s => n - s)
    (fun s => (tsets 60 [(2, .int .i64 n), (3, .ptr 0 0 0 1), (6, .ptr 1 0 0 1), (9, .ptr 3 0 0 1), (10, .ptr 5 0 0 1), (11, .ptr 6 0 0 1)],
      [some (.cells false 4 [p.v]), some (.cells false 4 [.agg [.nilsl, .nilsl, .int .i64 0, .bool false]]), some (.cells false 1 (iv (lowB p v s))), some (.cells false 2 [.agg [.sl 2 0 p.cs.length, .fn (.func n_field_roundDown) [] []]]),
        some (.cells false 1 (iv (highB p v s))), some (.cells false 2 [.agg [.sl 4 0 p.cs.length, .fn (.func n_field_roundUp) [] []]]), some (.cells false 4 [fldV p.cs.length s (stl p v s) 2 4])])) 0 ⟨Nat.zero_le _, rfl⟩ (by simp [go_sem]) (by simp [Pl.v, Pl.a, Pl.c4, vw, fldV, stl, lowB, highB, itr]) ?_
  rintro s ⟨hsn, hcs⟩ ih
  dsimp only at hsn hcs ih ⊢
  by_cases h1 : s < n
  · have h2 : (s : Int) < n := by omega
    cases hst : stl p v s with
    | true =>
      have hc : cnt p v n = s := by
        have := cnt_still hcs hst (n - s)
        rwa [show s + (n - s) = n by omega] at this
      rw [hc, hst]
      simp only [go_sem, fldV, h2]
      exact kept_pair 2 4 (by decide) rfl (iv_row _ _ _) (iv_row _ _ _) rfl rfl
    | false =>
      have ihn := ih (s + 1) (by omega) ⟨h1, cnt_next hcs hst⟩
      clear ih
      have hsL := sweep_ok rnd_down hp (a := lowB p v s) fun k hk => low_at hp hv s k hk
      have hsH := sweep_ok rnd_up hp (a := highB p v s) fun k hk => high_at hp hv s k hk
      have h3 : IntKind.i64.wrap ((s : Int) + 1) = ((s + 1 : Nat) : Int) := by rw [w64 (by omega)]; rfl
      rw [stl_succ] at ihn
      rw [show lowB p v (s + 1) = swp p rdn (lowB p v s) from rfl, show highB p v (s + 1) = swp p rup (highB p v s) from rfl] at ihn
      generalize decide (swp p rdn (lowB p v s) ≠ lowB p v s) = f1 at *
      generalize decide (swp p rup (highB p v s) ≠ highB p v s) = f2 at *
      generalize swp p rdn (lowB p v s) = L1 at *
      generalize swp p rup (highB p v s) = H1 at *
      simp only [go_sem, fldV, h2, Pl.v, Pl.a, Pl.c4, vw]
      refine dS1 hsL (j := 2) rfl ?_ ?_ (iv_row _ _ _) (iv_row _ _ _) (.bool _) (by simp) ?_ ?_
      · simp only [List.map_cons, List.map_nil, plv_ren]; rfl
      · simp [go_sem]
      · simp [go_sem]
      simp only [go_sem, fldV, Pl.v, Pl.a, Pl.c4, vw]
      refine cS1 hsH (j := 4) rfl ?_ ?_ (iv_row _ _ _) (iv_row _ _ _) (.bool _) (by simp) (by simp) ?_
      · simp only [List.map_cons, List.map_nil, plv_ren]; rfl
      · simp [go_sem]
      cases f1 <;> cases f2 <;> (simp only [go_sem, fldV, h3]; exact ihn _ (by simp [go_sem]))
  · have h2 : ¬ (s : Int) < n := by omega
    have hsn' : s = n := by omega
    subst hsn'
    rw [hcs]
    simp only [go_sem, fldV, h2]
    exact kept_pair 2 4 (by decide) rfl (iv_row _ _ _) (iv_row _ _ _) rfl rfl
end Go.Proofs

