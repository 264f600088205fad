/- Dice, laws of curves. -/
import Derived.Test.YtbjfjgiinjhikabYbCode
import Derived.Test.YtbjfjgiinjhikabSxF
import Derived.IntWalk
namespace Go.Proofs
open Go Go.Sx

def Dr (w : Int) : Row := .cells false 1 [.agg [.int .u64 w]]
def dstep (w : Int) : Int := IntKind.u64.wrap (w + 11400714819323198485)
def dmix (w : Int) : Int :=
  let z := IntKind.u64.wrap (bitW .xor .u64 w (shrW .u64 w 30) * 13787848793156543929)
  let z := IntKind.u64.wrap (bitW .xor .u64 z (shrW .u64 z 27) * 10723151780598845931)
  bitW .xor .u64 z (shrW .u64 z 31)

theorem dr_bel (w : Int) (S : Nat → Prop) : (Dr w).bel S := by unfold Dr; rw [row_bel_cells]; simp only [go_sem]

theorem next_ok (w : Int) : Ans Try.prog n_kit_Dice_next [.ptr 0 0 0 1] [some (Dr w)] (.int .u64 (dmix (dstep w))) [some (Dr (dstep w))] := by
  refine spec_run e_kit_Dice_next fun G => ?_
  simp only [go_sem, Dr, dmix, dstep]
  exact ⟨_, rfl⟩

theorem bitW_u64 (op : BinOp) (a b : Int) : 0 ≤ bitW op .u64 a b ∧ bitW op .u64 a b ≤ 18446744073709551615 := by
  have hw : ∀ n : Int, 0 ≤ IntKind.u64.wrap n ∧ IntKind.u64.wrap n ≤ 18446744073709551615 := fun n => by simp only [IntKind.wrap, IntKind.bits, IntKind.signed, Bool.false_and, Bool.false_eq_true, if_false]; omega
  unfold bitW bitsOf
  cases op <;> simp only [Option.getD_some, Option.getD_none] <;> first
    | exact hw _
    | omega

/-- A number from 0 to n - 1. -/
def upto (w n : Int) : Int := if n < 1 then 0 else (dmix (dstep w)) % n
theorem upto_in {w n : Int} (h : 1 ≤ n) : 0 ≤ upto w n ∧ upto w n < n := by
  unfold upto
  rw [if_neg (by omega)]
  exact ⟨Int.emod_nonneg _ (by omega), Int.emod_lt_of_pos _ (by omega)⟩

theorem upto_ok (w n : Int) (hn : n ≤ 9223372036854775807) : Ans Try.prog n_kit_Dice_Upto [.ptr 0 0 0 1, .int .i64 n] [some (Dr w)] (.int .i64 (upto w n)) [some (Dr (dstep w))] := by
  refine spec_run e_kit_Dice_Upto fun G => ?_
  simp only [go_sem]
  refine callD (next_ok w) rfl trivial (.int _ _) (dr_bel _ _) (dr_bel _ _) (by simp) (by simp) ?_
  simp only [go_sem]
  refine ⟨fun h => ⟨by simp [upto, h], by simp⟩, fun h => ?_⟩
  have hm : 0 ≤ dmix (dstep w) := (bitW_u64 _ _ _).1
  have h1 : IntKind.u64.wrap n = n := IntWalk.u64_in n (by omega)
  have h2 : (dmix (dstep w)).tmod n = dmix (dstep w) % n := Int.tmod_eq_emod_of_nonneg hm
  have h3 := Int.emod_nonneg (dmix (dstep w)) (show n ≠ 0 by omega)
  have h4 := Int.emod_lt_of_pos (dmix (dstep w)) (show 0 < n by omega)
  rw [h1, h2, IntWalk.i64_in _ (by omega)]
  refine ⟨by omega, by rw [upto, if_neg h], _, rfl⟩

def btw (w lo hi : Int) : Int := lo + upto w (hi - lo + 1)
theorem btw_in {w lo hi : Int} (h : lo ≤ hi) : lo ≤ btw w lo hi ∧ btw w lo hi ≤ hi := by
  have := upto_in (w := w) (n := hi - lo + 1) (by omega)
  unfold btw; omega

theorem between_ok (w lo hi : Int) (h1 : -1152921504606846976 ≤ lo) (h2 : lo ≤ hi) (h3 : hi ≤ 1152921504606846976) : Ans Try.prog n_kit_Dice_Between [.ptr 0 0 0 1, .int .i64 lo, .int .i64 hi] [some (Dr w)] (.int .i64 (btw w lo hi)) [some (Dr (dstep w))] := by
  refine spec_run e_kit_Dice_Between fun G => ?_
  simp only [go_sem]
  rw [IntWalk.i64_in (hi - lo) (by omega), IntWalk.i64_in (hi - lo + 1) (by omega)]
  refine callD (upto_ok w _ (by omega)) rfl ⟨.int _ _, trivial⟩ (.int _ _) (dr_bel _ _) (dr_bel _ _) (by simp) (by simp) ?_
  have := btw_in (w := w) h2
  unfold btw at this
  simp only [go_sem]
  rw [IntWalk.i64_in _ (by omega)]
  exact ⟨rfl, _, rfl⟩

theorem one_ok (w n : Int) (hn : n ≤ 9223372036854775807) : Ans Try.prog n_kit_Dice_One [.ptr 0 0 0 1, .int .i64 n] [some (Dr w)] (.bool (upto w n == 0)) [some (Dr (dstep w))] := by
  refine spec_run e_kit_Dice_One fun G => ?_
  simp only [go_sem]
  refine callD (upto_ok w _ hn) rfl ⟨.int _ _, trivial⟩ (.int _ _) (dr_bel _ _) (dr_bel _ _) (by simp) (by simp) ?_
  simp only [go_sem]
  exact ⟨_, rfl⟩

/-- A range. -/
structure Rg where
  lo : Int
  hi : Int
def Rg.v (r : Rg) : AVal := .agg [.int .i64 r.lo, .int .i64 r.hi]
theorem rg_bel (r : Rg) (S : Nat → Prop) : Bel S r.v := by unfold Rg.v; simp only [go_sem]

def hullR (a b : Int) : Rg := ⟨if b < a then b else a, if b > a then b else a⟩
def rng (w lo hi : Int) : Rg := hullR (btw w lo hi) (btw (dstep w) lo hi)
theorem rng_in {w lo hi : Int} (h : lo ≤ hi) : lo ≤ (rng w lo hi).lo ∧ (rng w lo hi).lo ≤ (rng w lo hi).hi ∧ (rng w lo hi).hi ≤ hi := by
  have := btw_in (w := w) h
  have := btw_in (w := dstep w) h
  unfold rng hullR; simp only; constructor
  · split <;> (try dsimp only) <;> omega
  · constructor <;> (repeat' split) <;> omega

theorem range_ok (w lo hi : Int) (h1 : -1152921504606846976 ≤ lo) (h2 : lo ≤ hi) (h3 : hi ≤ 1152921504606846976) : Ans Try.prog n_kit_Dice_Range [.ptr 0 0 0 1, .int .i64 lo, .int .i64 hi] [some (Dr w)] (rng w lo hi).v [some (Dr (dstep (dstep w)))] := by
  refine spec_run e_kit_Dice_Range fun G => ?_
  simp only [go_sem]
  refine callD (between_ok w lo hi h1 h2 h3) rfl ⟨.int _ _, .int _ _, trivial⟩ (.int _ _) (dr_bel _ _) (dr_bel _ _) (by simp) (by simp) ?_
  simp only [go_sem]
  refine callD (between_ok (dstep w) lo hi h1 h2 h3) rfl ⟨.int _ _, .int _ _, trivial⟩ (.int _ _) (dr_bel _ _) (dr_bel _ _) (by simp) (by simp) ?_
  simp only [go_sem]
  exact ⟨rfl, _, rfl⟩

/-! ### Laws -/
structure Lw where
  perv : Rg
  gain : Rg
  shift : Rg
  full : Rg
  part : Rg
def Lw.cs (l : Lw) : List AVal := [.int .i64 l.perv.lo, .int .i64 l.perv.hi, .int .i64 l.gain.lo, .int .i64 l.gain.hi, .int .i64 l.shift.lo, .int .i64 l.shift.hi, .int .i64 l.full.lo, .int .i64 l.full.hi, .int .i64 l.part.lo, .int .i64 l.part.hi]
def Lw.v (l : Lw) : AVal := .agg l.cs
theorem lw_bel (l : Lw) (S : Nat → Prop) : Bel S l.v := by unfold Lw.v Lw.cs; simp only [go_sem]

def d2 (w : Int) : Int := dstep (dstep w)
def w10 (w : Int) : Int := d2 (d2 (d2 (d2 (d2 w))))
def lawOf (w : Int) : Lw :=
  ⟨rng w 1000 90000, if upto (d2 (w10 w)) 8 = 0 then ⟨1, btw (dstep (d2 (w10 w))) 1 400⟩ else rng (d2 w) 5000 60000, rng (d2 (d2 w)) (-800) 800,
   if upto (w10 w) 3 = 0 then ⟨1000000, 1000000⟩ else rng (d2 (d2 (d2 w))) 2000 60000, if upto (dstep (w10 w)) 2 = 0 then ⟨1000000, 1000000⟩ else rng (d2 (d2 (d2 (d2 w)))) 500000 1000000⟩
def lawEnd (w : Int) : Int := if upto (d2 (w10 w)) 8 = 0 then d2 (d2 (w10 w)) else dstep (d2 (w10 w))

/-- A law as it has to be. -/
structure LwOK (l : Lw) : Prop where
  perv : 0 ≤ l.perv.lo ∧ l.perv.lo ≤ l.perv.hi ∧ l.perv.hi ≤ 1000000
  gain : 1 ≤ l.gain.lo ∧ l.gain.lo ≤ l.gain.hi ∧ l.gain.hi ≤ 1000000
  shift : -1000000 ≤ l.shift.lo ∧ l.shift.lo ≤ l.shift.hi ∧ l.shift.hi ≤ 1000000
  full : 0 ≤ l.full.lo ∧ l.full.lo ≤ l.full.hi ∧ l.full.hi ≤ 1000000
  part : 0 ≤ l.part.lo ∧ l.part.lo ≤ l.part.hi ∧ l.part.hi ≤ 1000000

theorem lawOf_in (w : Int) : LwOK (lawOf w) := by
  have h1 := rng_in (w := w) (lo := 1000) (hi := 90000) (by decide)
  have h2 := rng_in (w := d2 w) (lo := 5000) (hi := 60000) (by decide)
  have h3 := rng_in (w := d2 (d2 w)) (lo := -800) (hi := 800) (by decide)
  have h4 := rng_in (w := d2 (d2 (d2 w))) (lo := 2000) (hi := 60000) (by decide)
  have h5 := rng_in (w := d2 (d2 (d2 (d2 w)))) (lo := 500000) (hi := 1000000) (by decide)
  have h6 := btw_in (w := dstep (d2 (w10 w))) (lo := 1) (hi := 400) (by decide)
  constructor <;> unfold lawOf <;> dsimp only
  · omega
  · split <;> (try dsimp only) <;> omega
  · omega
  · split <;> (try dsimp only) <;> omega
  · split <;> (try dsimp only) <;> omega

theorem lawof_ok (w : Int) : Ans Try.prog n_kit_LawOf [.ptr 0 0 0 1] [some (Dr w)] (lawOf w).v [some (Dr (lawEnd w))] := by
  refine spec_run e_kit_LawOf fun G => ?_
  simp only [go_sem]
  refine callD (range_ok w 1000 90000 (by decide) (by decide) (by decide)) rfl ⟨.int _ _, .int _ _, trivial⟩ (rg_bel _ _) (dr_bel _ _) (dr_bel _ _) (by simp) (by simp) ?_
  simp only [go_sem]
  refine callD (range_ok _ 5000 60000 (by decide) (by decide) (by decide)) rfl ⟨.int _ _, .int _ _, trivial⟩ (rg_bel _ _) (dr_bel _ _) (dr_bel _ _) (by simp) (by simp) ?_
  simp only [go_sem]
  refine callD (range_ok _ (-800) 800 (by decide) (by decide) (by decide)) rfl ⟨.int _ _, .int _ _, trivial⟩ (rg_bel _ _) (dr_bel _ _) (dr_bel _ _) (by simp) (by simp) ?_
  simp only [go_sem]
  refine callD (range_ok _ 2000 60000 (by decide) (by decide) (by decide)) rfl ⟨.int _ _, .int _ _, trivial⟩ (rg_bel _ _) (dr_bel _ _) (dr_bel _ _) (by simp) (by simp) ?_
  simp only [go_sem]
  refine callD (range_ok _ 500000 1000000 (by decide) (by decide) (by decide)) rfl ⟨.int _ _, .int _ _, trivial⟩ (rg_bel _ _) (dr_bel _ _) (dr_bel _ _) (by simp) (by simp) ?_
  simp only [go_sem, Rg.v]
  refine callD (one_ok _ 3 (by decide)) rfl ⟨.int _ _, trivial⟩ (.bool _) (dr_bel _ _) (dr_bel _ _) (by simp) (by simp) ?_
  simp only [go_sem]
  refine ⟨fun h1 => ?_, fun h1 => ?_⟩ <;>
  · refine callD (one_ok _ 2 (by decide)) rfl ⟨.int _ _, trivial⟩ (.bool _) (dr_bel _ _) (dr_bel _ _) (by simp) (by simp) ?_
    simp only [go_sem]
    refine ⟨fun h2 => ?_, fun h2 => ?_⟩ <;>
    · refine callD (one_ok _ 8 (by decide)) rfl ⟨.int _ _, trivial⟩ (.bool _) (dr_bel _ _) (dr_bel _ _) (by simp) (by simp) ?_
      simp only [go_sem]
      refine ⟨fun h3 => ?_, fun h3 => ?_⟩
      · refine callD (between_ok _ 1 400 (by decide) (by decide) (by decide)) rfl ⟨.int _ _, .int _ _, trivial⟩ (.int _ _) (dr_bel _ _) (dr_bel _ _) (by simp) (by simp) ?_
        simp only [go_sem]
        exact ⟨by simp only [lawOf, Lw.v, Lw.cs, d2, w10, h1, h2, h3, if_true, if_false], _, by simp only [lawEnd, d2, w10, h3, if_true, if_false]; rfl⟩
      · exact ⟨by simp only [lawOf, Lw.v, Lw.cs, d2, w10, h1, h2, h3, if_true, if_false], _, by simp only [lawEnd, d2, w10, h3, if_true, if_false]; rfl⟩

/-! ### New dice -/
def feed (w : Int) : List Int → Int
  | [] => w
  | x :: xs => feed (dstep (bitW .xor .u64 w (IntKind.u64.wrap x))) xs

theorem newdice_ok (xs : List Int) (hl : xs.length ≤ 9223372036854775807) : Ans Try.prog n_kit_NewDice [.view (xs.map (.int .i64))] [] (.ptr 0 0 0 1) [some (Dr (feed (IntKind.u64.wrap (IntKind.u64.wrap xs.length + 1374496523)) xs))] := by
  refine spec_run e_kit_NewDice fun G => ?_
  simp only [go_sem]
  have key : ∀ (zs : List Int) (i : Nat) (w : Int), xs.drop i = zs → i ≤ xs.length →
      Sx.Loop Try.prog G 0 none k_kit_NewDice_r7 [.blk 0, .seq (.seq (.reg k_kit_NewDice_r8 false) .ret)] ⟨[.view (xs.map (.int .i64)), .any, .nilptr, .ptr 0 0 0 1, .int .i64 i] ++ List.replicate 28 .any, [some (Dr w)], []⟩
        (RetPost [ARes.tmp 2] fun v H' => v = .ptr 0 0 0 1 ∧ ∃ X, H' = some (Dr (feed w zs)) :: X) := by
    intro zs
    induction zs with
    | nil =>
      intro i w hd hi
      have : xs.length ≤ i := by simpa using hd
      have h1 : ¬ (i : Int) < xs.length := by omega
      refine loop_body 200 k_kit_NewDice_r7.eq_1 ?_
      simp only [go_sem, h1, feed]
      exact ⟨_, rfl⟩
    | cons z zs ih =>
      intro i w hd hi
      have hx : xs[i]? = some z := by have := congrArg (·[0]?) hd; simpa using this
      have h1 : i < xs.length := (List.getElem?_eq_some_iff.1 hx).1
      have h2 : (i : Int) < xs.length := by omega
      have h3 : IntKind.i64.wrap ((i : Int) + 1) = ((i + 1 : Nat) : Int) := by rw [IntWalk.i64_in _ (by omega)]; rfl
      have hd' : xs.drop (i + 1) = zs := by have := congrArg (List.drop 1) hd; simpa [Nat.add_comm] using this
      refine loop_body 200 k_kit_NewDice_r7.eq_1 ?_
      simp only [go_sem, hx, h2, Dr]
      refine callD (next_ok _) rfl trivial (.int _ _) (dr_bel _ _) (dr_bel _ _) (by simp) (by simp) ?_
      simp only [go_sem, h3]
      refine loop_wk ?_ (ih (i + 1) _ hd' h1)
      simp [Wk]
  refine loop_wk ?_ (key xs 0 _ rfl (Nat.zero_le _))
  simp [Wk]
end Go.Proofs
