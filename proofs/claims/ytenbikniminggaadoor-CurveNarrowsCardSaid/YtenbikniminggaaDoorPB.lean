/- A part of the proof. -/
import Derived.Test.YtenbikniminggaaDoorPA
import Derived.IntWalk
set_option linter.unusedSimpArgs false
set_option linter.unusedVariables false
namespace Go.Proofs
open Go Go.Sx

def Dr (w : Int) : Row := .cells false 1 [.agg [.int .u64 w]]
def dstep (w : Int) : Int := IntKind.u64.wrap (w + 11400714819323198485)
def dmix (w : Int) : Int :=
  let z := IntKind.u64.wrap (bitW .xor .u64 w (shrW .u64 w 30) * 13787848793156543929)
  let z := IntKind.u64.wrap (bitW .xor .u64 z (shrW .u64 z 27) * 10723151780598845931)
  bitW .xor .u64 z (shrW .u64 z 31)

theorem dr_bel (w : Int) (S : Nat → Prop) : (Dr w).bel S := by unfold Dr; rw [row_bel_cells]; simp only [go_sem]

theorem bitW_u64 (op : BinOp) (a b : Int) : 0 ≤ bitW op .u64 a b ∧ bitW op .u64 a b ≤ 18446744073709551615 := by
  have hw : ∀ n : Int, 0 ≤ IntKind.u64.wrap n ∧ IntKind.u64.wrap n ≤ 18446744073709551615 := fun n => by simp only [IntKind.wrap, IntKind.bits, IntKind.signed, Bool.false_and, Bool.false_eq_true, if_false]; omega
  unfold bitW bitsOf
  cases op <;> simp only [Option.getD_some, Option.getD_none] <;> first
    | exact hw _
    | omega

def upto (w n : Int) : Int := if n < 1 then 0 else (dmix (dstep w)) % n
theorem upto_in {w n : Int} (h : 1 ≤ n) : 0 ≤ upto w n ∧ upto w n < n := by
  unfold upto
  rw [if_neg (by omega)]
  exact ⟨Int.emod_nonneg _ (by omega), Int.emod_lt_of_pos _ (by omega)⟩
def btw (w lo hi : Int) : Int := lo + upto w (hi - lo + 1)
theorem btw_in {w lo hi : Int} (h : lo ≤ hi) : lo ≤ btw w lo hi ∧ btw w lo hi ≤ hi := by
  have := upto_in (w := w) (n := hi - lo + 1) (by omega)
  unfold btw; omega

def feed (w : Int) : List Int → Int
  | [] => w
  | x :: xs => feed (dstep (bitW .xor .u64 w (IntKind.u64.wrap x))) xs
structure Rg where
  lo : Int
  hi : Int
  deriving Inhabited, DecidableEq

def Rg.v (r : Rg) : AVal := .agg [.int .i64 r.lo, .int .i64 r.hi]
@[go_sem] theorem rg_bel_eq (r : Rg) (S : Nat → Prop) : Bel S r.v = True := by unfold Rg.v; simp only [go_sem]
@[go_sem] theorem rg_nv (r : Rg) : NV r.v = True := by unfold Rg.v; simp only [go_sem]
@[go_sem] theorem dr_bel_eq (w : Int) (S : Nat → Prop) : (Dr w).bel S = True := eq_true (dr_bel w S)
theorem rg_bel (r : Rg) (S : Nat → Prop) : Bel S r.v := by unfold Rg.v; simp only [go_sem]

def hullR (a b : Int) : Rg := ⟨if b < a then b else a, if b > a then b else a⟩
def rngR (w lo hi : Int) : Rg := hullR (btw w lo hi) (btw (dstep w) lo hi)
theorem rngR_in {w lo hi : Int} (h : lo ≤ hi) : lo ≤ (rngR w lo hi).lo ∧ (rngR w lo hi).lo ≤ (rngR w lo hi).hi ∧ (rngR w lo hi).hi ≤ hi := by
  have := btw_in (w := w) h
  have := btw_in (w := dstep w) h
  unfold rngR hullR; simp only; constructor
  · split <;> (try dsimp only) <;> omega
  · constructor <;> (repeat' split) <;> omega

theorem w64 {n : Int} (h : -9223372036854775808 ≤ n ∧ n ≤ 9223372036854775807) : IntKind.i64.wrap n = n := IntWalk.i64_in _ h
end Go.Proofs

namespace Go.Proofs
open Go Go.Sx

theorem next_ok (w : Int) : Ans Tryd.prog n_kit_Dice_next [.ptr 0 0 0 1] [some (Dr w)] (.int .u64 (dmix (dstep w))) [some (Dr (dstep w))] := by
  refine spec_run e_kit_Dice_next fun G => ?_
  simp only [go_sem, Dr, dmix, dstep]
  exact ⟨_, rfl⟩

theorem upto_ok (w n : Int) (hn : n ≤ 9223372036854775807) : Ans Tryd.prog n_kit_Dice_Upto [.ptr 0 0 0 1, .int .i64 n] [some (Dr w)] (.int .i64 (upto w n)) [some (Dr (dstep w))] := by
  refine spec_run e_kit_Dice_Upto fun G => ?_
  simp only [go_sem]
  refine callD (next_ok w) rfl trivial (.int _ _) (dr_bel _ _) (dr_bel _ _) (by simp) (by simp) ?_
  simp only [go_sem]
  refine ⟨fun h => ⟨by simp [upto, h], by simp⟩, fun h => ?_⟩
  have hm : 0 ≤ dmix (dstep w) := (bitW_u64 _ _ _).1
  have h1 : IntKind.u64.wrap n = n := IntWalk.u64_in n (by omega)
  have h2 : (dmix (dstep w)).tmod n = dmix (dstep w) % n := Int.tmod_eq_emod_of_nonneg hm
  have h3 := Int.emod_nonneg (dmix (dstep w)) (show n ≠ 0 by omega)
  have h4 := Int.emod_lt_of_pos (dmix (dstep w)) (show 0 < n by omega)
  rw [h1, h2, IntWalk.i64_in _ (by omega)]
  refine ⟨by omega, by rw [upto, if_neg h], _, rfl⟩

theorem between_ok (w lo hi : Int) (h1 : -1152921504606846976 ≤ lo) (h2 : lo ≤ hi) (h3 : hi ≤ 1152921504606846976) : Ans Tryd.prog n_kit_Dice_Between [.ptr 0 0 0 1, .int .i64 lo, .int .i64 hi] [some (Dr w)] (.int .i64 (btw w lo hi)) [some (Dr (dstep w))] := by
  refine spec_run e_kit_Dice_Between fun G => ?_
  simp only [go_sem]
  rw [IntWalk.i64_in (hi - lo) (by omega), IntWalk.i64_in (hi - lo + 1) (by omega)]
  refine callD (upto_ok w _ (by omega)) rfl ⟨.int _ _, trivial⟩ (.int _ _) (dr_bel _ _) (dr_bel _ _) (by simp) (by simp) ?_
  have := btw_in (w := w) h2
  unfold btw at this
  simp only [go_sem]
  rw [IntWalk.i64_in _ (by omega)]
  exact ⟨rfl, _, rfl⟩

theorem one_ok (w n : Int) (hn : n ≤ 9223372036854775807) : Ans Tryd.prog n_kit_Dice_One [.ptr 0 0 0 1, .int .i64 n] [some (Dr w)] (.bool (upto w n == 0)) [some (Dr (dstep w))] := by
  refine spec_run e_kit_Dice_One fun G => ?_
  simp only [go_sem]
  refine callD (upto_ok w _ hn) rfl ⟨.int _ _, trivial⟩ (.int _ _) (dr_bel _ _) (dr_bel _ _) (by simp) (by simp) ?_
  simp only [go_sem]
  exact ⟨_, rfl⟩

theorem range_ok (w lo hi : Int) (h1 : -1152921504606846976 ≤ lo) (h2 : lo ≤ hi) (h3 : hi ≤ 1152921504606846976) : Ans Tryd.prog n_kit_Dice_Range [.ptr 0 0 0 1, .int .i64 lo, .int .i64 hi] [some (Dr w)] (rngR w lo hi).v [some (Dr (dstep (dstep w)))] := by
  refine spec_run e_kit_Dice_Range fun G => ?_
  simp only [go_sem]
  refine callD (between_ok w lo hi h1 h2 h3) rfl ⟨.int _ _, .int _ _, trivial⟩ (.int _ _) (dr_bel _ _) (dr_bel _ _) (by simp) (by simp) ?_
  simp only [go_sem]
  refine callD (between_ok (dstep w) lo hi h1 h2 h3) rfl ⟨.int _ _, .int _ _, trivial⟩ (.int _ _) (dr_bel _ _) (dr_bel _ _) (by simp) (by simp) ?_
  simp only [go_sem]
  exact ⟨rfl, _, rfl⟩

structure Lw where
  perv : Rg
  gain : Rg
  shift : Rg
  full : Rg
  part : Rg
def Lw.cs (l : Lw) : List AVal := [.int .i64 l.perv.lo, .int .i64 l.perv.hi, .int .i64 l.gain.lo, .int .i64 l.gain.hi, .int .i64 l.shift.lo, .int .i64 l.shift.hi, .int .i64 l.full.lo, .int .i64 l.full.hi, .int .i64 l.part.lo, .int .i64 l.part.hi]
def Lw.v (l : Lw) : AVal := .agg l.cs
theorem lw_bel (l : Lw) (S : Nat → Prop) : Bel S l.v := by unfold Lw.v Lw.cs; simp only [go_sem]

def d2 (w : Int) : Int := dstep (dstep w)
def w10 (w : Int) : Int := d2 (d2 (d2 (d2 (d2 w))))
def lawOf (w : Int) : Lw :=
  ⟨rngR w 1000 90000, if upto (d2 (w10 w)) 8 = 0 then ⟨1, btw (dstep (d2 (w10 w))) 1 400⟩ else rngR (d2 w) 5000 60000, rngR (d2 (d2 w)) (-800) 800,
   if upto (w10 w) 3 = 0 then ⟨1000000, 1000000⟩ else rngR (d2 (d2 (d2 w))) 2000 60000, if upto (dstep (w10 w)) 2 = 0 then ⟨1000000, 1000000⟩ else rngR (d2 (d2 (d2 (d2 w)))) 500000 1000000⟩
def lawEnd (w : Int) : Int := if upto (d2 (w10 w)) 8 = 0 then d2 (d2 (w10 w)) else dstep (d2 (w10 w))

structure LwOK (l : Lw) : Prop where
  perv : 0 ≤ l.perv.lo ∧ l.perv.lo ≤ l.perv.hi ∧ l.perv.hi ≤ 1000000
  gain : 1 ≤ l.gain.lo ∧ l.gain.lo ≤ l.gain.hi ∧ l.gain.hi ≤ 1000000
  shift : -1000000 ≤ l.shift.lo ∧ l.shift.lo ≤ l.shift.hi ∧ l.shift.hi ≤ 1000000
  full : 0 ≤ l.full.lo ∧ l.full.lo ≤ l.full.hi ∧ l.full.hi ≤ 1000000
  part : 0 ≤ l.part.lo ∧ l.part.lo ≤ l.part.hi ∧ l.part.hi ≤ 1000000

theorem lawOf_in (w : Int) : LwOK (lawOf w) := by
  have h1 := rngR_in (w := w) (lo := 1000) (hi := 90000) (by decide)
  have h2 := rngR_in (w := d2 w) (lo := 5000) (hi := 60000) (by decide)
  have h3 := rngR_in (w := d2 (d2 w)) (lo := -800) (hi := 800) (by decide)
  have h4 := rngR_in (w := d2 (d2 (d2 w))) (lo := 2000) (hi := 60000) (by decide)
  have h5 := rngR_in (w := d2 (d2 (d2 (d2 w)))) (lo := 500000) (hi := 1000000) (by decide)
  have h6 := btw_in (w := dstep (d2 (w10 w))) (lo := 1) (hi := 400) (by decide)
  constructor <;> unfold lawOf <;> dsimp only
  · omega
  · split <;> (try dsimp only) <;> omega
  · omega
  · split <;> (try dsimp only) <;> omega
  · split <;> (try dsimp only) <;> omega

theorem lawof_ok (w : Int) : Ans Tryd.prog n_kit_LawOf [.ptr 0 0 0 1] [some (Dr w)] (lawOf w).v [some (Dr (lawEnd w))] := by
  refine spec_run e_kit_LawOf fun G => ?_
  simp only [go_sem]
  refine callD (range_ok w 1000 90000 (by decide) (by decide) (by decide)) rfl ⟨.int _ _, .int _ _, trivial⟩ (rg_bel _ _) (dr_bel _ _) (dr_bel _ _) (by simp) (by simp) ?_
  simp only [go_sem]
  refine callD (range_ok _ 5000 60000 (by decide) (by decide) (by decide)) rfl ⟨.int _ _, .int _ _, trivial⟩ (rg_bel _ _) (dr_bel _ _) (dr_bel _ _) (by simp) (by simp) ?_
  simp only [go_sem]
  refine callD (range_ok _ (-800) 800 (by decide) (by decide) (by decide)) rfl ⟨.int _ _, .int _ _, trivial⟩ (rg_bel _ _) (dr_bel _ _) (dr_bel _ _) (by simp) (by simp) ?_
  simp only [go_sem]
  refine callD (range_ok _ 2000 60000 (by decide) (by decide) (by decide)) rfl ⟨.int _ _, .int _ _, trivial⟩ (rg_bel _ _) (dr_bel _ _) (dr_bel _ _) (by simp) (by simp) ?_
  simp only [go_sem]
  refine callD (range_ok _ 500000 1000000 (by decide) (by decide) (by decide)) rfl ⟨.int _ _, .int _ _, trivial⟩ (rg_bel _ _) (dr_bel _ _) (dr_bel _ _) (by simp) (by simp) ?_
  simp only [go_sem, Rg.v]
  refine callD (one_ok _ 3 (by decide)) rfl ⟨.int _ _, trivial⟩ (.bool _) (dr_bel _ _) (dr_bel _ _) (by simp) (by simp) ?_
  simp only [go_sem]
  refine ⟨fun h1 => ?_, fun h1 => ?_⟩ <;>
  · refine callD (one_ok _ 2 (by decide)) rfl ⟨.int _ _, trivial⟩ (.bool _) (dr_bel _ _) (dr_bel _ _) (by simp) (by simp) ?_
    simp only [go_sem]
    refine ⟨fun h2 => ?_, fun h2 => ?_⟩ <;>
    · refine callD (one_ok _ 8 (by decide)) rfl ⟨.int _ _, trivial⟩ (.bool _) (dr_bel _ _) (dr_bel _ _) (by simp) (by simp) ?_
      simp only [go_sem]
      refine ⟨fun h3 => ?_, fun h3 => ?_⟩
      · refine callD (between_ok _ 1 400 (by decide) (by decide) (by decide)) rfl ⟨.int _ _, .int _ _, trivial⟩ (.int _ _) (dr_bel _ _) (dr_bel _ _) (by simp) (by simp) ?_
        simp only [go_sem]
        exact ⟨by simp only [lawOf, Lw.v, Lw.cs, d2, w10, h1, h2, h3, if_true, if_false], _, by simp only [lawEnd, d2, w10, h3, if_true, if_false]; rfl⟩
      · exact ⟨by simp only [lawOf, Lw.v, Lw.cs, d2, w10, h1, h2, h3, if_true, if_false], _, by simp only [lawEnd, d2, w10, h3, if_true, if_false]; rfl⟩

theorem newdice_ok (xs : List Int) (hl : xs.length ≤ 9223372036854775807) : Ans Tryd.prog n_kit_NewDice [.view (xs.map (.int .i64))] [] (.ptr 0 0 0 1) [some (Dr (feed (IntKind.u64.wrap (IntKind.u64.wrap xs.length + 1374496523)) xs))] := by
  refine spec_run e_kit_NewDice fun G => ?_
  simp only [go_sem]
  have key : ∀ (zs : List Int) (i : Nat) (w : Int), xs.drop i = zs → i ≤ xs.length →
      Sx.Loop Tryd.prog G 0 none k_kit_NewDice_r7 [.blk 0, .seq (.seq (.reg k_kit_NewDice_r8 false) .ret)] ⟨[.view (xs.map (.int .i64)), .any, .nilptr, .ptr 0 0 0 1, .int .i64 i] ++ List.replicate 28 .any, [some (Dr w)], []⟩
        (RetPost [ARes.tmp 2] fun v H' => v = .ptr 0 0 0 1 ∧ ∃ X, H' = some (Dr (feed w zs)) :: X) := by
    intro zs
    induction zs with
    | nil =>
      intro i w hd hi
      have : xs.length ≤ i := by simpa using hd
      have h1 : ¬ (i : Int) < xs.length := by omega
      refine loop_body 200 k_kit_NewDice_r7.eq_1 ?_
      simp only [go_sem, h1, feed]
      exact ⟨_, rfl⟩
    | cons z zs ih =>
      intro i w hd hi
      have hx : xs[i]? = some z := by have := congrArg (·[0]?) hd; simpa using this
      have h1 : i < xs.length := (List.getElem?_eq_some_iff.1 hx).1
      have h2 : (i : Int) < xs.length := by omega
      have h3 : IntKind.i64.wrap ((i : Int) + 1) = ((i + 1 : Nat) : Int) := by rw [IntWalk.i64_in _ (by omega)]; rfl
      have hd' : xs.drop (i + 1) = zs := by have := congrArg (List.drop 1) hd; simpa [Nat.add_comm] using this
      refine loop_body 200 k_kit_NewDice_r7.eq_1 ?_
      simp only [go_sem, hx, h2, Dr]
      refine callD (next_ok _) rfl trivial (.int _ _) (dr_bel _ _) (dr_bel _ _) (by simp) (by simp) ?_
      simp only [go_sem, h3]
      refine loop_wk ?_ (ih (i + 1) _ hd' h1)
      simp [Wk]
  refine loop_wk ?_ (key xs 0 _ rfl (Nat.zero_le _))
  simp [Wk]
end Go.Proofs

namespace Go.Proofs
open Go Go.Sx

theorem within_ok (n a b : Int) : Ans Tryd.prog n_curve_within [.int .i64 n, .int .i64 a, .int .i64 b] [] (.bool (decide (a ≤ n) && decide (n ≤ b))) [] := by
  refine spec_run e_curve_within fun G => ?_
  simp only [go_sem]
  refine ⟨fun h => ?_, fun h => ?_⟩ <;> simp [h]

theorem rightGrid_ok (g : Int) : Ans Tryd.prog n_curve_rightGrid [.int .i64 g] [] (.bool (decide (-1000000 ≤ g) && decide (g ≤ 1000000))) [] := by
  refine spec_run e_curve_rightGrid fun G => ?_
  simp only [go_sem]
  refine callP (within_ok _ _ _) ⟨.int _ _, .int _ _, .int _ _, trivial⟩ (.bool _) (by simp) (by simp) ?_
  simp only [go_sem]

theorem rightPlate_ok (g : Int) : Ans Tryd.prog n_curve_rightPlate [.int .i64 g] [] (.bool (decide (0 ≤ g) && decide (g ≤ 1000000))) [] := by
  refine spec_run e_curve_rightPlate fun G => ?_
  simp only [go_sem]
  refine callP (within_ok _ _ _) ⟨.int _ _, .int _ _, .int _ _, trivial⟩ (.bool _) (by simp) (by simp) ?_
  simp only [go_sem]

def bnd (n : Int) : Int := if n < 0 then 0 else if 1000000 < n then 1000000 else n

theorem bounded_ok (n : Int) : Ans Tryd.prog n_curve_bounded [.int .i64 n, .int .i64 0, .int .i64 1000000] [] (.int .i64 (bnd n)) [] := by
  refine spec_run e_curve_bounded fun G => ?_
  simp only [go_sem]
  unfold bnd
  repeat' split
  all_goals omega

def rup (n b : Int) : Int := (n + b - 1) / b

theorem roundUp_ok (n b : Int) (h0 : 0 ≤ n) (h1 : 1 ≤ b) (h2 : n ≤ 1152921504606846976) (h3 : b ≤ 1152921504606846976) : Ans Tryd.prog n_curve_roundUp [.int .i64 n, .int .i64 b] [] (.int .i64 (rup n b)) [] := by
  refine spec_run e_curve_roundUp fun G => ?_
  have hq : 0 ≤ (n + b - 1) / b := Int.ediv_nonneg (by omega) (by omega)
  have hq2 : (n + b - 1) / b ≤ n + b - 1 := Int.ediv_le_self _ (by omega)
  simp only [go_sem]
  rw [IntWalk.i64_in (n + b) (by omega), IntWalk.i64_in (n + b - 1) (by omega), Int.tdiv_eq_ediv_of_nonneg (by omega), IntWalk.i64_in _ (by omega)]
  exact ⟨by omega, rfl⟩

def driveOf (l : Lw) (g p : Int) : Rg := ⟨bnd (g + l.shift.lo + (1000 * p) / l.gain.hi), bnd (g + l.shift.hi + rup (1000 * p) l.gain.lo)⟩

theorem drive_ok (l : Lw) (h : LwOK l) (g p : Int) (h1 : -1000000 ≤ g ∧ g ≤ 1000000) (h2 : 0 ≤ p ∧ p ≤ 1000000) : Ans Tryd.prog n_curve_drive [l.v, .int .i64 g, .int .i64 p] [] (driveOf l g p).v [] := by
  obtain ⟨_, ⟨b1, b2, b3⟩, ⟨c1, c2, c3⟩, _, _⟩ := h
  have q1 : 0 ≤ 1000 * p / l.gain.hi := Int.ediv_nonneg (by omega) (by omega)
  have q2 : 1000 * p / l.gain.hi ≤ 1000 * p := Int.ediv_le_self _ (by omega)
  have q3 : 0 ≤ rup (1000 * p) l.gain.lo := Int.ediv_nonneg (by omega) (by omega)
  have q4 : rup (1000 * p) l.gain.lo ≤ 1000 * p + l.gain.lo - 1 := Int.ediv_le_self _ (by omega)
  have e1 : (1000 * p).tdiv l.gain.hi = 1000 * p / l.gain.hi := Int.tdiv_eq_ediv_of_nonneg (by omega)
  have m1 : IntKind.i64.wrap (1000 * p) = 1000 * p := IntWalk.i64_in _ (by omega)
  have m2 : IntKind.i64.wrap (1000 * p / l.gain.hi) = 1000 * p / l.gain.hi := IntWalk.i64_in _ (by omega)
  have m3 : IntKind.i64.wrap (g + l.shift.lo) = g + l.shift.lo := IntWalk.i64_in _ (by omega)
  have m4 : IntKind.i64.wrap (g + l.shift.lo + 1000 * p / l.gain.hi) = g + l.shift.lo + 1000 * p / l.gain.hi := IntWalk.i64_in _ (by omega)
  have m5 : IntKind.i64.wrap (g + l.shift.hi) = g + l.shift.hi := IntWalk.i64_in _ (by omega)
  have m6 : IntKind.i64.wrap (g + l.shift.hi + rup (1000 * p) l.gain.lo) = g + l.shift.hi + rup (1000 * p) l.gain.lo := IntWalk.i64_in _ (by omega)
  refine spec_run e_curve_drive fun G => ?_
  simp only [go_sem, Lw.v, Lw.cs, m1, e1, m2, m3, m4]
  refine ⟨by omega, dcallP (bounded_ok _) ⟨.int _ _, .int _ _, .int _ _, trivial⟩ (.int _ _) (by simp only [go_sem]) ?_⟩
  simp only [go_sem, m5, m1]
  refine dcallP (roundUp_ok _ _ (by omega) b1 (by omega) (by omega)) ⟨.int _ _, .int _ _, trivial⟩ (.int _ _) (by simp only [go_sem]) ?_
  simp only [go_sem, m6]
  refine callP (bounded_ok _) ⟨.int _ _, .int _ _, .int _ _, trivial⟩ (.int _ _) (by simp) (by simp) ?_
  simp only [go_sem, driveOf, Rg.v]

theorem shr_u64 (x n : Int) : shrW .u64 x n = x / 2 ^ (min n.toNat 64) := by
  unfold shrW; rw [Int.fdiv_eq_ediv_of_nonneg _ (by exact Int.pow_nonneg (by decide))]; rfl

def lenTab : List UInt8 := [0, 1, 2, 2, 3, 3, 3, 3, 4, 4, 4, 4, 4, 4, 4, 4, 5, 5, 5, 5, 5, 5, 5, 5, 5, 5, 5, 5, 5, 5, 5, 5, 6, 6, 6, 6, 6, 6, 6, 6, 6, 6, 6, 6, 6, 6, 6, 6, 6, 6, 6, 6, 6, 6, 6, 6, 6, 6, 6, 6, 6, 6, 6, 6, 7, 7, 7, 7, 7, 7, 7, 7, 7, 7, 7, 7, 7, 7, 7, 7, 7, 7, 7, 7, 7, 7, 7, 7, 7, 7, 7, 7, 7, 7, 7, 7, 7, 7, 7, 7, 7, 7, 7, 7, 7, 7, 7, 7, 7, 7, 7, 7, 7, 7, 7, 7, 7, 7, 7, 7, 7, 7, 7, 7, 7, 7, 7, 7, 8, 8, 8, 8, 8, 8, 8, 8, 8, 8, 8, 8, 8, 8, 8, 8, 8, 8, 8, 8, 8, 8, 8, 8, 8, 8, 8, 8, 8, 8, 8, 8, 8, 8, 8, 8, 8, 8, 8, 8, 8, 8, 8, 8, 8, 8, 8, 8, 8, 8, 8, 8, 8, 8, 8, 8, 8, 8, 8, 8, 8, 8, 8, 8, 8, 8, 8, 8, 8, 8, 8, 8, 8, 8, 8, 8, 8, 8, 8, 8, 8, 8, 8, 8, 8, 8, 8, 8, 8, 8, 8, 8, 8, 8, 8, 8, 8, 8, 8, 8, 8, 8, 8, 8, 8, 8, 8, 8, 8, 8, 8, 8, 8, 8, 8, 8, 8, 8, 8, 8, 8, 8, 8, 8, 8, 8, 8, 8]
theorem lenTab_ok : ∀ n : Fin 256, ∃ b, lenTab[n.val]? = some b ∧ n.val < 2 ^ b.toNat ∧ b.toNat ≤ 8 := by decide +kernel

theorem s32 (x : Int) : shrW .u64 x 32 = x / 4294967296 := by rw [shr_u64]; rfl
theorem s16 (x : Int) : shrW .u64 x 16 = x / 65536 := by rw [shr_u64]; rfl
theorem s8 (x : Int) : shrW .u64 x 8 = x / 256 := by rw [shr_u64]; rfl

set_option maxRecDepth 100000 in
theorem len64_ok (x : Int) (h0 : 0 ≤ x) (h1 : x ≤ 1152921504606846976) : ∃ m : Nat, m ≤ 64 ∧ x < 2 ^ m ∧ Ans Tryd.prog n_bits_Len64 [.int .u64 x] [] (.int .i64 m) [] := by
  obtain ⟨y, a, hy0, hy1, ha, hxy, hrun⟩ : ∃ (y : Int) (a : Nat), 0 ≤ y ∧ y < 256 ∧ a ≤ 56 ∧ x < (y + 1) * 2 ^ a ∧ ∀ b : UInt8, lenTab[y.toNat]? = some b → b.toNat ≤ 8 → Ans Tryd.prog n_bits_Len64 [.int .u64 x] [] (.int .i64 (a + b.toNat : Nat)) [] := by
    by_cases c1 : 4294967296 ≤ x
    · by_cases c2 : 65536 ≤ x / 4294967296
      · by_cases c3 : 256 ≤ (x / 4294967296) / 65536
        · refine ⟨((x / 4294967296) / 65536) / 256, 56, by omega, by omega, by decide, by omega, fun b hb hb8 => ?_⟩
          have hu : IntKind.u8.wrap (((x / 4294967296) / 65536) / 256) = ((x / 4294967296) / 65536) / 256 := IntWalk.u8_in _ (by omega)
          have hl : ¬ (((x / 4294967296) / 65536) / 256) < 0 := by omega
          unfold lenTab at hb
          refine spec_run e_bits_Len64 fun G => ?_
          simp only [go_sem, c1, c2, c3, s32, s16, s8, hu, hl, hb]
          simp only [IntKind.wrap_i64]
          omega
        · refine ⟨(x / 4294967296) / 65536, 48, by omega, by omega, by decide, by omega, fun b hb hb8 => ?_⟩
          have hu : IntKind.u8.wrap ((x / 4294967296) / 65536) = (x / 4294967296) / 65536 := IntWalk.u8_in _ (by omega)
          have hl : ¬ ((x / 4294967296) / 65536) < 0 := by omega
          unfold lenTab at hb
          refine spec_run e_bits_Len64 fun G => ?_
          simp only [go_sem, c1, c2, c3, s32, s16, s8, hu, hl, hb]
          simp only [IntKind.wrap_i64]
          omega
      · by_cases c3 : 256 ≤ x / 4294967296
        · refine ⟨(x / 4294967296) / 256, 40, by omega, by omega, by decide, by omega, fun b hb hb8 => ?_⟩
          have hu : IntKind.u8.wrap ((x / 4294967296) / 256) = (x / 4294967296) / 256 := IntWalk.u8_in _ (by omega)
          have hl : ¬ ((x / 4294967296) / 256) < 0 := by omega
          unfold lenTab at hb
          refine spec_run e_bits_Len64 fun G => ?_
          simp only [go_sem, c1, c2, c3, s32, s16, s8, hu, hl, hb]
          simp only [IntKind.wrap_i64]
          omega
        · refine ⟨x / 4294967296, 32, by omega, by omega, by decide, by omega, fun b hb hb8 => ?_⟩
          have hu : IntKind.u8.wrap (x / 4294967296) = x / 4294967296 := IntWalk.u8_in _ (by omega)
          have hl : ¬ (x / 4294967296) < 0 := by omega
          unfold lenTab at hb
          refine spec_run e_bits_Len64 fun G => ?_
          simp only [go_sem, c1, c2, c3, s32, s16, s8, hu, hl, hb]
          simp only [IntKind.wrap_i64]
          omega
    · by_cases c2 : 65536 ≤ x
      · by_cases c3 : 256 ≤ (x) / 65536
        · refine ⟨((x) / 65536) / 256, 24, by omega, by omega, by decide, by omega, fun b hb hb8 => ?_⟩
          have hu : IntKind.u8.wrap (((x) / 65536) / 256) = ((x) / 65536) / 256 := IntWalk.u8_in _ (by omega)
          have hl : ¬ (((x) / 65536) / 256) < 0 := by omega
          unfold lenTab at hb
          refine spec_run e_bits_Len64 fun G => ?_
          simp only [go_sem, c1, c2, c3, s32, s16, s8, hu, hl, hb]
          simp only [IntKind.wrap_i64]
          omega
        · refine ⟨(x) / 65536, 16, by omega, by omega, by decide, by omega, fun b hb hb8 => ?_⟩
          have hu : IntKind.u8.wrap ((x) / 65536) = (x) / 65536 := IntWalk.u8_in _ (by omega)
          have hl : ¬ ((x) / 65536) < 0 := by omega
          unfold lenTab at hb
          refine spec_run e_bits_Len64 fun G => ?_
          simp only [go_sem, c1, c2, c3, s32, s16, s8, hu, hl, hb]
          simp only [IntKind.wrap_i64]
          omega
      · by_cases c3 : 256 ≤ x
        · refine ⟨(x) / 256, 8, by omega, by omega, by decide, by omega, fun b hb hb8 => ?_⟩
          have hu : IntKind.u8.wrap ((x) / 256) = (x) / 256 := IntWalk.u8_in _ (by omega)
          have hl : ¬ ((x) / 256) < 0 := by omega
          unfold lenTab at hb
          refine spec_run e_bits_Len64 fun G => ?_
          simp only [go_sem, c1, c2, c3, s32, s16, s8, hu, hl, hb]
          simp only [IntKind.wrap_i64]
          omega
        · refine ⟨x, 0, by omega, by omega, by decide, by omega, fun b hb hb8 => ?_⟩
          have hu : IntKind.u8.wrap (x) = x := IntWalk.u8_in _ (by omega)
          have hl : ¬ (x) < 0 := by omega
          unfold lenTab at hb
          refine spec_run e_bits_Len64 fun G => ?_
          simp only [go_sem, c1, c2, c3, s32, s16, s8, hu, hl, hb]
          simp only [IntKind.wrap_i64]
          omega
  obtain ⟨b, hb1, hb2, hb3⟩ := lenTab_ok ⟨y.toNat, by omega⟩
  refine ⟨a + b.toNat, by omega, ?_, hrun b hb1 hb3⟩
  have h3 : y + 1 ≤ 2 ^ b.toNat := by
    have : ((y.toNat : Nat) : Int) < ((2 ^ b.toNat : Nat) : Int) := by exact_mod_cast hb2
    push_cast at this
    omega
  have h4 : (y + 1) * 2 ^ a ≤ 2 ^ b.toNat * 2 ^ a := Int.mul_le_mul_of_nonneg_right h3 (Int.pow_nonneg (by decide))
  rw [Int.pow_add, Int.mul_comm]
  omega
end Go.Proofs

namespace Go.Proofs
open Go Go.Sx

def isq : Nat → Nat
  | 0 => 0
  | n + 1 => if (isq n + 1) * (isq n + 1) ≤ n + 1 then isq n + 1 else isq n

theorem isq_ok (n : Nat) : isq n * isq n ≤ n ∧ n < (isq n + 1) * (isq n + 1) := by
  induction n with
  | zero => simp [isq]
  | succ n ih =>
    simp only [isq]
    split
    · rename_i h
      refine ⟨h, ?_⟩
      have h2 : (isq n + 1) * (isq n + 1) + (isq n + 1) < (isq n + 1 + 1) * (isq n + 1 + 1) := by
        simp only [Nat.add_mul, Nat.mul_add]; omega
      omega
    · omega

def root (n : Int) : Int := isq n.toNat
theorem root_ok {n : Int} (h : 0 ≤ n) : 0 ≤ root n ∧ root n * root n ≤ n ∧ n < (root n + 1) * (root n + 1) := by
  have := isq_ok n.toNat
  unfold root
  refine ⟨by omega, ?_, ?_⟩
  · have h1 : ((isq n.toNat * isq n.toNat : Nat) : Int) ≤ (n.toNat : Int) := by exact_mod_cast this.1
    push_cast at h1
    omega
  · have h1 : (n.toNat : Int) < (((isq n.toNat + 1) * (isq n.toNat + 1) : Nat) : Int) := by exact_mod_cast this.2
    push_cast at h1
    omega

theorem sq_le {a b : Int} (ha : 0 ≤ a) (h : a ≤ b) : a * a ≤ b * b := Int.mul_le_mul h h ha (by omega)
theorem root_unique {n r : Int} (hn : 0 ≤ n) (h0 : 0 ≤ r) (h1 : r * r ≤ n) (h2 : n < (r + 1) * (r + 1)) : r = root n := by
  obtain ⟨a, b, c⟩ := root_ok hn
  rcases Int.lt_trichotomy r (root n) with h | h | h
  · have := sq_le (a := r + 1) (b := root n) (by omega) (by omega); omega
  · exact h
  · have := sq_le (a := root n + 1) (b := r) (by omega) (by omega); omega

theorem newton {n r : Int} (hn : 0 ≤ n) (hr : 1 ≤ r) : n < ((r + n / r) / 2 + 1) * ((r + n / r) / 2 + 1) := by
  have h1 : n < r * (n / r + 1) := by
    have := Int.lt_mul_ediv_self_add (x := n) (show 0 < r by omega)
    rw [Int.mul_add, Int.mul_one]; exact this
  have hq : 0 ≤ n / r := Int.ediv_nonneg hn (by omega)
  generalize n / r = q at *
  generalize hm : (r + q) / 2 + 1 = m
  have h2 : r + (q + 1) ≤ 2 * m := by omega
  have hs0 : 0 ≤ q + 1 := by omega
  generalize q + 1 = s at *
  have h3 : (r + s) * (r + s) ≤ (2 * m) * (2 * m) := sq_le (by omega) h2
  have h4 : 0 ≤ (r - s) * (r - s) := by
    rcases Int.le_total 0 (r - s) with h | h
    · exact Int.mul_nonneg h h
    · exact Int.mul_nonneg_of_nonpos_of_nonpos h h
  have e1 : (r + s) * (r + s) = r * r + 2 * (r * s) + s * s := by
    rw [Int.add_mul, Int.mul_add, Int.mul_add, Int.mul_comm s r]; omega
  have e2 : (r - s) * (r - s) = r * r - 2 * (r * s) + s * s := by
    rw [Int.sub_mul, Int.mul_sub, Int.mul_sub, Int.mul_comm s r]; omega
  have e3 : (2 * m) * (2 * m) = 4 * (m * m) := by
    rw [Int.mul_assoc, Int.mul_left_comm m 2 m]; omega
  omega

theorem len_ok (x : Int) (h0 : 0 ≤ x) (h1 : x ≤ 1152921504606846976) : ∃ m : Nat, m ≤ 64 ∧ x < 2 ^ m ∧ Ans Tryd.prog n_bits_Len [.int .u64 x] [] (.int .i64 m) [] := by
  obtain ⟨m, h2, h3, h4⟩ := len64_ok x h0 h1
  refine ⟨m, h2, h3, spec_run e_bits_Len fun G => ?_⟩
  simp only [go_sem]
  refine callP h4 ⟨.int _ _, trivial⟩ (.int _ _) (by simp) (by simp) ?_
  simp only [go_sem]

theorem rootDown_ok (n : Int) (h0 : 0 ≤ n) (h1 : n ≤ 1152921504606846976) : Ans Tryd.prog n_curve_rootDown [.int .i64 n] [] (.int .i64 (root n)) [] := by
  obtain ⟨m, hm1, hm2, hm3⟩ := len_ok n h0 h1
  have key : ∀ (k : Nat) (r : Int), r.toNat = k → 1 ≤ r → r ≤ 4294967296 → 1 ≤ n → n < (r + 1) * (r + 1) → ∀ G,
      Sx.Loop Tryd.prog G 0 none k_curve_rootDown_r8 [.blk 0] ⟨[.int .i64 n, .any, .int .i64 0, .int .i64 r] ++ List.replicate 20 .any, [], []⟩ (RetPost [ARes.tmp 2] fun v H' => v = .int .i64 (root n)) := by
    intro k
    induction k using Nat.strongRecOn with
    | ind k ih =>
      intro r hk hr hr2 hn1 hn G
      have hq0 : 0 ≤ n / r := Int.ediv_nonneg h0 (by omega)
      have hq1 : n / r ≤ n := Int.ediv_le_self _ h0
      have e1 : n.tdiv r = n / r := Int.tdiv_eq_ediv_of_nonneg h0
      have e2 : IntKind.i64.wrap (n / r) = n / r := IntWalk.i64_in _ (by omega)
      have e3 : IntKind.i64.wrap (r + n / r) = r + n / r := IntWalk.i64_in _ (by omega)
      have e4 : (r + n / r).tdiv 2 = (r + n / r) / 2 := Int.tdiv_eq_ediv_of_nonneg (by omega)
      have e5 : IntKind.i64.wrap ((r + n / r) / 2) = (r + n / r) / 2 := IntWalk.i64_in _ (by omega)
      refine loop_body 200 k_curve_rootDown_r8.eq_1 ?_
      simp only [go_sem, e1, e2, e3, e4, e5]
      refine ⟨by omega, fun h => root_unique h0 (by omega) ?_ hn, fun h => ?_⟩
      · have h2 : r ≤ n / r := by omega
        have h3 : r * r ≤ r * (n / r) := Int.mul_le_mul_of_nonneg_left h2 (by omega)
        have h4 := Int.mul_ediv_self_le (x := n) (k := r) (by omega)
        omega
      · have h2 : 1 ≤ (r + n / r) / 2 := by
          rcases Int.lt_or_le r 2 with h3 | h3
          · obtain rfl : r = 1 := by omega
            rw [Int.ediv_one] at h ⊢
            omega
          · omega
        refine loop_wk ?_ (ih _ ?_ ((r + n / r) / 2) rfl h2 (by omega) hn1 (newton h0 hr) G)
        · simp [Wk]
        · omega
  have f0 : IntKind.u64.wrap n = n := IntWalk.u64_in _ (by omega)
  have f1 : IntKind.i64.wrap ((m : Int) + 1) = (m : Int) + 1 := IntWalk.i64_in _ (by omega)
  have f2 : ((m : Int) + 1).tdiv 2 = ((m : Int) + 1) / 2 := Int.tdiv_eq_ediv_of_nonneg (by omega)
  have f3 : IntKind.i64.wrap (((m : Int) + 1) / 2) = ((m : Int) + 1) / 2 := IntWalk.i64_in _ (by omega)
  have f5 : ¬ ((m : Int) + 1) / 2 < 0 := by omega
  have f6 : (((m : Int) + 1) / 2).toNat = (m + 1) / 2 := by omega
  have f7 : (2 : Nat) ^ ((m + 1) / 2) ≤ 2 ^ 32 := Nat.pow_le_pow_right (by decide) (by omega)
  have f8 : 1 ≤ (2 : Nat) ^ ((m + 1) / 2) := Nat.one_le_two_pow
  have f4 : shlW .i64 1 (((m : Int) + 1) / 2) = ((2 ^ ((m + 1) / 2) : Nat) : Int) := by
    unfold shlW
    have e : min (((m : Int) + 1) / 2).toNat IntKind.i64.bits = (m + 1) / 2 := by
      rw [f6]; exact Nat.min_eq_left (by show _ ≤ 64; omega)
    rw [e, Int.one_mul]
    have e2 : (2 : Int) ^ ((m + 1) / 2) = ((2 ^ ((m + 1) / 2) : Nat) : Int) := by push_cast; rfl
    rw [e2]
    exact IntWalk.i64_in _ (by omega)
  refine spec_run e_curve_rootDown fun G => ?_
  simp only [go_sem]
  refine ⟨fun h => by rw [h]; rfl, fun h => ?_⟩
  simp only [f0]
  refine callP hm3 ⟨.int _ _, trivial⟩ (.int _ _) (by simp) (by simp) ?_
  simp only [go_sem, f1, f2, f3, f4, f5]
  refine loop_wk ?_ (key _ ((2 ^ ((m + 1) / 2) : Nat) : Int) rfl (by omega) (by omega) (by omega) ?_ G)
  · simp [Wk]
  · have h2 : (2 : Nat) ^ m ≤ 2 ^ ((m + 1) / 2) * 2 ^ ((m + 1) / 2) := by
      rw [← Nat.pow_add]; exact Nat.pow_le_pow_right (by decide) (by omega)
    have h3 : ((2 ^ m : Nat) : Int) ≤ ((2 ^ ((m + 1) / 2) * 2 ^ ((m + 1) / 2) : Nat) : Int) := by exact_mod_cast h2
    have h4 : n < ((2 ^ m : Nat) : Int) := by push_cast; exact hm2
    generalize (2 : Nat) ^ ((m + 1) / 2) = z at *
    push_cast at h3
    rw [Int.add_mul, Int.mul_add]
    omega

def rootU (n : Int) : Int := if root n * root n < n then root n + 1 else root n

theorem root_le {n : Int} (h0 : 0 ≤ n) (h1 : n ≤ 1152921504606846976) : root n ≤ 1073741824 := by
  obtain ⟨a, b, c⟩ := root_ok h0
  refine Int.not_lt.1 fun h => ?_
  have := sq_le (a := 1073741825) (b := root n) (by decide) (by omega)
  omega

theorem rootUp_ok (n : Int) (h0 : 0 ≤ n) (h1 : n ≤ 1152921504606846976) : Ans Tryd.prog n_curve_rootUp [.int .i64 n] [] (.int .i64 (rootU n)) [] := by
  have h2 := root_le h0 h1
  obtain ⟨a, b, c⟩ := root_ok h0
  have e1 : IntKind.i64.wrap (root n * root n) = root n * root n := IntWalk.i64_in _ (by have := Int.mul_nonneg a a; omega)
  have e2 : IntKind.i64.wrap (root n + 1) = root n + 1 := IntWalk.i64_in _ (by omega)
  refine spec_run e_curve_rootUp fun G => ?_
  simp only [go_sem]
  refine callP (rootDown_ok n h0 h1) ⟨.int _ _, trivial⟩ (.int _ _) (by simp) (by simp) ?_
  simp only [go_sem, e1, e2]
  refine ⟨fun h => ?_, fun h => ?_⟩ <;> simp [rootU, h]
end Go.Proofs

namespace Go.Proofs
open Go Go.Sx

def cube (n : Int) : Int := n * n * n
def mn (a b : Int) : Int := if b < a then b else a
def spaceLo (l : Lw) (d : Rg) : Int := l.perv.lo * root (cube d.lo) / 1000000
def spaceHi (l : Lw) (d : Rg) : Int := rup (l.perv.hi * rootU (cube d.hi)) 1000000
def curLo (l : Lw) (d : Rg) : Int := l.part.lo * mn (spaceLo l d) l.full.lo / 1000000
def curHi (l : Lw) (d : Rg) : Int := rup (l.part.hi * mn (spaceHi l d) l.full.hi) 1000000
def curOf (l : Lw) (g p : Int) : Rg := ⟨curLo l (driveOf l g p), curHi l (driveOf l g p)⟩

theorem bnd_in (n : Int) : 0 ≤ bnd n ∧ bnd n ≤ 1000000 := by unfold bnd; (repeat' split) <;> omega

theorem cube_in {n : Int} (h0 : 0 ≤ n) (h1 : n ≤ 1000000) : 0 ≤ n * n ∧ n * n ≤ 1000000000000 ∧ 0 ≤ cube n ∧ cube n ≤ 1000000000000000000 := by
  have a := Int.mul_nonneg h0 h0
  have b := Int.mul_le_mul h1 h1 h0 (by decide)
  have c := Int.mul_nonneg a h0
  have d := Int.mul_le_mul b h1 h0 (by decide)
  unfold cube; omega

theorem mul_in {a b A B : Int} (h1 : 0 ≤ a ∧ a ≤ A) (h2 : 0 ≤ b ∧ b ≤ B) : 0 ≤ a * b ∧ a * b ≤ A * B :=
  ⟨Int.mul_nonneg h1.1 h2.1, Int.mul_le_mul h1.2 h2.2 h2.1 (by omega)⟩

theorem rup_in {n b : Int} (h0 : 0 ≤ n) (h1 : 1 ≤ b) : 0 ≤ rup n b ∧ rup n b ≤ n + b - 1 := ⟨Int.ediv_nonneg (by omega) (by omega), Int.ediv_le_self _ (by omega)⟩

theorem mn_in {a b : Int} (h0 : 0 ≤ a) (h1 : 0 ≤ b) : 0 ≤ mn a b ∧ mn a b ≤ b := by unfold mn; split <;> omega

theorem current_ok (l : Lw) (h : LwOK l) (g p : Int) (h1 : -1000000 ≤ g ∧ g ≤ 1000000) (h2 : 0 ≤ p ∧ p ≤ 1000000) : Ans Tryd.prog n_curve_current [l.v, .int .i64 g, .int .i64 p] [] (curOf l g p).v [] := by
  have hd := drive_ok l h g p h1 h2
  have hlo := bnd_in (g + l.shift.lo + (1000 * p) / l.gain.hi)
  have hhi := bnd_in (g + l.shift.hi + rup (1000 * p) l.gain.lo)
  rw [show bnd (g + l.shift.lo + (1000 * p) / l.gain.hi) = (driveOf l g p).lo from rfl] at hlo
  rw [show bnd (g + l.shift.hi + rup (1000 * p) l.gain.lo) = (driveOf l g p).hi from rfl] at hhi
  unfold curOf
  generalize driveOf l g p = d at *
  obtain ⟨⟨a1, a2, a3⟩, _, _, ⟨d1, d2, d3⟩, ⟨e1, e2, e3⟩⟩ := h
  obtain ⟨c1, c2, c3, c4⟩ := cube_in hlo.1 hlo.2
  obtain ⟨c5, c6, c7, c8⟩ := cube_in hhi.1 hhi.2
  obtain ⟨r1, _, _⟩ := root_ok c3
  have r2 := root_le c3 (by omega)
  obtain ⟨r3, _, _⟩ := root_ok c7
  have r4 := root_le c7 (by omega)
  have r5 : 0 ≤ rootU (cube d.hi) ∧ rootU (cube d.hi) ≤ 1073741825 := by unfold rootU; split <;> omega
  have p1 := mul_in (a := l.perv.lo) (A := 1000000) ⟨a1, by omega⟩ ⟨r1, r2⟩
  have p2 := mul_in (a := l.perv.hi) (A := 1000000) ⟨by omega, by omega⟩ r5
  have s1 : 0 ≤ spaceLo l d ∧ spaceLo l d ≤ l.perv.lo * root (cube d.lo) := ⟨Int.ediv_nonneg p1.1 (by decide), Int.ediv_le_self _ p1.1⟩
  have s2 : 0 ≤ spaceHi l d ∧ _ := rup_in p2.1 (by decide)
  have m1 := mn_in s1.1 d1
  have m2 := mn_in s2.1 (show 0 ≤ l.full.hi by omega)
  have p3 := mul_in (a := l.part.lo) (A := 1000000) (B := 1000000) ⟨e1, by omega⟩ ⟨m1.1, by omega⟩
  have p4 := mul_in (a := l.part.hi) (A := 1000000) (B := 1000000) ⟨by omega, by omega⟩ ⟨m2.1, by omega⟩
  have t1 : 0 ≤ curLo l d ∧ curLo l d ≤ l.part.lo * mn (spaceLo l d) l.full.lo := ⟨Int.ediv_nonneg p3.1 (by decide), Int.ediv_le_self _ p3.1⟩
  have w1 : IntKind.i64.wrap (d.lo * d.lo) = d.lo * d.lo := IntWalk.i64_in _ (by omega)
  have w2 : IntKind.i64.wrap (d.lo * d.lo * d.lo) = cube d.lo := IntWalk.i64_in (cube d.lo) (by omega)
  have w3 : IntKind.i64.wrap (d.hi * d.hi) = d.hi * d.hi := IntWalk.i64_in _ (by omega)
  have w4 : IntKind.i64.wrap (d.hi * d.hi * d.hi) = cube d.hi := IntWalk.i64_in (cube d.hi) (by omega)
  have w5 : IntKind.i64.wrap (l.perv.lo * root (cube d.lo)) = l.perv.lo * root (cube d.lo) := IntWalk.i64_in _ (by omega)
  have w6 : (l.perv.lo * root (cube d.lo)).tdiv 1000000 = spaceLo l d := Int.tdiv_eq_ediv_of_nonneg p1.1
  have w7 : IntKind.i64.wrap (spaceLo l d) = spaceLo l d := IntWalk.i64_in _ (by omega)
  have w8 : IntKind.i64.wrap (l.perv.hi * rootU (cube d.hi)) = l.perv.hi * rootU (cube d.hi) := IntWalk.i64_in _ (by omega)
  have n1 : (if l.full.lo < spaceLo l d then l.full.lo else spaceLo l d) = mn (spaceLo l d) l.full.lo := rfl
  have n2 : (if l.full.hi < spaceHi l d then l.full.hi else spaceHi l d) = mn (spaceHi l d) l.full.hi := rfl
  have w9 : IntKind.i64.wrap (l.part.lo * mn (spaceLo l d) l.full.lo) = l.part.lo * mn (spaceLo l d) l.full.lo := IntWalk.i64_in _ (by omega)
  have w10 : (l.part.lo * mn (spaceLo l d) l.full.lo).tdiv 1000000 = curLo l d := Int.tdiv_eq_ediv_of_nonneg p3.1
  have w11 : IntKind.i64.wrap (curLo l d) = curLo l d := IntWalk.i64_in _ (by omega)
  have w12 : IntKind.i64.wrap (l.part.hi * mn (spaceHi l d) l.full.hi) = l.part.hi * mn (spaceHi l d) l.full.hi := IntWalk.i64_in _ (by omega)
  have z1 : rup (l.perv.hi * rootU (cube d.hi)) 1000000 = spaceHi l d := rfl
  have z2 : rup (l.part.hi * mn (spaceHi l d) l.full.hi) 1000000 = curHi l d := rfl
  refine spec_run e_curve_current fun G => ?_
  simp only [go_sem, Lw.v, Lw.cs]
  refine callP hd ⟨lw_bel _ _, .int _ _, .int _ _, trivial⟩ (rg_bel _ _) (by simp) (by simp) ?_
  simp only [go_sem, Rg.v, w1, w2]
  refine dcallP (rootDown_ok _ c3 (by omega)) ⟨.int _ _, trivial⟩ (.int _ _) (by simp only [go_sem]) ?_
  simp only [go_sem, w3, w4, w5, w6, w7]
  refine dcallP (rootUp_ok _ c7 (by omega)) ⟨.int _ _, trivial⟩ (.int _ _) (by simp only [go_sem]) ?_
  simp only [go_sem, w8]
  refine dcallP (roundUp_ok _ _ p2.1 (by decide) (by omega) (by decide)) ⟨.int _ _, .int _ _, trivial⟩ (.int _ _) (by simp only [go_sem]) ?_
  simp only [go_sem, z1, n1, n2, w9, w10, w11, w12]
  refine dcallP (roundUp_ok _ _ p4.1 (by decide) (by omega) (by decide)) ⟨.int _ _, .int _ _, trivial⟩ (.int _ _) (by simp only [go_sem]) ?_
  simp only [go_sem, z2]

def exact (q : Int) : Lw := ⟨⟨q, q⟩, ⟨1000, 1000⟩, ⟨0, 0⟩, ⟨1000000, 1000000⟩, ⟨1000000, 1000000⟩⟩
end Go.Proofs

namespace Go.Proofs
open Go Go.Sx

theorem rootU_ok {n : Int} (h : 0 ≤ n) : root n ≤ rootU n ∧ rootU n ≤ root n + 1 ∧ n ≤ rootU n * rootU n := by
  obtain ⟨h0, h1, h2⟩ := root_ok h
  unfold rootU
  split
  · exact ⟨by omega, by omega, by omega⟩
  · exact ⟨by omega, by omega, by omega⟩


theorem cube_le {a b : Int} (h0 : 0 ≤ a) (h : a ≤ b) : cube a ≤ cube b := by
  have h1 := sq_le h0 h
  exact Int.mul_le_mul h1 h h0 (Int.mul_nonneg (by omega) (by omega))
theorem cube_nonneg {a : Int} (h0 : 0 ≤ a) : 0 ≤ cube a := Int.mul_nonneg (Int.mul_nonneg h0 h0) h0

theorem root_mono {n m : Int} (h0 : 0 ≤ n) (h : n ≤ m) : root n ≤ root m := by
  obtain ⟨a0, a1, a2⟩ := root_ok h0
  obtain ⟨b0, b1, b2⟩ := root_ok (Int.le_trans h0 h)
  by_cases hr : root n ≤ root m
  · exact hr
  · exfalso
    have := sq_le (a := root m + 1) (b := root n) (by omega) (by omega)
    omega

theorem rootU_mono {n m : Int} (h0 : 0 ≤ n) (h : n ≤ m) : rootU n ≤ rootU m := by
  obtain ⟨a0, a1, a2⟩ := root_ok h0
  obtain ⟨u0, u1, u2⟩ := rootU_ok (Int.le_trans h0 h)
  obtain ⟨b0, b1, b2⟩ := root_ok (Int.le_trans h0 h)
  by_cases hr : rootU n ≤ rootU m
  · exact hr
  · exfalso
    have hm0 : 0 ≤ rootU m := by omega
    unfold rootU at hr
    split at hr
    · have := sq_le (a := rootU m) (b := root n) hm0 (by unfold rootU; omega)
      omega
    · have hlt : rootU m + 1 ≤ root n := by unfold rootU; omega
      have h3 := sq_le (a := rootU m + 1) (b := root n) (by omega) hlt
      have h4 : (rootU m + 1) * (rootU m + 1) = rootU m * rootU m + 2 * rootU m + 1 := by
        rw [Int.add_mul, Int.mul_add]; omega
      omega

theorem rup_mono {n m b : Int} (h : n ≤ m) (hb : 1 ≤ b) : rup n b ≤ rup m b := Int.ediv_le_ediv (by omega) (by omega)
theorem bnd_mono {a b : Int} (h : a ≤ b) : bnd a ≤ bnd b := by unfold bnd; (repeat' split) <;> omega

theorem le_rup {n b : Int} (hb : 1 ≤ b) : n / b ≤ rup n b := Int.ediv_le_ediv (by omega) (by omega)

theorem drive_le {l : Lw} (h : LwOK l) {g p : Int} (hp : 0 ≤ p) : (driveOf l g p).lo ≤ (driveOf l g p).hi := by
  have h1 : 1000 * p / l.gain.hi ≤ 1000 * p / l.gain.lo := by
    have hg := h.gain
    rw [Int.le_ediv_iff_mul_le (by omega)]
    have h2 : 1000 * p / l.gain.hi * l.gain.lo ≤ 1000 * p / l.gain.hi * l.gain.hi := Int.mul_le_mul_of_nonneg_left hg.2.1 (Int.ediv_nonneg (by omega) (by omega))
    have h3 := Int.ediv_mul_le (1000 * p) (b := l.gain.hi) (by omega)
    omega
  have h4 := le_rup (n := 1000 * p) h.gain.1
  exact bnd_mono (by have := h.shift; omega)

theorem cur_le {l : Lw} (h : LwOK l) {d : Rg} (h0 : 0 ≤ d.lo) (hd : d.lo ≤ d.hi) : curLo l d ≤ curHi l d := by
  obtain ⟨r0, _, _⟩ := root_ok (cube_nonneg h0)
  obtain ⟨u0, _, _⟩ := rootU_ok (cube_nonneg (Int.le_trans h0 hd))
  obtain ⟨p1, p2, p3⟩ := h.perv
  obtain ⟨q1, q2, q3⟩ := h.part
  obtain ⟨f1, f2, f3⟩ := h.full
  have hr := root_mono (cube_nonneg h0) (cube_le h0 hd)
  have e1 : l.perv.lo * root (cube d.lo) ≤ l.perv.hi * rootU (cube d.hi) := Int.mul_le_mul p2 (by omega) r0 (by omega)
  have e2 : spaceLo l d ≤ spaceHi l d := Int.le_trans (Int.ediv_le_ediv (by decide) e1) (le_rup (by decide))
  have e0 : 0 ≤ spaceLo l d := Int.ediv_nonneg (Int.mul_nonneg p1 r0) (by decide)
  have e3 : mn (spaceLo l d) l.full.lo ≤ mn (spaceHi l d) l.full.hi := by unfold mn; split <;> split <;> omega
  have e4 : 0 ≤ mn (spaceLo l d) l.full.lo := by unfold mn; split <;> omega
  have e5 : l.part.lo * mn (spaceLo l d) l.full.lo ≤ l.part.hi * mn (spaceHi l d) l.full.hi := Int.mul_le_mul q2 e3 e4 (by omega)
  exact Int.le_trans (Int.ediv_le_ediv (by decide) e5) (le_rup (by decide))

end Go.Proofs

namespace Go.Proofs
open Go Go.Sx

def k_kit_ReadsOf_r0 : List AOper := [
  ⟨some 3, .box (.tmp 1), none, []⟩,
 ⟨some 4, .move (.const (.nilsl)), none, []⟩]
def k_kit_ReadsOf_r1 : List AOper := [
  ⟨some 5, .move (.const (.nilsl)), none, []⟩]
def k_kit_ReadsOf_r2 : List AOper := [
  ⟨some 10, .move (.tmp 0), none, []⟩,
 ⟨some 11, .call (.const (.fn (.func 23) [] [])) [.tmp 10, .const (.int .i64 5)], none, []⟩,
 ⟨some 6, .move (.tmp 11), none, []⟩]
def k_kit_ReadsOf_r3 : List AOper := [
  ⟨some 12, .move (.tmp 6), none, []⟩,
 ⟨some 13, .bin .plain .gtr (.tmp 12) (.const (.int .i64 0)), none, []⟩]
def k_kit_ReadsOf_r4 : List AOper := [
  ⟨some 16, .move (.tmp 0), none, []⟩,
 ⟨some 17, .call (.const (.fn (.func 22) [] [])) [.tmp 16, .const (.int .i64 (-6000)), .const (.int .i64 3000)], none, []⟩,
 ⟨some 18, .move (.tmp 0), none, []⟩,
 ⟨some 19, .call (.const (.fn (.func 22) [] [])) [.tmp 18, .const (.int .i64 0), .const (.int .i64 300000)], none, []⟩,
 ⟨some 20, .build [.int .i64 0, .int .i64 0, .int .i64 0, .int .i64 0] [(0, 1, .tmp 17), (1, 1, .tmp 19)], none, []⟩,
 ⟨some 7, .box (.const (.agg [.int .i64 0, .int .i64 0, .int .i64 0, .int .i64 0])), none, []⟩,
 ⟨none, .store 4 (.tmp 7) (.tmp 20), none, []⟩]
def k_kit_ReadsOf_r5 : List AOper := [
  ⟨some 22, .load (some (10)) (.tmp 3), none, []⟩,
 ⟨some 23, .fieldAddr 0 (.tmp 7), none, []⟩,
 ⟨some 24, .load none (.tmp 23), none, []⟩,
 ⟨some 25, .fieldAddr 1 (.tmp 7), none, []⟩,
 ⟨some 26, .load none (.tmp 25), none, []⟩,
 ⟨some 27, .call (.const (.fn (.func 24) [] [])) [.tmp 22, .tmp 24, .tmp 26], none, []⟩,
 ⟨some 21, .move (.tmp 27), none, []⟩,
 ⟨some 28, .extract (.tmp 21) 0, none, []⟩,
 ⟨some 29, .extract (.tmp 21) 1, none, []⟩,
 ⟨some 8, .box (.const (.agg [.int .i64 0, .int .i64 0])), none, []⟩,
 ⟨none, .store 2 (.tmp 8) (.tmp 28), none, []⟩,
 ⟨some 9, .move (.tmp 29), none, []⟩]
def k_kit_ReadsOf_r6 : List AOper := [
  ⟨some 30, .fieldAddr 0 (.tmp 8), none, []⟩,
 ⟨some 31, .load none (.tmp 30), none, []⟩,
 ⟨some 32, .move (.tmp 0), none, [0, 1]⟩,
 ⟨some 33, .call (.const (.fn (.func 23) [] [])) [.tmp 32, .const (.int .i64 20)], none, [0, 1]⟩,
 ⟨some 34, .bin .plain .sub (.tmp 31) (.tmp 33), none, []⟩,
 ⟨some 35, .fieldAddr 0 (.tmp 8), none, [0, 1, 2, 3, 4]⟩,
 ⟨some 36, .load none (.tmp 35), none, [0, 1, 2, 3, 4]⟩,
 ⟨some 37, .move (.tmp 0), none, [0, 1, 2, 3, 4, 5, 6]⟩,
 ⟨some 38, .call (.const (.fn (.func 23) [] [])) [.tmp 37, .const (.int .i64 20)], none, [0, 1, 4, 5, 6]⟩,
 ⟨some 39, .bin .plain .add (.tmp 36) (.tmp 38), none, [0, 1, 4]⟩,
 ⟨some 40, .build [.int .i64 0, .int .i64 0] [(0, 1, .tmp 34), (1, 1, .tmp 39)], none, []⟩,
 ⟨some 41, .fieldAddr 2 (.tmp 7), none, []⟩,
 ⟨none, .store 2 (.tmp 41) (.tmp 40), none, []⟩]
def k_kit_ReadsOf_r6s : List (List AOper) := [
  [
  ⟨some 30, .fieldAddr 0 (.tmp 8), none, []⟩,
 ⟨some 31, .load none (.tmp 30), none, []⟩,
 ⟨some 32, .move (.tmp 0), none, [0, 1]⟩,
 ⟨some 33, .call (.const (.fn (.func 23) [] [])) [.tmp 32, .const (.int .i64 20)], none, [0, 1]⟩,
 ⟨some 34, .bin .plain .sub (.tmp 31) (.tmp 33), none, []⟩,
 ⟨some 35, .fieldAddr 0 (.tmp 8), none, [0, 1, 2, 3, 4]⟩,
 ⟨some 36, .load none (.tmp 35), none, [0, 1, 2, 3, 4]⟩,
 ⟨some 37, .move (.tmp 0), none, [0, 1, 2, 3, 4, 5, 6]⟩,
 ⟨some 38, .call (.const (.fn (.func 23) [] [])) [.tmp 37, .const (.int .i64 20)], none, [0, 1, 4, 5, 6]⟩,
 ⟨some 39, .bin .plain .add (.tmp 36) (.tmp 38), none, [0, 1, 4]⟩], 
  [
  ⟨some 40, .build [.int .i64 0, .int .i64 0] [(0, 1, .tmp 34), (1, 1, .tmp 39)], none, []⟩], 
  [
  ⟨some 41, .fieldAddr 2 (.tmp 7), none, []⟩], 
  [
  ⟨none, .store 2 (.tmp 41) (.tmp 40), none, []⟩]]
theorem k_kit_ReadsOf_r6_sg : segs k_kit_ReadsOf_r6 = k_kit_ReadsOf_r6s := by kernel_rfl
theorem k_kit_ReadsOf_r6_st : statOK k_kit_ReadsOf_r6 = true := by kernel_rfl
def k_kit_ReadsOf_r7 : List AOper := [
  ⟨some 42, .move (.tmp 5), none, []⟩,
 ⟨some 43, .load (some (4)) (.tmp 7), none, []⟩,
 ⟨some 44, .buildSlice 4 [.tmp 43], none, []⟩,
 ⟨some 45, .append 4 32 true (.tmp 42) (.tmp 44), none, []⟩,
 ⟨some 5, .move (.tmp 45), none, []⟩]
def k_kit_ReadsOf_r8 : List AOper := [
  ⟨some 14, .move (.tmp 6), none, []⟩,
 ⟨some 15, .bin .plain .sub (.tmp 14) (.const (.int .i64 1)), none, []⟩,
 ⟨some 6, .move (.tmp 15), none, []⟩]
def k_kit_ReadsOf_r9 : ACode := (.seq (.seq (.reg k_kit_ReadsOf_r3 false) (.cond (.tmp 13) .skip (.exit 0))) (.seq (.block 1 (.seq (.reg k_kit_ReadsOf_r4 false) (.seq (.reg k_kit_ReadsOf_r5 false) (.seq (.reg k_kit_ReadsOf_r6 true) (.reg k_kit_ReadsOf_r7 false))))) (.reg k_kit_ReadsOf_r8 false)))
def k_kit_ReadsOf_r10 : List AOper := [
  ⟨some 46, .move (.tmp 5), none, []⟩,
 ⟨some 4, .move (.tmp 46), none, []⟩]
def k_kit_ReadsOf : AFun := { params := 2, ntmps := 47, body := (.seq (.reg k_kit_ReadsOf_r0 false) (.seq (.reg k_kit_ReadsOf_r1 false) (.seq (.seq (.reg k_kit_ReadsOf_r2 false) (.block 0 (.loop k_kit_ReadsOf_r9))) (.seq (.reg k_kit_ReadsOf_r10 false) .ret)))), res := [.tmp 4] }
theorem k_kit_ReadsOf_ok : cfun Tryd.prog Tryd.f8 = k_kit_ReadsOf := by kernel_rfl

def k_ref02_Current_r0 : List AOper := [
  ⟨some 3, .box (.tmp 0), none, []⟩,
 ⟨some 6, .box (.const (.agg [.int .i64 0, .int .i64 0])), none, []⟩,
 ⟨some 7, .move (.const (.int .i64 0)), none, []⟩]
def k_ref02_Current_r1 : List AOper := [
  ⟨some 9, .load (some (10)) (.tmp 3), none, []⟩,
 ⟨some 10, .call (.const (.fn (.func 30) [] [])) [.tmp 9], none, []⟩,
 ⟨some 8, .move (.tmp 10), none, []⟩]
def k_ref02_Current_r2 : List AOper := [
  ⟨some 11, .move (.tmp 8), none, []⟩,
 ⟨some 12, .bin .plain .neq (.tmp 11) (.const (.int .i64 0)), none, []⟩]
def k_ref02_Current_r3 : List AOper := [
  ⟨some 13, .build [.int .i64 0, .int .i64 0] [], none, []⟩,
 ⟨some 14, .move (.tmp 8), none, []⟩,
 ⟨none, .store 2 (.tmp 6) (.tmp 13), none, []⟩,
 ⟨some 7, .move (.tmp 14), none, []⟩]
def k_ref02_Current_r4 : List AOper := [
  ⟨some 15, .move (.tmp 1), none, []⟩,
 ⟨some 16, .move (.tmp 2), none, []⟩,
 ⟨some 17, .call (.const (.fn (.func 31) [] [])) [.tmp 15, .tmp 16], none, []⟩,
 ⟨some 18, .not (.tmp 17), none, []⟩]
def k_ref02_Current_r5 : List AOper := [
  ⟨some 19, .build [.int .i64 0, .int .i64 0] [], none, []⟩,
 ⟨none, .store 2 (.tmp 6) (.tmp 19), none, []⟩,
 ⟨some 7, .move (.const (.int .i64 2)), none, []⟩]
def k_ref02_Current_r6 : List AOper := [
  ⟨some 20, .load (some (10)) (.tmp 3), none, []⟩,
 ⟨some 21, .move (.tmp 1), none, []⟩,
 ⟨some 22, .move (.tmp 2), none, []⟩,
 ⟨some 23, .call (.const (.fn (.func 46) [] [])) [.tmp 20, .tmp 21, .tmp 22], none, []⟩,
 ⟨none, .store 2 (.tmp 6) (.tmp 23), none, []⟩,
 ⟨some 7, .move (.const (.int .i64 0)), none, []⟩]
def k_ref02_Current : AFun := { params := 3, ntmps := 24, body := (.seq (.reg k_ref02_Current_r0 false) (.seq (.seq (.reg k_ref02_Current_r1 false) (.seq (.reg k_ref02_Current_r2 false) (.cond (.tmp 12) (.seq (.reg k_ref02_Current_r3 false) .ret) .skip))) (.seq (.seq (.reg k_ref02_Current_r4 false) (.cond (.tmp 18) (.seq (.reg k_ref02_Current_r5 false) .ret) .skip)) (.seq (.reg k_ref02_Current_r6 false) .ret)))), res := [.cell 6 (some ((some (2)))), .tmp 7] }
theorem k_ref02_Current_ok : cfun Tryd.prog Tryd.f24 = k_ref02_Current := by kernel_rfl

def k_ref02_CheckLaw_r0 : List AOper := [
  ⟨some 1, .box (.tmp 0), none, []⟩,
 ⟨some 2, .move (.const (.int .i64 0)), none, []⟩]
def k_ref02_CheckLaw_r1 : List AOper := [
  ⟨some 8, .fieldAddr 0 (.tmp 1), none, []⟩,
 ⟨some 9, .load (some (2)) (.tmp 8), none, []⟩,
 ⟨some 10, .fieldAddr 2 (.tmp 1), none, []⟩,
 ⟨some 11, .load (some (2)) (.tmp 10), none, []⟩,
 ⟨some 12, .fieldAddr 4 (.tmp 1), none, []⟩,
 ⟨some 13, .load (some (2)) (.tmp 12), none, []⟩,
 ⟨some 14, .fieldAddr 6 (.tmp 1), none, []⟩,
 ⟨some 15, .load (some (2)) (.tmp 14), none, []⟩,
 ⟨some 16, .fieldAddr 8 (.tmp 1), none, []⟩,
 ⟨some 17, .load (some (2)) (.tmp 16), none, []⟩,
 ⟨some 18, .buildSlice 2 [.tmp 9, .tmp 11, .tmp 13, .tmp 15, .tmp 17], none, []⟩,
 ⟨some 3, .move (.tmp 18), none, []⟩]
def k_ref02_CheckLaw_r2 : List AOper := [
  ⟨some 19, .buildSlice 1 [.const (.int .i64 0), .const (.int .i64 1), .const (.int .i64 (-1000000)), .const (.int .i64 0), .const (.int .i64 0)], none, []⟩,
 ⟨some 4, .move (.tmp 19), none, []⟩]
def k_ref02_CheckLaw_r3 : List AOper := [
  ⟨some 20, .buildSlice 1 [.const (.int .i64 1000000), .const (.int .i64 1000000), .const (.int .i64 1000000), .const (.int .i64 1000000), .const (.int .i64 1000000)], none, []⟩,
 ⟨some 5, .move (.tmp 20), none, []⟩]
def k_ref02_CheckLaw_r4 : List AOper := [
  ⟨some 6, .move (.const (.int .i64 0)), none, []⟩]
def k_ref02_CheckLaw_r5 : List AOper := [
  ⟨some 21, .move (.tmp 6), none, []⟩,
 ⟨some 22, .move (.tmp 3), none, []⟩,
 ⟨some 23, .len false (.tmp 22), none, []⟩,
 ⟨some 24, .bin .plain .lss (.tmp 21) (.tmp 23), none, []⟩]
def k_ref02_CheckLaw_r6 : List AOper := [
  ⟨some 27, .move (.tmp 3), none, []⟩,
 ⟨some 28, .move (.tmp 6), none, [0]⟩,
 ⟨some 29, .indexAddr 2 (.tmp 27) (.tmp 28), none, []⟩,
 ⟨some 30, .load (some (2)) (.tmp 29), none, []⟩,
 ⟨some 31, .move (.tmp 4), none, [0, 1, 2, 3]⟩,
 ⟨some 32, .move (.tmp 6), none, [0, 1, 2, 3, 4]⟩,
 ⟨some 33, .indexAddr 1 (.tmp 31) (.tmp 32), none, [0, 1, 2, 3]⟩,
 ⟨some 34, .load none (.tmp 33), none, [0, 1, 2, 3]⟩,
 ⟨some 35, .move (.tmp 5), none, [0, 1, 2, 3, 4, 5, 6, 7]⟩,
 ⟨some 36, .move (.tmp 6), none, [0, 1, 2, 3, 4, 5, 6, 7, 8]⟩,
 ⟨some 37, .indexAddr 1 (.tmp 35) (.tmp 36), none, [0, 1, 2, 3, 4, 5, 6, 7]⟩,
 ⟨some 38, .load none (.tmp 37), none, [0, 1, 2, 3, 4, 5, 6, 7]⟩,
 ⟨some 39, .call (.const (.fn (.func 51) [] [])) [.tmp 30, .tmp 34, .tmp 38], none, []⟩,
 ⟨some 7, .move (.tmp 39), none, []⟩]
def k_ref02_CheckLaw_r6s : List (List AOper) := [
  [
  ⟨some 27, .move (.tmp 3), none, []⟩,
 ⟨some 28, .move (.tmp 6), none, [0]⟩,
 ⟨some 29, .indexAddr 2 (.tmp 27) (.tmp 28), none, []⟩,
 ⟨some 30, .load (some (2)) (.tmp 29), none, []⟩,
 ⟨some 31, .move (.tmp 4), none, [0, 1, 2, 3]⟩,
 ⟨some 32, .move (.tmp 6), none, [0, 1, 2, 3, 4]⟩,
 ⟨some 33, .indexAddr 1 (.tmp 31) (.tmp 32), none, [0, 1, 2, 3]⟩,
 ⟨some 34, .load none (.tmp 33), none, [0, 1, 2, 3]⟩,
 ⟨some 35, .move (.tmp 5), none, [0, 1, 2, 3, 4, 5, 6, 7]⟩,
 ⟨some 36, .move (.tmp 6), none, [0, 1, 2, 3, 4, 5, 6, 7, 8]⟩,
 ⟨some 37, .indexAddr 1 (.tmp 35) (.tmp 36), none, [0, 1, 2, 3, 4, 5, 6, 7]⟩,
 ⟨some 38, .load none (.tmp 37), none, [0, 1, 2, 3, 4, 5, 6, 7]⟩], 
  [
  ⟨some 39, .call (.const (.fn (.func 51) [] [])) [.tmp 30, .tmp 34, .tmp 38], none, []⟩], 
  [
  ⟨some 7, .move (.tmp 39), none, []⟩]]
theorem k_ref02_CheckLaw_r6_sg : segs k_ref02_CheckLaw_r6 = k_ref02_CheckLaw_r6s := by kernel_rfl
theorem k_ref02_CheckLaw_r6_st : statOK k_ref02_CheckLaw_r6 = true := by kernel_rfl
def k_ref02_CheckLaw_r7 : List AOper := [
  ⟨some 40, .move (.tmp 7), none, []⟩,
 ⟨some 41, .bin .plain .neq (.tmp 40) (.const (.int .i64 0)), none, []⟩]
def k_ref02_CheckLaw_r8 : List AOper := [
  ⟨some 42, .move (.tmp 7), none, []⟩,
 ⟨some 2, .move (.tmp 42), none, []⟩]
def k_ref02_CheckLaw_r9 : List AOper := [
  ⟨some 25, .move (.tmp 6), none, []⟩,
 ⟨some 26, .bin .plain .add (.tmp 25) (.const (.int .i64 1)), none, []⟩,
 ⟨some 6, .move (.tmp 26), none, []⟩]
def k_ref02_CheckLaw_r10 : ACode := (.seq (.seq (.reg k_ref02_CheckLaw_r5 false) (.cond (.tmp 24) .skip (.exit 0))) (.seq (.block 1 (.seq (.reg k_ref02_CheckLaw_r6 true) (.seq (.reg k_ref02_CheckLaw_r7 false) (.cond (.tmp 41) (.seq (.reg k_ref02_CheckLaw_r8 false) .ret) .skip)))) (.reg k_ref02_CheckLaw_r9 false)))
def k_ref02_CheckLaw_r11 : List AOper := [
  ⟨some 2, .move (.const (.int .i64 0)), none, []⟩]
def k_ref02_CheckLaw : AFun := { params := 1, ntmps := 43, body := (.seq (.reg k_ref02_CheckLaw_r0 false) (.seq (.reg k_ref02_CheckLaw_r1 false) (.seq (.reg k_ref02_CheckLaw_r2 false) (.seq (.reg k_ref02_CheckLaw_r3 false) (.seq (.seq (.reg k_ref02_CheckLaw_r4 false) (.block 0 (.loop k_ref02_CheckLaw_r10))) (.seq (.reg k_ref02_CheckLaw_r11 false) .ret)))))), res := [.tmp 2] }
theorem k_ref02_CheckLaw_ok : cfun Tryd.prog Tryd.f30 = k_ref02_CheckLaw := by kernel_rfl

def k_ref02_right_r0 : List AOper := [
  ⟨some 4, .move (.const (.bool false)), none, []⟩]
def k_ref02_right_r1 : List AOper := [
  ⟨some 5, .move (.tmp 0), none, []⟩,
 ⟨some 6, .bin .plain .geq (.tmp 5) (.const (.int .i64 (-1000000))), none, []⟩,
 ⟨some 7, .move (.tmp 6), none, []⟩,
 ⟨some 8, .move (.tmp 0), (some (7, true)), []⟩,
 ⟨some 9, .bin .plain .leq (.tmp 8) (.const (.int .i64 1000000)), (some (7, true)), []⟩,
 ⟨some 10, .pick (.tmp 7) (.tmp 9) (.const (.bool false)), none, []⟩,
 ⟨some 11, .move (.tmp 10), none, []⟩,
 ⟨some 12, .move (.tmp 1), (some (11, true)), []⟩,
 ⟨some 13, .bin .plain .geq (.tmp 12) (.const (.int .i64 0)), (some (11, true)), []⟩,
 ⟨some 14, .pick (.tmp 11) (.tmp 13) (.const (.bool false)), none, []⟩,
 ⟨some 15, .move (.tmp 14), none, []⟩,
 ⟨some 16, .move (.tmp 1), (some (15, true)), []⟩,
 ⟨some 17, .bin .plain .leq (.tmp 16) (.const (.int .i64 1000000)), (some (15, true)), []⟩,
 ⟨some 18, .pick (.tmp 15) (.tmp 17) (.const (.bool false)), none, []⟩,
 ⟨some 4, .move (.tmp 18), none, []⟩]
def k_ref02_right : AFun := { params := 2, ntmps := 19, body := (.seq (.reg k_ref02_right_r0 false) (.seq (.reg k_ref02_right_r1 false) .ret)), res := [.tmp 4] }
theorem k_ref02_right_ok : cfun Tryd.prog Tryd.f31 = k_ref02_right := by kernel_rfl

def k_ref02_current_r0 : List AOper := [
  ⟨some 3, .box (.tmp 0), none, []⟩,
 ⟨some 6, .box (.const (.agg [.int .i64 0, .int .i64 0])), none, []⟩]
def k_ref02_current_r1 : List AOper := [
  ⟨some 10, .load (some (10)) (.tmp 3), none, []⟩,
 ⟨some 11, .move (.tmp 1), none, []⟩,
 ⟨some 12, .move (.tmp 2), none, []⟩,
 ⟨some 13, .call (.const (.fn (.func 65) [] [])) [.tmp 10, .tmp 11, .tmp 12], none, []⟩,
 ⟨some 7, .box (.const (.agg [.int .i64 0, .int .i64 0])), none, []⟩,
 ⟨none, .store 2 (.tmp 7) (.tmp 13), none, []⟩]
def k_ref02_current_r2 : List AOper := [
  ⟨some 14, .fieldAddr 0 (.tmp 3), none, []⟩,
 ⟨some 15, .fieldAddr 0 (.tmp 14), none, []⟩,
 ⟨some 16, .load none (.tmp 15), none, []⟩,
 ⟨some 17, .fieldAddr 0 (.tmp 7), none, [0, 1, 2]⟩,
 ⟨some 18, .load none (.tmp 17), none, [0, 1, 2]⟩,
 ⟨some 19, .fieldAddr 0 (.tmp 7), none, [0, 1, 2, 3, 4]⟩,
 ⟨some 20, .load none (.tmp 19), none, [0, 1, 2, 3, 4]⟩,
 ⟨some 21, .bin .plain .mul (.tmp 18) (.tmp 20), none, [0, 1, 2]⟩,
 ⟨some 22, .fieldAddr 0 (.tmp 7), none, [0, 1, 2, 3, 4, 5, 6, 7]⟩,
 ⟨some 23, .load none (.tmp 22), none, [0, 1, 2, 3, 4, 5, 6, 7]⟩,
 ⟨some 24, .bin .plain .mul (.tmp 21) (.tmp 23), none, [0, 1, 2]⟩,
 ⟨some 25, .call (.const (.fn (.func 66) [] [])) [.tmp 24], none, [0, 1, 2]⟩,
 ⟨some 26, .bin .plain .mul (.tmp 16) (.tmp 25), none, []⟩,
 ⟨some 27, .call (.const (.fn (.func 53) [] [])) [.tmp 26, .const (.int .i64 1000000)], none, []⟩,
 ⟨some 8, .move (.tmp 27), none, []⟩]
def k_ref02_current_r2s : List (List AOper) := [
  [
  ⟨some 14, .fieldAddr 0 (.tmp 3), none, []⟩,
 ⟨some 15, .fieldAddr 0 (.tmp 14), none, []⟩,
 ⟨some 16, .load none (.tmp 15), none, []⟩,
 ⟨some 17, .fieldAddr 0 (.tmp 7), none, [0, 1, 2]⟩,
 ⟨some 18, .load none (.tmp 17), none, [0, 1, 2]⟩,
 ⟨some 19, .fieldAddr 0 (.tmp 7), none, [0, 1, 2, 3, 4]⟩,
 ⟨some 20, .load none (.tmp 19), none, [0, 1, 2, 3, 4]⟩,
 ⟨some 21, .bin .plain .mul (.tmp 18) (.tmp 20), none, [0, 1, 2]⟩,
 ⟨some 22, .fieldAddr 0 (.tmp 7), none, [0, 1, 2, 3, 4, 5, 6, 7]⟩,
 ⟨some 23, .load none (.tmp 22), none, [0, 1, 2, 3, 4, 5, 6, 7]⟩,
 ⟨some 24, .bin .plain .mul (.tmp 21) (.tmp 23), none, [0, 1, 2]⟩,
 ⟨some 25, .call (.const (.fn (.func 66) [] [])) [.tmp 24], none, [0, 1, 2]⟩], 
  [
  ⟨some 26, .bin .plain .mul (.tmp 16) (.tmp 25), none, []⟩], 
  [
  ⟨some 27, .call (.const (.fn (.func 53) [] [])) [.tmp 26, .const (.int .i64 1000000)], none, []⟩], 
  [
  ⟨some 8, .move (.tmp 27), none, []⟩]]
theorem k_ref02_current_r2_sg : segs k_ref02_current_r2 = k_ref02_current_r2s := by kernel_rfl
theorem k_ref02_current_r2_st : statOK k_ref02_current_r2 = true := by kernel_rfl
def k_ref02_current_r3 : List AOper := [
  ⟨some 28, .fieldAddr 0 (.tmp 3), none, []⟩,
 ⟨some 29, .fieldAddr 1 (.tmp 28), none, []⟩,
 ⟨some 30, .load none (.tmp 29), none, []⟩,
 ⟨some 31, .fieldAddr 1 (.tmp 7), none, [0, 1, 2]⟩,
 ⟨some 32, .load none (.tmp 31), none, [0, 1, 2]⟩,
 ⟨some 33, .fieldAddr 1 (.tmp 7), none, [0, 1, 2, 3, 4]⟩,
 ⟨some 34, .load none (.tmp 33), none, [0, 1, 2, 3, 4]⟩,
 ⟨some 35, .bin .plain .mul (.tmp 32) (.tmp 34), none, [0, 1, 2]⟩,
 ⟨some 36, .fieldAddr 1 (.tmp 7), none, [0, 1, 2, 3, 4, 5, 6, 7]⟩,
 ⟨some 37, .load none (.tmp 36), none, [0, 1, 2, 3, 4, 5, 6, 7]⟩,
 ⟨some 38, .bin .plain .mul (.tmp 35) (.tmp 37), none, [0, 1, 2]⟩,
 ⟨some 39, .call (.const (.fn (.func 67) [] [])) [.tmp 38], none, [0, 1, 2]⟩,
 ⟨some 40, .bin .plain .mul (.tmp 30) (.tmp 39), none, []⟩,
 ⟨some 41, .call (.const (.fn (.func 57) [] [])) [.tmp 40, .const (.int .i64 1000000)], none, []⟩,
 ⟨some 9, .move (.tmp 41), none, []⟩]
def k_ref02_current_r3s : List (List AOper) := [
  [
  ⟨some 28, .fieldAddr 0 (.tmp 3), none, []⟩,
 ⟨some 29, .fieldAddr 1 (.tmp 28), none, []⟩,
 ⟨some 30, .load none (.tmp 29), none, []⟩,
 ⟨some 31, .fieldAddr 1 (.tmp 7), none, [0, 1, 2]⟩,
 ⟨some 32, .load none (.tmp 31), none, [0, 1, 2]⟩,
 ⟨some 33, .fieldAddr 1 (.tmp 7), none, [0, 1, 2, 3, 4]⟩,
 ⟨some 34, .load none (.tmp 33), none, [0, 1, 2, 3, 4]⟩,
 ⟨some 35, .bin .plain .mul (.tmp 32) (.tmp 34), none, [0, 1, 2]⟩,
 ⟨some 36, .fieldAddr 1 (.tmp 7), none, [0, 1, 2, 3, 4, 5, 6, 7]⟩,
 ⟨some 37, .load none (.tmp 36), none, [0, 1, 2, 3, 4, 5, 6, 7]⟩,
 ⟨some 38, .bin .plain .mul (.tmp 35) (.tmp 37), none, [0, 1, 2]⟩,
 ⟨some 39, .call (.const (.fn (.func 67) [] [])) [.tmp 38], none, [0, 1, 2]⟩], 
  [
  ⟨some 40, .bin .plain .mul (.tmp 30) (.tmp 39), none, []⟩], 
  [
  ⟨some 41, .call (.const (.fn (.func 57) [] [])) [.tmp 40, .const (.int .i64 1000000)], none, []⟩], 
  [
  ⟨some 9, .move (.tmp 41), none, []⟩]]
theorem k_ref02_current_r3_sg : segs k_ref02_current_r3 = k_ref02_current_r3s := by kernel_rfl
theorem k_ref02_current_r3_st : statOK k_ref02_current_r3 = true := by kernel_rfl
def k_ref02_current_r4 : List AOper := [
  ⟨some 42, .move (.tmp 8), none, []⟩,
 ⟨some 43, .fieldAddr 6 (.tmp 3), none, [0]⟩,
 ⟨some 44, .fieldAddr 0 (.tmp 43), none, [0]⟩,
 ⟨some 45, .load none (.tmp 44), none, [0]⟩,
 ⟨some 46, .minmax false [.tmp 42, .tmp 45], none, []⟩,
 ⟨some 47, .move (.tmp 9), none, [0, 1, 2, 3, 4]⟩,
 ⟨some 48, .fieldAddr 6 (.tmp 3), none, [0, 1, 2, 3, 4, 5]⟩,
 ⟨some 49, .fieldAddr 1 (.tmp 48), none, [0, 1, 2, 3, 4, 5]⟩,
 ⟨some 50, .load none (.tmp 49), none, [0, 1, 2, 3, 4, 5]⟩,
 ⟨some 51, .minmax false [.tmp 47, .tmp 50], none, [0, 1, 2, 3, 4]⟩,
 ⟨some 8, .move (.tmp 46), none, [5, 6, 7, 8, 9]⟩,
 ⟨some 9, .move (.tmp 51), none, []⟩]
def k_ref02_current_r4s : List (List AOper) := [
  [
  ⟨some 42, .move (.tmp 8), none, []⟩,
 ⟨some 43, .fieldAddr 6 (.tmp 3), none, [0]⟩,
 ⟨some 44, .fieldAddr 0 (.tmp 43), none, [0]⟩,
 ⟨some 45, .load none (.tmp 44), none, [0]⟩,
 ⟨some 46, .minmax false [.tmp 42, .tmp 45], none, []⟩,
 ⟨some 47, .move (.tmp 9), none, [0, 1, 2, 3, 4]⟩,
 ⟨some 48, .fieldAddr 6 (.tmp 3), none, [0, 1, 2, 3, 4, 5]⟩,
 ⟨some 49, .fieldAddr 1 (.tmp 48), none, [0, 1, 2, 3, 4, 5]⟩,
 ⟨some 50, .load none (.tmp 49), none, [0, 1, 2, 3, 4, 5]⟩,
 ⟨some 51, .minmax false [.tmp 47, .tmp 50], none, [0, 1, 2, 3, 4]⟩,
 ⟨some 8, .move (.tmp 46), none, [5, 6, 7, 8, 9]⟩], 
  [
  ⟨some 9, .move (.tmp 51), none, []⟩]]
theorem k_ref02_current_r4_sg : segs k_ref02_current_r4 = k_ref02_current_r4s := by kernel_rfl
theorem k_ref02_current_r4_st : statOK k_ref02_current_r4 = true := by kernel_rfl
def k_ref02_current_r5 : List AOper := [
  ⟨some 52, .fieldAddr 8 (.tmp 3), none, []⟩,
 ⟨some 53, .fieldAddr 0 (.tmp 52), none, []⟩,
 ⟨some 54, .load none (.tmp 53), none, []⟩,
 ⟨some 55, .move (.tmp 8), none, [0, 1, 2]⟩,
 ⟨some 56, .bin .plain .mul (.tmp 54) (.tmp 55), none, []⟩,
 ⟨some 57, .call (.const (.fn (.func 53) [] [])) [.tmp 56, .const (.int .i64 1000000)], none, []⟩,
 ⟨some 58, .fieldAddr 8 (.tmp 3), none, [0, 1, 2, 3, 4, 5]⟩,
 ⟨some 59, .fieldAddr 1 (.tmp 58), none, [0, 1, 2, 3, 4, 5]⟩,
 ⟨some 60, .load none (.tmp 59), none, [0, 1, 2, 3, 4, 5]⟩,
 ⟨some 61, .move (.tmp 9), none, [0, 1, 2, 3, 4, 5, 6, 7, 8]⟩,
 ⟨some 62, .bin .plain .mul (.tmp 60) (.tmp 61), none, [0, 1, 2, 3, 4, 5]⟩,
 ⟨some 63, .call (.const (.fn (.func 57) [] [])) [.tmp 62, .const (.int .i64 1000000)], none, []⟩,
 ⟨some 64, .build [.int .i64 0, .int .i64 0] [(0, 1, .tmp 57), (1, 1, .tmp 63)], none, []⟩,
 ⟨none, .store 2 (.tmp 6) (.tmp 64), none, []⟩]
def k_ref02_current_r5s : List (List AOper) := [
  [
  ⟨some 52, .fieldAddr 8 (.tmp 3), none, []⟩,
 ⟨some 53, .fieldAddr 0 (.tmp 52), none, []⟩,
 ⟨some 54, .load none (.tmp 53), none, []⟩,
 ⟨some 55, .move (.tmp 8), none, [0, 1, 2]⟩,
 ⟨some 56, .bin .plain .mul (.tmp 54) (.tmp 55), none, []⟩,
 ⟨some 57, .call (.const (.fn (.func 53) [] [])) [.tmp 56, .const (.int .i64 1000000)], none, []⟩,
 ⟨some 58, .fieldAddr 8 (.tmp 3), none, [0, 1, 2, 3, 4, 5]⟩,
 ⟨some 59, .fieldAddr 1 (.tmp 58), none, [0, 1, 2, 3, 4, 5]⟩,
 ⟨some 60, .load none (.tmp 59), none, [0, 1, 2, 3, 4, 5]⟩,
 ⟨some 61, .move (.tmp 9), none, [0, 1, 2, 3, 4, 5, 6, 7, 8]⟩,
 ⟨some 62, .bin .plain .mul (.tmp 60) (.tmp 61), none, [0, 1, 2, 3, 4, 5]⟩], 
  [
  ⟨some 63, .call (.const (.fn (.func 57) [] [])) [.tmp 62, .const (.int .i64 1000000)], none, []⟩], 
  [
  ⟨some 64, .build [.int .i64 0, .int .i64 0] [(0, 1, .tmp 57), (1, 1, .tmp 63)], none, []⟩], 
  [
  ⟨none, .store 2 (.tmp 6) (.tmp 64), none, []⟩]]
theorem k_ref02_current_r5_sg : segs k_ref02_current_r5 = k_ref02_current_r5s := by kernel_rfl
theorem k_ref02_current_r5_st : statOK k_ref02_current_r5 = true := by kernel_rfl
def k_ref02_current : AFun := { params := 3, ntmps := 65, body := (.seq (.reg k_ref02_current_r0 false) (.seq (.reg k_ref02_current_r1 false) (.seq (.reg k_ref02_current_r2 true) (.seq (.reg k_ref02_current_r3 true) (.seq (.reg k_ref02_current_r4 true) (.seq (.reg k_ref02_current_r5 true) .ret)))))), res := [.cell 6 (some ((some (2))))] }
theorem k_ref02_current_ok : cfun Tryd.prog Tryd.f46 = k_ref02_current := by kernel_rfl

def k_ref02_checkRange_r0 : List AOper := [
  ⟨some 3, .box (.tmp 0), none, []⟩,
 ⟨some 6, .move (.const (.int .i64 0)), none, []⟩]
def k_ref02_checkRange_r1 : List AOper := [
  ⟨some 7, .fieldAddr 0 (.tmp 3), none, []⟩,
 ⟨some 8, .load none (.tmp 7), none, []⟩,
 ⟨some 9, .fieldAddr 1 (.tmp 3), none, []⟩,
 ⟨some 10, .load none (.tmp 9), none, []⟩,
 ⟨some 11, .bin .plain .gtr (.tmp 8) (.tmp 10), none, []⟩]
def k_ref02_checkRange_r2 : List AOper := [
  ⟨some 6, .move (.const (.int .i64 11)), none, []⟩]
def k_ref02_checkRange_r3 : List AOper := [
  ⟨some 12, .fieldAddr 0 (.tmp 3), none, []⟩,
 ⟨some 13, .load none (.tmp 12), none, []⟩,
 ⟨some 14, .move (.tmp 1), none, []⟩,
 ⟨some 15, .bin .plain .lss (.tmp 13) (.tmp 14), none, []⟩,
 ⟨some 16, .move (.tmp 15), none, []⟩,
 ⟨some 17, .fieldAddr 1 (.tmp 3), (some (16, false)), []⟩,
 ⟨some 18, .load none (.tmp 17), (some (16, false)), []⟩,
 ⟨some 19, .move (.tmp 2), (some (16, false)), []⟩,
 ⟨some 20, .bin .plain .gtr (.tmp 18) (.tmp 19), (some (16, false)), []⟩,
 ⟨some 21, .pick (.tmp 16) (.const (.bool true)) (.tmp 20), none, []⟩]
def k_ref02_checkRange_r4 : List AOper := [
  ⟨some 6, .move (.const (.int .i64 2)), none, []⟩]
def k_ref02_checkRange_r5 : List AOper := [
  ⟨some 6, .move (.const (.int .i64 0)), none, []⟩]
def k_ref02_checkRange : AFun := { params := 3, ntmps := 22, body := (.seq (.reg k_ref02_checkRange_r0 false) (.seq (.seq (.reg k_ref02_checkRange_r1 false) (.cond (.tmp 11) (.seq (.reg k_ref02_checkRange_r2 false) .ret) .skip)) (.seq (.seq (.reg k_ref02_checkRange_r3 false) (.cond (.tmp 21) (.seq (.reg k_ref02_checkRange_r4 false) .ret) .skip)) (.seq (.reg k_ref02_checkRange_r5 false) .ret)))), res := [.tmp 6] }
theorem k_ref02_checkRange_ok : cfun Tryd.prog Tryd.f51 = k_ref02_checkRange := by kernel_rfl

def k_ref02_down_r0 : List AOper := [
  ⟨some 4, .move (.const (.int .i64 0)), none, []⟩]
def k_ref02_down_r1 : List AOper := [
  ⟨some 6, .move (.tmp 0), none, []⟩,
 ⟨some 7, .move (.tmp 1), none, []⟩,
 ⟨some 8, .bin .plain .quo (.tmp 6) (.tmp 7), none, []⟩,
 ⟨some 5, .move (.tmp 8), none, []⟩]
def k_ref02_down_r2 : List AOper := [
  ⟨some 9, .move (.tmp 0), none, []⟩,
 ⟨some 10, .move (.tmp 1), none, []⟩,
 ⟨some 11, .bin .plain .rem (.tmp 9) (.tmp 10), none, []⟩,
 ⟨some 12, .bin .plain .lss (.tmp 11) (.const (.int .i64 0)), none, []⟩]
def k_ref02_down_r3 : List AOper := [
  ⟨some 13, .move (.tmp 5), none, []⟩,
 ⟨some 14, .bin .plain .sub (.tmp 13) (.const (.int .i64 1)), none, []⟩,
 ⟨some 5, .move (.tmp 14), none, []⟩]
def k_ref02_down_r4 : List AOper := [
  ⟨some 15, .move (.tmp 5), none, []⟩,
 ⟨some 4, .move (.tmp 15), none, []⟩]
def k_ref02_down : AFun := { params := 2, ntmps := 16, body := (.seq (.reg k_ref02_down_r0 false) (.seq (.reg k_ref02_down_r1 false) (.seq (.seq (.reg k_ref02_down_r2 false) (.cond (.tmp 12) (.reg k_ref02_down_r3 false) .skip)) (.seq (.reg k_ref02_down_r4 false) .ret)))), res := [.tmp 4] }
theorem k_ref02_down_ok : cfun Tryd.prog Tryd.f53 = k_ref02_down := by kernel_rfl

def k_ref02_up_r0 : List AOper := [
  ⟨some 4, .move (.const (.int .i64 0)), none, []⟩]
def k_ref02_up_r1 : List AOper := [
  ⟨some 5, .move (.tmp 0), none, []⟩,
 ⟨some 6, .neg (.tmp 5), none, []⟩,
 ⟨some 7, .move (.tmp 1), none, []⟩,
 ⟨some 8, .call (.const (.fn (.func 53) [] [])) [.tmp 6, .tmp 7], none, []⟩,
 ⟨some 9, .neg (.tmp 8), none, []⟩,
 ⟨some 4, .move (.tmp 9), none, []⟩]
def k_ref02_up : AFun := { params := 2, ntmps := 10, body := (.seq (.reg k_ref02_up_r0 false) (.seq (.reg k_ref02_up_r1 false) .ret)), res := [.tmp 4] }
theorem k_ref02_up_ok : cfun Tryd.prog Tryd.f57 = k_ref02_up := by kernel_rfl

def k_ref02_drive_r0 : List AOper := [
  ⟨some 3, .box (.tmp 0), none, []⟩,
 ⟨some 6, .box (.const (.agg [.int .i64 0, .int .i64 0])), none, []⟩]
def k_ref02_drive_r1 : List AOper := [
  ⟨some 7, .move (.tmp 1), none, []⟩,
 ⟨some 8, .fieldAddr 4 (.tmp 3), none, [0]⟩,
 ⟨some 9, .fieldAddr 0 (.tmp 8), none, [0]⟩,
 ⟨some 10, .load none (.tmp 9), none, [0]⟩,
 ⟨some 11, .bin .plain .add (.tmp 7) (.tmp 10), none, []⟩,
 ⟨some 12, .move (.tmp 2), none, [0, 1, 2, 3, 4]⟩,
 ⟨some 13, .bin .plain .mul (.const (.int .i64 1000)) (.tmp 12), none, [0, 1, 2, 3, 4]⟩,
 ⟨some 14, .fieldAddr 2 (.tmp 3), none, [0, 1, 2, 3, 4, 5, 6]⟩,
 ⟨some 15, .fieldAddr 1 (.tmp 14), none, [0, 1, 2, 3, 4, 5, 6]⟩,
 ⟨some 16, .load none (.tmp 15), none, [0, 1, 2, 3, 4, 5, 6]⟩,
 ⟨some 17, .call (.const (.fn (.func 53) [] [])) [.tmp 13, .tmp 16], none, [0, 1, 2, 3, 4]⟩,
 ⟨some 18, .bin .plain .add (.tmp 11) (.tmp 17), none, []⟩,
 ⟨some 19, .call (.const (.fn (.func 74) [] [])) [.tmp 18], none, []⟩,
 ⟨some 20, .move (.tmp 1), none, [0, 1, 2, 3, 4, 5, 6, 7, 8, 9, 10, 11, 12]⟩,
 ⟨some 21, .fieldAddr 4 (.tmp 3), none, [0, 1, 2, 3, 4, 5, 6, 7, 8, 9, 10, 11, 12, 13]⟩,
 ⟨some 22, .fieldAddr 1 (.tmp 21), none, [0, 1, 2, 3, 4, 5, 6, 7, 8, 9, 10, 11, 12, 13]⟩,
 ⟨some 23, .load none (.tmp 22), none, [0, 1, 2, 3, 4, 5, 6, 7, 8, 9, 10, 11, 12, 13]⟩,
 ⟨some 24, .bin .plain .add (.tmp 20) (.tmp 23), none, [0, 1, 2, 3, 4, 5, 6, 7, 8, 9, 10, 11, 12]⟩,
 ⟨some 25, .move (.tmp 2), none, [0, 1, 2, 3, 4, 5, 6, 7, 8, 9, 10, 11, 12, 13, 14, 15, 16, 17]⟩,
 ⟨some 26, .bin .plain .mul (.const (.int .i64 1000)) (.tmp 25), none, [0, 1, 2, 3, 4, 5, 6, 7, 8, 9, 10, 11, 12, 13, 14, 15, 16, 17]⟩,
 ⟨some 27, .fieldAddr 2 (.tmp 3), none, [0, 1, 2, 3, 4, 5, 6, 7, 8, 9, 10, 11, 12, 13, 14, 15, 16, 17, 18, 19]⟩,
 ⟨some 28, .fieldAddr 0 (.tmp 27), none, [0, 1, 2, 3, 4, 5, 6, 7, 8, 9, 10, 11, 12, 13, 14, 15, 16, 17, 18, 19]⟩,
 ⟨some 29, .load none (.tmp 28), none, [0, 1, 2, 3, 4, 5, 6, 7, 8, 9, 10, 11, 12, 13, 14, 15, 16, 17, 18, 19]⟩,
 ⟨some 30, .call (.const (.fn (.func 57) [] [])) [.tmp 26, .tmp 29], none, [13, 14, 15, 16, 17]⟩,
 ⟨some 31, .bin .plain .add (.tmp 24) (.tmp 30), none, []⟩,
 ⟨some 32, .call (.const (.fn (.func 74) [] [])) [.tmp 31], none, []⟩,
 ⟨some 33, .build [.int .i64 0, .int .i64 0] [(0, 1, .tmp 19), (1, 1, .tmp 32)], none, []⟩,
 ⟨none, .store 2 (.tmp 6) (.tmp 33), none, []⟩]
def k_ref02_drive_r1s : List (List AOper) := [
  [
  ⟨some 7, .move (.tmp 1), none, []⟩,
 ⟨some 8, .fieldAddr 4 (.tmp 3), none, [0]⟩,
 ⟨some 9, .fieldAddr 0 (.tmp 8), none, [0]⟩,
 ⟨some 10, .load none (.tmp 9), none, [0]⟩,
 ⟨some 11, .bin .plain .add (.tmp 7) (.tmp 10), none, []⟩,
 ⟨some 12, .move (.tmp 2), none, [0, 1, 2, 3, 4]⟩,
 ⟨some 13, .bin .plain .mul (.const (.int .i64 1000)) (.tmp 12), none, [0, 1, 2, 3, 4]⟩,
 ⟨some 14, .fieldAddr 2 (.tmp 3), none, [0, 1, 2, 3, 4, 5, 6]⟩,
 ⟨some 15, .fieldAddr 1 (.tmp 14), none, [0, 1, 2, 3, 4, 5, 6]⟩,
 ⟨some 16, .load none (.tmp 15), none, [0, 1, 2, 3, 4, 5, 6]⟩,
 ⟨some 17, .call (.const (.fn (.func 53) [] [])) [.tmp 13, .tmp 16], none, [0, 1, 2, 3, 4]⟩,
 ⟨some 18, .bin .plain .add (.tmp 11) (.tmp 17), none, []⟩,
 ⟨some 19, .call (.const (.fn (.func 74) [] [])) [.tmp 18], none, []⟩,
 ⟨some 20, .move (.tmp 1), none, [0, 1, 2, 3, 4, 5, 6, 7, 8, 9, 10, 11, 12]⟩,
 ⟨some 21, .fieldAddr 4 (.tmp 3), none, [0, 1, 2, 3, 4, 5, 6, 7, 8, 9, 10, 11, 12, 13]⟩,
 ⟨some 22, .fieldAddr 1 (.tmp 21), none, [0, 1, 2, 3, 4, 5, 6, 7, 8, 9, 10, 11, 12, 13]⟩,
 ⟨some 23, .load none (.tmp 22), none, [0, 1, 2, 3, 4, 5, 6, 7, 8, 9, 10, 11, 12, 13]⟩,
 ⟨some 24, .bin .plain .add (.tmp 20) (.tmp 23), none, [0, 1, 2, 3, 4, 5, 6, 7, 8, 9, 10, 11, 12]⟩,
 ⟨some 25, .move (.tmp 2), none, [0, 1, 2, 3, 4, 5, 6, 7, 8, 9, 10, 11, 12, 13, 14, 15, 16, 17]⟩,
 ⟨some 26, .bin .plain .mul (.const (.int .i64 1000)) (.tmp 25), none, [0, 1, 2, 3, 4, 5, 6, 7, 8, 9, 10, 11, 12, 13, 14, 15, 16, 17]⟩,
 ⟨some 27, .fieldAddr 2 (.tmp 3), none, [0, 1, 2, 3, 4, 5, 6, 7, 8, 9, 10, 11, 12, 13, 14, 15, 16, 17, 18, 19]⟩,
 ⟨some 28, .fieldAddr 0 (.tmp 27), none, [0, 1, 2, 3, 4, 5, 6, 7, 8, 9, 10, 11, 12, 13, 14, 15, 16, 17, 18, 19]⟩,
 ⟨some 29, .load none (.tmp 28), none, [0, 1, 2, 3, 4, 5, 6, 7, 8, 9, 10, 11, 12, 13, 14, 15, 16, 17, 18, 19]⟩,
 ⟨some 30, .call (.const (.fn (.func 57) [] [])) [.tmp 26, .tmp 29], none, [13, 14, 15, 16, 17]⟩], 
  [
  ⟨some 31, .bin .plain .add (.tmp 24) (.tmp 30), none, []⟩], 
  [
  ⟨some 32, .call (.const (.fn (.func 74) [] [])) [.tmp 31], none, []⟩], 
  [
  ⟨some 33, .build [.int .i64 0, .int .i64 0] [(0, 1, .tmp 19), (1, 1, .tmp 32)], none, []⟩], 
  [
  ⟨none, .store 2 (.tmp 6) (.tmp 33), none, []⟩]]
theorem k_ref02_drive_r1_sg : segs k_ref02_drive_r1 = k_ref02_drive_r1s := by kernel_rfl
theorem k_ref02_drive_r1_st : statOK k_ref02_drive_r1 = true := by kernel_rfl
def k_ref02_drive : AFun := { params := 3, ntmps := 34, body := (.seq (.reg k_ref02_drive_r0 false) (.seq (.reg k_ref02_drive_r1 true) .ret)), res := [.cell 6 (some ((some (2))))] }
theorem k_ref02_drive_ok : cfun Tryd.prog Tryd.f65 = k_ref02_drive := by kernel_rfl

def k_ref02_root_r0 : List AOper := [
  ⟨some 2, .move (.const (.int .i64 0)), none, []⟩]
def k_ref02_root_r1 : List AOper := [
  ⟨some 3, .move (.const (.int .i64 0)), none, []⟩,
 ⟨some 4, .move (.const (.int .i64 3000000000)), none, []⟩]
def k_ref02_root_r2 : List AOper := [
  ⟨some 6, .move (.tmp 3), none, []⟩,
 ⟨some 7, .move (.tmp 4), none, []⟩,
 ⟨some 8, .bin .plain .lss (.tmp 6) (.tmp 7), none, []⟩]
def k_ref02_root_r3 : List AOper := [
  ⟨some 9, .move (.tmp 3), none, []⟩,
 ⟨some 10, .move (.tmp 4), none, []⟩,
 ⟨some 11, .bin .plain .add (.tmp 9) (.tmp 10), none, []⟩,
 ⟨some 12, .bin .plain .add (.tmp 11) (.const (.int .i64 1)), none, []⟩,
 ⟨some 13, .bin .plain .quo (.tmp 12) (.const (.int .i64 2)), none, []⟩,
 ⟨some 5, .move (.tmp 13), none, []⟩]
def k_ref02_root_r4 : List AOper := [
  ⟨some 14, .move (.tmp 5), none, []⟩,
 ⟨some 15, .move (.tmp 0), none, []⟩,
 ⟨some 16, .move (.tmp 5), none, []⟩,
 ⟨some 17, .bin .plain .quo (.tmp 15) (.tmp 16), none, []⟩,
 ⟨some 18, .bin .plain .leq (.tmp 14) (.tmp 17), none, []⟩]
def k_ref02_root_r5 : List AOper := [
  ⟨some 19, .move (.tmp 5), none, []⟩,
 ⟨some 3, .move (.tmp 19), none, []⟩]
def k_ref02_root_r6 : List AOper := [
  ⟨some 20, .move (.tmp 5), none, []⟩,
 ⟨some 21, .bin .plain .sub (.tmp 20) (.const (.int .i64 1)), none, []⟩,
 ⟨some 4, .move (.tmp 21), none, []⟩]
def k_ref02_root_r7 : ACode := (.seq (.seq (.reg k_ref02_root_r2 false) (.cond (.tmp 8) .skip (.exit 0))) (.block 1 (.seq (.reg k_ref02_root_r3 false) (.seq (.reg k_ref02_root_r4 false) (.cond (.tmp 18) (.reg k_ref02_root_r5 false) (.reg k_ref02_root_r6 false))))))
def k_ref02_root_r8 : List AOper := [
  ⟨some 22, .move (.tmp 3), none, []⟩,
 ⟨some 2, .move (.tmp 22), none, []⟩]
def k_ref02_root : AFun := { params := 1, ntmps := 23, body := (.seq (.reg k_ref02_root_r0 false) (.seq (.reg k_ref02_root_r1 false) (.seq (.block 0 (.loop k_ref02_root_r7)) (.seq (.reg k_ref02_root_r8 false) .ret)))), res := [.tmp 2] }
theorem k_ref02_root_ok : cfun Tryd.prog Tryd.f66 = k_ref02_root := by kernel_rfl

def k_ref02_above_r0 : List AOper := [
  ⟨some 2, .move (.const (.int .i64 0)), none, []⟩]
def k_ref02_above_r1 : List AOper := [
  ⟨some 4, .move (.tmp 0), none, []⟩,
 ⟨some 5, .call (.const (.fn (.func 66) [] [])) [.tmp 4], none, []⟩,
 ⟨some 3, .move (.tmp 5), none, []⟩]
def k_ref02_above_r2 : List AOper := [
  ⟨some 6, .move (.tmp 3), none, []⟩,
 ⟨some 7, .move (.tmp 3), none, []⟩,
 ⟨some 8, .bin .plain .mul (.tmp 6) (.tmp 7), none, []⟩,
 ⟨some 9, .move (.tmp 0), none, []⟩,
 ⟨some 10, .bin .plain .lss (.tmp 8) (.tmp 9), none, []⟩]
def k_ref02_above_r3 : List AOper := [
  ⟨some 11, .move (.tmp 3), none, []⟩,
 ⟨some 12, .bin .plain .add (.tmp 11) (.const (.int .i64 1)), none, []⟩,
 ⟨some 2, .move (.tmp 12), none, []⟩]
def k_ref02_above_r4 : List AOper := [
  ⟨some 13, .move (.tmp 3), none, []⟩,
 ⟨some 2, .move (.tmp 13), none, []⟩]
def k_ref02_above : AFun := { params := 1, ntmps := 14, body := (.seq (.reg k_ref02_above_r0 false) (.seq (.reg k_ref02_above_r1 false) (.seq (.seq (.reg k_ref02_above_r2 false) (.cond (.tmp 10) (.seq (.reg k_ref02_above_r3 false) .ret) .skip)) (.seq (.reg k_ref02_above_r4 false) .ret)))), res := [.tmp 2] }
theorem k_ref02_above_ok : cfun Tryd.prog Tryd.f67 = k_ref02_above := by kernel_rfl

def k_ref02_cut_r0 : List AOper := [
  ⟨some 2, .move (.const (.int .i64 0)), none, []⟩]
def k_ref02_cut_r1 : List AOper := [
  ⟨some 3, .move (.tmp 0), none, []⟩,
 ⟨some 4, .minmax false [.tmp 3, .const (.int .i64 1000000)], none, []⟩,
 ⟨some 5, .minmax true [.const (.int .i64 0), .tmp 4], none, []⟩,
 ⟨some 2, .move (.tmp 5), none, []⟩]
def k_ref02_cut : AFun := { params := 1, ntmps := 6, body := (.seq (.reg k_ref02_cut_r0 false) (.seq (.reg k_ref02_cut_r1 false) .ret)), res := [.tmp 2] }
theorem k_ref02_cut_ok : cfun Tryd.prog Tryd.f74 = k_ref02_cut := by kernel_rfl


abbrev n_kit_ReadsOf : Nat := 8
theorem e_kit_ReadsOf : EntryOK Tryd.prog n_kit_ReadsOf k_kit_ReadsOf := ⟨Tryd.f8, Tryd.func8, k_kit_ReadsOf_ok, by kernel_rfl⟩
abbrev n_ref02_Current : Nat := 24
theorem e_ref02_Current : EntryOK Tryd.prog n_ref02_Current k_ref02_Current := ⟨Tryd.f24, Tryd.func24, k_ref02_Current_ok, by kernel_rfl⟩
abbrev n_ref02_CheckLaw : Nat := 30
theorem e_ref02_CheckLaw : EntryOK Tryd.prog n_ref02_CheckLaw k_ref02_CheckLaw := ⟨Tryd.f30, Tryd.func30, k_ref02_CheckLaw_ok, by kernel_rfl⟩
abbrev n_ref02_right : Nat := 31
theorem e_ref02_right : EntryOK Tryd.prog n_ref02_right k_ref02_right := ⟨Tryd.f31, Tryd.func31, k_ref02_right_ok, by kernel_rfl⟩
abbrev n_ref02_current : Nat := 46
theorem e_ref02_current : EntryOK Tryd.prog n_ref02_current k_ref02_current := ⟨Tryd.f46, Tryd.func46, k_ref02_current_ok, by kernel_rfl⟩
abbrev n_ref02_checkRange : Nat := 51
theorem e_ref02_checkRange : EntryOK Tryd.prog n_ref02_checkRange k_ref02_checkRange := ⟨Tryd.f51, Tryd.func51, k_ref02_checkRange_ok, by kernel_rfl⟩
abbrev n_ref02_down : Nat := 53
theorem e_ref02_down : EntryOK Tryd.prog n_ref02_down k_ref02_down := ⟨Tryd.f53, Tryd.func53, k_ref02_down_ok, by kernel_rfl⟩
abbrev n_ref02_up : Nat := 57
theorem e_ref02_up : EntryOK Tryd.prog n_ref02_up k_ref02_up := ⟨Tryd.f57, Tryd.func57, k_ref02_up_ok, by kernel_rfl⟩
abbrev n_ref02_drive : Nat := 65
theorem e_ref02_drive : EntryOK Tryd.prog n_ref02_drive k_ref02_drive := ⟨Tryd.f65, Tryd.func65, k_ref02_drive_ok, by kernel_rfl⟩
abbrev n_ref02_root : Nat := 66
theorem e_ref02_root : EntryOK Tryd.prog n_ref02_root k_ref02_root := ⟨Tryd.f66, Tryd.func66, k_ref02_root_ok, by kernel_rfl⟩
abbrev n_ref02_above : Nat := 67
theorem e_ref02_above : EntryOK Tryd.prog n_ref02_above k_ref02_above := ⟨Tryd.f67, Tryd.func67, k_ref02_above_ok, by kernel_rfl⟩
abbrev n_ref02_cut : Nat := 74
theorem e_ref02_cut : EntryOK Tryd.prog n_ref02_cut k_ref02_cut := ⟨Tryd.f74, Tryd.func74, k_ref02_cut_ok, by kernel_rfl⟩

attribute [go_sem] k_kit_ReadsOf_r0 k_kit_ReadsOf_r1 k_kit_ReadsOf_r2 k_kit_ReadsOf_r3 k_kit_ReadsOf_r4 k_kit_ReadsOf_r5 k_kit_ReadsOf_r6s k_kit_ReadsOf_r7 k_kit_ReadsOf_r8 k_kit_ReadsOf_r10
attribute [go_sem] k_ref02_Current_r0 k_ref02_Current_r1 k_ref02_Current_r2 k_ref02_Current_r3 k_ref02_Current_r4 k_ref02_Current_r5 k_ref02_Current_r6 k_ref02_CheckLaw_r0 k_ref02_CheckLaw_r1 k_ref02_CheckLaw_r2 k_ref02_CheckLaw_r3 k_ref02_CheckLaw_r4
attribute [go_sem] k_ref02_CheckLaw_r5 k_ref02_CheckLaw_r6s k_ref02_CheckLaw_r7 k_ref02_CheckLaw_r8 k_ref02_CheckLaw_r9 k_ref02_CheckLaw_r11 k_ref02_right_r0 k_ref02_right_r1 k_ref02_current_r0 k_ref02_current_r1 k_ref02_current_r2s k_ref02_current_r3s
attribute [go_sem] k_ref02_current_r4s k_ref02_current_r4_sg k_ref02_current_r4_st k_ref02_current_r5s k_ref02_checkRange_r0 k_ref02_checkRange_r1 k_ref02_checkRange_r2 k_ref02_checkRange_r3 k_ref02_checkRange_r4 k_ref02_checkRange_r5 k_ref02_down_r0 k_ref02_down_r1 k_ref02_down_r2 k_ref02_down_r3
attribute [go_sem] k_ref02_down_r4 k_ref02_up_r0 k_ref02_up_r1 k_ref02_drive_r0 k_ref02_drive_r1s k_ref02_root_r0 k_ref02_root_r1 k_ref02_root_r2 k_ref02_root_r3 k_ref02_root_r4 k_ref02_root_r5 k_ref02_root_r6
attribute [go_sem] k_ref02_root_r8 k_ref02_above_r0 k_ref02_above_r1 k_ref02_above_r2 k_ref02_above_r3 k_ref02_above_r4 k_ref02_cut_r0 k_ref02_cut_r1 k_kit_ReadsOf_r6_sg k_ref02_current_r5_sg k_ref02_drive_r1_sg k_ref02_CheckLaw_r6_sg
attribute [go_sem] k_ref02_current_r3_sg k_ref02_current_r2_sg k_kit_ReadsOf_r6_st k_ref02_current_r5_st k_ref02_drive_r1_st k_ref02_CheckLaw_r6_st k_ref02_current_r3_st k_ref02_current_r2_st k_kit_ReadsOf k_ref02_Current k_ref02_CheckLaw
attribute [go_sem] k_ref02_right k_ref02_current k_ref02_checkRange k_ref02_down k_ref02_up k_ref02_drive k_ref02_root k_ref02_above k_ref02_cut
end Go.Proofs

namespace Go.Fam

def cup (n b : Int) : Int := (n + b - 1) / b
theorem cup_eq (n b : Int) (hb : 0 < b) : cup n b = -(-n / b) := by
  unfold cup
  have h1 := Int.emod_add_mul_ediv (-n) b
  have h2 := Int.emod_nonneg (-n) (show b ≠ 0 by omega)
  have h3 := Int.emod_lt_of_pos (-n) hb
  have e : n + b - 1 = (b - 1 - (-n) % b) + b * (-(-n / b)) := by rw [Int.mul_neg]; omega
  rw [e, Int.add_mul_ediv_left _ _ (by omega), Int.ediv_eq_zero_of_lt (by omega) (by omega), Int.zero_add]
end Go.Fam
namespace Go.Fam
end Go.Fam

namespace Go.Proofs
open Go Go.Sx Go.Fam
attribute [local irreducible] Run

theorem rright_run (g p : Int) : Ans Tryd.prog n_ref02_right [.int .i64 g, .int .i64 p] [] (.bool (decide ((-1000000 ≤ g ∧ g ≤ 1000000) ∧ 0 ≤ p ∧ p ≤ 1000000))) [] := by
  refine spec_run e_ref02_right fun G => ?_
  by_cases h1 : -1000000 ≤ g
  · by_cases h2 : g ≤ 1000000
    · by_cases h3 : 0 ≤ p
      · simp [go_sem, h1, h2, h3]
      · simp [go_sem, h1, h2, h3]
    · simp [go_sem, h1, h2]
  · simp [go_sem, h1]

theorem down_run {n b : Int} (hn : -4000000000000000000 ≤ n ∧ n ≤ 4000000000000000000) (hb : 1 ≤ b ∧ b ≤ 4000000000000000000) : Ans Tryd.prog n_ref02_down [.int .i64 n, .int .i64 b] [] (.int .i64 (n / b)) [] := by
  have h1 := Int.emod_add_mul_ediv n b
  have h2 := Int.emod_nonneg n (show b ≠ 0 by omega)
  have h3 := Int.emod_lt_of_pos n (show 0 < b by omega)
  have t1 := Int.tmod_add_mul_tdiv n b
  have hb0 : ¬ b = 0 := by omega
  refine spec_run e_ref02_down fun G => ?_
  by_cases hn0 : 0 ≤ n
  · have e1 : n.tdiv b = n / b := Int.tdiv_eq_ediv_of_nonneg hn0
    have e2 : n.tmod b = n % b := Int.tmod_eq_emod_of_nonneg hn0
    have q1 : 0 ≤ n / b := Int.ediv_nonneg hn0 (by omega)
    have q2 : n / b ≤ n := Int.ediv_le_self _ hn0
    have w1 : IntKind.i64.wrap (n / b) = n / b := w64 (by omega)
    have w2 : IntKind.i64.wrap (n % b) = n % b := w64 (by omega)
    have n1 : ¬ n % b < 0 := by omega
    simp only [go_sem, hb0, e1, e2, w1, w2, n1]
  · have e2 : n.tmod b = -((-n) % b) := by
      have := Int.neg_tmod (a := -n) (b := b)
      rw [Int.neg_neg] at this
      rw [this, Int.tmod_eq_emod_of_nonneg (by omega)]
    have e1 : n.tdiv b = -((-n) / b) := by
      have := Int.neg_tdiv (a := -n) (b := b)
      rw [Int.neg_neg] at this
      rw [this, Int.tdiv_eq_ediv_of_nonneg (by omega)]
    have m2 := Int.emod_nonneg (-n) (show b ≠ 0 by omega)
    have m3 := Int.emod_lt_of_pos (-n) (show 0 < b by omega)
    have q1 : 0 ≤ (-n) / b := Int.ediv_nonneg (by omega) (by omega)
    have q2 : (-n) / b ≤ -n := Int.ediv_le_self _ (by omega)
    have m1 := Int.emod_add_mul_ediv (-n) b
    have w1 : IntKind.i64.wrap (-((-n) / b)) = -((-n) / b) := w64 (by omega)
    have w2 : IntKind.i64.wrap (-((-n) % b)) = -((-n) % b) := w64 (by omega)
    have w3 : IntKind.i64.wrap (-((-n) / b) - 1) = -((-n) / b) - 1 := w64 (by omega)
    by_cases c : (-n) % b = 0
    · have n1 : ¬ -((-n) % b) < 0 := by omega
      have hq : n / b = -((-n) / b) := by
        have : b * (n / b) + n % b = b * (-((-n) / b)) := by rw [Int.mul_neg]; omega
        have h4 : n % b = 0 := by
          have : b ∣ -n := Int.dvd_of_emod_eq_zero c
          exact Int.emod_eq_zero_of_dvd ((Int.dvd_neg).1 this)
        rw [h4, Int.add_zero] at this
        exact Int.eq_of_mul_eq_mul_left (by omega) this
      simp only [go_sem, hb0, e1, e2, w1, w2, n1, hq]
    · have n1 : -((-n) % b) < 0 := by omega
      have hq : n / b = -((-n) / b) - 1 := by
        have e : n = (b - (-n) % b) + b * (-((-n) / b) - 1) := by rw [Int.mul_sub, Int.mul_neg]; omega
        rw [e, Int.add_mul_ediv_left _ _ (by omega), Int.ediv_eq_zero_of_lt (by omega) (by omega), Int.zero_add, ← e]
      simp only [go_sem, hb0, e1, e2, w1, w2, w3, n1, hq]
theorem up_run {n b : Int} (hn : -4000000000000000000 ≤ n ∧ n ≤ 4000000000000000000) (hb : 1 ≤ b ∧ b ≤ 4000000000000000000) : Ans Tryd.prog n_ref02_up [.int .i64 n, .int .i64 b] [] (.int .i64 (cup n b)) [] := by
  have hd := down_run (n := -n) (b := b) (by omega) hb
  have w1 : IntKind.i64.wrap (0 - n) = -n := by rw [w64 (by omega)]; omega
  have b1 : -4000000000000000000 ≤ (-n) / b ∧ (-n) / b ≤ 4000000000000000000 := by
    constructor
    · exact (Int.le_ediv_iff_mul_le (by omega)).2 (by have : -4000000000000000000 * b ≤ -4000000000000000000 * 1 := Int.mul_le_mul_of_nonpos_left (by omega) (by omega); omega)
    · exact Int.le_trans (Int.ediv_le_ediv (by omega) (show -n ≤ 4000000000000000000 by omega)) (Int.ediv_le_self _ (by omega))
  have w2 : IntKind.i64.wrap (0 - -n / b) = -(-n / b) := by rw [w64 (by omega)]; omega
  rw [cup_eq _ _ (by omega)]
  refine spec_run e_ref02_up fun G => ?_
  simp only [go_sem, w1]
  refine cP hd ?_
  simp only [go_sem, w2]
end Go.Proofs

