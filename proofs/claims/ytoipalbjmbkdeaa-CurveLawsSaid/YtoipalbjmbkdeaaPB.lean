/- A part of the proof. -/
import Derived.Test.YtoipalbjmbkdeaaPA
import Derived.IntWalk
set_option linter.unusedSimpArgs false
set_option linter.unusedVariables false
namespace Go.Proofs
open Go Go.Sx

def Dr (w : Int) : Row := .cells false 1 [.agg [.int .u64 w]]
def dstep (w : Int) : Int := IntKind.u64.wrap (w + 11400714819323198485)
def dmix (w : Int) : Int :=
  let z := IntKind.u64.wrap (bitW .xor .u64 w (shrW .u64 w 30) * 13787848793156543929)
  let z := IntKind.u64.wrap (bitW .xor .u64 z (shrW .u64 z 27) * 10723151780598845931)
  bitW .xor .u64 z (shrW .u64 z 31)

theorem dr_bel (w : Int) (S : Nat → Prop) : (Dr w).bel S := by unfold Dr; rw [row_bel_cells]; simp only [go_sem]

theorem bitW_u64 (op : BinOp) (a b : Int) : 0 ≤ bitW op .u64 a b ∧ bitW op .u64 a b ≤ 18446744073709551615 := by
  have hw : ∀ n : Int, 0 ≤ IntKind.u64.wrap n ∧ IntKind.u64.wrap n ≤ 18446744073709551615 := fun n => by simp only [IntKind.wrap, IntKind.bits, IntKind.signed, Bool.false_and, Bool.false_eq_true, if_false]; omega
  unfold bitW bitsOf
  cases op <;> simp only [Option.getD_some, Option.getD_none] <;> first
    | exact hw _
    | omega

def upto (w n : Int) : Int := if n < 1 then 0 else (dmix (dstep w)) % n
theorem upto_in {w n : Int} (h : 1 ≤ n) : 0 ≤ upto w n ∧ upto w n < n := by
  unfold upto
  rw [if_neg (by omega)]
  exact ⟨Int.emod_nonneg _ (by omega), Int.emod_lt_of_pos _ (by omega)⟩
def btw (w lo hi : Int) : Int := lo + upto w (hi - lo + 1)
theorem btw_in {w lo hi : Int} (h : lo ≤ hi) : lo ≤ btw w lo hi ∧ btw w lo hi ≤ hi := by
  have := upto_in (w := w) (n := hi - lo + 1) (by omega)
  unfold btw; omega

def feed (w : Int) : List Int → Int
  | [] => w
  | x :: xs => feed (dstep (bitW .xor .u64 w (IntKind.u64.wrap x))) xs
structure Rg where
  lo : Int
  hi : Int
  deriving Inhabited, DecidableEq

def Rg.v (r : Rg) : AVal := .agg [.int .i64 r.lo, .int .i64 r.hi]
@[go_sem] theorem rg_bel_eq (r : Rg) (S : Nat → Prop) : Bel S r.v = True := by unfold Rg.v; simp only [go_sem]
@[go_sem] theorem rg_nv (r : Rg) : NV r.v = True := by unfold Rg.v; simp only [go_sem]
@[go_sem] theorem dr_bel_eq (w : Int) (S : Nat → Prop) : (Dr w).bel S = True := eq_true (dr_bel w S)
theorem rg_bel (r : Rg) (S : Nat → Prop) : Bel S r.v := by unfold Rg.v; simp only [go_sem]

def hullR (a b : Int) : Rg := ⟨if b < a then b else a, if b > a then b else a⟩
def rngR (w lo hi : Int) : Rg := hullR (btw w lo hi) (btw (dstep w) lo hi)
theorem rngR_in {w lo hi : Int} (h : lo ≤ hi) : lo ≤ (rngR w lo hi).lo ∧ (rngR w lo hi).lo ≤ (rngR w lo hi).hi ∧ (rngR w lo hi).hi ≤ hi := by
  have := btw_in (w := w) h
  have := btw_in (w := dstep w) h
  unfold rngR hullR; simp only; constructor
  · split <;> (try dsimp only) <;> omega
  · constructor <;> (repeat' split) <;> omega

theorem w64 {n : Int} (h : -9223372036854775808 ≤ n ∧ n ≤ 9223372036854775807) : IntKind.i64.wrap n = n := IntWalk.i64_in _ h
end Go.Proofs

namespace Go.Proofs
open Go Go.Sx

theorem next_ok (w : Int) : Ans Try.prog n_kit_Dice_next [.ptr 0 0 0 1] [some (Dr w)] (.int .u64 (dmix (dstep w))) [some (Dr (dstep w))] := by
  refine spec_run e_kit_Dice_next fun G => ?_
  simp only [go_sem, Dr, dmix, dstep]
  exact ⟨_, rfl⟩

theorem upto_ok (w n : Int) (hn : n ≤ 9223372036854775807) : Ans Try.prog n_kit_Dice_Upto [.ptr 0 0 0 1, .int .i64 n] [some (Dr w)] (.int .i64 (upto w n)) [some (Dr (dstep w))] := by
  refine spec_run e_kit_Dice_Upto fun G => ?_
  simp only [go_sem]
  refine callD (next_ok w) rfl trivial (.int _ _) (dr_bel _ _) (dr_bel _ _) (by simp) (by simp) ?_
  simp only [go_sem]
  refine ⟨fun h => ⟨by simp [upto, h], by simp⟩, fun h => ?_⟩
  have hm : 0 ≤ dmix (dstep w) := (bitW_u64 _ _ _).1
  have h1 : IntKind.u64.wrap n = n := IntWalk.u64_in n (by omega)
  have h2 : (dmix (dstep w)).tmod n = dmix (dstep w) % n := Int.tmod_eq_emod_of_nonneg hm
  have h3 := Int.emod_nonneg (dmix (dstep w)) (show n ≠ 0 by omega)
  have h4 := Int.emod_lt_of_pos (dmix (dstep w)) (show 0 < n by omega)
  rw [h1, h2, IntWalk.i64_in _ (by omega)]
  refine ⟨by omega, by rw [upto, if_neg h], _, rfl⟩

theorem between_ok (w lo hi : Int) (h1 : -1152921504606846976 ≤ lo) (h2 : lo ≤ hi) (h3 : hi ≤ 1152921504606846976) : Ans Try.prog n_kit_Dice_Between [.ptr 0 0 0 1, .int .i64 lo, .int .i64 hi] [some (Dr w)] (.int .i64 (btw w lo hi)) [some (Dr (dstep w))] := by
  refine spec_run e_kit_Dice_Between fun G => ?_
  simp only [go_sem]
  rw [IntWalk.i64_in (hi - lo) (by omega), IntWalk.i64_in (hi - lo + 1) (by omega)]
  refine callD (upto_ok w _ (by omega)) rfl ⟨.int _ _, trivial⟩ (.int _ _) (dr_bel _ _) (dr_bel _ _) (by simp) (by simp) ?_
  have := btw_in (w := w) h2
  unfold btw at this
  simp only [go_sem]
  rw [IntWalk.i64_in _ (by omega)]
  exact ⟨rfl, _, rfl⟩

theorem one_ok (w n : Int) (hn : n ≤ 9223372036854775807) : Ans Try.prog n_kit_Dice_One [.ptr 0 0 0 1, .int .i64 n] [some (Dr w)] (.bool (upto w n == 0)) [some (Dr (dstep w))] := by
  refine spec_run e_kit_Dice_One fun G => ?_
  simp only [go_sem]
  refine callD (upto_ok w _ hn) rfl ⟨.int _ _, trivial⟩ (.int _ _) (dr_bel _ _) (dr_bel _ _) (by simp) (by simp) ?_
  simp only [go_sem]
  exact ⟨_, rfl⟩

theorem range_ok (w lo hi : Int) (h1 : -1152921504606846976 ≤ lo) (h2 : lo ≤ hi) (h3 : hi ≤ 1152921504606846976) : Ans Try.prog n_kit_Dice_Range [.ptr 0 0 0 1, .int .i64 lo, .int .i64 hi] [some (Dr w)] (rngR w lo hi).v [some (Dr (dstep (dstep w)))] := by
  refine spec_run e_kit_Dice_Range fun G => ?_
  simp only [go_sem]
  refine callD (between_ok w lo hi h1 h2 h3) rfl ⟨.int _ _, .int _ _, trivial⟩ (.int _ _) (dr_bel _ _) (dr_bel _ _) (by simp) (by simp) ?_
  simp only [go_sem]
  refine callD (between_ok (dstep w) lo hi h1 h2 h3) rfl ⟨.int _ _, .int _ _, trivial⟩ (.int _ _) (dr_bel _ _) (dr_bel _ _) (by simp) (by simp) ?_
  simp only [go_sem]
  exact ⟨rfl, _, rfl⟩

structure Lw where
  perv : Rg
  gain : Rg
  shift : Rg
  full : Rg
  part : Rg
def Lw.cs (l : Lw) : List AVal := [.int .i64 l.perv.lo, .int .i64 l.perv.hi, .int .i64 l.gain.lo, .int .i64 l.gain.hi, .int .i64 l.shift.lo, .int .i64 l.shift.hi, .int .i64 l.full.lo, .int .i64 l.full.hi, .int .i64 l.part.lo, .int .i64 l.part.hi]
def Lw.v (l : Lw) : AVal := .agg l.cs
theorem lw_bel (l : Lw) (S : Nat → Prop) : Bel S l.v := by unfold Lw.v Lw.cs; simp only [go_sem]

def d2 (w : Int) : Int := dstep (dstep w)
def w10 (w : Int) : Int := d2 (d2 (d2 (d2 (d2 w))))
def lawOf (w : Int) : Lw :=
  ⟨rngR w 1000 90000, if upto (d2 (w10 w)) 8 = 0 then ⟨1, btw (dstep (d2 (w10 w))) 1 400⟩ else rngR (d2 w) 5000 60000, rngR (d2 (d2 w)) (-800) 800,
   if upto (w10 w) 3 = 0 then ⟨1000000, 1000000⟩ else rngR (d2 (d2 (d2 w))) 2000 60000, if upto (dstep (w10 w)) 2 = 0 then ⟨1000000, 1000000⟩ else rngR (d2 (d2 (d2 (d2 w)))) 500000 1000000⟩
def lawEnd (w : Int) : Int := if upto (d2 (w10 w)) 8 = 0 then d2 (d2 (w10 w)) else dstep (d2 (w10 w))

structure LwOK (l : Lw) : Prop where
  perv : 0 ≤ l.perv.lo ∧ l.perv.lo ≤ l.perv.hi ∧ l.perv.hi ≤ 1000000
  gain : 1 ≤ l.gain.lo ∧ l.gain.lo ≤ l.gain.hi ∧ l.gain.hi ≤ 1000000
  shift : -1000000 ≤ l.shift.lo ∧ l.shift.lo ≤ l.shift.hi ∧ l.shift.hi ≤ 1000000
  full : 0 ≤ l.full.lo ∧ l.full.lo ≤ l.full.hi ∧ l.full.hi ≤ 1000000
  part : 0 ≤ l.part.lo ∧ l.part.lo ≤ l.part.hi ∧ l.part.hi ≤ 1000000

theorem lawOf_in (w : Int) : LwOK (lawOf w) := by
  have h1 := rngR_in (w := w) (lo := 1000) (hi := 90000) (by decide)
  have h2 := rngR_in (w := d2 w) (lo := 5000) (hi := 60000) (by decide)
  have h3 := rngR_in (w := d2 (d2 w)) (lo := -800) (hi := 800) (by decide)
  have h4 := rngR_in (w := d2 (d2 (d2 w))) (lo := 2000) (hi := 60000) (by decide)
  have h5 := rngR_in (w := d2 (d2 (d2 (d2 w)))) (lo := 500000) (hi := 1000000) (by decide)
  have h6 := btw_in (w := dstep (d2 (w10 w))) (lo := 1) (hi := 400) (by decide)
  constructor <;> unfold lawOf <;> dsimp only
  · omega
  · split <;> (try dsimp only) <;> omega
  · omega
  · split <;> (try dsimp only) <;> omega
  · split <;> (try dsimp only) <;> omega

theorem lawof_ok (w : Int) : Ans Try.prog n_kit_LawOf [.ptr 0 0 0 1] [some (Dr w)] (lawOf w).v [some (Dr (lawEnd w))] := by
  refine spec_run e_kit_LawOf fun G => ?_
  simp only [go_sem]
  refine callD (range_ok w 1000 90000 (by decide) (by decide) (by decide)) rfl ⟨.int _ _, .int _ _, trivial⟩ (rg_bel _ _) (dr_bel _ _) (dr_bel _ _) (by simp) (by simp) ?_
  simp only [go_sem]
  refine callD (range_ok _ 5000 60000 (by decide) (by decide) (by decide)) rfl ⟨.int _ _, .int _ _, trivial⟩ (rg_bel _ _) (dr_bel _ _) (dr_bel _ _) (by simp) (by simp) ?_
  simp only [go_sem]
  refine callD (range_ok _ (-800) 800 (by decide) (by decide) (by decide)) rfl ⟨.int _ _, .int _ _, trivial⟩ (rg_bel _ _) (dr_bel _ _) (dr_bel _ _) (by simp) (by simp) ?_
  simp only [go_sem]
  refine callD (range_ok _ 2000 60000 (by decide) (by decide) (by decide)) rfl ⟨.int _ _, .int _ _, trivial⟩ (rg_bel _ _) (dr_bel _ _) (dr_bel _ _) (by simp) (by simp) ?_
  simp only [go_sem]
  refine callD (range_ok _ 500000 1000000 (by decide) (by decide) (by decide)) rfl ⟨.int _ _, .int _ _, trivial⟩ (rg_bel _ _) (dr_bel _ _) (dr_bel _ _) (by simp) (by simp) ?_
  simp only [go_sem, Rg.v]
  refine callD (one_ok _ 3 (by decide)) rfl ⟨.int _ _, trivial⟩ (.bool _) (dr_bel _ _) (dr_bel _ _) (by simp) (by simp) ?_
  simp only [go_sem]
  refine ⟨fun h1 => ?_, fun h1 => ?_⟩ <;>
  · refine callD (one_ok _ 2 (by decide)) rfl ⟨.int _ _, trivial⟩ (.bool _) (dr_bel _ _) (dr_bel _ _) (by simp) (by simp) ?_
    simp only [go_sem]
    refine ⟨fun h2 => ?_, fun h2 => ?_⟩ <;>
    · refine callD (one_ok _ 8 (by decide)) rfl ⟨.int _ _, trivial⟩ (.bool _) (dr_bel _ _) (dr_bel _ _) (by simp) (by simp) ?_
      simp only [go_sem]
      refine ⟨fun h3 => ?_, fun h3 => ?_⟩
      · refine callD (between_ok _ 1 400 (by decide) (by decide) (by decide)) rfl ⟨.int _ _, .int _ _, trivial⟩ (.int _ _) (dr_bel _ _) (dr_bel _ _) (by simp) (by simp) ?_
        simp only [go_sem]
        exact ⟨by simp only [lawOf, Lw.v, Lw.cs, d2, w10, h1, h2, h3, if_true, if_false], _, by simp only [lawEnd, d2, w10, h3, if_true, if_false]; rfl⟩
      · exact ⟨by simp only [lawOf, Lw.v, Lw.cs, d2, w10, h1, h2, h3, if_true, if_false], _, by simp only [lawEnd, d2, w10, h3, if_true, if_false]; rfl⟩

theorem newdice_ok (xs : List Int) (hl : xs.length ≤ 9223372036854775807) : Ans Try.prog n_kit_NewDice [.view (xs.map (.int .i64))] [] (.ptr 0 0 0 1) [some (Dr (feed (IntKind.u64.wrap (IntKind.u64.wrap xs.length + 1374496523)) xs))] := by
  refine spec_run e_kit_NewDice fun G => ?_
  simp only [go_sem]
  have key : ∀ (zs : List Int) (i : Nat) (w : Int), xs.drop i = zs → i ≤ xs.length →
      Sx.Loop Try.prog G 0 none k_kit_NewDice_r7 [.blk 0, .seq (.seq (.reg k_kit_NewDice_r8 false) .ret)] ⟨[.view (xs.map (.int .i64)), .any, .nilptr, .ptr 0 0 0 1, .int .i64 i] ++ List.replicate 28 .any, [some (Dr w)], []⟩
        (RetPost [ARes.tmp 2] fun v H' => v = .ptr 0 0 0 1 ∧ ∃ X, H' = some (Dr (feed w zs)) :: X) := by
    intro zs
    induction zs with
    | nil =>
      intro i w hd hi
      have : xs.length ≤ i := by simpa using hd
      have h1 : ¬ (i : Int) < xs.length := by omega
      refine loop_body 200 k_kit_NewDice_r7.eq_1 ?_
      simp only [go_sem, h1, feed]
      exact ⟨_, rfl⟩
    | cons z zs ih =>
      intro i w hd hi
      have hx : xs[i]? = some z := by have := congrArg (·[0]?) hd; simpa using this
      have h1 : i < xs.length := (List.getElem?_eq_some_iff.1 hx).1
      have h2 : (i : Int) < xs.length := by omega
      have h3 : IntKind.i64.wrap ((i : Int) + 1) = ((i + 1 : Nat) : Int) := by rw [IntWalk.i64_in _ (by omega)]; rfl
      have hd' : xs.drop (i + 1) = zs := by have := congrArg (List.drop 1) hd; simpa [Nat.add_comm] using this
      refine loop_body 200 k_kit_NewDice_r7.eq_1 ?_
      simp only [go_sem, hx, h2, Dr]
      refine callD (next_ok _) rfl trivial (.int _ _) (dr_bel _ _) (dr_bel _ _) (by simp) (by simp) ?_
      simp only [go_sem, h3]
      refine loop_wk ?_ (ih (i + 1) _ hd' h1)
      simp [Wk]
  refine loop_wk ?_ (key xs 0 _ rfl (Nat.zero_le _))
  simp [Wk]
end Go.Proofs

namespace Go.Proofs
open Go Go.Sx

theorem within_ok (n a b : Int) : Ans Try.prog n_curve_within [.int .i64 n, .int .i64 a, .int .i64 b] [] (.bool (decide (a ≤ n) && decide (n ≤ b))) [] := by
  refine spec_run e_curve_within fun G => ?_
  simp only [go_sem]
  refine ⟨fun h => ?_, fun h => ?_⟩ <;> simp [h]

theorem rightGrid_ok (g : Int) : Ans Try.prog n_curve_rightGrid [.int .i64 g] [] (.bool (decide (-1000000 ≤ g) && decide (g ≤ 1000000))) [] := by
  refine spec_run e_curve_rightGrid fun G => ?_
  simp only [go_sem]
  refine callP (within_ok _ _ _) ⟨.int _ _, .int _ _, .int _ _, trivial⟩ (.bool _) (by simp) (by simp) ?_
  simp only [go_sem]

theorem rightPlate_ok (g : Int) : Ans Try.prog n_curve_rightPlate [.int .i64 g] [] (.bool (decide (0 ≤ g) && decide (g ≤ 1000000))) [] := by
  refine spec_run e_curve_rightPlate fun G => ?_
  simp only [go_sem]
  refine callP (within_ok _ _ _) ⟨.int _ _, .int _ _, .int _ _, trivial⟩ (.bool _) (by simp) (by simp) ?_
  simp only [go_sem]

def bnd (n : Int) : Int := if n < 0 then 0 else if 1000000 < n then 1000000 else n

theorem bounded_ok (n : Int) : Ans Try.prog n_curve_bounded [.int .i64 n, .int .i64 0, .int .i64 1000000] [] (.int .i64 (bnd n)) [] := by
  refine spec_run e_curve_bounded fun G => ?_
  simp only [go_sem]
  unfold bnd
  repeat' split
  all_goals omega

def rup (n b : Int) : Int := (n + b - 1) / b

theorem roundUp_ok (n b : Int) (h0 : 0 ≤ n) (h1 : 1 ≤ b) (h2 : n ≤ 1152921504606846976) (h3 : b ≤ 1152921504606846976) : Ans Try.prog n_curve_roundUp [.int .i64 n, .int .i64 b] [] (.int .i64 (rup n b)) [] := by
  refine spec_run e_curve_roundUp fun G => ?_
  have hq : 0 ≤ (n + b - 1) / b := Int.ediv_nonneg (by omega) (by omega)
  have hq2 : (n + b - 1) / b ≤ n + b - 1 := Int.ediv_le_self _ (by omega)
  simp only [go_sem]
  rw [IntWalk.i64_in (n + b) (by omega), IntWalk.i64_in (n + b - 1) (by omega), Int.tdiv_eq_ediv_of_nonneg (by omega), IntWalk.i64_in _ (by omega)]
  exact ⟨by omega, rfl⟩

theorem checkLaw_ok (l : Lw) (h : LwOK l) : Ans Try.prog n_curve_CheckLaw [l.v] [] (.int .i64 0) [] := by
  obtain ⟨⟨a1, a2, a3⟩, ⟨b1, b2, b3⟩, ⟨c1, c2, c3⟩, ⟨d1, d2, d3⟩, ⟨e1, e2, e3⟩⟩ := h
  have a1 := Int.not_lt.2 a1
  have a2 := Int.not_lt.2 a2
  have a3 := Int.not_lt.2 a3
  have b1 := Int.not_lt.2 b1
  have b2 := Int.not_lt.2 b2
  have b3 := Int.not_lt.2 b3
  have c1 := Int.not_lt.2 c1
  have c2 := Int.not_lt.2 c2
  have c3 := Int.not_lt.2 c3
  have d1 := Int.not_lt.2 d1
  have d2 := Int.not_lt.2 d2
  have d3 := Int.not_lt.2 d3
  have e1 := Int.not_lt.2 e1
  have e2 := Int.not_lt.2 e2
  have e3 := Int.not_lt.2 e3
  have u1 : IntKind.i64.wrap 1 = 1 := rfl
  have u2 : IntKind.i64.wrap 2 = 2 := rfl
  have u3 : IntKind.i64.wrap 3 = 3 := rfl
  have u4 : IntKind.i64.wrap 4 = 4 := rfl
  have u5 : IntKind.i64.wrap 5 = 5 := rfl
  refine spec_run e_curve_CheckLaw fun G => ?_
  simp only [go_sem, Lw.v, Lw.cs]
  refine loop_body 200 k_curve_CheckLaw_r10.eq_1 ?_
  simp only [go_sem, a1, a2, a3, u1]
  refine loop_body 200 k_curve_CheckLaw_r10.eq_1 ?_
  simp only [go_sem, b1, b2, b3, u2]
  refine loop_body 200 k_curve_CheckLaw_r10.eq_1 ?_
  simp only [go_sem, c1, c2, c3, u3]
  refine loop_body 200 k_curve_CheckLaw_r10.eq_1 ?_
  simp only [go_sem, d1, d2, d3, u4]
  refine loop_body 200 k_curve_CheckLaw_r10.eq_1 ?_
  simp only [go_sem, e1, e2, e3, u5]
  refine loop_body 200 k_curve_CheckLaw_r10.eq_1 ?_
  simp only [go_sem]

theorem checkVolts_ok (l : Lw) (h : LwOK l) (g p : Int) (h1 : -1000000 ≤ g ∧ g ≤ 1000000) (h2 : 0 ≤ p ∧ p ≤ 1000000) : Ans Try.prog n_curve_checkVolts [l.v, .int .i64 g, .int .i64 p] [] (.int .i64 0) [] := by
  refine spec_run e_curve_checkVolts fun G => ?_
  simp only [go_sem]
  refine callP (checkLaw_ok l h) ⟨lw_bel _ _, trivial⟩ (.int _ _) (by simp) (by simp) ?_
  simp only [go_sem]
  refine callP (rightGrid_ok g) ⟨.int _ _, trivial⟩ (.bool _) (by simp) (by simp) ?_
  have e1 : (decide (-1000000 ≤ g) && decide (g ≤ 1000000)) = true := by simp [h1]
  have e2 : (decide (0 ≤ p) && decide (p ≤ 1000000)) = true := by simp [h2]
  simp only [go_sem, e1]
  refine callP (rightPlate_ok p) ⟨.int _ _, trivial⟩ (.bool _) (by simp) (by simp) ?_
  simp only [go_sem, e2]

def driveOf (l : Lw) (g p : Int) : Rg := ⟨bnd (g + l.shift.lo + (1000 * p) / l.gain.hi), bnd (g + l.shift.hi + rup (1000 * p) l.gain.lo)⟩

theorem drive_ok (l : Lw) (h : LwOK l) (g p : Int) (h1 : -1000000 ≤ g ∧ g ≤ 1000000) (h2 : 0 ≤ p ∧ p ≤ 1000000) : Ans Try.prog n_curve_drive [l.v, .int .i64 g, .int .i64 p] [] (driveOf l g p).v [] := by
  obtain ⟨_, ⟨b1, b2, b3⟩, ⟨c1, c2, c3⟩, _, _⟩ := h
  have q1 : 0 ≤ 1000 * p / l.gain.hi := Int.ediv_nonneg (by omega) (by omega)
  have q2 : 1000 * p / l.gain.hi ≤ 1000 * p := Int.ediv_le_self _ (by omega)
  have q3 : 0 ≤ rup (1000 * p) l.gain.lo := Int.ediv_nonneg (by omega) (by omega)
  have q4 : rup (1000 * p) l.gain.lo ≤ 1000 * p + l.gain.lo - 1 := Int.ediv_le_self _ (by omega)
  have e1 : (1000 * p).tdiv l.gain.hi = 1000 * p / l.gain.hi := Int.tdiv_eq_ediv_of_nonneg (by omega)
  have m1 : IntKind.i64.wrap (1000 * p) = 1000 * p := IntWalk.i64_in _ (by omega)
  have m2 : IntKind.i64.wrap (1000 * p / l.gain.hi) = 1000 * p / l.gain.hi := IntWalk.i64_in _ (by omega)
  have m3 : IntKind.i64.wrap (g + l.shift.lo) = g + l.shift.lo := IntWalk.i64_in _ (by omega)
  have m4 : IntKind.i64.wrap (g + l.shift.lo + 1000 * p / l.gain.hi) = g + l.shift.lo + 1000 * p / l.gain.hi := IntWalk.i64_in _ (by omega)
  have m5 : IntKind.i64.wrap (g + l.shift.hi) = g + l.shift.hi := IntWalk.i64_in _ (by omega)
  have m6 : IntKind.i64.wrap (g + l.shift.hi + rup (1000 * p) l.gain.lo) = g + l.shift.hi + rup (1000 * p) l.gain.lo := IntWalk.i64_in _ (by omega)
  refine spec_run e_curve_drive fun G => ?_
  simp only [go_sem, Lw.v, Lw.cs, m1, e1, m2, m3, m4]
  refine ⟨by omega, dcallP (bounded_ok _) ⟨.int _ _, .int _ _, .int _ _, trivial⟩ (.int _ _) (by simp only [go_sem]) ?_⟩
  simp only [go_sem, m5, m1]
  refine dcallP (roundUp_ok _ _ (by omega) b1 (by omega) (by omega)) ⟨.int _ _, .int _ _, trivial⟩ (.int _ _) (by simp only [go_sem]) ?_
  simp only [go_sem, m6]
  refine callP (bounded_ok _) ⟨.int _ _, .int _ _, .int _ _, trivial⟩ (.int _ _) (by simp) (by simp) ?_
  simp only [go_sem, driveOf, Rg.v]

theorem shr_u64 (x n : Int) : shrW .u64 x n = x / 2 ^ (min n.toNat 64) := by
  unfold shrW; rw [Int.fdiv_eq_ediv_of_nonneg _ (by exact Int.pow_nonneg (by decide))]; rfl

def lenTab : List UInt8 := [0, 1, 2, 2, 3, 3, 3, 3, 4, 4, 4, 4, 4, 4, 4, 4, 5, 5, 5, 5, 5, 5, 5, 5, 5, 5, 5, 5, 5, 5, 5, 5, 6, 6, 6, 6, 6, 6, 6, 6, 6, 6, 6, 6, 6, 6, 6, 6, 6, 6, 6, 6, 6, 6, 6, 6, 6, 6, 6, 6, 6, 6, 6, 6, 7, 7, 7, 7, 7, 7, 7, 7, 7, 7, 7, 7, 7, 7, 7, 7, 7, 7, 7, 7, 7, 7, 7, 7, 7, 7, 7, 7, 7, 7, 7, 7, 7, 7, 7, 7, 7, 7, 7, 7, 7, 7, 7, 7, 7, 7, 7, 7, 7, 7, 7, 7, 7, 7, 7, 7, 7, 7, 7, 7, 7, 7, 7, 7, 8, 8, 8, 8, 8, 8, 8, 8, 8, 8, 8, 8, 8, 8, 8, 8, 8, 8, 8, 8, 8, 8, 8, 8, 8, 8, 8, 8, 8, 8, 8, 8, 8, 8, 8, 8, 8, 8, 8, 8, 8, 8, 8, 8, 8, 8, 8, 8, 8, 8, 8, 8, 8, 8, 8, 8, 8, 8, 8, 8, 8, 8, 8, 8, 8, 8, 8, 8, 8, 8, 8, 8, 8, 8, 8, 8, 8, 8, 8, 8, 8, 8, 8, 8, 8, 8, 8, 8, 8, 8, 8, 8, 8, 8, 8, 8, 8, 8, 8, 8, 8, 8, 8, 8, 8, 8, 8, 8, 8, 8, 8, 8, 8, 8, 8, 8, 8, 8, 8, 8, 8, 8, 8, 8, 8, 8, 8, 8]
theorem lenTab_ok : ∀ n : Fin 256, ∃ b, lenTab[n.val]? = some b ∧ n.val < 2 ^ b.toNat ∧ b.toNat ≤ 8 := by decide +kernel

theorem s32 (x : Int) : shrW .u64 x 32 = x / 4294967296 := by rw [shr_u64]; rfl
theorem s16 (x : Int) : shrW .u64 x 16 = x / 65536 := by rw [shr_u64]; rfl
theorem s8 (x : Int) : shrW .u64 x 8 = x / 256 := by rw [shr_u64]; rfl

set_option maxRecDepth 100000 in
theorem len64_ok (x : Int) (h0 : 0 ≤ x) (h1 : x ≤ 1152921504606846976) : ∃ m : Nat, m ≤ 64 ∧ x < 2 ^ m ∧ Ans Try.prog n_bits_Len64 [.int .u64 x] [] (.int .i64 m) [] := by
  obtain ⟨y, a, hy0, hy1, ha, hxy, hrun⟩ : ∃ (y : Int) (a : Nat), 0 ≤ y ∧ y < 256 ∧ a ≤ 56 ∧ x < (y + 1) * 2 ^ a ∧ ∀ b : UInt8, lenTab[y.toNat]? = some b → b.toNat ≤ 8 → Ans Try.prog n_bits_Len64 [.int .u64 x] [] (.int .i64 (a + b.toNat : Nat)) [] := by
    by_cases c1 : 4294967296 ≤ x
    · by_cases c2 : 65536 ≤ x / 4294967296
      · by_cases c3 : 256 ≤ (x / 4294967296) / 65536
        · refine ⟨((x / 4294967296) / 65536) / 256, 56, by omega, by omega, by decide, by omega, fun b hb hb8 => ?_⟩
          have hu : IntKind.u8.wrap (((x / 4294967296) / 65536) / 256) = ((x / 4294967296) / 65536) / 256 := IntWalk.u8_in _ (by omega)
          have hl : ¬ (((x / 4294967296) / 65536) / 256) < 0 := by omega
          unfold lenTab at hb
          refine spec_run e_bits_Len64 fun G => ?_
          simp only [go_sem, c1, c2, c3, s32, s16, s8, hu, hl, hb]
          simp only [IntKind.wrap_i64]
          omega
        · refine ⟨(x / 4294967296) / 65536, 48, by omega, by omega, by decide, by omega, fun b hb hb8 => ?_⟩
          have hu : IntKind.u8.wrap ((x / 4294967296) / 65536) = (x / 4294967296) / 65536 := IntWalk.u8_in _ (by omega)
          have hl : ¬ ((x / 4294967296) / 65536) < 0 := by omega
          unfold lenTab at hb
          refine spec_run e_bits_Len64 fun G => ?_
          simp only [go_sem, c1, c2, c3, s32, s16, s8, hu, hl, hb]
          simp only [IntKind.wrap_i64]
          omega
      · by_cases c3 : 256 ≤ x / 4294967296
        · refine ⟨(x / 4294967296) / 256, 40, by omega, by omega, by decide, by omega, fun b hb hb8 => ?_⟩
          have hu : IntKind.u8.wrap ((x / 4294967296) / 256) = (x / 4294967296) / 256 := IntWalk.u8_in _ (by omega)
          have hl : ¬ ((x / 4294967296) / 256) < 0 := by omega
          unfold lenTab at hb
          refine spec_run e_bits_Len64 fun G => ?_
          simp only [go_sem, c1, c2, c3, s32, s16, s8, hu, hl, hb]
          simp only [IntKind.wrap_i64]
          omega
        · refine ⟨x / 4294967296, 32, by omega, by omega, by decide, by omega, fun b hb hb8 => ?_⟩
          have hu : IntKind.u8.wrap (x / 4294967296) = x / 4294967296 := IntWalk.u8_in _ (by omega)
          have hl : ¬ (x / 4294967296) < 0 := by omega
          unfold lenTab at hb
          refine spec_run e_bits_Len64 fun G => ?_
          simp only [go_sem, c1, c2, c3, s32, s16, s8, hu, hl, hb]
          simp only [IntKind.wrap_i64]
          omega
    · by_cases c2 : 65536 ≤ x
      · by_cases c3 : 256 ≤ (x) / 65536
        · refine ⟨((x) / 65536) / 256, 24, by omega, by omega, by decide, by omega, fun b hb hb8 => ?_⟩
          have hu : IntKind.u8.wrap (((x) / 65536) / 256) = ((x) / 65536) / 256 := IntWalk.u8_in _ (by omega)
          have hl : ¬ (((x) / 65536) / 256) < 0 := by omega
          unfold lenTab at hb
          refine spec_run e_bits_Len64 fun G => ?_
          simp only [go_sem, c1, c2, c3, s32, s16, s8, hu, hl, hb]
          simp only [IntKind.wrap_i64]
          omega
        · refine ⟨(x) / 65536, 16, by omega, by omega, by decide, by omega, fun b hb hb8 => ?_⟩
          have hu : IntKind.u8.wrap ((x) / 65536) = (x) / 65536 := IntWalk.u8_in _ (by omega)
          have hl : ¬ ((x) / 65536) < 0 := by omega
          unfold lenTab at hb
          refine spec_run e_bits_Len64 fun G => ?_
          simp only [go_sem, c1, c2, c3, s32, s16, s8, hu, hl, hb]
          simp only [IntKind.wrap_i64]
          omega
      · by_cases c3 : 256 ≤ x
        · refine ⟨(x) / 256, 8, by omega, by omega, by decide, by omega, fun b hb hb8 => ?_⟩
          have hu : IntKind.u8.wrap ((x) / 256) = (x) / 256 := IntWalk.u8_in _ (by omega)
          have hl : ¬ ((x) / 256) < 0 := by omega
          unfold lenTab at hb
          refine spec_run e_bits_Len64 fun G => ?_
          simp only [go_sem, c1, c2, c3, s32, s16, s8, hu, hl, hb]
          simp only [IntKind.wrap_i64]
          omega
        · refine ⟨x, 0, by omega, by omega, by decide, by omega, fun b hb hb8 => ?_⟩
          have hu : IntKind.u8.wrap (x) = x := IntWalk.u8_in _ (by omega)
          have hl : ¬ (x) < 0 := by omega
          unfold lenTab at hb
          refine spec_run e_bits_Len64 fun G => ?_
          simp only [go_sem, c1, c2, c3, s32, s16, s8, hu, hl, hb]
          simp only [IntKind.wrap_i64]
          omega
  obtain ⟨b, hb1, hb2, hb3⟩ := lenTab_ok ⟨y.toNat, by omega⟩
  refine ⟨a + b.toNat, by omega, ?_, hrun b hb1 hb3⟩
  have h3 : y + 1 ≤ 2 ^ b.toNat := by
    have : ((y.toNat : Nat) : Int) < ((2 ^ b.toNat : Nat) : Int) := by exact_mod_cast hb2
    push_cast at this
    omega
  have h4 : (y + 1) * 2 ^ a ≤ 2 ^ b.toNat * 2 ^ a := Int.mul_le_mul_of_nonneg_right h3 (Int.pow_nonneg (by decide))
  rw [Int.pow_add, Int.mul_comm]
  omega
end Go.Proofs

namespace Go.Proofs
open Go Go.Sx

def isq : Nat → Nat
  | 0 => 0
  | n + 1 => if (isq n + 1) * (isq n + 1) ≤ n + 1 then isq n + 1 else isq n

theorem isq_ok (n : Nat) : isq n * isq n ≤ n ∧ n < (isq n + 1) * (isq n + 1) := by
  induction n with
  | zero => simp [isq]
  | succ n ih =>
    simp only [isq]
    split
    · rename_i h
      refine ⟨h, ?_⟩
      have h2 : (isq n + 1) * (isq n + 1) + (isq n + 1) < (isq n + 1 + 1) * (isq n + 1 + 1) := by
        simp only [Nat.add_mul, Nat.mul_add]; omega
      omega
    · omega

def root (n : Int) : Int := isq n.toNat
theorem root_ok {n : Int} (h : 0 ≤ n) : 0 ≤ root n ∧ root n * root n ≤ n ∧ n < (root n + 1) * (root n + 1) := by
  have := isq_ok n.toNat
  unfold root
  refine ⟨by omega, ?_, ?_⟩
  · have h1 : ((isq n.toNat * isq n.toNat : Nat) : Int) ≤ (n.toNat : Int) := by exact_mod_cast this.1
    push_cast at h1
    omega
  · have h1 : (n.toNat : Int) < (((isq n.toNat + 1) * (isq n.toNat + 1) : Nat) : Int) := by exact_mod_cast this.2
    push_cast at h1
    omega

theorem sq_le {a b : Int} (ha : 0 ≤ a) (h : a ≤ b) : a * a ≤ b * b := Int.mul_le_mul h h ha (by omega)
theorem root_unique {n r : Int} (hn : 0 ≤ n) (h0 : 0 ≤ r) (h1 : r * r ≤ n) (h2 : n < (r + 1) * (r + 1)) : r = root n := by
  obtain ⟨a, b, c⟩ := root_ok hn
  rcases Int.lt_trichotomy r (root n) with h | h | h
  · have := sq_le (a := r + 1) (b := root n) (by omega) (by omega); omega
  · exact h
  · have := sq_le (a := root n + 1) (b := r) (by omega) (by omega); omega

theorem newton {n r : Int} (hn : 0 ≤ n) (hr : 1 ≤ r) : n < ((r + n / r) / 2 + 1) * ((r + n / r) / 2 + 1) := by
  have h1 : n < r * (n / r + 1) := by
    have := Int.lt_mul_ediv_self_add (x := n) (show 0 < r by omega)
    rw [Int.mul_add, Int.mul_one]; exact this
  have hq : 0 ≤ n / r := Int.ediv_nonneg hn (by omega)
  generalize n / r = q at *
  generalize hm : (r + q) / 2 + 1 = m
  have h2 : r + (q + 1) ≤ 2 * m := by omega
  have hs0 : 0 ≤ q + 1 := by omega
  generalize q + 1 = s at *
  have h3 : (r + s) * (r + s) ≤ (2 * m) * (2 * m) := sq_le (by omega) h2
  have h4 : 0 ≤ (r - s) * (r - s) := by
    rcases Int.le_total 0 (r - s) with h | h
    · exact Int.mul_nonneg h h
    · exact Int.mul_nonneg_of_nonpos_of_nonpos h h
  have e1 : (r + s) * (r + s) = r * r + 2 * (r * s) + s * s := by
    rw [Int.add_mul, Int.mul_add, Int.mul_add, Int.mul_comm s r]; omega
  have e2 : (r - s) * (r - s) = r * r - 2 * (r * s) + s * s := by
    rw [Int.sub_mul, Int.mul_sub, Int.mul_sub, Int.mul_comm s r]; omega
  have e3 : (2 * m) * (2 * m) = 4 * (m * m) := by
    rw [Int.mul_assoc, Int.mul_left_comm m 2 m]; omega
  omega

theorem len_ok (x : Int) (h0 : 0 ≤ x) (h1 : x ≤ 1152921504606846976) : ∃ m : Nat, m ≤ 64 ∧ x < 2 ^ m ∧ Ans Try.prog n_bits_Len [.int .u64 x] [] (.int .i64 m) [] := by
  obtain ⟨m, h2, h3, h4⟩ := len64_ok x h0 h1
  refine ⟨m, h2, h3, spec_run e_bits_Len fun G => ?_⟩
  simp only [go_sem]
  refine callP h4 ⟨.int _ _, trivial⟩ (.int _ _) (by simp) (by simp) ?_
  simp only [go_sem]

theorem rootDown_ok (n : Int) (h0 : 0 ≤ n) (h1 : n ≤ 1152921504606846976) : Ans Try.prog n_curve_rootDown [.int .i64 n] [] (.int .i64 (root n)) [] := by
  obtain ⟨m, hm1, hm2, hm3⟩ := len_ok n h0 h1
  have key : ∀ (k : Nat) (r : Int), r.toNat = k → 1 ≤ r → r ≤ 4294967296 → 1 ≤ n → n < (r + 1) * (r + 1) → ∀ G,
      Sx.Loop Try.prog G 0 none k_curve_rootDown_r8 [.blk 0] ⟨[.int .i64 n, .any, .int .i64 0, .int .i64 r] ++ List.replicate 20 .any, [], []⟩ (RetPost [ARes.tmp 2] fun v H' => v = .int .i64 (root n)) := by
    intro k
    induction k using Nat.strongRecOn with
    | ind k ih =>
      intro r hk hr hr2 hn1 hn G
      have hq0 : 0 ≤ n / r := Int.ediv_nonneg h0 (by omega)
      have hq1 : n / r ≤ n := Int.ediv_le_self _ h0
      have e1 : n.tdiv r = n / r := Int.tdiv_eq_ediv_of_nonneg h0
      have e2 : IntKind.i64.wrap (n / r) = n / r := IntWalk.i64_in _ (by omega)
      have e3 : IntKind.i64.wrap (r + n / r) = r + n / r := IntWalk.i64_in _ (by omega)
      have e4 : (r + n / r).tdiv 2 = (r + n / r) / 2 := Int.tdiv_eq_ediv_of_nonneg (by omega)
      have e5 : IntKind.i64.wrap ((r + n / r) / 2) = (r + n / r) / 2 := IntWalk.i64_in _ (by omega)
      refine loop_body 200 k_curve_rootDown_r8.eq_1 ?_
      simp only [go_sem, e1, e2, e3, e4, e5]
      refine ⟨by omega, fun h => root_unique h0 (by omega) ?_ hn, fun h => ?_⟩
      · have h2 : r ≤ n / r := by omega
        have h3 : r * r ≤ r * (n / r) := Int.mul_le_mul_of_nonneg_left h2 (by omega)
        have h4 := Int.mul_ediv_self_le (x := n) (k := r) (by omega)
        omega
      · have h2 : 1 ≤ (r + n / r) / 2 := by
          rcases Int.lt_or_le r 2 with h3 | h3
          · obtain rfl : r = 1 := by omega
            rw [Int.ediv_one] at h ⊢
            omega
          · omega
        refine loop_wk ?_ (ih _ ?_ ((r + n / r) / 2) rfl h2 (by omega) hn1 (newton h0 hr) G)
        · simp [Wk]
        · omega
  have f0 : IntKind.u64.wrap n = n := IntWalk.u64_in _ (by omega)
  have f1 : IntKind.i64.wrap ((m : Int) + 1) = (m : Int) + 1 := IntWalk.i64_in _ (by omega)
  have f2 : ((m : Int) + 1).tdiv 2 = ((m : Int) + 1) / 2 := Int.tdiv_eq_ediv_of_nonneg (by omega)
  have f3 : IntKind.i64.wrap (((m : Int) + 1) / 2) = ((m : Int) + 1) / 2 := IntWalk.i64_in _ (by omega)
  have f5 : ¬ ((m : Int) + 1) / 2 < 0 := by omega
  have f6 : (((m : Int) + 1) / 2).toNat = (m + 1) / 2 := by omega
  have f7 : (2 : Nat) ^ ((m + 1) / 2) ≤ 2 ^ 32 := Nat.pow_le_pow_right (by decide) (by omega)
  have f8 : 1 ≤ (2 : Nat) ^ ((m + 1) / 2) := Nat.one_le_two_pow
  have f4 : shlW .i64 1 (((m : Int) + 1) / 2) = ((2 ^ ((m + 1) / 2) : Nat) : Int) := by
    unfold shlW
    have e : min (((m : Int) + 1) / 2).toNat IntKind.i64.bits = (m + 1) / 2 := by
      rw [f6]; exact Nat.min_eq_left (by show _ ≤ 64; omega)
    rw [e, Int.one_mul]
    have e2 : (2 : Int) ^ ((m + 1) / 2) = ((2 ^ ((m + 1) / 2) : Nat) : Int) := by push_cast; rfl
    rw [e2]
    exact IntWalk.i64_in _ (by omega)
  refine spec_run e_curve_rootDown fun G => ?_
  simp only [go_sem]
  refine ⟨fun h => by rw [h]; rfl, fun h => ?_⟩
  simp only [f0]
  refine callP hm3 ⟨.int _ _, trivial⟩ (.int _ _) (by simp) (by simp) ?_
  simp only [go_sem, f1, f2, f3, f4, f5]
  refine loop_wk ?_ (key _ ((2 ^ ((m + 1) / 2) : Nat) : Int) rfl (by omega) (by omega) (by omega) ?_ G)
  · simp [Wk]
  · have h2 : (2 : Nat) ^ m ≤ 2 ^ ((m + 1) / 2) * 2 ^ ((m + 1) / 2) := by
      rw [← Nat.pow_add]; exact Nat.pow_le_pow_right (by decide) (by omega)
    have h3 : ((2 ^ m : Nat) : Int) ≤ ((2 ^ ((m + 1) / 2) * 2 ^ ((m + 1) / 2) : Nat) : Int) := by exact_mod_cast h2
    have h4 : n < ((2 ^ m : Nat) : Int) := by push_cast; exact hm2
    generalize (2 : Nat) ^ ((m + 1) / 2) = z at *
    push_cast at h3
    rw [Int.add_mul, Int.mul_add]
    omega

def rootU (n : Int) : Int := if root n * root n < n then root n + 1 else root n

theorem root_le {n : Int} (h0 : 0 ≤ n) (h1 : n ≤ 1152921504606846976) : root n ≤ 1073741824 := by
  obtain ⟨a, b, c⟩ := root_ok h0
  refine Int.not_lt.1 fun h => ?_
  have := sq_le (a := 1073741825) (b := root n) (by decide) (by omega)
  omega

theorem rootUp_ok (n : Int) (h0 : 0 ≤ n) (h1 : n ≤ 1152921504606846976) : Ans Try.prog n_curve_rootUp [.int .i64 n] [] (.int .i64 (rootU n)) [] := by
  have h2 := root_le h0 h1
  obtain ⟨a, b, c⟩ := root_ok h0
  have e1 : IntKind.i64.wrap (root n * root n) = root n * root n := IntWalk.i64_in _ (by have := Int.mul_nonneg a a; omega)
  have e2 : IntKind.i64.wrap (root n + 1) = root n + 1 := IntWalk.i64_in _ (by omega)
  refine spec_run e_curve_rootUp fun G => ?_
  simp only [go_sem]
  refine callP (rootDown_ok n h0 h1) ⟨.int _ _, trivial⟩ (.int _ _) (by simp) (by simp) ?_
  simp only [go_sem, e1, e2]
  refine ⟨fun h => ?_, fun h => ?_⟩ <;> simp [rootU, h]
end Go.Proofs

namespace Go.Proofs
open Go Go.Sx

def cube (n : Int) : Int := n * n * n
def mn (a b : Int) : Int := if b < a then b else a
def spaceLo (l : Lw) (d : Rg) : Int := l.perv.lo * root (cube d.lo) / 1000000
def spaceHi (l : Lw) (d : Rg) : Int := rup (l.perv.hi * rootU (cube d.hi)) 1000000
def curLo (l : Lw) (d : Rg) : Int := l.part.lo * mn (spaceLo l d) l.full.lo / 1000000
def curHi (l : Lw) (d : Rg) : Int := rup (l.part.hi * mn (spaceHi l d) l.full.hi) 1000000
def curOf (l : Lw) (g p : Int) : Rg := ⟨curLo l (driveOf l g p), curHi l (driveOf l g p)⟩

theorem bnd_in (n : Int) : 0 ≤ bnd n ∧ bnd n ≤ 1000000 := by unfold bnd; (repeat' split) <;> omega

theorem cube_in {n : Int} (h0 : 0 ≤ n) (h1 : n ≤ 1000000) : 0 ≤ n * n ∧ n * n ≤ 1000000000000 ∧ 0 ≤ cube n ∧ cube n ≤ 1000000000000000000 := by
  have a := Int.mul_nonneg h0 h0
  have b := Int.mul_le_mul h1 h1 h0 (by decide)
  have c := Int.mul_nonneg a h0
  have d := Int.mul_le_mul b h1 h0 (by decide)
  unfold cube; omega

theorem mul_in {a b A B : Int} (h1 : 0 ≤ a ∧ a ≤ A) (h2 : 0 ≤ b ∧ b ≤ B) : 0 ≤ a * b ∧ a * b ≤ A * B :=
  ⟨Int.mul_nonneg h1.1 h2.1, Int.mul_le_mul h1.2 h2.2 h2.1 (by omega)⟩

theorem rup_in {n b : Int} (h0 : 0 ≤ n) (h1 : 1 ≤ b) : 0 ≤ rup n b ∧ rup n b ≤ n + b - 1 := ⟨Int.ediv_nonneg (by omega) (by omega), Int.ediv_le_self _ (by omega)⟩

theorem mn_in {a b : Int} (h0 : 0 ≤ a) (h1 : 0 ≤ b) : 0 ≤ mn a b ∧ mn a b ≤ b := by unfold mn; split <;> omega

theorem current_ok (l : Lw) (h : LwOK l) (g p : Int) (h1 : -1000000 ≤ g ∧ g ≤ 1000000) (h2 : 0 ≤ p ∧ p ≤ 1000000) : Ans Try.prog n_curve_current [l.v, .int .i64 g, .int .i64 p] [] (curOf l g p).v [] := by
  have hd := drive_ok l h g p h1 h2
  have hlo := bnd_in (g + l.shift.lo + (1000 * p) / l.gain.hi)
  have hhi := bnd_in (g + l.shift.hi + rup (1000 * p) l.gain.lo)
  rw [show bnd (g + l.shift.lo + (1000 * p) / l.gain.hi) = (driveOf l g p).lo from rfl] at hlo
  rw [show bnd (g + l.shift.hi + rup (1000 * p) l.gain.lo) = (driveOf l g p).hi from rfl] at hhi
  unfold curOf
  generalize driveOf l g p = d at *
  obtain ⟨⟨a1, a2, a3⟩, _, _, ⟨d1, d2, d3⟩, ⟨e1, e2, e3⟩⟩ := h
  obtain ⟨c1, c2, c3, c4⟩ := cube_in hlo.1 hlo.2
  obtain ⟨c5, c6, c7, c8⟩ := cube_in hhi.1 hhi.2
  obtain ⟨r1, _, _⟩ := root_ok c3
  have r2 := root_le c3 (by omega)
  obtain ⟨r3, _, _⟩ := root_ok c7
  have r4 := root_le c7 (by omega)
  have r5 : 0 ≤ rootU (cube d.hi) ∧ rootU (cube d.hi) ≤ 1073741825 := by unfold rootU; split <;> omega
  have p1 := mul_in (a := l.perv.lo) (A := 1000000) ⟨a1, by omega⟩ ⟨r1, r2⟩
  have p2 := mul_in (a := l.perv.hi) (A := 1000000) ⟨by omega, by omega⟩ r5
  have s1 : 0 ≤ spaceLo l d ∧ spaceLo l d ≤ l.perv.lo * root (cube d.lo) := ⟨Int.ediv_nonneg p1.1 (by decide), Int.ediv_le_self _ p1.1⟩
  have s2 : 0 ≤ spaceHi l d ∧ _ := rup_in p2.1 (by decide)
  have m1 := mn_in s1.1 d1
  have m2 := mn_in s2.1 (show 0 ≤ l.full.hi by omega)
  have p3 := mul_in (a := l.part.lo) (A := 1000000) (B := 1000000) ⟨e1, by omega⟩ ⟨m1.1, by omega⟩
  have p4 := mul_in (a := l.part.hi) (A := 1000000) (B := 1000000) ⟨by omega, by omega⟩ ⟨m2.1, by omega⟩
  have t1 : 0 ≤ curLo l d ∧ curLo l d ≤ l.part.lo * mn (spaceLo l d) l.full.lo := ⟨Int.ediv_nonneg p3.1 (by decide), Int.ediv_le_self _ p3.1⟩
  have w1 : IntKind.i64.wrap (d.lo * d.lo) = d.lo * d.lo := IntWalk.i64_in _ (by omega)
  have w2 : IntKind.i64.wrap (d.lo * d.lo * d.lo) = cube d.lo := IntWalk.i64_in (cube d.lo) (by omega)
  have w3 : IntKind.i64.wrap (d.hi * d.hi) = d.hi * d.hi := IntWalk.i64_in _ (by omega)
  have w4 : IntKind.i64.wrap (d.hi * d.hi * d.hi) = cube d.hi := IntWalk.i64_in (cube d.hi) (by omega)
  have w5 : IntKind.i64.wrap (l.perv.lo * root (cube d.lo)) = l.perv.lo * root (cube d.lo) := IntWalk.i64_in _ (by omega)
  have w6 : (l.perv.lo * root (cube d.lo)).tdiv 1000000 = spaceLo l d := Int.tdiv_eq_ediv_of_nonneg p1.1
  have w7 : IntKind.i64.wrap (spaceLo l d) = spaceLo l d := IntWalk.i64_in _ (by omega)
  have w8 : IntKind.i64.wrap (l.perv.hi * rootU (cube d.hi)) = l.perv.hi * rootU (cube d.hi) := IntWalk.i64_in _ (by omega)
  have n1 : (if l.full.lo < spaceLo l d then l.full.lo else spaceLo l d) = mn (spaceLo l d) l.full.lo := rfl
  have n2 : (if l.full.hi < spaceHi l d then l.full.hi else spaceHi l d) = mn (spaceHi l d) l.full.hi := rfl
  have w9 : IntKind.i64.wrap (l.part.lo * mn (spaceLo l d) l.full.lo) = l.part.lo * mn (spaceLo l d) l.full.lo := IntWalk.i64_in _ (by omega)
  have w10 : (l.part.lo * mn (spaceLo l d) l.full.lo).tdiv 1000000 = curLo l d := Int.tdiv_eq_ediv_of_nonneg p3.1
  have w11 : IntKind.i64.wrap (curLo l d) = curLo l d := IntWalk.i64_in _ (by omega)
  have w12 : IntKind.i64.wrap (l.part.hi * mn (spaceHi l d) l.full.hi) = l.part.hi * mn (spaceHi l d) l.full.hi := IntWalk.i64_in _ (by omega)
  have z1 : rup (l.perv.hi * rootU (cube d.hi)) 1000000 = spaceHi l d := rfl
  have z2 : rup (l.part.hi * mn (spaceHi l d) l.full.hi) 1000000 = curHi l d := rfl
  refine spec_run e_curve_current fun G => ?_
  simp only [go_sem, Lw.v, Lw.cs]
  refine callP hd ⟨lw_bel _ _, .int _ _, .int _ _, trivial⟩ (rg_bel _ _) (by simp) (by simp) ?_
  simp only [go_sem, Rg.v, w1, w2]
  refine dcallP (rootDown_ok _ c3 (by omega)) ⟨.int _ _, trivial⟩ (.int _ _) (by simp only [go_sem]) ?_
  simp only [go_sem, w3, w4, w5, w6, w7]
  refine dcallP (rootUp_ok _ c7 (by omega)) ⟨.int _ _, trivial⟩ (.int _ _) (by simp only [go_sem]) ?_
  simp only [go_sem, w8]
  refine dcallP (roundUp_ok _ _ p2.1 (by decide) (by omega) (by decide)) ⟨.int _ _, .int _ _, trivial⟩ (.int _ _) (by simp only [go_sem]) ?_
  simp only [go_sem, z1, n1, n2, w9, w10, w11, w12]
  refine dcallP (roundUp_ok _ _ p4.1 (by decide) (by omega) (by decide)) ⟨.int _ _, .int _ _, trivial⟩ (.int _ _) (by simp only [go_sem]) ?_
  simp only [go_sem, z2]

theorem Current_ok (l : Lw) (h : LwOK l) (g p : Int) (h1 : -1000000 ≤ g ∧ g ≤ 1000000) (h2 : 0 ≤ p ∧ p ≤ 1000000) : Ans Try.prog n_curve_Current [l.v, .int .i64 g, .int .i64 p] [] (.tup [(curOf l g p).v, .int .i64 0]) [] := by
  refine spec_run e_curve_Current fun G => ?_
  simp only [go_sem, Lw.v, Lw.cs]
  refine callP (checkVolts_ok l h g p h1 h2) ⟨lw_bel _ _, .int _ _, .int _ _, trivial⟩ (.int _ _) (by simp) (by simp) ?_
  simp only [go_sem]
  refine callP (current_ok l h g p h1 h2) ⟨lw_bel _ _, .int _ _, .int _ _, trivial⟩ (rg_bel _ _) (by simp) (by simp) ?_
  simp only [go_sem, Rg.v]

theorem Drive_ok (l : Lw) (h : LwOK l) (g p : Int) (h1 : -1000000 ≤ g ∧ g ≤ 1000000) (h2 : 0 ≤ p ∧ p ≤ 1000000) : Ans Try.prog n_curve_Drive [l.v, .int .i64 g, .int .i64 p] [] (.tup [(driveOf l g p).v, .int .i64 0]) [] := by
  refine spec_run e_curve_Drive fun G => ?_
  simp only [go_sem, Lw.v, Lw.cs]
  refine callP (checkVolts_ok l h g p h1 h2) ⟨lw_bel _ _, .int _ _, .int _ _, trivial⟩ (.int _ _) (by simp) (by simp) ?_
  simp only [go_sem]
  refine callP (drive_ok l h g p h1 h2) ⟨lw_bel _ _, .int _ _, .int _ _, trivial⟩ (rg_bel _ _) (by simp) (by simp) ?_
  simp only [go_sem, Rg.v]

def exact (q : Int) : Lw := ⟨⟨q, q⟩, ⟨1000, 1000⟩, ⟨0, 0⟩, ⟨1000000, 1000000⟩, ⟨1000000, 1000000⟩⟩
end Go.Proofs

namespace Go.Proofs
open Go Go.Sx

end Go.Proofs

namespace Go.Proofs
open Go Go.Sx

end Go.Proofs

namespace Go.Fam

def fnz (e : Nat → Int) : Nat → Nat → Int
  | _, 0 => 0
  | i, n + 1 => if e i = 0 then fnz e (i + 1) n else e i
theorem fnz_zero {e : Nat → Int} : ∀ {n i : Nat}, fnz e i n = 0 ↔ ∀ j, i ≤ j → j < i + n → e j = 0
  | 0, i => by simp only [fnz, true_iff]; intro j h1 h2; omega
  | n + 1, i => by
    simp only [fnz]
    split
    · rename_i h
      rw [fnz_zero]
      constructor
      · intro h1 j h2 h3
        by_cases hj : j = i
        · subst hj; exact h
        · exact h1 j (by omega) (by omega)
      · intro h1 j h2 h3; exact h1 j (by omega) (by omega)
    · rename_i h
      constructor
      · intro h1; exact absurd h1 h
      · intro h1; exact absurd (h1 i (Nat.le_refl _) (by omega)) h
structure Fa where
  g : List Int
  p : List Int
  lo : List (List Int)
  hi : List (List Int)

def at1 (l : List Int) (i : Nat) : Int := l.getD i 0
def ascAt (a : Int) (l : List Int) (i : Nat) : Int := if a ≤ at1 l i ∧ at1 l i ≤ 1000000 then (if 0 < i ∧ at1 l i ≤ at1 l (i - 1) then 11 else 0) else 2
def ascE (a : Int) (l : List Int) : Int := fnz (ascAt a l) 0 l.length
def lineE (g p : List Int) : Int := if g.length = 0 ∨ p.length = 0 then 6 else if 40 < g.length ∨ 40 < p.length then 8 else if ascE (-1000000) g = 0 then ascE 0 p else ascE (-1000000) g
structure Asc (a : Int) (l : List Int) : Prop where
  pos : 1 ≤ l.length
  most : l.length ≤ 40
  inn : ∀ i, i < l.length → a ≤ at1 l i ∧ at1 l i ≤ 1000000
  asc : ∀ i, i + 1 < l.length → at1 l i < at1 l (i + 1)

theorem ascAt_zero {a : Int} {l : List Int} {i : Nat} : ascAt a l i = 0 ↔ (a ≤ at1 l i ∧ at1 l i ≤ 1000000) ∧ (0 < i → at1 l (i - 1) < at1 l i) := by
  unfold ascAt
  constructor
  · intro h
    split at h
    · rename_i h1
      split at h
      · cases h
      · rename_i h2; exact ⟨h1, fun h3 => by omega⟩
    · cases h
  · rintro ⟨h1, h2⟩
    rw [if_pos h1, if_neg (by omega)]
theorem asc_iff {a : Int} {l : List Int} (h1 : 1 ≤ l.length) (h2 : l.length ≤ 40) : ascE a l = 0 ↔ Asc a l := by
  unfold ascE
  rw [fnz_zero]
  constructor
  · intro h
    refine ⟨h1, h2, fun i hi => (ascAt_zero.1 (h i (Nat.zero_le _) (by omega))).1, fun i hi => ?_⟩
    have := (ascAt_zero.1 (h (i + 1) (Nat.zero_le _) (by omega))).2 (by omega)
    simpa using this
  · intro h j _ hj
    refine ascAt_zero.2 ⟨h.inn j (by omega), fun h0 => ?_⟩
    have := h.asc (j - 1) (by omega)
    rwa [show j - 1 + 1 = j by omega] at this
theorem line_iff {g p : List Int} : lineE g p = 0 ↔ Asc (-1000000) g ∧ Asc 0 p := by
  unfold lineE
  by_cases h1 : g.length = 0 ∨ p.length = 0
  · rw [if_pos h1]
    constructor
    · intro h; cases h
    · rintro ⟨a, b⟩; have := a.pos; have := b.pos; omega
  · rw [if_neg h1]
    by_cases h2 : 40 < g.length ∨ 40 < p.length
    · rw [if_pos h2]
      constructor
      · intro h; cases h
      · rintro ⟨a, b⟩; have := a.most; have := b.most; omega
    · rw [if_neg h2]
      rw [← asc_iff (by omega) (by omega), ← asc_iff (by omega) (by omega)]
      by_cases h3 : ascE (-1000000) g = 0
      · rw [if_pos h3]; exact ⟨fun h => ⟨h3, h⟩, fun h => h.2⟩
      · rw [if_neg h3]; exact ⟨fun h => absurd h h3, fun h => absurd h.1 h3⟩
theorem Asc.lt {a : Int} {l : List Int} (h : Asc a l) : ∀ {i j : Nat}, i < j → j < l.length → at1 l i < at1 l j := by
  intro i j hij hj
  induction j with
  | zero => omega
  | succ j ih =>
    by_cases hi : i = j
    · subst hi; exact h.asc i hj
    · have := ih (by omega) (by omega)
      have := h.asc j hj; omega
def cup (n b : Int) : Int := (n + b - 1) / b
theorem cup_eq (n b : Int) (hb : 0 < b) : cup n b = -(-n / b) := by
  unfold cup
  have h1 := Int.emod_add_mul_ediv (-n) b
  have h2 := Int.emod_nonneg (-n) (show b ≠ 0 by omega)
  have h3 := Int.emod_lt_of_pos (-n) hb
  have e : n + b - 1 = (b - 1 - (-n) % b) + b * (-(-n / b)) := by rw [Int.mul_neg]; omega
  rw [e, Int.add_mul_ediv_left _ _ (by omega), Int.ediv_eq_zero_of_lt (by omega) (by omega), Int.zero_add]
end Go.Fam
namespace Go.Fam
end Go.Fam

namespace Go.Fam
open Go.Proofs

def insL (n : Int) : List Int → List Int
  | [] => [n]
  | x :: l => if x < n then x :: insL n l else if x = n then x :: l else n :: x :: l
def cntL (n : Int) : List Int → Nat
  | [] => 0
  | x :: l => if x < n then cntL n l + 1 else 0
theorem cntL_le (n : Int) : ∀ l, cntL n l ≤ l.length
  | [] => Nat.le_refl _
  | x :: l => by
    have := cntL_le n l
    simp only [cntL]
    split <;> simp <;> omega
theorem insL_eq (n : Int) : ∀ l, insL n l = if l[cntL n l]? = some n then l else l.take (cntL n l) ++ n :: l.drop (cntL n l)
  | [] => by simp [insL, cntL]
  | x :: l => by
    have ih := insL_eq n l
    simp only [insL, cntL]
    by_cases h : x < n
    · simp only [h, if_true, List.getElem?_cons_succ, List.take_succ_cons, List.drop_succ_cons, ih]
      split <;> simp
    · by_cases h2 : x = n
      · simp [h2]
      · simp [h, h2]
theorem insL_len (n : Int) : ∀ l, 1 ≤ (insL n l).length ∧ (insL n l).length ≤ l.length + 1
  | [] => by simp [insL]
  | x :: l => by
    have := insL_len n l
    simp only [insL]
    split
    · simp; omega
    · split <;> simp
theorem insL_mem {n : Int} : ∀ {l : List Int} {y : Int}, y ∈ insL n l → y = n ∨ y ∈ l
  | [], y, h => by simp [insL] at h; exact .inl h
  | x :: l, y, h => by
    simp only [insL] at h
    split at h
    · rcases List.mem_cons.1 h with rfl | h
      · exact .inr (by simp)
      · rcases insL_mem h with h | h
        · exact .inl h
        · exact .inr (by simp [h])
    · split at h
      · exact .inr h
      · rcases List.mem_cons.1 h with h | h
        · exact .inl h
        · exact .inr h
theorem insL_asc {n : Int} : ∀ {l : List Int}, l.Pairwise (· < ·) → (insL n l).Pairwise (· < ·)
  | [], _ => by simp [insL]
  | x :: l, h => by
    rw [List.pairwise_cons] at h
    simp only [insL]
    split
    · rename_i hx
      rw [List.pairwise_cons]
      refine ⟨fun y hy => ?_, insL_asc h.2⟩
      rcases insL_mem hy with rfl | hy
      · exact hx
      · exact h.1 y hy
    · split
      · rw [List.pairwise_cons]; exact h
      · rw [List.pairwise_cons, List.pairwise_cons]
        refine ⟨fun y hy => ?_, h⟩
        rcases List.mem_cons.1 hy with rfl | hy
        · omega
        · have := h.1 y hy; omega

def linesGo (lo hi : Int) : Nat → Int → List Int → List Int × Int
  | 0, w, out => (out, w)
  | m + 1, w, out => linesGo lo hi m (dstep w) (insL (btw w lo hi) out)
def linesOf (w lo hi most : Int) : List Int := (linesGo lo hi (btw w 1 most).toNat (dstep w) []).1
def linesEnd (w lo hi most : Int) : Int := (linesGo lo hi (btw w 1 most).toNat (dstep w) []).2
theorem linesGo_ok {lo hi : Int} (hlh : lo ≤ hi) : ∀ (m : Nat) (w : Int) (out : List Int), out.Pairwise (· < ·) → (∀ x ∈ out, lo ≤ x ∧ x ≤ hi) → (0 < m ∨ 1 ≤ out.length) →
    ((linesGo lo hi m w out).1.Pairwise (· < ·) ∧ (∀ x ∈ (linesGo lo hi m w out).1, lo ≤ x ∧ x ≤ hi) ∧ 1 ≤ (linesGo lo hi m w out).1.length ∧ (linesGo lo hi m w out).1.length ≤ out.length + m)
  | 0, w, out, h1, h2, h3 => ⟨h1, h2, by simp only [linesGo]; omega, by simp [linesGo]⟩
  | m + 1, w, out, h1, h2, h3 => by
    have hb := btw_in (w := w) hlh
    have hl := insL_len (btw w lo hi) out
    obtain ⟨a, b, c, d⟩ := linesGo_ok hlh m (dstep w) (insL (btw w lo hi) out) (insL_asc h1) (fun x hx => by
      rcases insL_mem hx with rfl | hx
      · exact hb
      · exact h2 x hx) (.inr hl.1)
    exact ⟨a, b, c, by simp only [linesGo] at d ⊢; omega⟩
theorem asc_of {a lo hi : Int} {l : List Int} (h1 : l.Pairwise (· < ·)) (h2 : ∀ x ∈ l, lo ≤ x ∧ x ≤ hi) (h3 : 1 ≤ l.length) (h4 : l.length ≤ 40) (ha : a ≤ lo) (hb : hi ≤ 1000000) : Asc a l := by
  have get : ∀ i (hi : i < l.length), at1 l i = l[i] := fun i hi => by unfold at1; rw [List.getD_eq_getElem?_getD, List.getElem?_eq_getElem hi]; rfl
  refine ⟨h3, h4, fun i hi => ?_, fun i hi => ?_⟩
  · rw [get i hi]
    have := h2 _ (List.getElem_mem hi); omega
  · rw [get i (by omega), get (i + 1) hi]
    exact List.pairwise_iff_getElem.1 h1 i (i + 1) (by omega) hi (by omega)
theorem linesOf_ok {w lo hi most a : Int} (hlh : lo ≤ hi) (hm : 1 ≤ most ∧ most ≤ 40) (ha : a ≤ lo) (hb : hi ≤ 1000000) : Asc a (linesOf w lo hi most) ∧ (linesOf w lo hi most).length ≤ most.toNat := by
  have hbt := btw_in (w := w) hm.1
  obtain ⟨h1, h2, h3, h4⟩ := linesGo_ok hlh (btw w 1 most).toNat (dstep w) [] List.Pairwise.nil (by simp) (.inl (by omega))
  simp only [List.length_nil, Nat.zero_add] at h4
  have h5 : (linesOf w lo hi most).length ≤ (btw w 1 most).toNat := h4
  exact ⟨asc_of h1 h2 h3 (by omega) ha hb, by omega⟩

def mx (a b : Int) : Int := if b > a then b else a
structure Cell where
  lo : Int
  hi : Int
  w : Int
def cellA (w : Int) (u : Option (Int × Int)) : Int := match u with | none => upto w 60 | some u => mx (upto w 60) (u.1 + upto (dstep (dstep w)) 20)
def cellB (w : Int) (u : Option (Int × Int)) : Int := match u with | none => upto (dstep w) 30 | some u => mx (cellA w (some u) + upto (dstep w) 30) u.2 - cellA w (some u)
def cellA2 (w : Int) (u l : Option (Int × Int)) : Int := match l with | none => cellA w u | some l => mx (cellA w u) l.1
def cellB2 (w : Int) (u l : Option (Int × Int)) : Int := match l with | none => cellB w u | some l => mx (cellA2 w u (some l) + cellB w u) l.2 - cellA2 w u (some l)
def cellB3 (w : Int) (u l : Option (Int × Int)) : Int := match u with | none => cellB2 w u l | some v => mx (cellA2 w u l + cellB2 w u l) v.2 - cellA2 w u l
def cellW (w : Int) (u : Option (Int × Int)) : Int := match u with | none => dstep (dstep w) | some _ => dstep (dstep (dstep w))
def cell (w : Int) (u l : Option (Int × Int)) : Cell := ⟨cellA2 w u l, cellA2 w u l + mx 0 (cellB3 w u l), cellW w u⟩

end Go.Fam

namespace Go.Proofs
open Go Go.Sx Go.Fam
attribute [local irreducible] Run

def vw (l : List Int) : AVal := .view (l.map (.int .i64))
def tw (t : List (List Int)) : AVal := .view (t.map vw)
def Fcs (f : Fa) : List AVal := [vw f.g, vw f.p, tw f.lo, tw f.hi]
def Fv (f : Fa) : AVal := .agg (Fcs f)
@[go_sem] theorem vw_bel (l : List Int) (S : Nat → Prop) : Bel S (vw l) = True := by unfold vw; rw [bel_view, bels_ints]
@[go_sem] theorem tw_bel (t : List (List Int)) (S : Nat → Prop) : Bel S (tw t) = True := by
  unfold tw; rw [bel_view]; exact eq_true (bels_map _ _ fun l => by rw [vw_bel]; trivial)
@[go_sem] theorem Fv_bel (f : Fa) (S : Nat → Prop) : Bel S (Fv f) = True := by unfold Fv Fcs; simp only [go_sem]
theorem get_at {l : List Int} {i : Nat} (h : i < l.length) : l[i]? = some (at1 l i) := by
  unfold at1; rw [List.getD_eq_getElem?_getD, List.getElem?_eq_getElem h]; rfl
theorem idx_next {i n : Nat} (h : i < n) (hn : n ≤ 9223372036854775807) : IntKind.i64.wrap ((i : Int) + 1) = ((i + 1 : Nat) : Int) := by rw [w64 (by omega)]; rfl

theorem rightG_fn (v : Int) : Ans Try.prog n_curve_rightGrid [.int .i64 v] [] (.bool (decide (-1000000 ≤ v ∧ v ≤ 1000000))) [] := by
  have := rightGrid_ok v
  rwa [← Bool.decide_and] at this
theorem rightP_fn (v : Int) : Ans Try.prog n_curve_rightPlate [.int .i64 v] [] (.bool (decide (0 ≤ v ∧ v ≤ 1000000))) [] := by
  have := rightPlate_ok v
  rwa [← Bool.decide_and] at this

theorem checkAscending_run (a : Int) (g : Nat) (hg : ∀ v : Int, Ans Try.prog g [.int .i64 v] [] (.bool (decide (a ≤ v ∧ v ≤ 1000000))) []) (l : List Int) (hl : l.length ≤ 9223372036854775807) :
    Ans Try.prog n_curve_checkAscending [vw l, .fn (.func g) [] []] [] (.int .i64 (ascE a l)) [] := by
  refine spec_run e_curve_checkAscending fun G => ?_
  simp only [go_sem, vw, List.length_map]
  refine loop_ind k_curve_checkAscending_r9.eq_1 (fun i : Nat => i ≤ l.length ∧ ascE a l = fnz (ascAt a l) i (l.length - i)) (fun i => l.length - i)
    (fun i => (tsets 30 [(1, .fn (.func g) [] []), (4, .int .i64 0), (7, .view (l.map (.int .i64))), (8, .int .i64 l.length), (9, .int .i64 i), (0, .view (l.map (.int .i64)))], [])) 0 ⟨Nat.zero_le _, rfl⟩ (by simp [go_sem]) rfl ?_
  rintro i ⟨hi, hE⟩ ih
  dsimp only at hi hE ih ⊢
  by_cases h1 : i < l.length
  · have h2 : (i : Int) < l.length := by omega
    have n0 : ¬ (i : Int) < 0 := by omega
    have h3 := idx_next h1 hl
    have hx := get_at h1
    have hs : l.length - i = (l.length - (i + 1)) + 1 := by omega
    rw [hs] at hE
    simp only [fnz] at hE
    have hq := hg (at1 l i)
    simp only [go_sem, h2, n0, hx]
    refine cP hq ?_
    by_cases c1 : a ≤ at1 l i ∧ at1 l i ≤ 1000000
    · by_cases h0 : 0 < i
      · obtain ⟨j, rfl⟩ : ∃ j, i = j + 1 := ⟨i - 1, by omega⟩
        have hy := get_at (l := l) (i := j) (by omega)
        have e0 : ((j + 1 : Nat) : Int) > 0 := by omega
        have e2 : IntKind.i64.wrap (((j + 1 : Nat) : Int) - 1) = j := by rw [w64 (by omega)]; omega
        have e4 : ¬ (j : Int) < 0 := by omega
        by_cases c2 : at1 l (j + 1) ≤ at1 l j
        · have : ascAt a l (j + 1) = 11 := by unfold ascAt; rw [if_pos c1, if_pos ⟨h0, by simpa using c2⟩]
          rw [this] at hE
          simp only [go_sem, c1, e0, e2, e4, hy, Int.toNat_natCast, c2]
          exact hE.symm
        · have : ascAt a l (j + 1) = 0 := by unfold ascAt; rw [if_pos c1, if_neg (by simpa using c2)]
          rw [this, if_pos rfl] at hE
          simp only [go_sem, c1, e0, e2, e4, hy, Int.toNat_natCast, c2, h3]
          exact ih (j + 1 + 1) (by omega) ⟨h1, hE⟩ _ (by simp [go_sem])
      · obtain rfl : i = 0 := by omega
        have e0 : ¬ ((0 : Nat) : Int) > 0 := by omega
        have : ascAt a l 0 = 0 := by unfold ascAt; rw [if_pos c1, if_neg (by omega)]
        rw [this, if_pos rfl] at hE
        simp only [go_sem, c1, e0, h3]
        exact ih (0 + 1) (by omega) ⟨h1, hE⟩ _ (by simp [go_sem]; rfl)
    · have : ascAt a l i = 2 := by unfold ascAt; rw [if_neg c1]
      rw [this] at hE
      simp only [go_sem, c1]
      exact hE.symm
  · have h2 : ¬ (i : Int) < l.length := by omega
    have : l.length - i = 0 := by omega
    rw [this] at hE
    simp only [go_sem, h2]
    exact hE.symm
end Go.Proofs

namespace Go.Proofs
open Go Go.Sx Go.Fam
attribute [local irreducible] Run

theorem checkLines_run (g p : List Int) (hg : g.length ≤ 9223372036854775807) (hp : p.length ≤ 9223372036854775807) : Ans Try.prog n_curve_checkLines [vw g, vw p] [] (.int .i64 (lineE g p)) [] := by
  have k1 := checkAscending_run (-1000000) _ rightG_fn g hg
  have k2 := checkAscending_run 0 _ rightP_fn p hp
  simp only [vw] at k1 k2
  refine spec_run e_curve_checkLines fun G => ?_
  unfold lineE
  by_cases c1 : g.length = 0 ∨ p.length = 0
  · rw [if_pos c1]
    by_cases c2 : g.length = 0
    · simp only [go_sem, vw, List.length_map, c2]
    · have c3 : p.length = 0 := by omega
      have n1 : ((g.length : Int) == 0) = false := beq_eq_false_iff_ne.2 (by omega)
      simp only [go_sem, vw, List.length_map, n1, c3]
  · rw [if_neg c1]
    have n1 : ((g.length : Int) == 0) = false := beq_eq_false_iff_ne.2 (by omega)
    have n2 : ((p.length : Int) == 0) = false := beq_eq_false_iff_ne.2 (by omega)
    by_cases c2 : 40 < g.length ∨ 40 < p.length
    · rw [if_pos c2]
      by_cases c3 : 40 < g.length
      · have n3 : (g.length : Int) > 40 := by omega
        simp only [go_sem, vw, List.length_map, n1, n2, n3]
      · have n3 : ¬ (g.length : Int) > 40 := by omega
        have n4 : (p.length : Int) > 40 := by omega
        simp only [go_sem, vw, List.length_map, n1, n2, n3, n4]
    · rw [if_neg c2]
      have n3 : ¬ (g.length : Int) > 40 := by omega
      have n4 : ¬ (p.length : Int) > 40 := by omega
      simp only [go_sem, vw, List.length_map, n1, n2, n3, n4]
      refine cP k1 ?_
      by_cases c3 : ascE (-1000000) g = 0
      · rw [if_pos c3]
        simp only [go_sem, c3]
        refine cP k2 ?_
        simp only [go_sem]
      · rw [if_neg c3]
        have n5 : (ascE (-1000000) g == 0) = false := beq_eq_false_iff_ne.2 c3
        simp only [go_sem, n5, bne]

end Go.Proofs

namespace Go.Proofs
open Go Go.Sx Go.Fam
attribute [local irreducible] Run

end Go.Proofs

namespace Go.Proofs
open Go Go.Sx Go.Fam
attribute [local irreducible] Run

end Go.Proofs

namespace Go.Proofs
open Go Go.Sx Go.Fam
attribute [local irreducible] Run

theorem s1 (x : Int) : shrW .u64 x 1 = x / 2 := by rw [shr_u64]; rfl

end Go.Proofs

namespace Go.Proofs
open Go Go.Sx Go.Fam
attribute [local irreducible] Run

end Go.Proofs

namespace Go.Proofs
open Go Go.Sx Go.Fam
attribute [local irreducible] Run

@[go_sem] theorem tws_bel (t : List (List Int)) (S : Nat → Prop) : Bels S (t.map vw) = True := eq_true (bels_map _ _ fun l => by rw [vw_bel]; trivial)
end Go.Proofs

