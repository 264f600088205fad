/- Dice: which numbers they deal out. -/
import Derived.Test.YtigaafcllfjniaaSxF
import Derived.IntWalk
namespace Go.Proofs
open Go Go.Sx

def Dr (w : Int) : Row := .cells false 1 [.agg [.int .u64 w]]
def dstep (w : Int) : Int := IntKind.u64.wrap (w + 11400714819323198485)
def dmix (w : Int) : Int :=
  let z := IntKind.u64.wrap (bitW .xor .u64 w (shrW .u64 w 30) * 13787848793156543929)
  let z := IntKind.u64.wrap (bitW .xor .u64 z (shrW .u64 z 27) * 10723151780598845931)
  bitW .xor .u64 z (shrW .u64 z 31)

theorem dr_bel (w : Int) (S : Nat → Prop) : (Dr w).bel S := by unfold Dr; rw [row_bel_cells]; simp only [go_sem]

theorem bitW_u64 (op : BinOp) (a b : Int) : 0 ≤ bitW op .u64 a b ∧ bitW op .u64 a b ≤ 18446744073709551615 := by
  have hw : ∀ n : Int, 0 ≤ IntKind.u64.wrap n ∧ IntKind.u64.wrap n ≤ 18446744073709551615 := fun n => by simp only [IntKind.wrap, IntKind.bits, IntKind.signed, Bool.false_and, Bool.false_eq_true, if_false]; omega
  unfold bitW bitsOf
  cases op <;> simp only [Option.getD_some, Option.getD_none] <;> first
    | exact hw _
    | omega

/-- A number from 0 to n - 1. -/
def upto (w n : Int) : Int := if n < 1 then 0 else (dmix (dstep w)) % n
theorem upto_in {w n : Int} (h : 1 ≤ n) : 0 ≤ upto w n ∧ upto w n < n := by
  unfold upto
  rw [if_neg (by omega)]
  exact ⟨Int.emod_nonneg _ (by omega), Int.emod_lt_of_pos _ (by omega)⟩
def btw (w lo hi : Int) : Int := lo + upto w (hi - lo + 1)
theorem btw_in {w lo hi : Int} (h : lo ≤ hi) : lo ≤ btw w lo hi ∧ btw w lo hi ≤ hi := by
  have := upto_in (w := w) (n := hi - lo + 1) (by omega)
  unfold btw; omega

def feed (w : Int) : List Int → Int
  | [] => w
  | x :: xs => feed (dstep (bitW .xor .u64 w (IntKind.u64.wrap x))) xs
/-- What new dice that follow from a list begin with. -/
def seedW (xs : List Int) : Int := feed (IntKind.u64.wrap (IntKind.u64.wrap xs.length + 1374496523)) xs

/-- A range. -/
structure Rg where
  lo : Int
  hi : Int
  deriving Inhabited, DecidableEq

def Rg.v (r : Rg) : AVal := .agg [.int .i64 r.lo, .int .i64 r.hi]
@[go_sem] theorem rg_bel_eq (r : Rg) (S : Nat → Prop) : Bel S r.v = True := by unfold Rg.v; simp only [go_sem]
@[go_sem] theorem rg_nv (r : Rg) : NV r.v = True := by unfold Rg.v; simp only [go_sem]
@[go_sem] theorem dr_bel_eq (w : Int) (S : Nat → Prop) : (Dr w).bel S = True := eq_true (dr_bel w S)
theorem rg_bel (r : Rg) (S : Nat → Prop) : Bel S r.v := by unfold Rg.v; simp only [go_sem]

def hullR (a b : Int) : Rg := ⟨if b < a then b else a, if b > a then b else a⟩
def rngR (w lo hi : Int) : Rg := hullR (btw w lo hi) (btw (dstep w) lo hi)
theorem rngR_in {w lo hi : Int} (h : lo ≤ hi) : lo ≤ (rngR w lo hi).lo ∧ (rngR w lo hi).lo ≤ (rngR w lo hi).hi ∧ (rngR w lo hi).hi ≤ hi := by
  have := btw_in (w := w) h
  have := btw_in (w := dstep w) h
  unfold rngR hullR; simp only; constructor
  · split <;> (try dsimp only) <;> omega
  · constructor <;> (repeat' split) <;> omega

theorem w64 {n : Int} (h : -9223372036854775808 ≤ n ∧ n ≤ 9223372036854775807) : IntKind.i64.wrap n = n := IntWalk.i64_in _ h
end Go.Proofs
