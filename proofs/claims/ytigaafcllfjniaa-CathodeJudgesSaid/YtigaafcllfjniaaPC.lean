/- A part of the proof. -/
import Derived.Test.YtigaafcllfjniaaPB
import Derived.IntWalk
set_option linter.unusedSimpArgs false
set_option linter.unusedVariables false
namespace Go.Proofs
open Go Go.Sx

def Dr (w : Int) : Row := .cells false 1 [.agg [.int .u64 w]]
def dstep (w : Int) : Int := IntKind.u64.wrap (w + 11400714819323198485)
def dmix (w : Int) : Int :=
  let z := IntKind.u64.wrap (bitW .xor .u64 w (shrW .u64 w 30) * 13787848793156543929)
  let z := IntKind.u64.wrap (bitW .xor .u64 z (shrW .u64 z 27) * 10723151780598845931)
  bitW .xor .u64 z (shrW .u64 z 31)

theorem dr_bel (w : Int) (S : Nat → Prop) : (Dr w).bel S := by unfold Dr; rw [row_bel_cells]; simp only [go_sem]

theorem bitW_u64 (op : BinOp) (a b : Int) : 0 ≤ bitW op .u64 a b ∧ bitW op .u64 a b ≤ 18446744073709551615 := by
  have hw : ∀ n : Int, 0 ≤ IntKind.u64.wrap n ∧ IntKind.u64.wrap n ≤ 18446744073709551615 := fun n => by simp only [IntKind.wrap, IntKind.bits, IntKind.signed, Bool.false_and, Bool.false_eq_true, if_false]; omega
  unfold bitW bitsOf
  cases op <;> simp only [Option.getD_some, Option.getD_none] <;> first
    | exact hw _
    | omega

/-- A number from 0 to n - 1. -/
def upto (w n : Int) : Int := if n < 1 then 0 else (dmix (dstep w)) % n
theorem upto_in {w n : Int} (h : 1 ≤ n) : 0 ≤ upto w n ∧ upto w n < n := by
  unfold upto
  rw [if_neg (by omega)]
  exact ⟨Int.emod_nonneg _ (by omega), Int.emod_lt_of_pos _ (by omega)⟩
def btw (w lo hi : Int) : Int := lo + upto w (hi - lo + 1)
theorem btw_in {w lo hi : Int} (h : lo ≤ hi) : lo ≤ btw w lo hi ∧ btw w lo hi ≤ hi := by
  have := upto_in (w := w) (n := hi - lo + 1) (by omega)
  unfold btw; omega

def feed (w : Int) : List Int → Int
  | [] => w
  | x :: xs => feed (dstep (bitW .xor .u64 w (IntKind.u64.wrap x))) xs
/-- What new dice that follow from a list begin with. -/
def seedW (xs : List Int) : Int := feed (IntKind.u64.wrap (IntKind.u64.wrap xs.length + 1374496523)) xs

/-- A range. -/
structure Rg where
  lo : Int
  hi : Int
  deriving Inhabited, DecidableEq

def Rg.v (r : Rg) : AVal := .agg [.int .i64 r.lo, .int .i64 r.hi]
@[go_sem] theorem rg_bel_eq (r : Rg) (S : Nat → Prop) : Bel S r.v = True := by unfold Rg.v; simp only [go_sem]
@[go_sem] theorem rg_nv (r : Rg) : NV r.v = True := by unfold Rg.v; simp only [go_sem]
@[go_sem] theorem dr_bel_eq (w : Int) (S : Nat → Prop) : (Dr w).bel S = True := eq_true (dr_bel w S)
theorem rg_bel (r : Rg) (S : Nat → Prop) : Bel S r.v := by unfold Rg.v; simp only [go_sem]

def hullR (a b : Int) : Rg := ⟨if b < a then b else a, if b > a then b else a⟩
def rngR (w lo hi : Int) : Rg := hullR (btw w lo hi) (btw (dstep w) lo hi)
theorem rngR_in {w lo hi : Int} (h : lo ≤ hi) : lo ≤ (rngR w lo hi).lo ∧ (rngR w lo hi).lo ≤ (rngR w lo hi).hi ∧ (rngR w lo hi).hi ≤ hi := by
  have := btw_in (w := w) h
  have := btw_in (w := dstep w) h
  unfold rngR hullR; simp only; constructor
  · split <;> (try dsimp only) <;> omega
  · constructor <;> (repeat' split) <;> omega

theorem w64 {n : Int} (h : -9223372036854775808 ≤ n ∧ n ≤ 9223372036854775807) : IntKind.i64.wrap n = n := IntWalk.i64_in _ h
end Go.Proofs
namespace Go.Proofs
open Go Go.Sx

theorem next_ok (w : Int) : Ans Try.prog n_kit_Dice_next [.ptr 0 0 0 1] [some (Dr w)] (.int .u64 (dmix (dstep w))) [some (Dr (dstep w))] := by
  refine spec_run e_kit_Dice_next fun G => ?_
  simp only [go_sem, Dr, dmix, dstep]
  exact ⟨_, rfl⟩

theorem upto_ok (w n : Int) (hn : n ≤ 9223372036854775807) : Ans Try.prog n_kit_Dice_Upto [.ptr 0 0 0 1, .int .i64 n] [some (Dr w)] (.int .i64 (upto w n)) [some (Dr (dstep w))] := by
  refine spec_run e_kit_Dice_Upto fun G => ?_
  simp only [go_sem]
  refine callD (next_ok w) rfl trivial (.int _ _) (dr_bel _ _) (dr_bel _ _) (by simp) (by simp) ?_
  simp only [go_sem]
  refine ⟨fun h => ⟨by simp [upto, h], by simp⟩, fun h => ?_⟩
  have hm : 0 ≤ dmix (dstep w) := (bitW_u64 _ _ _).1
  have h1 : IntKind.u64.wrap n = n := IntWalk.u64_in n (by omega)
  have h2 : (dmix (dstep w)).tmod n = dmix (dstep w) % n := Int.tmod_eq_emod_of_nonneg hm
  have h3 := Int.emod_nonneg (dmix (dstep w)) (show n ≠ 0 by omega)
  have h4 := Int.emod_lt_of_pos (dmix (dstep w)) (show 0 < n by omega)
  rw [h1, h2, IntWalk.i64_in _ (by omega)]
  refine ⟨by omega, by rw [upto, if_neg h], _, rfl⟩

theorem between_ok (w lo hi : Int) (h1 : -1152921504606846976 ≤ lo) (h2 : lo ≤ hi) (h3 : hi ≤ 1152921504606846976) : Ans Try.prog n_kit_Dice_Between [.ptr 0 0 0 1, .int .i64 lo, .int .i64 hi] [some (Dr w)] (.int .i64 (btw w lo hi)) [some (Dr (dstep w))] := by
  refine spec_run e_kit_Dice_Between fun G => ?_
  simp only [go_sem]
  rw [IntWalk.i64_in (hi - lo) (by omega), IntWalk.i64_in (hi - lo + 1) (by omega)]
  refine callD (upto_ok w _ (by omega)) rfl ⟨.int _ _, trivial⟩ (.int _ _) (dr_bel _ _) (dr_bel _ _) (by simp) (by simp) ?_
  have := btw_in (w := w) h2
  unfold btw at this
  simp only [go_sem]
  rw [IntWalk.i64_in _ (by omega)]
  exact ⟨rfl, _, rfl⟩

theorem newdice_ok (xs : List Int) (hl : xs.length ≤ 9223372036854775807) : Ans Try.prog n_kit_NewDice [.view (xs.map (.int .i64))] [] (.ptr 0 0 0 1) [some (Dr (seedW xs))] := by
  unfold seedW
  refine spec_run e_kit_NewDice fun G => ?_
  simp only [go_sem]
  have key : ∀ (zs : List Int) (i : Nat) (w : Int), xs.drop i = zs → i ≤ xs.length →
      Sx.Loop Try.prog G 0 none k_kit_NewDice_r7 [.blk 0, .seq (.seq (.reg k_kit_NewDice_r8 false) .ret)] ⟨[.view (xs.map (.int .i64)), .any, .nilptr, .ptr 0 0 0 1, .int .i64 i] ++ List.replicate 28 .any, [some (Dr w)], []⟩
        (RetPost [ARes.tmp 2] fun v H' => v = .ptr 0 0 0 1 ∧ ∃ X, H' = some (Dr (feed w zs)) :: X) := by
    intro zs
    induction zs with
    | nil =>
      intro i w hd hi
      have : xs.length ≤ i := by simpa using hd
      have h1 : ¬ (i : Int) < xs.length := by omega
      refine loop_body 200 k_kit_NewDice_r7.eq_1 ?_
      simp only [go_sem, h1, feed]
      exact ⟨_, rfl⟩
    | cons z zs ih =>
      intro i w hd hi
      have hx : xs[i]? = some z := by have := congrArg (·[0]?) hd; simpa using this
      have h1 : i < xs.length := (List.getElem?_eq_some_iff.1 hx).1
      have h2 : (i : Int) < xs.length := by omega
      have h3 : IntKind.i64.wrap ((i : Int) + 1) = ((i + 1 : Nat) : Int) := by rw [IntWalk.i64_in _ (by omega)]; rfl
      have hd' : xs.drop (i + 1) = zs := by have := congrArg (List.drop 1) hd; simpa [Nat.add_comm] using this
      refine loop_body 200 k_kit_NewDice_r7.eq_1 ?_
      simp only [go_sem, hx, h2, Dr]
      refine callD (next_ok _) rfl trivial (.int _ _) (dr_bel _ _) (dr_bel _ _) (by simp) (by simp) ?_
      simp only [go_sem, h3]
      refine loop_wk ?_ (ih (i + 1) _ hd' h1)
      simp [Wk]
  refine loop_wk ?_ (key xs 0 _ rfl (Nat.zero_le _))
  simp [Wk]

theorem mod_ok (a b : Int) (hb : b ≤ 9223372036854775807) : Ans Try.prog n_kit_Mod [.int .i64 a, .int .i64 b] [] (.int .i64 (if b < 1 then 0 else a % b)) [] := by
  refine spec_run e_kit_Mod fun G => ?_
  simp only [go_sem]
  refine ⟨fun h => by simp [h], fun h => ?_⟩
  have e := Int.tmod_eq_emod (a := a) (b := b)
  have h1 := Int.emod_nonneg a (show b ≠ 0 by omega)
  have h2 := Int.emod_lt_of_pos a (show 0 < b by omega)
  rw [if_neg h]
  generalize a % b = m at *
  generalize a.tmod b = t at *
  refine ⟨by omega, fun h3 => ?_, fun h3 => ?_⟩
  · rw [IntWalk.i64_in _ (by split at e <;> omega)]
    split at e <;> omega
  · split at e <;> omega

theorem mod_pos (a b : Int) (hb : 1 ≤ b ∧ b ≤ 9223372036854775807) : Ans Try.prog n_kit_Mod [.int .i64 a, .int .i64 b] [] (.int .i64 (a % b)) [] := by
  have h := mod_ok a b hb.2
  rwa [if_neg (by omega)] at h
end Go.Proofs
namespace Go.Proofs
open Go Go.Sx

structure Bd where
  frm : Int
  conv : Rg
  red : Rg
  evap : Rg
  sint : Rg
  deriving Inhabited, DecidableEq
def Bd.cs (b : Bd) : List AVal := [.int .i64 b.frm, .int .i64 b.conv.lo, .int .i64 b.conv.hi, .int .i64 b.red.lo, .int .i64 b.red.hi, .int .i64 b.evap.lo, .int .i64 b.evap.hi, .int .i64 b.sint.lo, .int .i64 b.sint.hi]
def Bd.v (b : Bd) : AVal := .agg b.cs

structure Ct where
  amount : Int
  slew : Int
  aid : Rg
  yld : Rg
  bands : List Bd
  deriving Inhabited, DecidableEq
/-- A coat, its bands where they lie. -/
def Ct.cs (c : Ct) (s : AVal) : List AVal := [.int .i64 c.amount, .int .i64 c.slew, .int .i64 c.aid.lo, .int .i64 c.aid.hi, .int .i64 c.yld.lo, .int .i64 c.yld.hi, s]
def Ct.v (c : Ct) (s : AVal) : AVal := .agg (c.cs s)

structure Cg where
  carb : Rg
  ox : Rg
  ba : Rg
  lost : Rg
  gas : Rg
  wear : Rg
  heat : Int
  deriving Inhabited, DecidableEq
def Cg.cs (x : Cg) : List AVal := [.int .i64 x.carb.lo, .int .i64 x.carb.hi, .int .i64 x.ox.lo, .int .i64 x.ox.hi, .int .i64 x.ba.lo, .int .i64 x.ba.hi, .int .i64 x.lost.lo, .int .i64 x.lost.hi, .int .i64 x.gas.lo, .int .i64 x.gas.hi, .int .i64 x.wear.lo, .int .i64 x.wear.hi, .int .i64 x.heat]
def Cg.v (x : Cg) : AVal := .agg x.cs

structure Ht where
  ticks : Int
  heat : Int
  cur : Int
  deriving Inhabited, DecidableEq
def Ht.cs (h : Ht) : List AVal := [.int .i64 h.ticks, .int .i64 h.heat, .int .i64 h.cur]
def Ht.v (h : Ht) : AVal := .agg h.cs

/-! ### Parts -/
def dn (a r : Int) : Int := a * r / 1000000
def up (a r : Int) : Int := (a * r + 999999) / 1000000
def mx (a b : Int) : Int := if b > a then b else a
def mi (a b : Int) : Int := if b < a then b else a

theorem mul_mono {a b c d : Int} (h0 : 0 ≤ a) (h1 : a ≤ b) (h2 : 0 ≤ c) (h3 : c ≤ d) : a * c ≤ b * d := Int.mul_le_mul h1 h3 h2 (by omega)
theorem mul_rng {a b A B : Int} (h0 : 0 ≤ a) (h1 : a ≤ A) (h2 : 0 ≤ b) (h3 : b ≤ B) : 0 ≤ a * b ∧ a * b ≤ A * B := ⟨Int.mul_nonneg h0 h2, mul_mono h0 h1 h2 h3⟩

theorem dn_in {a r : Int} (ha : 0 ≤ a) (hr : 0 ≤ r) (hr' : r ≤ 1000000) : 0 ≤ dn a r ∧ dn a r ≤ a := by
  have h1 := Int.mul_nonneg ha hr
  have h2 : a * r ≤ a * 1000000 := Int.mul_le_mul_of_nonneg_left hr' ha
  unfold dn; omega
theorem up_in {a r : Int} (ha : 0 ≤ a) (hr : 0 ≤ r) (hr' : r ≤ 1000000) : 0 ≤ up a r ∧ up a r ≤ a := by
  have h1 := Int.mul_nonneg ha hr
  have h2 : a * r ≤ a * 1000000 := Int.mul_le_mul_of_nonneg_left hr' ha
  unfold up; omega
theorem dn_mono {a b r s : Int} (ha : 0 ≤ a) (hab : a ≤ b) (hr : 0 ≤ r) (hrs : r ≤ s) : dn a r ≤ dn b s :=
  Int.ediv_le_ediv (by decide) (mul_mono ha hab hr hrs)
theorem up_mono {a b r s : Int} (ha : 0 ≤ a) (hab : a ≤ b) (hr : 0 ≤ r) (hrs : r ≤ s) : up a r ≤ up b s := by
  have := mul_mono ha hab hr hrs
  exact Int.ediv_le_ediv (by decide) (by omega)
theorem dn_up {a r : Int} : dn a r ≤ up a r := Int.ediv_le_ediv (by decide) (by omega)
theorem dn_le_up {a b r s : Int} (ha : 0 ≤ a) (hab : a ≤ b) (hr : 0 ≤ r) (hrs : r ≤ s) : dn a r ≤ up b s := Int.le_trans (dn_mono ha hab hr hrs) dn_up
/-- What is kept grows with what there is. -/
theorem keepUp_mono {a b r : Int} (_ : 0 ≤ a) (hab : a ≤ b) (_ : 0 ≤ r) (hr' : r ≤ 1000000) : a - up a r ≤ b - up b r := by
  have h : (b - a) * r ≤ (b - a) * 1000000 := Int.mul_le_mul_of_nonneg_left hr' (by omega)
  have e : (b - a) * r = b * r - a * r := Int.sub_mul ..
  unfold up; omega
theorem keepDn_mono {a b r : Int} (_ : 0 ≤ a) (hab : a ≤ b) (_ : 0 ≤ r) (hr' : r ≤ 1000000) : a - dn a r ≤ b - dn b r := by
  have h : (b - a) * r ≤ (b - a) * 1000000 := Int.mul_le_mul_of_nonneg_left hr' (by omega)
  have e : (b - a) * r = b * r - a * r := Int.sub_mul ..
  unfold dn; omega

/-! ### Ticks -/
def parts (a r : Rg) : Rg := ⟨dn a.lo r.lo, up a.hi r.hi⟩
def remains (a r : Rg) : Rg := ⟨a.lo - up a.lo r.hi, a.hi - dn a.hi r.lo⟩
def sumR (a b : Rg) : Rg := ⟨a.lo + b.lo, a.hi + b.hi⟩
def moved (heat asked slew : Int) : Int := mi (mx asked (heat - slew)) (heat + slew)
def cut (r : Rg) (m : Int) : Rg := ⟨r.lo, mi r.hi m⟩
/-- How many bands begin at most there. -/
def aboveN (bs : List Bd) (heat : Int) : Nat := (bs.takeWhile fun b => decide (b.frm ≤ heat)).length
def bandAt (bs : List Bd) (heat : Int) : Bd := bs.getD (aboveN bs heat - 1) default
def ratesAt (c : Ct) (heat cur : Int) : Bd :=
  let b := bandAt c.bands heat
  { b with red := ⟨mi (b.red.lo + cur * c.aid.lo) 1000000, mi (b.red.hi + cur * c.aid.hi) 1000000⟩ }
def afterB (m : Int) (b : Bd) (x : Cg) (heat : Int) : Cg :=
  { carb := cut (remains x.carb b.conv) m, ox := cut (sumR (remains x.ox b.red) (parts x.carb b.conv)) m,
    ba := cut (sumR (remains x.ba b.evap) (parts x.ox b.red)) m, lost := cut (sumR x.lost (parts x.ba b.evap)) m,
    gas := cut (parts x.carb b.conv) m, wear := sumR x.wear b.sint, heat := heat }
def after (c : Ct) (x : Cg) (heat cur : Int) : Cg := afterB c.amount (ratesAt c (moved x.heat heat c.slew) cur) x (moved x.heat heat c.slew)
def fresh (c : Ct) : Cg := ⟨⟨c.amount, c.amount⟩, ⟨0, 0⟩, ⟨0, 0⟩, ⟨0, 0⟩, ⟨0, 0⟩, ⟨0, 0⟩, 300⟩

/-! ### What has to be -/
structure RgIn (r : Rg) (m : Int) : Prop where
  lo : 0 ≤ r.lo
  le : r.lo ≤ r.hi
  hi : r.hi ≤ m
structure BdOK (b : Bd) : Prop where
  frm : 0 ≤ b.frm ∧ b.frm ≤ 2000
  conv : RgIn b.conv 1000000
  red : RgIn b.red 1000000
  evap : RgIn b.evap 1000000
  sint : RgIn b.sint 1000000
structure CtOK (c : Ct) : Prop where
  amount : 1 ≤ c.amount ∧ c.amount ≤ 1000000
  slew : 1 ≤ c.slew ∧ c.slew ≤ 2000
  aid : RgIn c.aid 1000000
  yld : RgIn c.yld 1000000
  len : 1 ≤ c.bands.length ∧ c.bands.length ≤ 16
  first : (c.bands.getD 0 default).frm = 0
  asc : ∀ i, i + 1 < c.bands.length → (c.bands.getD i default).frm < (c.bands.getD (i + 1) default).frm
  bands : ∀ b ∈ c.bands, BdOK b
structure CgOK (c : Ct) (x : Cg) : Prop where
  carb : RgIn x.carb c.amount
  ox : RgIn x.ox c.amount
  ba : RgIn x.ba c.amount
  lost : RgIn x.lost c.amount
  gas : RgIn x.gas c.amount
  wear : RgIn x.wear 1099511627776
  heat : 0 ≤ x.heat ∧ x.heat ≤ 2000
/-- A mix lies within. -/
structure CgSum (c : Ct) (x : Cg) : Prop where
  sum : x.carb.lo + x.ox.lo + x.ba.lo + x.lost.lo ≤ c.amount

theorem mi_le {a b : Int} : mi a b ≤ a ∧ mi a b ≤ b := by unfold mi; split <;> omega
theorem moved_in {h a s : Int} (hh : 0 ≤ h ∧ h ≤ 2000) (ha : 0 ≤ a ∧ a ≤ 2000) (hs : 1 ≤ s) : 0 ≤ moved h a s ∧ moved h a s ≤ 2000 := by
  unfold moved mi mx; constructor <;> (repeat' split) <;> omega
theorem moved_step {h a s : Int} (hs : 1 ≤ s) : moved h a s - h ≤ s ∧ h - moved h a s ≤ s ∧ (moved h a s = a ∨ moved h a s - h = s ∨ h - moved h a s = s) := by
  unfold moved mi mx; refine ⟨?_, ?_, ?_⟩ <;> (repeat' split) <;> omega

theorem aboveN_le (bs : List Bd) (h : Int) : aboveN bs h ≤ bs.length := by
  unfold aboveN; induction bs with
  | nil => simp
  | cons b l ih => rw [List.takeWhile_cons]; split <;> simp <;> omega
theorem aboveN_pos {bs : List Bd} {h : Int} (hl : 1 ≤ bs.length) (h0 : (bs.getD 0 default).frm = 0) (hh : 0 ≤ h) : 1 ≤ aboveN bs h := by
  cases bs with
  | nil => simp at hl
  | cons b l =>
    simp only [List.getD_cons_zero] at h0
    unfold aboveN
    rw [List.takeWhile_cons, if_pos (by simp; omega)]
    simp
theorem asc_lt {bs : List Bd} (asc : ∀ i, i + 1 < bs.length → (bs.getD i default).frm < (bs.getD (i + 1) default).frm) : ∀ (j i : Nat), i < j → j < bs.length → (bs.getD i default).frm < (bs.getD j default).frm := by
  intro j
  induction j with
  | zero => intro i h; omega
  | succ j ih =>
    intro i h hl
    have h1 := asc j hl
    by_cases e : i = j
    · subst e; exact h1
    · have := ih i (by omega) (by omega); omega
/-- The bands below begin at most there, the others further up. -/
theorem aboveN_spec : ∀ {bs : List Bd} {h : Int}, (∀ i, i + 1 < bs.length → (bs.getD i default).frm < (bs.getD (i + 1) default).frm) → ∀ i, i < bs.length → ((bs.getD i default).frm ≤ h ↔ i < aboveN bs h)
  | [], h, _, i, hi => by simp at hi
  | b :: l, h, asc, i, hi => by
    have asc' : ∀ i, i + 1 < l.length → (l.getD i default).frm < (l.getD (i + 1) default).frm := fun i hi => by
      have := asc (i + 1) (by simp; omega); simpa using this
    unfold aboveN
    rw [List.takeWhile_cons]
    by_cases hb : b.frm ≤ h
    · rw [if_pos (by simpa using hb)]
      cases i with
      | zero => simpa using hb
      | succ i =>
        have := aboveN_spec (h := h) asc' i (by simpa using hi)
        unfold aboveN at this
        simpa using this
    · rw [if_neg (by simpa using hb)]
      simp only [List.length_nil, Nat.not_lt_zero, iff_false]
      cases i with
      | zero => simpa using hb
      | succ i =>
        have := asc_lt asc (i + 1) 0 (by omega) hi
        simp only [List.getD_cons_zero] at this
        omega

theorem bandAt_ok {c : Ct} (hc : CtOK c) {h : Int} (hh : 0 ≤ h) : BdOK (bandAt c.bands h) := by
  have h1 := aboveN_pos hc.len.1 hc.first hh
  have h2 := aboveN_le c.bands h
  have h3 : aboveN c.bands h - 1 < c.bands.length := by omega
  unfold bandAt
  rw [List.getD_eq_getElem?_getD, List.getElem?_eq_getElem h3]
  exact hc.bands _ (List.getElem_mem h3)

theorem ratesAt_ok {c : Ct} (hc : CtOK c) {h cur : Int} (hh : 0 ≤ h) (hcur : 0 ≤ cur ∧ cur ≤ 1000) : BdOK (ratesAt c h cur) := by
  have hb := bandAt_ok hc hh
  have a1 := mul_rng hcur.1 hcur.2 hc.aid.lo (Int.le_trans hc.aid.le hc.aid.hi)
  have a2 := mul_mono hcur.1 (Int.le_refl cur) hc.aid.lo hc.aid.le
  have b1 := hb.red.lo; have b2 := hb.red.le; have b3 := hb.red.hi
  refine ⟨hb.frm, hb.conv, ⟨?_, ?_, ?_⟩, hb.evap, hb.sint⟩
  · show 0 ≤ mi _ _
    unfold mi; split <;> omega
  · show mi _ _ ≤ mi _ _
    unfold mi; split <;> split <;> omega
  · exact mi_le.2

theorem RgIn.all {r : Rg} {m : Int} (h : RgIn r m) : 0 ≤ r.lo ∧ r.lo ≤ r.hi ∧ r.hi ≤ m := ⟨h.lo, h.le, h.hi⟩

/-- A tick keeps what has to be. -/
theorem afterB_ok {c : Ct} {x : Cg} {b : Bd} {h : Int} (hm : 1 ≤ c.amount ∧ c.amount ≤ 1000000) (hb : BdOK b) (hx : CgOK c x) (hs : CgSum c x) (hh : 0 ≤ h ∧ h ≤ 2000) (hw : x.wear.hi + 1000000 ≤ 1099511627776) :
    CgOK c (afterB c.amount b x h) ∧ CgSum c (afterB c.amount b x h) := by
  obtain ⟨⟨c1, c2, c3⟩, ⟨o1, o2, o3⟩, ⟨n1, n2, n3⟩, ⟨l1, l2, l3⟩, ⟨g1, g2, g3⟩, ⟨w1, w2, w3⟩, hh0⟩ := hx
  obtain ⟨f0, ⟨v1, v2, v3⟩, ⟨r1, r2, r3⟩, ⟨e1, e2, e3⟩, ⟨s1, s2, s3⟩⟩ := hb
  have hs := hs.sum
  have cu := up_in c1 (Int.le_trans v1 v2) v3
  have cd := dn_in c1 v1 (Int.le_trans v2 v3)
  have cu' := up_in (Int.le_trans c1 c2) (Int.le_trans v1 v2) v3
  have cd' := dn_in (Int.le_trans c1 c2) v1 (Int.le_trans v2 v3)
  have cc := dn_le_up c1 (Int.le_refl _) v1 v2
  have cc' := dn_le_up c1 c2 v1 v2
  have ck : x.carb.lo - up x.carb.lo b.conv.hi ≤ x.carb.hi - dn x.carb.hi b.conv.lo := Int.le_trans (keepUp_mono c1 c2 (Int.le_trans v1 v2) v3) (by have := dn_le_up (Int.le_trans c1 c2) (Int.le_refl x.carb.hi) v1 v2; omega)
  have ou := up_in o1 (Int.le_trans r1 r2) r3
  have od := dn_in o1 r1 (Int.le_trans r2 r3)
  have oc := dn_le_up o1 (Int.le_refl _) r1 r2
  have oc' := dn_le_up o1 o2 r1 r2
  have ok : x.ox.lo - up x.ox.lo b.red.hi ≤ x.ox.hi - dn x.ox.hi b.red.lo := Int.le_trans (keepUp_mono o1 o2 (Int.le_trans r1 r2) r3) (by have := dn_le_up (Int.le_trans o1 o2) (Int.le_refl x.ox.hi) r1 r2; omega)
  have nu := up_in n1 (Int.le_trans e1 e2) e3
  have nd := dn_in n1 e1 (Int.le_trans e2 e3)
  have nc := dn_le_up n1 (Int.le_refl _) e1 e2
  have nc' := dn_le_up n1 n2 e1 e2
  have nk : x.ba.lo - up x.ba.lo b.evap.hi ≤ x.ba.hi - dn x.ba.hi b.evap.lo := Int.le_trans (keepUp_mono n1 n2 (Int.le_trans e1 e2) e3) (by have := dn_le_up (Int.le_trans n1 n2) (Int.le_refl x.ba.hi) e1 e2; omega)
  refine ⟨⟨⟨?_, ?_, ?_⟩, ⟨?_, ?_, ?_⟩, ⟨?_, ?_, ?_⟩, ⟨?_, ?_, ?_⟩, ⟨?_, ?_, ?_⟩, ⟨?_, ?_, ?_⟩, hh⟩, ⟨?_⟩⟩ <;>
    simp only [afterB, cut, remains, sumR, parts, mi] <;> (try split) <;> omega

theorem after_ok {c : Ct} {x : Cg} {heat cur : Int} (hc : CtOK c) (hx : CgOK c x) (hs : CgSum c x) (hh : 0 ≤ heat ∧ heat ≤ 2000) (hcur : 0 ≤ cur ∧ cur ≤ 1000) (hw : x.wear.hi + 1000000 ≤ 1099511627776) :
    CgOK c (after c x heat cur) ∧ CgSum c (after c x heat cur) := by
  have hm := moved_in hx.heat hh hc.slew.1
  exact afterB_ok hc.amount (ratesAt_ok hc hm.1 hcur) hx hs hm hw

theorem fresh_ok {c : Ct} (hc : CtOK c) : CgOK c (fresh c) ∧ CgSum c (fresh c) := by
  have := hc.amount
  refine ⟨⟨⟨?_, ?_, ?_⟩, ⟨?_, ?_, ?_⟩, ⟨?_, ?_, ?_⟩, ⟨?_, ?_, ?_⟩, ⟨?_, ?_, ?_⟩, ⟨?_, ?_, ?_⟩, ⟨by simp [fresh], by simp [fresh]⟩⟩, ⟨?_⟩⟩ <;> simp only [fresh] <;> omega

/-- What never rises, and what never falls. -/
theorem after_falls {c : Ct} {x : Cg} {heat cur : Int} (hc : CtOK c) (hx : CgOK c x) (hh : 0 ≤ heat ∧ heat ≤ 2000) (hcur : 0 ≤ cur ∧ cur ≤ 1000) :
    (after c x heat cur).carb.lo ≤ x.carb.lo ∧ (after c x heat cur).carb.hi ≤ x.carb.hi ∧ x.lost.lo ≤ (after c x heat cur).lost.lo ∧ x.lost.hi ≤ (after c x heat cur).lost.hi ∧
    x.wear.lo ≤ (after c x heat cur).wear.lo ∧ x.wear.hi ≤ (after c x heat cur).wear.hi ∧ (after c x heat cur).wear.hi ≤ x.wear.hi + 1000000 := by
  have hm := moved_in hx.heat hh hc.slew.1
  have hb := ratesAt_ok hc hm.1 hcur
  unfold after
  generalize ratesAt c (moved x.heat heat c.slew) cur = b at *
  obtain ⟨⟨c1, c2, c3⟩, ⟨o1, o2, o3⟩, ⟨n1, n2, n3⟩, ⟨l1, l2, l3⟩, ⟨g1, g2, g3⟩, ⟨w1, w2, w3⟩, hh0⟩ := hx
  obtain ⟨f0, ⟨v1, v2, v3⟩, ⟨r1, r2, r3⟩, ⟨e1, e2, e3⟩, ⟨s1, s2, s3⟩⟩ := hb
  have cu := up_in c1 (Int.le_trans v1 v2) v3
  have cd' := dn_in (Int.le_trans c1 c2) v1 (Int.le_trans v2 v3)
  have nd := dn_in n1 e1 (Int.le_trans e2 e3)
  have nu := up_in (Int.le_trans n1 n2) (Int.le_trans e1 e2) e3
  refine ⟨?_, ?_, ?_, ?_, ?_, ?_, ?_⟩ <;> simp only [afterB, cut, remains, sumR, parts, mi] <;> (try split) <;> omega

/-! ### Narrower rates -/
structure RgSub (a b : Rg) : Prop where
  lo : b.lo ≤ a.lo
  hi : a.hi ≤ b.hi
structure BdSub (a b : Bd) : Prop where
  frm : a.frm = b.frm
  conv : RgSub a.conv b.conv
  red : RgSub a.red b.red
  evap : RgSub a.evap b.evap
  sint : RgSub a.sint b.sint
structure CgSub (a b : Cg) : Prop where
  carb : RgSub a.carb b.carb
  ox : RgSub a.ox b.ox
  ba : RgSub a.ba b.ba
  lost : RgSub a.lost b.lost
  gas : RgSub a.gas b.gas
  wear : RgSub a.wear b.wear
  heat : a.heat = b.heat

theorem cut_sub {a b : Rg} (m : Int) (h : RgSub a b) : RgSub (cut a m) (cut b m) := ⟨h.lo, by
  have := h.hi
  simp only [cut, mi]; split <;> split <;> omega⟩
theorem sum_sub {a b a' b' : Rg} (h : RgSub a b) (h' : RgSub a' b') : RgSub (sumR a a') (sumR b b') := ⟨by have := h.lo; have := h'.lo; simp only [sumR]; omega, by have := h.hi; have := h'.hi; simp only [sumR]; omega⟩
theorem parts_sub {a b r s : Rg} (h : RgSub a b) (h' : RgSub r s) (hb : 0 ≤ b.lo) (ha : 0 ≤ a.hi) (hs : 0 ≤ s.lo) (hr : 0 ≤ r.hi) : RgSub (parts a r) (parts b s) :=
  ⟨dn_mono hb h.lo hs h'.lo, up_mono ha h.hi hr h'.hi⟩
theorem remains_sub {a b r s : Rg} (h : RgSub a b) (h' : RgSub r s) (hb : 0 ≤ b.lo) (ha : 0 ≤ a.hi) (hs : 0 ≤ s.lo) (hs' : s.hi ≤ 1000000) (hr : 0 ≤ r.hi) (hr' : r.lo ≤ 1000000) : RgSub (remains a r) (remains b s) := by
  have h1 := h'.lo
  have h2 := h'.hi
  constructor
  · have k1 := keepUp_mono (r := s.hi) hb h.lo (by omega) hs'
    have k2 := up_mono (a := a.lo) (b := a.lo) (Int.le_trans hb h.lo) (Int.le_refl _) hr h2
    simp only [remains]; omega
  · have k1 := keepDn_mono (r := r.lo) ha h.hi (by omega) hr'
    have k2 := dn_mono (a := b.hi) (b := b.hi) (Int.le_trans ha h.hi) (Int.le_refl _) hs h1
    simp only [remains]; omega

theorem afterB_sub {m h : Int} {b b' : Bd} {x x' : Cg} {n c : Ct} (hb : BdOK b) (hb' : BdOK b') (hs : BdSub b b') (hx : CgOK n x) (hx' : CgOK c x') (hxs : CgSub x x') : CgSub (afterB m b x h) (afterB m b' x' h) := by
  have a1 := hx.carb.all; have a2 := hx.ox.all; have a3 := hx.ba.all
  have c1 := hx'.carb.all; have c2 := hx'.ox.all; have c3 := hx'.ba.all
  have b1 := hb.conv.all; have b2 := hb.red.all; have b3 := hb.evap.all
  have d1 := hb'.conv.all; have d2 := hb'.red.all; have d3 := hb'.evap.all
  refine ⟨?_, ?_, ?_, ?_, ?_, ?_, rfl⟩
  · exact cut_sub m (remains_sub hxs.carb hs.conv (by omega) (by omega) (by omega) (by omega) (by omega) (by omega))
  · exact cut_sub m (sum_sub (remains_sub hxs.ox hs.red (by omega) (by omega) (by omega) (by omega) (by omega) (by omega)) (parts_sub hxs.carb hs.conv (by omega) (by omega) (by omega) (by omega)))
  · exact cut_sub m (sum_sub (remains_sub hxs.ba hs.evap (by omega) (by omega) (by omega) (by omega) (by omega) (by omega)) (parts_sub hxs.ox hs.red (by omega) (by omega) (by omega) (by omega)))
  · exact cut_sub m (sum_sub hxs.lost (parts_sub hxs.ba hs.evap (by omega) (by omega) (by omega) (by omega)))
  · exact cut_sub m (parts_sub hxs.carb hs.conv (by omega) (by omega) (by omega) (by omega))
  · exact sum_sub hxs.wear hs.sint

/-! ### Schedules -/
structure HtOK (h : Ht) : Prop where
  ticks : 1 ≤ h.ticks ∧ h.ticks ≤ 2000
  heat : 0 ≤ h.heat ∧ h.heat ≤ 2000
  cur : 0 ≤ h.cur ∧ h.cur ≤ 1000
def lenOfL : List Ht → Int
  | [] => 0
  | h :: l => h.ticks + lenOfL l
structure LsOK (l : List Ht) : Prop where
  len : l.length ≤ 40
  all : ∀ h ∈ l, HtOK h
  sum : lenOfL l ≤ 20000
theorem lenOfL_app (a b : List Ht) : lenOfL (a ++ b) = lenOfL a + lenOfL b := by
  induction a with
  | nil => simp [lenOfL]
  | cons h l ih => simp only [List.cons_append, lenOfL, ih]; omega
theorem lenOfL_nonneg {l : List Ht} (h : ∀ x ∈ l, HtOK x) : 0 ≤ lenOfL l := by
  induction l with
  | nil => simp [lenOfL]
  | cons a l ih =>
    have h1 := (h a (by simp)).ticks
    have h2 := ih fun x hx => h x (by simp [hx])
    simp only [lenOfL]; omega
theorem lenOfL_take {l : List Ht} (h : ∀ x ∈ l, HtOK x) (i : Nat) : 0 ≤ lenOfL (l.take i) ∧ lenOfL (l.take i) ≤ lenOfL l := by
  have e := lenOfL_app (l.take i) (l.drop i)
  rw [List.take_append_drop] at e
  have h1 := lenOfL_nonneg (l := l.drop i) fun x hx => h x (List.mem_of_mem_drop hx)
  have h2 := lenOfL_nonneg (l := l.take i) fun x hx => h x (List.mem_of_mem_take hx)
  omega
theorem lenOfL_succ {l : List Ht} {i : Nat} {h : Ht} (hi : l[i]? = some h) : lenOfL (l.take (i + 1)) = lenOfL (l.take i) + h.ticks := by
  have hlt := (List.getElem?_eq_some_iff.1 hi)
  obtain ⟨h1, h2⟩ := hlt
  rw [List.take_add_one, hi, lenOfL_app]; simp [lenOfL]

def tickN (c : Ct) (heat cur : Int) : Nat → Cg → Cg
  | 0, x => x
  | n + 1, x => after c (tickN c heat cur n x) heat cur
def heatN (c : Ct) (h : Ht) (x : Cg) : Cg := tickN c h.heat h.cur h.ticks.toNat x
/-- The coatings after each heating. -/
def followX (c : Ct) : Cg → List Ht → List Cg
  | _, [] => []
  | x, h :: l => heatN c h x :: followX c (heatN c h x) l
def follow (c : Ct) (l : List Ht) : List Cg := followX c (fresh c) l
/-- The coating after them all. -/
def endX (c : Ct) : Cg → List Ht → Cg
  | x, [] => x
  | x, h :: l => endX c (heatN c h x) l

theorem followX_len (c : Ct) : ∀ (l : List Ht) (x : Cg), (followX c x l).length = l.length
  | [], _ => rfl
  | h :: l, x => by simp [followX, followX_len c l]
theorem followX_app (c : Ct) : ∀ (a b : List Ht) (x : Cg), followX c x (a ++ b) = followX c x a ++ followX c (endX c x a) b
  | [], b, x => by simp [followX, endX]
  | h :: a, b, x => by simp [followX, endX, followX_app c a]
theorem endX_app (c : Ct) : ∀ (a b : List Ht) (x : Cg), endX c x (a ++ b) = endX c (endX c x a) b
  | [], b, x => by simp [endX]
  | h :: a, b, x => by simp [endX, endX_app c a]
theorem endX_succ {c : Ct} {l : List Ht} {i : Nat} {h : Ht} (hi : l[i]? = some h) (x : Cg) : endX c x (l.take (i + 1)) = heatN c h (endX c x (l.take i)) := by
  rw [List.take_add_one, hi, endX_app]; simp [endX]
theorem followX_succ {c : Ct} {l : List Ht} {i : Nat} {h : Ht} (hi : l[i]? = some h) (x : Cg) : followX c x (l.take (i + 1)) = followX c x (l.take i) ++ [heatN c h (endX c x (l.take i))] := by
  rw [List.take_add_one, hi, followX_app]; simp [followX]

/-- After so many ticks. -/
structure Good (c : Ct) (x : Cg) (n : Int) : Prop where
  ok : CgOK c x
  sum : CgSum c x
  wear : x.wear.hi ≤ 1000000 * n
theorem after_good {c : Ct} {x : Cg} {heat cur n : Int} (hc : CtOK c) (h : Good c x n) (hn : n ≤ 1000000) (hh : 0 ≤ heat ∧ heat ≤ 2000) (hcur : 0 ≤ cur ∧ cur ≤ 1000) : Good c (after c x heat cur) (n + 1) := by
  have hw := h.wear
  obtain ⟨h1, h2⟩ := after_ok hc h.ok h.sum hh hcur (by omega)
  obtain ⟨_, _, _, _, _, _, h3⟩ := after_falls hc h.ok hh hcur
  exact ⟨h1, h2, by omega⟩
theorem fresh_good {c : Ct} (hc : CtOK c) : Good c (fresh c) 0 := ⟨(fresh_ok hc).1, (fresh_ok hc).2, by simp [fresh]⟩
theorem tickN_good {c : Ct} {x : Cg} {heat cur n : Int} (hc : CtOK c) (h : Good c x n) (hh : 0 ≤ heat ∧ heat ≤ 2000) (hcur : 0 ≤ cur ∧ cur ≤ 1000) : ∀ (t : Nat), n + t ≤ 1000000 → Good c (tickN c heat cur t x) (n + t)
  | 0, _ => by simpa [tickN] using h
  | t + 1, ht => by
    have := after_good hc (tickN_good hc h hh hcur t (by omega)) (by omega) hh hcur
    rw [show n + (t : Int) + 1 = n + ((t + 1 : Nat) : Int) by omega] at this
    exact this
theorem heatN_good {c : Ct} {x : Cg} {h : Ht} {n : Int} (hc : CtOK c) (hx : Good c x n) (hh : HtOK h) (hn : n + h.ticks ≤ 1000000) : Good c (heatN c h x) (n + h.ticks) := by
  have h1 := hh.ticks
  have := tickN_good hc hx hh.heat hh.cur h.ticks.toNat (by omega)
  rw [show n + (h.ticks.toNat : Int) = n + h.ticks by omega] at this
  exact this
theorem endX_good {c : Ct} (hc : CtOK c) : ∀ {l : List Ht} {x : Cg} {n : Int}, Good c x n → (∀ h ∈ l, HtOK h) → n + lenOfL l ≤ 1000000 → Good c (endX c x l) (n + lenOfL l)
  | [], x, n, hx, _, _ => by simpa [endX, lenOfL] using hx
  | h :: l, x, n, hx, hl, hn => by
    simp only [lenOfL] at hn ⊢
    have h1 := hl h (by simp)
    have h2 := lenOfL_nonneg (l := l) fun y hy => hl y (by simp [hy])
    have := endX_good (l := l) hc (heatN_good hc hx h1 (by omega)) (fun y hy => hl y (by simp [hy])) (by omega)
    rw [show n + h.ticks + lenOfL l = n + (h.ticks + lenOfL l) by omega] at this
    exact this

/-! ### Bands, one by one -/
structure Bands (bs : List Bd) (frm : Int) : Prop where
  len : 1 ≤ bs.length
  first : (bs.getD 0 default).frm = 0
  asc : ∀ i, i + 1 < bs.length → (bs.getD i default).frm < (bs.getD (i + 1) default).frm
  all : ∀ b ∈ bs, BdOK b
  last : (bs.getD (bs.length - 1) default).frm < frm
theorem Bands.one {b : Bd} {frm : Int} (hb : BdOK b) (h0 : b.frm = 0) (h : 0 < frm) : Bands [b] frm :=
  ⟨by simp, by simpa using h0, fun i hi => by simp at hi, fun x hx => by simp at hx; subst hx; exact hb, by simpa [h0] using h⟩
theorem Bands.snoc {bs : List Bd} {frm frm' : Int} {b : Bd} (h : Bands bs frm) (hb : BdOK b) (hf : b.frm = frm) (hlt : frm < frm') : Bands (bs ++ [b]) frm' := by
  have hl := h.len
  refine ⟨by simp, ?_, fun i hi => ?_, fun x hx => ?_, ?_⟩
  · rw [List.getD_eq_getElem?_getD, List.getElem?_append_left (by omega), ← List.getD_eq_getElem?_getD]; exact h.first
  · simp only [List.length_append, List.length_singleton] at hi
    rw [List.getD_eq_getElem?_getD, List.getD_eq_getElem?_getD, List.getElem?_append_left (by omega)]
    by_cases h1 : i + 1 < bs.length
    · rw [List.getElem?_append_left h1, ← List.getD_eq_getElem?_getD, ← List.getD_eq_getElem?_getD]; exact h.asc i h1
    · rw [List.getElem?_append_right (by omega), show i + 1 - bs.length = 0 by omega, ← List.getD_eq_getElem?_getD]
      have := h.last
      rw [show bs.length - 1 = i by omega] at this
      simpa [hf] using this
  · rcases List.mem_append.1 hx with hx | hx
    · exact h.all x hx
    · simp at hx; subst hx; exact hb
  · rw [List.length_append, List.length_singleton, show bs.length + 1 - 1 = bs.length by omega, List.getD_eq_getElem?_getD, List.getElem?_append_right (Nat.le_refl _), Nat.sub_self]
    simpa [hf] using hlt

/-- A schedule made of numbers. -/
structure Sch (l : List Ht) (most ticks : Int) : Prop where
  len : l.length ≤ most
  all : ∀ h ∈ l, HtOK h ∧ h.ticks ≤ ticks
theorem Sch.sum {l : List Ht} {most ticks : Int} (h : ∀ x ∈ l, HtOK x ∧ x.ticks ≤ ticks) : lenOfL l ≤ l.length * ticks := by
  induction l with
  | nil => simp [lenOfL]
  | cons a l ih =>
    have h1 := (h a (by simp)).2
    have h2 := ih fun x hx => h x (by simp [hx])
    simp only [lenOfL, List.length_cons]
    rw [show ((l.length + 1 : Nat) : Int) * ticks = l.length * ticks + ticks by push_cast; rw [Int.add_mul, Int.one_mul]]
    omega
theorem Sch.ok {l : List Ht} {most ticks : Int} (h : Sch l most ticks) (h1 : most ≤ 40) (h2 : 1 ≤ ticks) (h3 : most * ticks ≤ 20000) : LsOK l := by
  have hl := h.len
  refine ⟨by omega, fun x hx => (h.all x hx).1, Int.le_trans (Sch.sum (most := most) h.all) (Int.le_trans (Int.mul_le_mul_of_nonneg_right hl (by omega)) h3)⟩
theorem Sch.snoc {l : List Ht} {most ticks : Int} {x : Ht} (h : Sch l most ticks) (hx : HtOK x ∧ x.ticks ≤ ticks) (hl : l.length + 1 ≤ most) : Sch (l ++ [x]) most ticks := by
  refine ⟨by simp; omega, fun y hy => ?_⟩
  rcases List.mem_append.1 hy with hy | hy
  · exact h.all y hy
  · simp at hy; subst hy; exact hx

/-! ### A heating in parts -/
theorem tickN_add (c : Ct) (heat cur : Int) (m : Nat) (x : Cg) : ∀ n : Nat, tickN c heat cur (m + n) x = tickN c heat cur n (tickN c heat cur m x)
  | 0 => rfl
  | n + 1 => by
    show after c (tickN c heat cur (m + n) x) heat cur = after c (tickN c heat cur n (tickN c heat cur m x)) heat cur
    rw [tickN_add c heat cur m x n]
def inParts (l : List Ht) (j : Nat) (f s : Ht) : List Ht := l.take j ++ ([f, s] ++ l.drop (j + 1))
theorem inParts_len {l : List Ht} {j : Nat} {f s : Ht} (h : j < l.length) : (inParts l j f s).length = l.length + 1 := by
  simp [inParts]; omega
theorem list_at {l : List Ht} {j : Nat} {z : Ht} (h : l[j]? = some z) : l = l.take j ++ (z :: l.drop (j + 1)) := by
  obtain ⟨h1, h2⟩ := List.getElem?_eq_some_iff.1 h
  rw [← h2, List.getElem_cons_drop, List.take_append_drop]
theorem inParts_ok {l : List Ht} {j : Nat} {z : Ht} (hz : l[j]? = some z) (hl : LsOK l) (hlen : l.length ≤ 39) (t : Int) (ht : 1 ≤ t ∧ t < z.ticks) : LsOK (inParts l j ⟨t, z.heat, z.cur⟩ ⟨z.ticks - t, z.heat, z.cur⟩) := by
  obtain ⟨h1, h2⟩ := List.getElem?_eq_some_iff.1 hz
  have zok := hl.all z (h2 ▸ List.getElem_mem h1)
  have hzt := zok.ticks
  refine ⟨by rw [inParts_len h1]; omega, fun x hx => ?_, ?_⟩
  · simp only [inParts, List.mem_append, List.mem_cons, List.not_mem_nil, or_false] at hx
    rcases hx with hx | (rfl | rfl) | hx
    · exact hl.all x (List.mem_of_mem_take hx)
    · exact ⟨by dsimp only; omega, zok.heat, zok.cur⟩
    · exact ⟨by dsimp only; omega, zok.heat, zok.cur⟩
    · exact hl.all x (List.mem_of_mem_drop hx)
  · have e : lenOfL (inParts l j ⟨t, z.heat, z.cur⟩ ⟨z.ticks - t, z.heat, z.cur⟩) = lenOfL l := by
      conv => rhs; rw [list_at hz]
      simp only [inParts, lenOfL_app, lenOfL]; omega
    rw [e]; exact hl.sum
theorem heat_parts (c : Ct) (z : Ht) (t : Int) (ht : 1 ≤ t ∧ t < z.ticks) (x : Cg) : heatN c ⟨z.ticks - t, z.heat, z.cur⟩ (heatN c ⟨t, z.heat, z.cur⟩ x) = heatN c z x := by
  unfold heatN
  rw [← tickN_add]
  dsimp only
  rw [show t.toNat + (z.ticks - t).toNat = z.ticks.toNat by omega]
theorem parts_same {c : Ct} {l : List Ht} {j : Nat} {z : Ht} (hz : l[j]? = some z) (t : Int) (ht : 1 ≤ t ∧ t < z.ticks) (i : Nat) :
    (follow c (inParts l j ⟨t, z.heat, z.cur⟩ ⟨z.ticks - t, z.heat, z.cur⟩))[if j ≤ i then i + 1 else i]? = (follow c l)[i]? := by
  obtain ⟨h1, h2⟩ := List.getElem?_eq_some_iff.1 hz
  have hA : (followX c (fresh c) (l.take j)).length = j := by rw [followX_len, List.length_take]; omega
  have e1 : follow c l = followX c (fresh c) (l.take j) ++ (heatN c z (endX c (fresh c) (l.take j)) :: followX c (heatN c z (endX c (fresh c) (l.take j))) (l.drop (j + 1))) := by
    unfold follow
    conv => lhs; rw [list_at hz]
    rw [followX_app]; rfl
  have e2 : follow c (inParts l j ⟨t, z.heat, z.cur⟩ ⟨z.ticks - t, z.heat, z.cur⟩) = followX c (fresh c) (l.take j) ++ (heatN c ⟨t, z.heat, z.cur⟩ (endX c (fresh c) (l.take j)) :: heatN c z (endX c (fresh c) (l.take j)) :: followX c (heatN c z (endX c (fresh c) (l.take j))) (l.drop (j + 1))) := by
    unfold follow inParts
    rw [followX_app]
    simp only [List.cons_append, List.nil_append, followX, heat_parts c z t ht]
  rw [e1, e2]
  split
  · rw [List.getElem?_append_right (by omega), List.getElem?_append_right (by omega), hA, show i + 1 - j = i - j + 1 by omega, List.getElem?_cons_succ]
  · rw [List.getElem?_append_left (by omega), List.getElem?_append_left (by omega)]

/-! ### A coat with narrower rates -/
structure CtSub (n c : Ct) : Prop where
  amount : n.amount = c.amount
  slew : n.slew = c.slew
  aid : RgSub n.aid c.aid
  len : n.bands.length = c.bands.length
  bands : ∀ i, i < c.bands.length → BdSub (n.bands.getD i default) (c.bands.getD i default)
theorem aboveN_frm : ∀ (a b : List Bd) (h : Int), a.length = b.length → (∀ i, i < b.length → (a.getD i default).frm = (b.getD i default).frm) → aboveN a h = aboveN b h
  | [], [], _, _, _ => rfl
  | x :: a, y :: b, h, hl, hf => by
    have h0 := hf 0 (by simp)
    simp only [List.getD_cons_zero] at h0
    have ih := aboveN_frm a b h (by simpa using hl) fun i hi => by simpa using hf (i + 1) (by simpa using hi)
    unfold aboveN at ih ⊢
    rw [List.takeWhile_cons, List.takeWhile_cons, h0]
    split <;> simp [ih]
  | [], _ :: _, _, hl, _ => by simp at hl
  | _ :: _, [], _, hl, _ => by simp at hl
theorem ratesAt_sub {n c : Ct} (hn : CtOK n) (hc : CtOK c) (hs : CtSub n c) {h cur : Int} (hh : 0 ≤ h) (hcur : 0 ≤ cur ∧ cur ≤ 1000) : BdSub (ratesAt n h cur) (ratesAt c h cur) := by
  have e := aboveN_frm n.bands c.bands h hs.len fun i hi => (hs.bands i hi).frm
  have h1 := aboveN_pos hc.len.1 hc.first hh
  have h2 := aboveN_le c.bands h
  have hb := hs.bands (aboveN c.bands h - 1) (by omega)
  have eb : bandAt n.bands h = n.bands.getD (aboveN c.bands h - 1) default := by unfold bandAt; rw [e]
  have a1 := Int.mul_le_mul_of_nonneg_left hs.aid.lo hcur.1
  have a2 := Int.mul_le_mul_of_nonneg_left hs.aid.hi hcur.1
  have r1 := hb.red.lo; have r2 := hb.red.hi
  unfold ratesAt
  rw [eb]
  show BdSub _ _
  unfold bandAt
  refine ⟨hb.frm, hb.conv, ⟨?_, ?_⟩, hb.evap, hb.sint⟩ <;> dsimp only [mi] <;> split <;> split <;> omega
theorem after_sub {n c : Ct} (hn : CtOK n) (hc : CtOK c) (hs : CtSub n c) {x y : Cg} (hx : CgOK n x) (hy : CgOK c y) (hxy : CgSub x y) {heat cur : Int} (hh : 0 ≤ heat ∧ heat ≤ 2000) (hcur : 0 ≤ cur ∧ cur ≤ 1000) :
    CgSub (after n x heat cur) (after c y heat cur) := by
  unfold after
  rw [hs.slew, hs.amount, hxy.heat]
  have hm := moved_in hy.heat hh hc.slew.1
  exact afterB_sub (ratesAt_ok hn hm.1 hcur) (ratesAt_ok hc hm.1 hcur) (ratesAt_sub hn hc hs hm.1 hcur) hx hy hxy
theorem tickN_sub {n c : Ct} (hn : CtOK n) (hc : CtOK c) (hs : CtSub n c) {x y : Cg} {k : Int} (hx : Good n x k) (hy : Good c y k) (hxy : CgSub x y) {heat cur : Int} (hh : 0 ≤ heat ∧ heat ≤ 2000) (hcur : 0 ≤ cur ∧ cur ≤ 1000) :
    ∀ t : Nat, k + t ≤ 1000000 → CgSub (tickN n heat cur t x) (tickN c heat cur t y)
  | 0, _ => hxy
  | t + 1, ht => after_sub hn hc hs (tickN_good hn hx hh hcur t (by omega)).ok (tickN_good hc hy hh hcur t (by omega)).ok (tickN_sub hn hc hs hx hy hxy hh hcur t (by omega)) hh hcur
theorem followX_sub {n c : Ct} (hn : CtOK n) (hc : CtOK c) (hs : CtSub n c) : ∀ (l : List Ht) (x y : Cg) (k : Int), (∀ h ∈ l, HtOK h) → Good n x k → Good c y k → CgSub x y → k + lenOfL l ≤ 1000000 → 0 ≤ k →
    ∀ (i : Nat) (a b : Cg), (followX n x l)[i]? = some a → (followX c y l)[i]? = some b → CgSub a b ∧ CgOK n a ∧ CgOK c b
  | [], x, y, k, _, _, _, _, _, _, i, a, b, h1, _ => by simp [followX] at h1
  | h :: l, x, y, k, hl, hx, hy, hxy, hk, hk0, i, a, b, h1, h2 => by
    have hh := hl h (by simp)
    have hl' : ∀ z ∈ l, HtOK z := fun z hz => hl z (by simp [hz])
    have h0 := lenOfL_nonneg hl'
    have ht := hh.ticks
    simp only [lenOfL] at hk
    have gx := heatN_good hn hx hh (by omega)
    have gy := heatN_good hc hy hh (by omega)
    have gs : CgSub (heatN n h x) (heatN c h y) := tickN_sub hn hc hs hx hy hxy hh.heat hh.cur _ (by omega)
    simp only [followX] at h1 h2
    cases i with
    | zero =>
      simp only [List.getElem?_cons_zero, Option.some.injEq] at h1 h2
      subst h1 h2
      exact ⟨gs, gx.ok, gy.ok⟩
    | succ i =>
      simp only [List.getElem?_cons_succ] at h1 h2
      exact followX_sub hn hc hs l _ _ _ hl' gx gy gs (by omega) (by omega) i a b h1 h2
theorem fresh_sub {n c : Ct} (hs : CtSub n c) : CgSub (fresh n) (fresh c) := by
  refine ⟨⟨?_, ?_⟩, ⟨?_, ?_⟩, ⟨?_, ?_⟩, ⟨?_, ?_⟩, ⟨?_, ?_⟩, ⟨?_, ?_⟩, rfl⟩ <;> simp [fresh, hs.amount]
theorem follow_sub {n c : Ct} (hn : CtOK n) (hc : CtOK c) (hs : CtSub n c) {l : List Ht} (hl : LsOK l) : ∀ (i : Nat) (a b : Cg), (follow n l)[i]? = some a → (follow c l)[i]? = some b → CgSub a b ∧ CgOK n a ∧ CgOK c b :=
  followX_sub hn hc hs l _ _ 0 hl.all (fresh_good hn) (fresh_good hc) (fresh_sub hs) (by have := hl.sum; omega) (Int.le_refl 0)
theorem CgOK.of {n c : Ct} (h : n.amount = c.amount) {x : Cg} (hx : CgOK n x) : CgOK c x := ⟨h ▸ hx.carb, h ▸ hx.ox, h ▸ hx.ba, h ▸ hx.lost, h ▸ hx.gas, hx.wear, hx.heat⟩

/-- The bands, the first of them narrowed already. -/
structure Part (c : Ct) (bs : List Bd) (i : Nat) : Prop where
  len : bs.length = c.bands.length
  done : ∀ k, k < i → k < c.bands.length → BdSub (bs.getD k default) (c.bands.getD k default) ∧ BdOK (bs.getD k default)
  rest : ∀ k, i ≤ k → bs.getD k default = c.bands.getD k default
theorem Part.zero (c : Ct) : Part c c.bands 0 := ⟨rfl, fun k hk => by omega, fun k _ => rfl⟩
theorem Part.step {c : Ct} {bs : List Bd} {i : Nat} {b : Bd} (h : Part c bs i) (hi : i < c.bands.length) (hb : BdOK b) (hs : BdSub b (c.bands.getD i default)) : Part c (bs.set i b) (i + 1) := by
  have hl := h.len
  refine ⟨by simp [hl], fun k hk hkl => ?_, fun k hk => ?_⟩
  · by_cases e : k = i
    · subst e
      rw [List.getD_eq_getElem?_getD, List.getElem?_set_self (by omega)]
      exact ⟨hs, hb⟩
    · rw [List.getD_eq_getElem?_getD, List.getElem?_set_ne (by omega), ← List.getD_eq_getElem?_getD]
      exact h.done k (by omega) hkl
  · rw [List.getD_eq_getElem?_getD, List.getElem?_set_ne (by omega), ← List.getD_eq_getElem?_getD]
    exact h.rest k (by omega)
theorem Part.coat {c : Ct} {bs : List Bd} {aid : Rg} (h : Part c bs c.bands.length) (hc : CtOK c) (ha : RgIn aid 1000000) (hs : RgSub aid c.aid) :
    CtOK ⟨c.amount, c.slew, aid, c.yld, bs⟩ ∧ CtSub ⟨c.amount, c.slew, aid, c.yld, bs⟩ c := by
  have hl := h.len
  have hcl := hc.len
  have hd : ∀ i, i < c.bands.length → BdSub (bs.getD i default) (c.bands.getD i default) := fun i hi => (h.done i hi hi).1
  refine ⟨⟨hc.amount, hc.slew, ha, hc.yld, ?_, ?_, ?_, ?_⟩, ⟨rfl, rfl, hs, hl, hd⟩⟩
  · dsimp only; omega
  · dsimp only; rw [(hd 0 (by omega)).frm]; exact hc.first
  · intro i hi
    dsimp only at hi ⊢
    rw [(hd i (by omega)).frm, (hd (i + 1) (by omega)).frm]
    exact hc.asc i (by omega)
  · intro b hb
    obtain ⟨i, hi, rfl⟩ := List.getElem_of_mem hb
    dsimp only at hi
    have := (h.done i (by omega) (by omega)).2
    rwa [List.getD_eq_getElem?_getD, List.getElem?_eq_getElem hi] at this

/-! ### Lives -/
/-- How far, from k on, the numbers are at least so great. -/
def lifeN (f : Nat → Int) (least : Int) : Nat → Nat → Nat
  | 0, k => k
  | n + 1, k => if least ≤ f (k + 1) then lifeN f least n (k + 1) else k
theorem lifeN_in (f : Nat → Int) (least : Int) : ∀ n k, k ≤ lifeN f least n k ∧ lifeN f least n k ≤ k + n
  | 0, k => by simp [lifeN]
  | n + 1, k => by
    simp only [lifeN]
    have := lifeN_in f least n (k + 1)
    split <;> omega
theorem lifeN_le {f g : Nat → Int} {a b : Int} (hab : b ≤ a) : ∀ (n k : Nat), (∀ j, j ≤ k + n → f j ≤ g j) → lifeN f a n k ≤ lifeN g b n k
  | 0, k, _ => by simp [lifeN]
  | n + 1, k, h => by
    simp only [lifeN]
    have h1 := h (k + 1) (by omega)
    have ih := lifeN_le (f := f) (g := g) hab n (k + 1) fun j hj => h j (by omega)
    have h2 := lifeN_in g b n (k + 1)
    split
    · rw [if_pos (by omega)]; exact ih
    · split <;> omega
def lifeLo (c : Ct) (x : Cg) (heat cur least : Int) : Nat := lifeN (fun j => (tickN c heat cur j x).ba.lo) least 5000 0
def lifeHi (c : Ct) (x : Cg) (heat cur least : Int) : Nat := lifeN (fun j => (tickN c heat cur j x).ba.hi) least 5000 0
theorem life_says {c : Ct} (hc : CtOK c) {x : Cg} {K : Int} (hx : Good c x K) (hK : K ≤ 100000) {heat cur a b : Int} (hh : 0 ≤ heat ∧ heat ≤ 2000) (hcur : 0 ≤ cur ∧ cur ≤ 1000) (hab : a ≤ b) :
    lifeLo c x heat cur a ≤ lifeHi c x heat cur a ∧ lifeLo c x heat cur b ≤ lifeHi c x heat cur b ∧ lifeLo c x heat cur b ≤ lifeLo c x heat cur a ∧ lifeHi c x heat cur b ≤ lifeHi c x heat cur a ∧ lifeHi c x heat cur a ≤ 5000 := by
  have h : ∀ j, j ≤ 0 + 5000 → (tickN c heat cur j x).ba.lo ≤ (tickN c heat cur j x).ba.hi := fun j hj => (tickN_good hc hx hh hcur j (by omega)).ok.ba.le
  refine ⟨lifeN_le (Int.le_refl a) _ _ h, lifeN_le (Int.le_refl b) _ _ h, lifeN_le hab _ _ fun j _ => Int.le_refl _, lifeN_le hab _ _ fun j _ => Int.le_refl _, ?_⟩
  have := (lifeN_in (fun j => (tickN c heat cur j x).ba.hi) a 5000 0).2
  unfold lifeHi; omega
theorem follow_last (c : Ct) (l : List Ht) (z : Ht) : (follow c (l ++ [z]))[l.length]? = some (heatN c z (endX c (fresh c) l)) := by
  unfold follow
  rw [followX_app, List.getElem?_append_right (by rw [followX_len]; exact Nat.le_refl _), followX_len, Nat.sub_self]; rfl
theorem last_good {c : Ct} (hc : CtOK c) {l : List Ht} {z : Ht} (hl : LsOK (l ++ [z])) : Good c (heatN c z (endX c (fresh c) l)) (lenOfL (l ++ [z])) := by
  have h := endX_good hc (l := l ++ [z]) (fresh_good hc) hl.all (by have := hl.sum; omega)
  rw [endX_app] at h
  simpa [endX] using h
theorem LsOK.snoc {l : List Ht} {z : Ht} (hl : ∀ x ∈ l, HtOK x) (hz : HtOK z) (h1 : l.length + 1 ≤ 40) (h2 : lenOfL l + z.ticks ≤ 20000) : LsOK (l ++ [z]) := by
  refine ⟨by simp; omega, fun x hx => ?_, by rw [lenOfL_app]; simpa [lenOfL] using h2⟩
  rcases List.mem_append.1 hx with hx | hx
  · exact hl x hx
  · simp at hx; subst hx; exact hz

/-! ### No rates -/
def zeroB (b : Bd) : Bd := ⟨b.frm, ⟨0, 0⟩, ⟨0, 0⟩, ⟨0, 0⟩, ⟨0, 0⟩⟩
structure Zer (c : Ct) (bs : List Bd) (i : Nat) : Prop where
  len : bs.length = c.bands.length
  done : ∀ k, k < i → k < c.bands.length → bs.getD k default = zeroB (c.bands.getD k default)
  rest : ∀ k, i ≤ k → bs.getD k default = c.bands.getD k default
theorem Zer.zero (c : Ct) : Zer c c.bands 0 := ⟨rfl, fun k hk => by omega, fun k _ => rfl⟩
theorem Zer.step {c : Ct} {bs : List Bd} {i : Nat} (h : Zer c bs i) (hi : i < c.bands.length) {b : Bd} (hb : b = zeroB (c.bands.getD i default)) : Zer c (bs.set i b) (i + 1) := by
  have hl := h.len
  refine ⟨by simp [hl], fun k hk hkl => ?_, fun k hk => ?_⟩
  · by_cases e : k = i
    · subst e
      rw [List.getD_eq_getElem?_getD, List.getElem?_set_self (by omega)]
      exact hb
    · rw [List.getD_eq_getElem?_getD, List.getElem?_set_ne (by omega), ← List.getD_eq_getElem?_getD]
      exact h.done k (by omega) hkl
  · rw [List.getD_eq_getElem?_getD, List.getElem?_set_ne (by omega), ← List.getD_eq_getElem?_getD]
    exact h.rest k (by omega)
theorem Zer.coat {c : Ct} {bs : List Bd} (h : Zer c bs c.bands.length) (hc : CtOK c) : CtOK ⟨c.amount, c.slew, ⟨0, 0⟩, c.yld, bs⟩ := by
  have hl := h.len
  have hcl := hc.len
  have hd : ∀ i, i < c.bands.length → bs.getD i default = zeroB (c.bands.getD i default) := fun i hi => h.done i hi hi
  refine ⟨hc.amount, hc.slew, ⟨by simp, by simp, by simp⟩, hc.yld, ?_, ?_, ?_, ?_⟩
  · dsimp only; omega
  · dsimp only; rw [hd 0 (by omega)]; exact hc.first
  · intro i hi
    dsimp only at hi ⊢
    rw [hd i (by omega), hd (i + 1) (by omega)]
    exact hc.asc i (by omega)
  · intro b hb
    obtain ⟨i, hi, rfl⟩ := List.getElem_of_mem hb
    dsimp only at hi
    have e := hd i (by omega)
    rw [List.getD_eq_getElem?_getD, List.getElem?_eq_getElem hi] at e
    have e2 : bs[i] = zeroB (c.bands.getD i default) := e
    show BdOK bs[i]
    rw [e2]
    have := hc.bands (c.bands.getD i default) (by rw [List.getD_eq_getElem?_getD, List.getElem?_eq_getElem (by omega)]; exact List.getElem_mem (by omega))
    exact ⟨this.frm, ⟨by simp [zeroB], by simp [zeroB], by simp [zeroB]⟩, ⟨by simp [zeroB], by simp [zeroB], by simp [zeroB]⟩, ⟨by simp [zeroB], by simp [zeroB], by simp [zeroB]⟩, ⟨by simp [zeroB], by simp [zeroB], by simp [zeroB]⟩⟩
theorem up_zero (a : Int) : up a 0 = 0 := by unfold up; rw [Int.mul_zero]; rfl
theorem dn_zero (a : Int) : dn a 0 = 0 := by unfold dn; rw [Int.mul_zero]; rfl
theorem Zer.after {c : Ct} {bs : List Bd} (h : Zer c bs c.bands.length) (hc : CtOK c) {x : Cg} (hx : CgOK c x) {heat cur : Int} (hh : 0 ≤ heat ∧ heat ≤ 2000) :
    after ⟨c.amount, c.slew, ⟨0, 0⟩, c.yld, bs⟩ x heat cur = { x with gas := ⟨0, 0⟩, heat := moved x.heat heat c.slew } := by
  have hm := moved_in hx.heat hh hc.slew.1
  have hn := h.coat hc
  have h1 := aboveN_pos hn.len.1 hn.first hm.1
  have h2 := aboveN_le bs (moved x.heat heat c.slew)
  have hl := h.len
  dsimp only at h1
  have hb : bandAt bs (moved x.heat heat c.slew) = zeroB (c.bands.getD (aboveN bs (moved x.heat heat c.slew) - 1) default) := h.done _ (by omega) (by omega)
  unfold Go.Proofs.after
  dsimp only
  have hr : ratesAt ⟨c.amount, c.slew, ⟨0, 0⟩, c.yld, bs⟩ (moved x.heat heat c.slew) cur = zeroB (c.bands.getD (aboveN bs (moved x.heat heat c.slew) - 1) default) := by
    unfold ratesAt
    dsimp only
    rw [hb]
    simp [zeroB, mi]
  rw [hr]
  have c1 := hx.carb.hi; have c2 := hx.ox.hi; have c3 := hx.ba.hi; have c4 := hx.lost.hi
  have m0 : ∀ a : Int, a ≤ c.amount → mi a c.amount = a := fun a ha => by unfold mi; split <;> omega
  have m1 : mi 0 c.amount = 0 := m0 0 (by have := hc.amount; omega)
  unfold afterB
  simp only [zeroB, remains, parts, sumR, cut, up_zero, dn_zero, Int.sub_zero, Int.add_zero, m0 _ c1, m0 _ c2, m0 _ c3, m0 _ c4, m1]
/-- How near the heat is. -/
theorem moved_near {h a s : Int} {i : Int} (hs : 1 ≤ s) (hn : h = a ∨ (h - a + i * s ≤ 2000 ∧ a - h + i * s ≤ 2000)) : moved h a s = a ∨ (moved h a s - a + (i + 1) * s ≤ 2000 ∧ a - moved h a s + (i + 1) * s ≤ 2000) := by
  have e : (i + 1) * s = i * s + s := by rw [Int.add_mul, Int.one_mul]
  rw [e]
  generalize i * s = z at *
  unfold moved mi mx
  rcases hn with rfl | ⟨h1, h2⟩
  · left; (repeat' split) <;> omega
  · (repeat' split) <;> omega
end Go.Proofs
namespace Go.Proofs
open Go Go.Sx

theorem within_ok (n a b : Int) : Ans Try.prog n_cathode_within [.int .i64 n, .int .i64 a, .int .i64 b] [] (.bool (decide (a ≤ n) && decide (n ≤ b))) [] := by
  refine spec_run e_cathode_within fun G => ?_
  simp only [go_sem]
  refine ⟨fun h => ?_, fun h => ?_⟩ <;> simp [h]
theorem within_yes {n a b : Int} (h : a ≤ n ∧ n ≤ b) : Ans Try.prog n_cathode_within [.int .i64 n, .int .i64 a, .int .i64 b] [] (.bool true) [] := by
  have := within_ok n a b
  rwa [show (decide (a ≤ n) && decide (n ≤ b)) = true by simp [h]] at this

theorem idx_next {i n : Nat} (h : i < n) (hn : n ≤ 9223372036854775807) : IntKind.i64.wrap ((i : Int) + 1) = ((i + 1 : Nat) : Int) := by rw [IntWalk.i64_in _ (by omega)]; rfl

theorem checkRanges_ok (m : Int) (rs : List Rg) (h : ∀ r ∈ rs, RgIn r m) (hl : rs.length ≤ 1000) : Ans Try.prog n_cathode_checkRanges [.int .i64 m, .view (rs.map Rg.v)] [] (.int .i64 0) [] := by
  refine spec_run e_cathode_checkRanges fun G => ?_
  simp only [go_sem]
  refine loop_ind k_cathode_checkRanges_r9.eq_1 (fun a : Nat × Heap => a.1 ≤ rs.length) (fun a => rs.length - a.1)
    (fun a => ([.int .i64 m, .view (rs.map Rg.v), .any, .any, .int .i64 0, .any, .any, .view (rs.map Rg.v), .int .i64 rs.length, .int .i64 a.1] ++ List.replicate 21 .any, a.2)) (0, []) (Nat.zero_le _) (by simp [Wk]) rfl ?_
  rintro ⟨i, X⟩ hi ih
  dsimp only at hi ih ⊢
  by_cases h1 : i < rs.length
  · have h2 : (i : Int) < rs.length := by omega
    obtain ⟨r1, r2, r3⟩ := h _ (List.getElem_mem h1)
    have hx : rs[i]? = some rs[i] := List.getElem?_eq_getElem h1
    have h3 := idx_next h1 (by omega)
    generalize rs[i] = z at *
    have r4 : ¬ z.hi < z.lo := by omega
    simp only [go_sem, hx, h2, Rg.v]
    refine cP (within_yes ⟨r1, by omega⟩) ?_
    simp only [go_sem]
    refine cP (within_yes ⟨by omega, r3⟩) ?_
    simp only [go_sem, r4, h3]
    exact ih (i + 1, _) (by dsimp only; omega) h1 _ (by simp [Wk])
  · have h2 : ¬ (i : Int) < rs.length := by omega
    simp only [go_sem, h2]

theorem partDown_ok (a r : Int) (ha : 0 ≤ a ∧ a ≤ 1000000) (hr : 0 ≤ r ∧ r ≤ 1000000) : Ans Try.prog n_cathode_partDown [.int .i64 a, .int .i64 r] [] (.int .i64 (dn a r)) [] := by
  have h1 := mul_rng ha.1 ha.2 hr.1 hr.2
  have h2 : IntKind.i64.wrap (a * r) = a * r := w64 (by omega)
  have h3 : (a * r).tdiv 1000000 = dn a r := Int.tdiv_eq_ediv_of_nonneg h1.1
  have h4 : IntKind.i64.wrap (dn a r) = dn a r := w64 (by have := dn_in ha.1 hr.1 hr.2; omega)
  refine spec_run e_cathode_partDown fun G => ?_
  simp only [go_sem, h2, h3, h4]
theorem partUp_ok (a r : Int) (ha : 0 ≤ a ∧ a ≤ 1000000) (hr : 0 ≤ r ∧ r ≤ 1000000) : Ans Try.prog n_cathode_partUp [.int .i64 a, .int .i64 r] [] (.int .i64 (up a r)) [] := by
  have h1 := mul_rng ha.1 ha.2 hr.1 hr.2
  have h2 : IntKind.i64.wrap (a * r) = a * r := w64 (by omega)
  have h5 : IntKind.i64.wrap (a * r + 1000000) = a * r + 1000000 := w64 (by omega)
  have h6 : IntKind.i64.wrap (a * r + 1000000 - 1) = a * r + 999999 := by rw [w64 (by omega)]; omega
  have h3 : (a * r + 999999).tdiv 1000000 = up a r := Int.tdiv_eq_ediv_of_nonneg (by omega)
  have h4 : IntKind.i64.wrap (up a r) = up a r := w64 (by have := up_in ha.1 hr.1 hr.2; omega)
  refine spec_run e_cathode_partUp fun G => ?_
  simp only [go_sem, h2, h5, h6, h3, h4]

/-- Both of its numbers are in range. -/
structure RgB (r : Rg) : Prop where
  lo : 0 ≤ r.lo ∧ r.lo ≤ 1000000
  hi : 0 ≤ r.hi ∧ r.hi ≤ 1000000
theorem RgIn.b {r : Rg} {m : Int} (h : RgIn r m) (hm : m ≤ 1000000) : RgB r := by
  obtain ⟨a, b, c⟩ := h
  exact ⟨⟨a, by omega⟩, ⟨by omega, by omega⟩⟩

theorem parts_ok (a r : Rg) (ha : RgB a) (hr : RgB r) : Ans Try.prog n_cathode_parts [a.v, r.v] [] (parts a r).v [] := by
  refine spec_run e_cathode_parts fun G => ?_
  simp only [go_sem, Rg.v]
  refine dP (partDown_ok _ _ ha.lo hr.lo) ?_
  simp only [go_sem]
  refine cP (partUp_ok _ _ ha.hi hr.hi) ?_
  simp only [go_sem, parts]

theorem remains_ok (a r : Rg) (ha : RgB a) (hr : RgB r) : Ans Try.prog n_cathode_remains [a.v, r.v] [] (remains a r).v [] := by
  have u := up_in ha.lo.1 hr.hi.1 hr.hi.2
  have d := dn_in ha.hi.1 hr.lo.1 hr.lo.2
  have h1 := ha.lo; have h2 := ha.hi
  have e1 : IntKind.i64.wrap (a.lo - up a.lo r.hi) = a.lo - up a.lo r.hi := w64 (by omega)
  have e2 : IntKind.i64.wrap (a.hi - dn a.hi r.lo) = a.hi - dn a.hi r.lo := w64 (by omega)
  refine spec_run e_cathode_remains fun G => ?_
  simp only [go_sem, Rg.v]
  refine dP (partUp_ok _ _ ha.lo hr.hi) ?_
  simp only [go_sem, e1]
  refine dP (partDown_ok _ _ ha.hi hr.lo) ?_
  simp only [go_sem, e2, remains]

theorem sum_ok (a b : Rg) (h : -1000000000000000 ≤ a.lo ∧ a.lo ≤ 1000000000000000) (h2 : -1000000000000000 ≤ a.hi ∧ a.hi ≤ 1000000000000000) (h3 : -1000000000000000 ≤ b.lo ∧ b.lo ≤ 1000000000000000) (h4 : -1000000000000000 ≤ b.hi ∧ b.hi ≤ 1000000000000000) :
    Ans Try.prog n_cathode_sum [a.v, b.v] [] (sumR a b).v [] := by
  have e1 : IntKind.i64.wrap (a.lo + b.lo) = a.lo + b.lo := w64 (by omega)
  have e2 : IntKind.i64.wrap (a.hi + b.hi) = a.hi + b.hi := w64 (by omega)
  refine spec_run e_cathode_sum fun G => ?_
  simp only [go_sem, Rg.v, e1, e2, sumR]

theorem moved_ok (h a s : Int) (hh : 0 ≤ h ∧ h ≤ 2000) (ha : 0 ≤ a ∧ a ≤ 2000) (hs : 1 ≤ s ∧ s ≤ 2000) : Ans Try.prog n_cathode_moved [.int .i64 h, .int .i64 a, .int .i64 s] [] (.int .i64 (moved h a s)) [] := by
  have e1 : IntKind.i64.wrap (h - s) = h - s := w64 (by omega)
  have e2 : IntKind.i64.wrap (h + s) = h + s := w64 (by omega)
  refine spec_run e_cathode_moved fun G => ?_
  simp only [go_sem, e1, e2, moved, mi, mx]
  rfl
end Go.Proofs
namespace Go.Proofs
open Go Go.Sx

def Tk (b : Bd) (x y : Cg) : Row := .cells false 35 [.agg (b.cs ++ x.cs ++ y.cs)]
@[go_sem] theorem tk_bel (b : Bd) (x y : Cg) (S : Nat → Prop) : (Tk b x y).bel S = True := by
  unfold Tk; rw [row_bel_cells]; simp only [go_sem, Bd.cs, Cg.cs]

/-- What ticks lean on. -/
structure TkOK (b : Bd) (x : Cg) : Prop where
  conv : RgB b.conv
  red : RgB b.red
  evap : RgB b.evap
  sint : RgB b.sint
  carb : RgB x.carb
  ox : RgB x.ox
  ba : RgB x.ba
  lost : RgB x.lost
  wear : 0 ≤ x.wear.lo ∧ x.wear.lo ≤ 100000000000000 ∧ 0 ≤ x.wear.hi ∧ x.wear.hi ≤ 100000000000000

theorem parts_b {a r : Rg} (ha : RgB a) (hr : RgB r) : 0 ≤ (parts a r).lo ∧ (parts a r).lo ≤ 1000000 ∧ 0 ≤ (parts a r).hi ∧ (parts a r).hi ≤ 1000000 := by
  have u := up_in ha.hi.1 hr.hi.1 hr.hi.2
  have d := dn_in ha.lo.1 hr.lo.1 hr.lo.2
  have h1 := ha.lo; have h2 := ha.hi
  simp only [parts]; omega
theorem remains_b {a r : Rg} (ha : RgB a) (hr : RgB r) : 0 ≤ (remains a r).lo ∧ (remains a r).lo ≤ 1000000 ∧ 0 ≤ (remains a r).hi ∧ (remains a r).hi ≤ 1000000 := by
  have u := up_in ha.lo.1 hr.hi.1 hr.hi.2
  have d := dn_in ha.hi.1 hr.lo.1 hr.lo.2
  have h1 := ha.lo; have h2 := ha.hi
  simp only [remains]; omega

theorem gas_ok (b : Bd) (x y : Cg) (h : TkOK b x) : Ans Try.prog n_cathode_tick_gas [.ptr 0 0 0 1] [some (Tk b x y)] (.tup []) [some (Tk b x { y with gas := parts x.carb b.conv })] := by
  refine spec_run e_cathode_tick_gas fun G => ?_
  simp only [go_sem, Tk, Bd.cs, Cg.cs]
  refine dP (parts_ok _ _ h.carb h.conv) ?_
  simp only [go_sem, Rg.v]
  exact ⟨_, rfl⟩

theorem carbonate_ok (b : Bd) (x y : Cg) (h : TkOK b x) : Ans Try.prog n_cathode_tick_carbonate [.ptr 0 0 0 1] [some (Tk b x y)] (.tup []) [some (Tk b x { y with carb := remains x.carb b.conv })] := by
  refine spec_run e_cathode_tick_carbonate fun G => ?_
  simp only [go_sem, Tk, Bd.cs, Cg.cs]
  refine dP (remains_ok _ _ h.carb h.conv) ?_
  simp only [go_sem, Rg.v]
  exact ⟨_, rfl⟩

theorem oxide_ok (b : Bd) (x y : Cg) (h : TkOK b x) (hg : 0 ≤ y.gas.lo ∧ y.gas.lo ≤ 1000000 ∧ 0 ≤ y.gas.hi ∧ y.gas.hi ≤ 1000000) :
    Ans Try.prog n_cathode_tick_oxide [.ptr 0 0 0 1] [some (Tk b x y)] (.tup []) [some (Tk b x { y with ox := sumR (remains x.ox b.red) y.gas })] := by
  have hr := remains_b h.ox h.red
  refine spec_run e_cathode_tick_oxide fun G => ?_
  simp only [go_sem, Tk, Bd.cs, Cg.cs]
  refine dP (remains_ok _ _ h.ox h.red) ?_
  simp only [go_sem, Rg.v]
  refine dP (sum_ok _ y.gas (by omega) (by omega) (by omega) (by omega)) ?_
  simp only [go_sem, Rg.v]
  exact ⟨_, rfl⟩

theorem barium_ok (b : Bd) (x y : Cg) (h : TkOK b x) :
    Ans Try.prog n_cathode_tick_barium [.ptr 0 0 0 1] [some (Tk b x y)] (.tup []) [some (Tk b x { y with ba := sumR (remains x.ba b.evap) (parts x.ox b.red) })] := by
  have hr := remains_b h.ba h.evap
  have hp := parts_b h.ox h.red
  refine spec_run e_cathode_tick_barium fun G => ?_
  simp only [go_sem, Tk, Bd.cs, Cg.cs]
  refine dP (remains_ok _ _ h.ba h.evap) ?_
  simp only [go_sem, Rg.v]
  refine dP (parts_ok _ _ h.ox h.red) ?_
  simp only [go_sem, Rg.v]
  refine dP (sum_ok (remains x.ba b.evap) (parts x.ox b.red) (by omega) (by omega) (by omega) (by omega)) ?_
  simp only [go_sem, Rg.v]
  exact ⟨_, rfl⟩

theorem lost_ok (b : Bd) (x y : Cg) (h : TkOK b x) :
    Ans Try.prog n_cathode_tick_lost [.ptr 0 0 0 1] [some (Tk b x y)] (.tup []) [some (Tk b x { y with lost := sumR x.lost (parts x.ba b.evap) })] := by
  have hp := parts_b h.ba h.evap
  have h1 := h.lost.lo; have h2 := h.lost.hi
  refine spec_run e_cathode_tick_lost fun G => ?_
  simp only [go_sem, Tk, Bd.cs, Cg.cs]
  refine dP (parts_ok _ _ h.ba h.evap) ?_
  simp only [go_sem, Rg.v]
  refine dP (sum_ok x.lost (parts x.ba b.evap) (by omega) (by omega) (by omega) (by omega)) ?_
  simp only [go_sem, Rg.v]
  exact ⟨_, rfl⟩

theorem wear_ok (b : Bd) (x y : Cg) (h : TkOK b x) :
    Ans Try.prog n_cathode_tick_wear [.ptr 0 0 0 1] [some (Tk b x y)] (.tup []) [some (Tk b x { y with wear := sumR x.wear b.sint })] := by
  have h0 := h.wear
  have h1 := h.sint.lo; have h2 := h.sint.hi
  refine spec_run e_cathode_tick_wear fun G => ?_
  simp only [go_sem, Tk, Bd.cs, Cg.cs]
  refine dP (sum_ok x.wear b.sint (by omega) (by omega) (by omega) (by omega)) ?_
  simp only [go_sem, Rg.v]
  exact ⟨_, rfl⟩

/-! ### Rates -/
theorem ratesAt1_ok (c : Ct) (bs : List Bd) (h : Int) (i : Nat) (hi : i < bs.length) :
    Ans Try.prog n_cathode_ratesAt_1 [.int .i64 i, .rptr (c.v (.view (bs.map Bd.v))) 0, .rptr (.int .i64 h) 0] [] (.bool (decide (h < (bs.getD i default).frm))) [] := by
  have hx : bs[i]? = some bs[i] := List.getElem?_eq_getElem hi
  refine spec_run e_cathode_ratesAt_1 fun G => ?_
  simp only [go_sem, Ct.v, Ct.cs, hx, Bd.v, Bd.cs, List.getD_eq_getElem?_getD, Option.getD_some]
end Go.Proofs
namespace Go.Proofs
open Go Go.Sx

theorem shr_u64 (x n : Int) : shrW .u64 x n = x / 2 ^ (min n.toNat 64) := by
  unfold shrW; rw [Int.fdiv_eq_ediv_of_nonneg _ (by exact Int.pow_nonneg (by decide))]; rfl
theorem s1 (x : Int) : shrW .u64 x 1 = x / 2 := by rw [shr_u64]; rfl

theorem search_ok (n : Nat) (hn : n ≤ 1000000000) (g : Nat) (cs : List AVal) (hcs : Bels (fun _ => False) cs) (m : Nat) (hm : m ≤ n)
    (hp : ∀ i : Nat, i < n → Ans Try.prog g (.int .i64 i :: cs) [] (.bool (decide (m ≤ i))) []) : Ans Try.prog n_sort_Search [.int .i64 n, .fn (.func g) [] cs] [] (.int .i64 m) [] := by
  refine spec_run e_sort_Search fun G => ?_
  simp only [go_sem]
  refine loop_ind k_sort_Search_r7.eq_1 (fun a : Nat × Nat => a.1 ≤ m ∧ m ≤ a.2 ∧ a.2 ≤ n) (fun a => a.2 - a.1)
    (fun a => ([.int .i64 n, .fn (.func g) [] cs, .any, .any, .int .i64 0, .int .i64 a.1, .int .i64 a.2] ++ List.replicate 19 .any, [])) (0, n) ⟨Nat.zero_le _, hm, Nat.le_refl _⟩ (by simp [Wk]) rfl ?_
  rintro ⟨i, j⟩ ⟨hi, hj, hjn⟩ ih
  dsimp only at hi hj hjn ih ⊢
  by_cases h1 : i < j
  · have h2 : (i : Int) < j := by omega
    have e1 : IntKind.i64.wrap ((i : Int) + j) = i + j := w64 (by omega)
    have e2 : IntKind.u64.wrap ((i : Int) + j) = i + j := IntWalk.u64_in _ (by omega)
    have e3 : IntKind.i64.wrap (((i : Int) + j) / 2) = (((i + j) / 2 : Nat) : Int) := by rw [w64 (by omega)]; omega
    have e4 := idx_next (i := (i + j) / 2) (n := n) (by omega) (by omega)
    have hq := hp ((i + j) / 2) (by omega)
    simp only [go_sem, h2, e1, e2, s1, e3]
    refine cP hq ?_ ⟨.int _ _, hcs⟩
    by_cases h3 : m ≤ (i + j) / 2
    · simp only [go_sem, h3]
      exact ih (i, (i + j) / 2) (by dsimp only; omega) ⟨hi, h3, by omega⟩ _ (by simp [Wk])
    · simp only [go_sem, h3, e4]
      exact ih ((i + j) / 2 + 1, j) (by dsimp only; omega) ⟨by dsimp only; omega, hj, hjn⟩ _ (by simp [Wk])
  · have h2 : ¬ (i : Int) < j := by omega
    simp only [go_sem, h2]
    omega

@[go_sem] theorem bd_frz (b : Bd) (d : Nat) (H : Heap) : frz (d + 2) H b.v = b.v := rfl
@[go_sem] theorem bd_bel (b : Bd) (S : Nat → Prop) : Bel S b.v = True := by unfold Bd.v Bd.cs; simp only [go_sem]
@[go_sem] theorem bds_bel (bs : List Bd) (S : Nat → Prop) : Bels S (bs.map Bd.v) = True := eq_true (bels_map _ _ fun b => by simp only [go_sem])
@[go_sem] theorem bd_nv (b : Bd) : NV b.v = True := by unfold Bd.v Bd.cs; simp only [go_sem]
theorem bds_frz (bs : List Bd) (d : Nat) (H : Heap) : (bs.map Bd.v).map (frz (d + 2) H) = bs.map Bd.v := by rw [List.map_map]; rfl

theorem ratesAt_run (c : Ct) (hc : CtOK c) (h cur : Int) (hh : 0 ≤ h) (hcur : 0 ≤ cur ∧ cur ≤ 1000) :
    Ans Try.prog n_cathode_ratesAt [c.v (.view (c.bands.map Bd.v)), .int .i64 h, .int .i64 cur] [] (ratesAt c h cur).v [] := by
  have p1 := aboveN_pos hc.len.1 hc.first hh
  have p2 := aboveN_le c.bands h
  have p3 := hc.len.2
  have hs := search_ok c.bands.length (by omega) n_cathode_ratesAt_1 [.rptr (c.v (.view (c.bands.map Bd.v))) 0, .rptr (.int .i64 h) 0] (by simp only [go_sem, Ct.v, Ct.cs]) (aboveN c.bands h) p2 (fun i hi => by
    have := ratesAt1_ok c c.bands h i hi
    have e := aboveN_spec (h := h) hc.asc i hi
    rwa [show decide (h < (c.bands.getD i default).frm) = decide (aboveN c.bands h ≤ i) from decide_eq_decide.2 (by omega)] at this)
  have hx : c.bands[aboveN c.bands h - 1]? = some (bandAt c.bands h) := by
    unfold bandAt
    rw [List.getD_eq_getElem?_getD, List.getElem?_eq_getElem (by omega)]; rfl
  have hb := (bandAt_ok hc hh).red
  have a1 := mul_rng hcur.1 hcur.2 hc.aid.lo (Int.le_trans hc.aid.le hc.aid.hi)
  have a2 := mul_rng hcur.1 hcur.2 (Int.le_trans hc.aid.lo hc.aid.le) hc.aid.hi
  obtain ⟨b1, b2, b3⟩ := hb
  have e0 : IntKind.i64.wrap ((aboveN c.bands h : Int) - 1) = ((aboveN c.bands h - 1 : Nat) : Int) := by rw [w64 (by omega)]; omega
  have e1 : IntKind.i64.wrap (cur * c.aid.lo) = cur * c.aid.lo := w64 (by omega)
  have e2 : IntKind.i64.wrap (cur * c.aid.hi) = cur * c.aid.hi := w64 (by omega)
  unfold ratesAt
  generalize bandAt c.bands h = b at *
  have e3 : IntKind.i64.wrap (b.red.lo + cur * c.aid.lo) = b.red.lo + cur * c.aid.lo := w64 (by omega)
  have e4 : IntKind.i64.wrap (b.red.hi + cur * c.aid.hi) = b.red.hi + cur * c.aid.hi := w64 (by omega)
  have n0 : ¬ ((aboveN c.bands h - 1 : Nat) : Int) < 0 := by omega
  refine spec_run e_cathode_ratesAt fun G => ?_
  simp only [go_sem, Ct.v, Ct.cs]
  refine callF0 hs 6 (by simp only [go_sem, frz, bds_frz, Ct.v, Ct.cs]) ?_
  simp only [go_sem, e0, hx, n0, Bd.v, Bd.cs, e1, e2, e3, e4, mi]
end Go.Proofs
namespace Go.Proofs
open Go Go.Sx

structure CgB (x : Cg) : Prop where
  carb : RgB x.carb
  ox : RgB x.ox
  ba : RgB x.ba
  lost : RgB x.lost
  wear : 0 ≤ x.wear.lo ∧ x.wear.lo ≤ 100000000000000 ∧ 0 ≤ x.wear.hi ∧ x.wear.hi ≤ 100000000000000
  heat : 0 ≤ x.heat ∧ x.heat ≤ 2000

theorem CgOK.b {c : Ct} {x : Cg} (hm : c.amount ≤ 1000000) (h : CgOK c x) : CgB x := by
  have hw := h.wear.all
  exact ⟨h.carb.b hm, h.ox.b hm, h.ba.b hm, h.lost.b hm, by omega, h.heat⟩

set_option maxRecDepth 4000 in
theorem after_run (c : Ct) (hc : CtOK c) (x : Cg) (hx : CgB x) (heat cur : Int) (hh : 0 ≤ heat ∧ heat ≤ 2000) (hcur : 0 ≤ cur ∧ cur ≤ 1000) :
    Ans Try.prog n_cathode_after [c.v (.view (c.bands.map Bd.v)), x.v, .int .i64 heat, .int .i64 cur] [] (after c x heat cur).v [] := by
  have hm := moved_ok x.heat heat c.slew hx.heat hh hc.slew
  have hmi := moved_in hx.heat hh hc.slew.1
  have hr := ratesAt_run c hc (moved x.heat heat c.slew) cur hmi.1 hcur
  have hb := ratesAt_ok hc hmi.1 hcur
  unfold after
  generalize moved x.heat heat c.slew = h at *
  generalize ratesAt c h cur = b at *
  have tk : TkOK b x := ⟨hb.conv.b (by decide), hb.red.b (by decide), hb.evap.b (by decide), hb.sint.b (by decide), hx.carb, hx.ox, hx.ba, hx.lost, hx.wear⟩
  have u1 : IntKind.i64.wrap 1 = 1 := rfl
  have u2 : IntKind.i64.wrap 2 = 2 := rfl
  have u3 : IntKind.i64.wrap 3 = 3 := rfl
  have u4 : IntKind.i64.wrap 4 = 4 := rfl
  have u5 : IntKind.i64.wrap 5 = 5 := rfl
  have u6 : IntKind.i64.wrap 6 = 6 := rfl
  refine spec_run e_cathode_after fun G => ?_
  simp only [go_sem, Ct.v, Ct.cs, Cg.v, Cg.cs]
  refine cP hm ?_
  simp only [go_sem]
  refine cP hr ?_
  simp only [go_sem, Bd.v, Bd.cs]
  refine loop_body 200 k_cathode_after_r9.eq_1 ?_
  simp only [go_sem]
  refine cD (gas_ok b x ⟨⟨0, 0⟩, ⟨0, 0⟩, ⟨0, 0⟩, ⟨0, 0⟩, ⟨0, 0⟩, ⟨0, 0⟩, h⟩ tk) ?_
  simp only [go_sem, u1]
  refine loop_body 200 k_cathode_after_r9.eq_1 ?_
  simp only [go_sem]
  refine cD (carbonate_ok b x ⟨⟨0, 0⟩, ⟨0, 0⟩, ⟨0, 0⟩, ⟨0, 0⟩, parts x.carb b.conv, ⟨0, 0⟩, h⟩ tk) ?_
  simp only [go_sem, u2]
  refine loop_body 200 k_cathode_after_r9.eq_1 ?_
  simp only [go_sem]
  refine cD (oxide_ok b x ⟨remains x.carb b.conv, ⟨0, 0⟩, ⟨0, 0⟩, ⟨0, 0⟩, parts x.carb b.conv, ⟨0, 0⟩, h⟩ tk (parts_b tk.carb tk.conv)) ?_
  simp only [go_sem, u3]
  refine loop_body 200 k_cathode_after_r9.eq_1 ?_
  simp only [go_sem]
  refine cD (barium_ok b x ⟨remains x.carb b.conv, sumR (remains x.ox b.red) (parts x.carb b.conv), ⟨0, 0⟩, ⟨0, 0⟩, parts x.carb b.conv, ⟨0, 0⟩, h⟩ tk) ?_
  simp only [go_sem, u4]
  refine loop_body 200 k_cathode_after_r9.eq_1 ?_
  simp only [go_sem]
  refine cD (lost_ok b x ⟨remains x.carb b.conv, sumR (remains x.ox b.red) (parts x.carb b.conv), sumR (remains x.ba b.evap) (parts x.ox b.red), ⟨0, 0⟩, parts x.carb b.conv, ⟨0, 0⟩, h⟩ tk) ?_
  simp only [go_sem, u5]
  refine loop_body 200 k_cathode_after_r9.eq_1 ?_
  simp only [go_sem]
  refine cD (wear_ok b x ⟨remains x.carb b.conv, sumR (remains x.ox b.red) (parts x.carb b.conv), sumR (remains x.ba b.evap) (parts x.ox b.red), sumR x.lost (parts x.ba b.evap), parts x.carb b.conv, ⟨0, 0⟩, h⟩ tk) ?_
  simp only [go_sem, u6]
  refine loop_body 200 k_cathode_after_r9.eq_1 ?_
  simp only [go_sem, Tk, Bd.cs, Cg.cs]
  refine loop_body 200 k_cathode_after_r15.eq_1 ?_
  simp only [go_sem, u1]
  refine loop_body 200 k_cathode_after_r15.eq_1 ?_
  simp only [go_sem, u2]
  refine loop_body 200 k_cathode_after_r15.eq_1 ?_
  simp only [go_sem, u3]
  refine loop_body 200 k_cathode_after_r15.eq_1 ?_
  simp only [go_sem, u4]
  refine loop_body 200 k_cathode_after_r15.eq_1 ?_
  simp only [go_sem, u5]
  refine loop_body 200 k_cathode_after_r15.eq_1 ?_
  simp only [go_sem]
  simp only [afterB, cut, mi]
end Go.Proofs
namespace Go.Proofs
open Go Go.Sx

theorem rgs_frz (rs : List Rg) (d : Nat) (H : Heap) : (rs.map Rg.v).map (frz (d + 2) H) = rs.map Rg.v := by rw [List.map_map]; rfl

theorem Check_run (c : Ct) (hc : CtOK c) : Ans Try.prog n_cathode_Check [c.v (.view (c.bands.map Bd.v))] [] (.int .i64 0) [] := by
  have h1 := hc.amount; have h2 := hc.slew; have h3 := hc.aid; have h4 := hc.yld; have h5 := hc.len
  have g1 := checkRanges_ok 1000000 [c.aid, c.yld] (by simp [h3, h4]) (by simp)
  have k1 : ¬ ((c.bands.length : Int) = 0) := by omega
  have k2 : ¬ ((16 : Int) < c.bands.length) := by omega
  refine spec_run e_cathode_Check fun G => ?_
  simp only [go_sem, Ct.v, Ct.cs]
  refine cP (within_yes h1) ?_
  simp only [go_sem]
  refine cP (within_yes h2) ?_
  simp only [go_sem]
  refine callF0 g1 6 (by simp only [go_sem, frz, Rg.v]) ?_
  simp only [go_sem, k1, k2]
  refine loop_ind k_cathode_Check_r21.eq_1 (fun a : Nat × Heap => a.1 ≤ c.bands.length) (fun a => c.bands.length - a.1)
    (fun a => (tsets 83 [(1, .ptr 0 0 0 1), (2, .int .i64 0), (35, .view (c.bands.map Bd.v)), (36, .int .i64 c.bands.length), (37, .int .i64 a.1)], some (.cells false 7 [c.v (.view (c.bands.map Bd.v))]) :: a.2)) (0, [_]) (Nat.zero_le _) (by simp [go_sem]) rfl ?_
  rintro ⟨i, X⟩ hi ih
  dsimp only at hi ih ⊢
  by_cases h1 : i < c.bands.length
  · have h2 : (i : Int) < c.bands.length := by omega
    obtain ⟨f1, f2, f3, f4, f5⟩ := hc.bands _ (List.getElem_mem h1)
    have hx : c.bands[i]? = some c.bands[i] := List.getElem?_eq_getElem h1
    have h3 := idx_next h1 (by omega)
    have hf : i = 0 → c.bands[i].frm = 0 := by
      rintro rfl
      have := hc.first
      rwa [List.getD_eq_getElem?_getD, hx] at this
    have hg : 0 < i → ∃ b : Bd, c.bands[i - 1]? = some b ∧ b.frm < c.bands[i].frm := by
      intro h0
      have := hc.asc (i - 1) (by omega)
      rw [show i - 1 + 1 = i by omega, List.getD_eq_getElem?_getD, List.getD_eq_getElem?_getD, hx, List.getElem?_eq_getElem (by omega)] at this
      exact ⟨_, List.getElem?_eq_getElem (by omega), this⟩
    generalize c.bands[i] = b at *
    have g2 := checkRanges_ok 1000000 [b.conv, b.red, b.evap, b.sint] (by simp [f2, f3, f4, f5]) (by simp)
    simp only [go_sem, hx, h2, Bd.v, Bd.cs, Ct.v, Ct.cs]
    refine cP (within_yes f1) ?_
    by_cases h0 : i = 0
    · have hf := hf h0
      have hb : ((i : Int) == 0) = true := by simp [h0]
      have hg2 : ¬ (0 : Int) < i := by omega
      simp only [go_sem, hf, hb, hg2]
      refine callF0 g2 6 (by simp only [go_sem, frz, Rg.v]) ?_
      simp only [go_sem, h3]
      exact ih (i + 1, _) (by dsimp only; omega) h1 _ (by simp [go_sem])
    · obtain ⟨b', hb1, hb2⟩ := hg (by omega)
      have hb : ((i : Int) == 0) = false := by simp [h0]
      have hg2 : (0 : Int) < i := by omega
      have hg3 : IntKind.i64.wrap ((i : Int) - 1) = ((i - 1 : Nat) : Int) := by rw [w64 (by omega)]; omega
      have hg4 : ¬ b.frm ≤ b'.frm := by omega
      simp only [go_sem, hb, hg2, hg3, hb1, hg4, Bd.v, Bd.cs]
      refine callF0 g2 6 (by simp only [go_sem, frz, Rg.v]) ?_
      simp only [go_sem, h3]
      exact ih (i + 1, _) (by dsimp only; omega) h1 _ (by simp [go_sem])
  · have h2 : ¬ (i : Int) < c.bands.length := by omega
    simp only [go_sem, h2]
end Go.Proofs
namespace Go.Proofs
open Go Go.Sx

theorem CheckCoating_run (c : Ct) (hc : CtOK c) (x : Cg) (hx : CgOK c x) : Ans Try.prog n_cathode_CheckCoating [c.v (.view (c.bands.map Bd.v)), x.v] [] (.int .i64 0) [] := by
  have g1 := checkRanges_ok c.amount [x.carb, x.ox, x.ba, x.lost, x.gas] (by simp [hx.carb, hx.ox, hx.ba, hx.lost, hx.gas]) (by simp)
  have g2 := checkRanges_ok 1099511627776 [x.wear] (by simp [hx.wear]) (by simp)
  refine spec_run e_cathode_CheckCoating fun G => ?_
  simp only [go_sem, Ct.v, Ct.cs, Cg.v, Cg.cs]
  refine cP (Check_run c hc) ?_
  simp only [go_sem]
  refine cF g1 6 (by simp only [go_sem, frz, Rg.v]) ?_
  simp only [go_sem]
  refine cF g2 6 (by simp only [go_sem, frz, Rg.v]) ?_
  simp only [go_sem]
  refine cP (within_yes hx.heat) ?_
  simp only [go_sem]

theorem rightHeat_ok {h : Int} (hh : 0 ≤ h ∧ h ≤ 2000) : Ans Try.prog n_cathode_rightHeat [.int .i64 h] [] (.bool true) [] := by
  refine spec_run e_cathode_rightHeat fun G => ?_
  simp only [go_sem]
  refine cP (within_yes hh) ?_
  simp only [go_sem]
theorem rightCurrent_ok {h : Int} (hh : 0 ≤ h ∧ h ≤ 1000) : Ans Try.prog n_cathode_rightCurrent [.int .i64 h] [] (.bool true) [] := by
  refine spec_run e_cathode_rightCurrent fun G => ?_
  simp only [go_sem]
  refine cP (within_yes hh) ?_
  simp only [go_sem]

theorem checkTick_run (c : Ct) (hc : CtOK c) (x : Cg) (hx : CgOK c x) (heat cur : Int) (hh : 0 ≤ heat ∧ heat ≤ 2000) (hcur : 0 ≤ cur ∧ cur ≤ 1000) :
    Ans Try.prog n_cathode_checkTick [c.v (.view (c.bands.map Bd.v)), x.v, .int .i64 heat, .int .i64 cur] [] (.int .i64 0) [] := by
  refine spec_run e_cathode_checkTick fun G => ?_
  simp only [go_sem, Ct.v, Ct.cs, Cg.v, Cg.cs]
  refine cP (CheckCoating_run c hc x hx) ?_
  simp only [go_sem]
  refine cP (rightHeat_ok hh) ?_
  simp only [go_sem]
  refine cP (rightCurrent_ok hcur) ?_
  simp only [go_sem]

theorem Tick_run (c : Ct) (hc : CtOK c) (x : Cg) (hx : CgOK c x) (heat cur : Int) (hh : 0 ≤ heat ∧ heat ≤ 2000) (hcur : 0 ≤ cur ∧ cur ≤ 1000) (hw : (after c x heat cur).wear.hi ≤ 1099511627776) :
    Ans Try.prog n_cathode_Tick [c.v (.view (c.bands.map Bd.v)), x.v, .int .i64 heat, .int .i64 cur] [] (.tup [(after c x heat cur).v, .int .i64 0]) [] := by
  have hw : ¬ 1099511627776 < (after c x heat cur).wear.hi := by omega
  have ha := after_run c hc x (hx.b hc.amount.2) heat cur hh hcur
  generalize after c x heat cur = y at *
  refine spec_run e_cathode_Tick fun G => ?_
  simp only [go_sem, Ct.v, Ct.cs, Cg.v, Cg.cs]
  refine cP (checkTick_run c hc x hx heat cur hh hcur) ?_
  simp only [go_sem]
  refine cP ha ?_ (hr := by simp only [go_sem, Cg.v, Cg.cs])
  simp only [go_sem, Cg.v, Cg.cs, hw]

theorem fresh_run (c : Ct) : Ans Try.prog n_cathode_fresh [c.v (.view (c.bands.map Bd.v))] [] (fresh c).v [] := by
  refine spec_run e_cathode_fresh fun G => ?_
  simp only [go_sem, Ct.v, Ct.cs, Cg.v, Cg.cs, fresh]

theorem Fresh_run (c : Ct) (hc : CtOK c) : Ans Try.prog n_cathode_Fresh [c.v (.view (c.bands.map Bd.v))] [] (.tup [(fresh c).v, .int .i64 0]) [] := by
  refine spec_run e_cathode_Fresh fun G => ?_
  simp only [go_sem, Ct.v, Ct.cs]
  refine cP (Check_run c hc) ?_
  simp only [go_sem]
  refine cP (fresh_run c) ?_ (hr := by simp only [go_sem, Cg.v, Cg.cs])
  simp only [go_sem, Cg.v, Cg.cs]

theorem length_run (l : List Ht) (hl : LsOK l) : Ans Try.prog n_cathode_length [.view (l.map Ht.v)] [] (.int .i64 (lenOfL l)) [] := by
  have hlen := hl.len
  have hsum := hl.sum
  refine spec_run e_cathode_length fun G => ?_
  simp only [go_sem]
  refine loop_ind k_cathode_length_r7.eq_1 (fun a : Nat × Heap => a.1 ≤ l.length) (fun a => l.length - a.1)
    (fun a => (tsets 18 [(3, .int .i64 (lenOfL (l.take a.1))), (6, .view (l.map Ht.v)), (7, .int .i64 l.length), (8, .int .i64 a.1)], a.2)) (0, []) (Nat.zero_le _) (by simp [go_sem, lenOfL]) rfl ?_
  rintro ⟨i, X⟩ hi ih
  dsimp only at hi ih ⊢
  by_cases h1 : i < l.length
  · have h2 : (i : Int) < l.length := by omega
    have hx : l[i]? = some l[i] := List.getElem?_eq_getElem h1
    have h3 := idx_next h1 (by omega)
    have hs := lenOfL_succ hx
    have hr := lenOfL_take hl.all (i + 1)
    have hr0 := lenOfL_take hl.all i
    generalize l[i] = z at *
    have h4 : IntKind.i64.wrap (lenOfL (l.take i) + z.ticks) = lenOfL (l.take (i + 1)) := by rw [w64 (by omega)]; omega
    simp only [go_sem, hx, h2, Ht.v, Ht.cs, h4, h3]
    exact ih (i + 1, _) (by dsimp only; omega) h1 _ (by simp [go_sem])
  · have h2 : ¬ (i : Int) < l.length := by omega
    simp only [go_sem, h2]
    rw [List.take_of_length_le (by omega)]

theorem CheckSchedule_run (l : List Ht) (hl : LsOK l) : Ans Try.prog n_cathode_CheckSchedule [.view (l.map Ht.v)] [] (.int .i64 0) [] := by
  have hlen := hl.len
  have hsum := hl.sum
  have k1 : ¬ (40 : Int) < l.length := by omega
  have k2 : ¬ (20000 : Int) < lenOfL l := by omega
  refine spec_run e_cathode_CheckSchedule fun G => ?_
  simp only [go_sem, k1]
  refine loop_ind k_cathode_CheckSchedule_r9.eq_1 (fun a : Nat × Heap => a.1 ≤ l.length) (fun a => l.length - a.1)
    (fun a => (tsets 34 [(0, .view (l.map Ht.v)), (2, .int .i64 0), (8, .view (l.map Ht.v)), (9, .int .i64 l.length), (10, .int .i64 a.1)], a.2)) (0, []) (Nat.zero_le _) (by simp [go_sem]) rfl ?_
  rintro ⟨i, X⟩ hi ih
  dsimp only at hi ih ⊢
  by_cases h1 : i < l.length
  · have h2 : (i : Int) < l.length := by omega
    have hx : l[i]? = some l[i] := List.getElem?_eq_getElem h1
    have h3 := idx_next h1 (by omega)
    have hz := hl.all _ (List.getElem_mem h1)
    generalize l[i] = z at *
    simp only [go_sem, hx, h2, Ht.v, Ht.cs]
    refine cP (within_yes hz.ticks) ?_
    simp only [go_sem]
    refine cP (rightHeat_ok hz.heat) ?_
    simp only [go_sem]
    refine cP (rightCurrent_ok hz.cur) ?_
    simp only [go_sem, h3]
    exact ih (i + 1, _) (by dsimp only; omega) h1 _ (by simp [go_sem])
  · have h2 : ¬ (i : Int) < l.length := by omega
    simp only [go_sem, h2]
    refine cP (length_run l hl) ?_ ⟨by rw [bel_view]; exact bels_map _ _ fun h => by simp only [go_sem, Ht.v, Ht.cs], trivial⟩
    simp only [go_sem, k2]
end Go.Proofs
namespace Go.Proofs
open Go Go.Sx

@[go_sem] theorem cg_bel (x : Cg) (S : Nat → Prop) : Bel S x.v = True := by unfold Cg.v Cg.cs; simp only [go_sem]
@[go_sem] theorem cg_nv (x : Cg) : NV x.v = True := by unfold Cg.v Cg.cs; simp only [go_sem]
def CgR (xs : List Cg) : Row := .cells true 13 (xs.map Cg.v)
@[go_sem] theorem cgs_bel (xs : List Cg) (S : Nat → Prop) : Bels S (xs.map Cg.v) = True := eq_true (bels_map _ _ fun b => by simp only [go_sem])
@[go_sem] theorem cgr_bel (xs : List Cg) (S : Nat → Prop) : (CgR xs).bel S = True := by unfold CgR; rw [row_bel_cells]; simp only [go_sem]
@[go_sem] theorem hts_bel (l : List Ht) (S : Nat → Prop) : Bels S (l.map Ht.v) = True := eq_true (bels_map _ _ fun b => by simp only [go_sem, Ht.v, Ht.cs])
theorem cg_snoc (xs : List Cg) (y : Cg) : List.map Cg.v xs ++ [.agg [.int .i64 y.carb.lo, .int .i64 y.carb.hi, .int .i64 y.ox.lo, .int .i64 y.ox.hi, .int .i64 y.ba.lo, .int .i64 y.ba.hi, .int .i64 y.lost.lo, .int .i64 y.lost.hi, .int .i64 y.gas.lo, .int .i64 y.gas.hi, .int .i64 y.wear.lo, .int .i64 y.wear.hi, .int .i64 y.heat]] = List.map Cg.v (xs ++ [y]) := by
  rw [List.map_append]; rfl
theorem cg_single (y : Cg) : [AVal.agg [.int .i64 y.carb.lo, .int .i64 y.carb.hi, .int .i64 y.ox.lo, .int .i64 y.ox.hi, .int .i64 y.ba.lo, .int .i64 y.ba.hi, .int .i64 y.lost.lo, .int .i64 y.lost.hi, .int .i64 y.gas.lo, .int .i64 y.gas.hi, .int .i64 y.wear.lo, .int .i64 y.wear.hi, .int .i64 y.heat]] = List.map Cg.v [y] := rfl

theorem tickN_ok {c : Ct} (hc : CtOK c) {x : Cg} {h : Ht} {n : Int} (hx : Good c x n) (hh : HtOK h) (hn : n + h.ticks ≤ 1000000) (t : Nat) (ht : t ≤ h.ticks.toNat) : CgB (tickN c h.heat h.cur t x) :=
  (tickN_good hc hx hh.heat hh.cur t (by have := hh.ticks; omega)).ok.b hc.amount.2

set_option maxHeartbeats 2000000 in
theorem Follow_run (c : Ct) (hc : CtOK c) (l : List Ht) (hl : LsOK l) (h0 : l ≠ []) : Ans Try.prog n_cathode_Follow [c.v (.view (c.bands.map Bd.v)), .view (l.map Ht.v)] [] (.tup [.sl 0 0 l.length, .int .i64 0]) [some (CgR (follow c l))] := by
  have hlen := hl.len
  have hsum := hl.sum
  have hlp : 0 < l.length := List.length_pos_iff.2 h0
  refine Ans.keep (run_fn e_cathode_Follow fun G => ?_) (Nat.zero_le _) (by simp [go_sem]) ⟨by simp only [go_sem], trivial⟩
  simp only [go_sem, Ct.v, Ct.cs]
  refine cP (Check_run c hc) ?_
  simp only [go_sem]
  refine cP (CheckSchedule_run l hl) ?_
  simp only [go_sem]
  refine cP (fresh_run c) ?_
  simp only [go_sem, Cg.v, Cg.cs]
  -- the first heating
  have hx : l[0]? = some l[0] := List.getElem?_eq_getElem hlp
  have hz := hl.all _ (List.getElem_mem hlp)
  have hs := lenOfL_succ hx
  have hr := lenOfL_take hl.all 1
  have he := endX_succ (c := c) hx (fresh c)
  have hf := followX_succ (c := c) hx (fresh c)
  generalize l[0] = z at *
  have hg := fresh_good hc
  have h2 : (0 : Int) < l.length := by omega
  have hzt := hz.ticks
  have p44 : 104 ≤ 2 ^ 44 := by decide
  have w1 : IntKind.i64.wrap 1 = 1 := rfl
  simp only [List.take_zero, endX, followX, lenOfL, Nat.zero_add, List.nil_append] at hs he hf
  refine loop_body 200 k_cathode_Follow_r19.eq_1 ?_
  simp only [go_sem, hx, h2, Ht.v, Ht.cs]
  refine loop_ind k_cathode_Follow_r16.eq_1 (fun a : Nat => a ≤ z.ticks.toNat) (fun a => z.ticks.toNat - a)
    (fun a => (tsets 48 [(2, .ptr 0 0 0 1), (5, .int .i64 0), (8, .ptr 1 0 0 1), (9, .nilsl), (11, .ptr 2 0 0 1), (24, .view (l.map Ht.v)), (25, .int .i64 l.length), (26, .int .i64 0), (31, .int .i64 z.ticks), (32, .int .i64 a)],
      [some (.cells false 7 [c.v (.view (c.bands.map Bd.v))]), some (.cells false 13 [(tickN c z.heat z.cur a (fresh c)).v]), some (.cells false 3 [z.v])])) 0 (Nat.zero_le _) (by simp [go_sem]) rfl ?_
  intro t ht ih
  dsimp only at ht ih ⊢
  by_cases h1 : t < z.ticks.toNat
  · have h3 : (t : Int) < z.ticks := by omega
    have hb := tickN_ok hc hg hz (by omega) t ht
    have h4 := idx_next h1 (by omega)
    have ha := after_run c hc _ hb z.heat z.cur hz.heat hz.cur
    simp only [go_sem, h3, Ct.v, Ct.cs, Cg.v, Cg.cs, Ht.v, Ht.cs]
    refine cP ha ?_
    simp only [go_sem, Cg.v, Cg.cs, h4]
    exact ih (t + 1) (by omega) h1 _ (by simp [go_sem])
  have h3 : ¬ (t : Int) < z.ticks := by omega
  have hte : t = z.ticks.toNat := by omega
  have hxx : tickN c z.heat z.cur t (fresh c) = heatN c z (fresh c) := by rw [hte]; rfl
  have hg1 := heatN_good hc hg hz (by omega)
  rw [hxx]
  clear ih hxx
  generalize heatN c z (fresh c) = y at *
  simp only [go_sem, Cg.v, Cg.cs, Ct.v, Ct.cs, Ht.v, Ht.cs, h3, p44, w1]
  simp only [cg_single]
  -- the others
  refine loop_ind k_cathode_Follow_r19.eq_1 (fun a : Nat × Cg × List Cg × Heap => 1 ≤ a.1 ∧ a.1 ≤ l.length ∧ a.2.1 = endX c (fresh c) (l.take a.1) ∧ a.2.2.1 = followX c (fresh c) (l.take a.1) ∧ Good c a.2.1 (lenOfL (l.take a.1))) (fun a => l.length - a.1)
    (fun a => (tsets 48 [(2, .ptr 0 0 0 1), (5, .int .i64 0), (8, .ptr 1 0 0 1), (9, .sl 4 0 a.1), (24, .view (l.map Ht.v)), (25, .int .i64 l.length), (26, .int .i64 a.1)],
      some (.cells false 7 [c.v (.view (c.bands.map Bd.v))]) :: some (.cells false 13 [a.2.1.v]) :: some (.cells false 3 [z.v]) :: some (.cells false 13 [y.v]) :: some (.cells true 13 (a.2.2.1.map Cg.v)) :: a.2.2.2))
    (1, y, [y], []) ⟨Nat.le_refl 1, hlp, he.symm, hf.symm, by rw [hs]; exact hg1⟩ (by simp [go_sem]) rfl ?_
  rintro ⟨i, x, xs, X⟩ ⟨hi1, hi, hxe, hxs, hgx⟩ ih
  dsimp only at hi1 hi hxe hxs hgx ih ⊢
  have hxl : xs.length = i := by rw [hxs, followX_len, List.length_take]; omega
  by_cases h1 : i < l.length
  · have h2' : (i : Int) < l.length := by omega
    have hx' : l[i]? = some l[i] := List.getElem?_eq_getElem h1
    have hz' := hl.all _ (List.getElem_mem h1)
    have hs' := lenOfL_succ hx'
    have hr' := lenOfL_take hl.all (i + 1)
    have he' := endX_succ (c := c) hx' (fresh c)
    have hf' := followX_succ (c := c) hx' (fresh c)
    generalize l[i] = z' at *
    have hzt' := hz'.ticks
    rw [← hxe] at he' hf'
    rw [← hxs] at hf'
    have h3 := idx_next h1 (by omega)
    simp only [go_sem, hx', h2', Ht.v, Ht.cs]
    refine loop_ind k_cathode_Follow_r16.eq_1 (fun a : Nat => a ≤ z'.ticks.toNat) (fun a => z'.ticks.toNat - a)
      (fun a => (tsets 48 [(2, .ptr 0 0 0 1), (5, .int .i64 0), (8, .ptr 1 0 0 1), (9, .sl 4 0 i), (11, .ptr (X.length + 1 + 1 + 1 + 1 + 1) 0 0 1), (24, .view (l.map Ht.v)), (25, .int .i64 l.length), (26, .int .i64 i), (31, .int .i64 z'.ticks), (32, .int .i64 a)],
        some (.cells false 7 [c.v (.view (c.bands.map Bd.v))]) :: some (.cells false 13 [(tickN c z'.heat z'.cur a x).v]) :: some (.cells false 3 [z.v]) :: some (.cells false 13 [y.v]) :: some (.cells true 13 (xs.map Cg.v)) :: (X ++ [some (.cells false 3 [z'.v])]))) 0 (Nat.zero_le _) (by simp [go_sem]) rfl ?_
    intro t ht ih2
    dsimp only at ht ih2 ⊢
    by_cases h4 : t < z'.ticks.toNat
    · have h5 : (t : Int) < z'.ticks := by omega
      have hb := tickN_ok hc hgx hz' (by omega) t ht
      have h6 := idx_next h4 (by omega)
      have ha := after_run c hc _ hb z'.heat z'.cur hz'.heat hz'.cur
      simp only [go_sem, h5, Ct.v, Ct.cs, Cg.v, Cg.cs, Ht.v, Ht.cs]
      refine cP ha ?_
      simp only [go_sem, Cg.v, Cg.cs, h6]
      exact ih2 (t + 1) (by omega) h4 _ (by simp [go_sem])
    have h5 : ¬ (t : Int) < z'.ticks := by omega
    have hte : t = z'.ticks.toNat := by omega
    have hxx : tickN c z'.heat z'.cur t x = heatN c z' x := by rw [hte]; rfl
    have hg2 := heatN_good hc hgx hz' (by omega)
    rw [hxx]
    clear ih2 hxx
    generalize heatN c z' x = y' at *
    have q1 : (xs.length + 1) * 104 ≤ 2 ^ 44 := by omega
    simp only [go_sem, Cg.v, Cg.cs, Ct.v, Ct.cs, Ht.v, Ht.cs, h5]
    refine ⟨⟨hxl.symm, by omega⟩, ?_⟩
    simp only [cg_snoc, h3]
    exact ih (i + 1, y', xs ++ [y'], _) (by dsimp only; omega) ⟨by dsimp only; omega, h1, he'.symm, hf'.symm, by dsimp only; rw [hs']; exact hg2⟩ _ (by simp [go_sem])
  · have h2' : ¬ (i : Int) < l.length := by omega
    have hil : i = l.length := by omega
    simp only [go_sem, h2']
    refine kept_one 4 (by rw [hil]; rfl) (by simp only [go_sem]) ?_
    rw [hil, List.take_length] at hxs
    rw [hxs]; rfl
end Go.Proofs
