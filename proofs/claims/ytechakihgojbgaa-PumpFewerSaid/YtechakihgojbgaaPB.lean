/- A part of the proof. -/
import Derived.Test.YtechakihgojbgaaPA
import Derived.IntWalk
set_option linter.unusedSimpArgs false
set_option linter.unusedVariables false
namespace Go.Proofs
open Go Go.Sx
def yes : Option (AVal × Heap) → Bool
  | some (.bool b, _) => b
  | _ => false
theorem yes_ans {P : Program} (hm : P.follows .mixedOrders = true) {tab : Nat → Option AFun} (hT : ∀ g af, tab g = some af → EntryOK P g af) {m n g : Nat} (h : yes (exFn tab m n g [] []) = true) : Ans P g [] [] (.bool true) [] := by
  match hx : exFn tab m n g [] [] with
  | none => rw [hx] at h; cases h
  | some (v, H') =>
    rw [hx] at h
    cases v <;> try (cases h; done)
    rename_i b
    have hb : b = true := h
    subst hb
    exact (spec_ex hm hT hx).mono fun v H'' hv => ⟨hv.1, H'', rfl⟩
theorem awake_yes : yes (exFn tab 3000 40 n_law06_awake [] []) = true := by kernel_rfl
theorem awake_ok : Ans Try.prog n_law06_awake [] [] (.bool true) [] := yes_ans mixed tab_ok awake_yes
end Go.Proofs

namespace Go.Proofs
open Go Go.Sx

def Dr (w : Int) : Row := .cells false 1 [.agg [.int .u64 w]]
def dstep (w : Int) : Int := IntKind.u64.wrap (w + 11400714819323198485)
def dmix (w : Int) : Int :=
  let z := IntKind.u64.wrap (bitW .xor .u64 w (shrW .u64 w 30) * 13787848793156543929)
  let z := IntKind.u64.wrap (bitW .xor .u64 z (shrW .u64 z 27) * 10723151780598845931)
  bitW .xor .u64 z (shrW .u64 z 31)

theorem dr_bel (w : Int) (S : Nat → Prop) : (Dr w).bel S := by unfold Dr; rw [row_bel_cells]; simp only [go_sem]

theorem bitW_u64 (op : BinOp) (a b : Int) : 0 ≤ bitW op .u64 a b ∧ bitW op .u64 a b ≤ 18446744073709551615 := by
  have hw : ∀ n : Int, 0 ≤ IntKind.u64.wrap n ∧ IntKind.u64.wrap n ≤ 18446744073709551615 := fun n => by simp only [IntKind.wrap, IntKind.bits, IntKind.signed, Bool.false_and, Bool.false_eq_true, if_false]; omega
  unfold bitW bitsOf
  cases op <;> simp only [Option.getD_some, Option.getD_none] <;> first
    | exact hw _
    | omega

def upto (w n : Int) : Int := if n < 1 then 0 else (dmix (dstep w)) % n
theorem upto_in {w n : Int} (h : 1 ≤ n) : 0 ≤ upto w n ∧ upto w n < n := by
  unfold upto
  rw [if_neg (by omega)]
  exact ⟨Int.emod_nonneg _ (by omega), Int.emod_lt_of_pos _ (by omega)⟩
def btw (w lo hi : Int) : Int := lo + upto w (hi - lo + 1)
theorem btw_in {w lo hi : Int} (h : lo ≤ hi) : lo ≤ btw w lo hi ∧ btw w lo hi ≤ hi := by
  have := upto_in (w := w) (n := hi - lo + 1) (by omega)
  unfold btw; omega

def feed (w : Int) : List Int → Int
  | [] => w
  | x :: xs => feed (dstep (bitW .xor .u64 w (IntKind.u64.wrap x))) xs
def seedW (xs : List Int) : Int := feed (IntKind.u64.wrap (IntKind.u64.wrap xs.length + 1374496523)) xs

structure Rg where
  lo : Int
  hi : Int
  deriving Inhabited, DecidableEq

def Rg.v (r : Rg) : AVal := .agg [.int .i64 r.lo, .int .i64 r.hi]
@[go_sem] theorem rg_bel_eq (r : Rg) (S : Nat → Prop) : Bel S r.v = True := by unfold Rg.v; simp only [go_sem]
@[go_sem] theorem rg_nv (r : Rg) : NV r.v = True := by unfold Rg.v; simp only [go_sem]
@[go_sem] theorem dr_bel_eq (w : Int) (S : Nat → Prop) : (Dr w).bel S = True := eq_true (dr_bel w S)
theorem w64 {n : Int} (h : -9223372036854775808 ≤ n ∧ n ≤ 9223372036854775807) : IntKind.i64.wrap n = n := IntWalk.i64_in _ h
end Go.Proofs

namespace Go.Proofs
open Go Go.Sx
attribute [local irreducible] Run

theorem u16_wrap {n : Nat} (h : n < 65536) : IntKind.u16.wrap (n : Int) = n := by
  have : IntKind.u16.wrap (n : Int) = (n : Int) % 65536 := rfl
  rw [this]; omega
theorem and16 {s t : Nat} (hs : s < 65536) (ht : t < 65536) : bitW .and .u16 (s : Int) (t : Int) = ((s &&& t : Nat) : Int) := by
  have h1 : (BitVec.ofInt 16 (s : Int)).toNat = s := by simp [BitVec.toNat_ofInt]; omega
  have h2 : (BitVec.ofInt 16 (t : Int)).toNat = t := by simp [BitVec.toNat_ofInt]; omega
  show IntKind.u16.wrap (((BitVec.ofInt 16 (s : Int) &&& BitVec.ofInt 16 (t : Int)).toNat : Nat) : Int) = _
  rw [BitVec.toNat_and, h1, h2]
  exact u16_wrap (Nat.lt_of_le_of_lt Nat.and_le_left hs)
theorem andNot16 {s t : Nat} (hs : s < 65536) (ht : t < 65536) : bitW .andNot .u16 (s : Int) (t : Int) = ((s &&& (65535 - t) : Nat) : Int) := by
  have h1 : (BitVec.ofInt 16 (s : Int)).toNat = s := by simp [BitVec.toNat_ofInt]; omega
  have h2 : (BitVec.ofInt 16 (t : Int)).toNat = t := by simp [BitVec.toNat_ofInt]; omega
  show IntKind.u16.wrap (((BitVec.ofInt 16 (s : Int) &&& ~~~ BitVec.ofInt 16 (t : Int)).toNat : Nat) : Int) = _
  rw [BitVec.toNat_and, BitVec.toNat_not, h1, h2]
  exact u16_wrap (Nat.lt_of_le_of_lt Nat.and_le_left hs)
def popS : List UInt8 := [0, 1, 1, 2, 1, 2, 2, 3, 1, 2, 2, 3, 2, 3, 3, 4, 1, 2, 2, 3, 2, 3, 3, 4, 2, 3, 3, 4, 3, 4, 4, 5, 1, 2, 2, 3, 2, 3, 3, 4, 2, 3, 3, 4, 3, 4, 4, 5, 2, 3, 3, 4, 3, 4, 4, 5, 3, 4, 4, 5, 4, 5, 5, 6, 1, 2, 2, 3, 2, 3, 3, 4, 2, 3, 3, 4, 3, 4, 4, 5, 2, 3, 3, 4, 3, 4, 4, 5, 3, 4, 4, 5, 4, 5, 5, 6, 2, 3, 3, 4, 3, 4, 4, 5, 3, 4, 4, 5, 4, 5, 5, 6, 3, 4, 4, 5, 4, 5, 5, 6, 4, 5, 5, 6, 5, 6, 6, 7, 1, 2, 2, 3, 2, 3, 3, 4, 2, 3, 3, 4, 3, 4, 4, 5, 2, 3, 3, 4, 3, 4, 4, 5, 3, 4, 4, 5, 4, 5, 5, 6, 2, 3, 3, 4, 3, 4, 4, 5, 3, 4, 4, 5, 4, 5, 5, 6, 3, 4, 4, 5, 4, 5, 5, 6, 4, 5, 5, 6, 5, 6, 6, 7, 2, 3, 3, 4, 3, 4, 4, 5, 3, 4, 4, 5, 4, 5, 5, 6, 3, 4, 4, 5, 4, 5, 5, 6, 4, 5, 5, 6, 5, 6, 6, 7, 3, 4, 4, 5, 4, 5, 5, 6, 4, 5, 5, 6, 5, 6, 6, 7, 4, 5, 5, 6, 5, 6, 6, 7, 5, 6, 6, 7, 6, 7, 7, 8]
def popc (i : Nat) : Nat := (popS.getD i 0).toNat
set_option maxRecDepth 100000 in
theorem popc_le : ∀ i, popc i ≤ 8 := by
  have h : popS.all (fun b => b.toNat ≤ 8) = true := by decide
  intro i
  unfold popc
  rw [List.getD_eq_getElem?_getD]
  match hx : popS[i]? with
  | none => simp
  | some b => 
    have := List.all_eq_true.1 h b (List.mem_of_getElem? hx)
    simpa using this
def one1 (s : Nat) : Bool := popc (s / 256) + popc (s % 256) == 1
set_option maxRecDepth 100000 in
theorem popc_get {i : Nat} (h : i < 256) : ∃ b, popS[i]? = some b ∧ b.toNat = popc i := by
  have hl : popS.length = 256 := by decide
  refine ⟨popS[i]'(by omega), List.getElem?_eq_getElem _, ?_⟩
  unfold popc
  rw [List.getD_eq_getElem?_getD, List.getElem?_eq_getElem (by omega)]; rfl
set_option maxRecDepth 100000 in
theorem isOne_run {s : Nat} (hs : s < 65536) : Ans Try.prog n_pump_set_isOne [.int .u16 s] [] (.bool (one1 s)) [] := by
  have l1 := popc_le (s / 256)
  have l2 := popc_le (s % 256)
  have k : Ans Try.prog n_bits_OnesCount16 [.int .u16 s] [] (.int .i64 ((popc (s / 256) + popc (s % 256) : Nat) : Int)) [] := by
    obtain ⟨b1, g1, p1⟩ := popc_get (i := s / 256) (by omega)
    obtain ⟨b2, g2, p2⟩ := popc_get (i := s % 256) (by omega)
    rw [← p1] at l1
    rw [← p2] at l2
    rw [← p1, ← p2]
    refine spec_run e_bits_OnesCount16 fun G => ?_
    have h1 : shrW .u16 (s : Int) 8 = ((s / 256 : Nat) : Int) := by
      show Int.fdiv (s : Int) 256 = _
      rw [Int.fdiv_eq_ediv_of_nonneg _ (by decide)]; rfl
    have h2 : bitW .and .u16 (s : Int) 255 = ((s % 256 : Nat) : Int) := by
      have := and16 (t := 255) hs (by decide)
      rw [show ((255 : Nat) : Int) = 255 from rfl] at this
      rw [this, show (255 : Nat) = 2 ^ 8 - 1 from rfl, Nat.and_two_pow_sub_one_eq_mod]
    have w1 : IntKind.u8.wrap ((b1.toNat : Int) + b2.toNat) = (b1.toNat : Int) + b2.toNat := by
      have : IntKind.u8.wrap ((b1.toNat : Int) + b2.toNat) = ((b1.toNat : Int) + b2.toNat) % 256 := rfl
      rw [this]; omega
    have w2 : IntKind.i64.wrap ((b1.toNat : Int) + b2.toNat) = (b1.toNat : Int) + b2.toNat := w64 (by omega)
    unfold popS at g1 g2
    simp only [go_sem, h1, h2, g1, g2, w1, w2]
    omega
  refine spec_run e_pump_set_isOne fun G => ?_
  simp only [go_sem]
  refine cP k ?_
  have e : (((popc (s / 256) + popc (s % 256) : Nat) : Int) == 1) = one1 s := by
    unfold one1
    generalize popc (s / 256) + popc (s % 256) = m
    by_cases h : m = 1
    · subst h; rfl
    · rw [beq_eq_false_iff_ne.2 h, beq_eq_false_iff_ne.2 (by omega)]
  simp only [go_sem, e]
end Go.Proofs

namespace Go.Proofs
open Go Go.Sx
attribute [local irreducible] Run

structure Pl where
  told : Bool
  cost : Int
  trial : Int
def Pl.v (p : Pl) : AVal := .agg [.bool p.told, .int .i64 p.cost, .int .i64 p.trial]
abbrev PM := List (Nat × Pl)
def fnd (k : Nat) : PM → Option Pl
  | [] => none
  | (k', p) :: M => if k = k' then some p else fnd k M
def upd (k : Nat) (p : Pl) : PM → PM
  | [] => [(k, p)]
  | (k', q) :: M => if k = k' then (k', p) :: M else (k', q) :: upd k p M
def mks (M : PM) : List Int := M.map fun p => (p.1 : Int)
def mvs (M : PM) : List AVal := M.map fun p => p.2.v
def mrow (M : PM) : Row := .mapr .u16 (mks M) (mvs M)
theorem mfind_of_none {k : Nat} : ∀ {M : PM} (i : Nat), fnd k M = none → mfind (k : Int) (mks M) i = none
  | [], _, _ => rfl
  | (k', p) :: M, i, h => by
    simp only [fnd] at h
    split at h
    · cases h
    · rename_i hk
      have h2 := mfind_of_none (i + 1) h
      simp only [mks, List.map_cons, mfind] at h2 ⊢
      rw [if_neg (by omega)]; exact h2
theorem mfind_of_some {k : Nat} {p : Pl} : ∀ {M : PM} (i : Nat), fnd k M = some p → ∃ j, mfind (k : Int) (mks M) i = some (i + j) ∧ (mvs M).getD j .any = p.v ∧ ∀ q : Pl, mks (upd k q M) = mks M ∧ mvs (upd k q M) = (mvs M).set j q.v
  | [], _, h => by cases h
  | (k', p') :: M, i, h => by
    simp only [fnd] at h
    split at h
    · rename_i hk
      subst hk
      cases h
      exact ⟨0, by simp [mks, mfind], by simp [mvs], fun q => by simp [mks, mvs, upd]⟩
    · rename_i hk
      obtain ⟨j, h1, h2, h3⟩ := mfind_of_some (i + 1) h
      refine ⟨j + 1, ?_, ?_, fun q => ?_⟩
      · simp only [mks, List.map_cons, mfind] at h1 ⊢
        rw [if_neg (by omega), h1]
        congr 1; omega
      · simpa [mvs] using h2
      · obtain ⟨a, b⟩ := h3 q
        simp only [upd, if_neg hk]
        exact ⟨by simp only [mks, List.map_cons] at a ⊢; rw [a], by simp only [mvs, List.map_cons, List.set_cons_succ] at b ⊢; rw [b]⟩
theorem upd_none {k : Nat} {q : Pl} : ∀ {M : PM}, fnd k M = none → mks (upd k q M) = mks M ++ [(k : Int)] ∧ mvs (upd k q M) = mvs M ++ [q.v]
  | [], _ => ⟨rfl, rfl⟩
  | (k', p) :: M, h => by
    simp only [fnd] at h
    split at h
    · cases h
    · rename_i hk
      obtain ⟨a, b⟩ := upd_none (q := q) h
      simp only [upd, if_neg hk]
      exact ⟨by simp only [mks, List.map_cons, List.cons_append] at a ⊢; rw [a], by simp only [mvs, List.map_cons, List.cons_append] at b ⊢; rw [b]⟩
def withF (pl : Nat → PM → Pl × PM) (of : List Nat) (cs : List Int) (n s : Nat) (M : PM) : (Int × Bool) × PM :=
  if s &&& of.getD n 0 = 0 ∨ s &&& (65535 - of.getD n 0) = 0 then ((0, false), M) else
  ((IntKind.i64.wrap (cs.getD n 0 + (if (pl (s &&& (65535 - of.getD n 0)) (pl (s &&& of.getD n 0) M).2).1.cost > (pl (s &&& of.getD n 0) M).1.cost then (pl (s &&& (65535 - of.getD n 0)) (pl (s &&& of.getD n 0) M).2).1.cost else (pl (s &&& of.getD n 0) M).1.cost)),
    (pl (s &&& of.getD n 0) M).1.told && (pl (s &&& (65535 - of.getD n 0)) (pl (s &&& of.getD n 0) M).2).1.told), (pl (s &&& (65535 - of.getD n 0)) (pl (s &&& of.getD n 0) M).2).2)
def rndF (n : Nat) (b : Pl) (x : (Int × Bool) × PM) : Pl × PM :=
  (if x.1.2 && (!b.told || decide (x.1.1 < b.cost)) then ⟨true, x.1.1, n⟩ else b, x.2)
def loopF (pl : Nat → PM → Pl × PM) (of : List Nat) (cs : List Int) (s : Nat) (M : PM) : Nat → Pl × PM
  | 0 => (⟨false, 0, 0⟩, M)
  | n + 1 => rndF n (loopF pl of cs s M n).1 (withF pl of cs n s (loopF pl of cs s M n).2)
def planF (of : List Nat) (cs : List Int) : Nat → Nat → PM → Pl × PM
  | 0, _, M => (⟨false, 0, 0⟩, M)
  | f + 1, s, M =>
    if one1 s = true then (⟨true, 0, -1⟩, M) else
    match fnd s M with
    | some p => (p, M)
    | none => ((loopF (planF of cs f) of cs s M of.length).1, upd s (loopF (planF of cs f) of cs s M of.length).1 (loopF (planF of cs f) of cs s M of.length).2)
def huV (n : Nat) : AVal := .agg [.sl 0 0 n, .sl 1 0 n, .mp 2]
def ofV (of : List Nat) : List AVal := of.map fun t : Nat => AVal.int .u16 (t : Int)
def huH (of : List Nat) (cs : List Int) (M : PM) : Heap := [some (.cells true 1 (ofV of)), some (.cells true 1 (cs.map (.int .i64))), some (mrow M)]
theorem bit_ne {s t : Nat} (hs : s < 65536) (ht : t < 65536) (h : s &&& (65535 - t) ≠ 0) : s &&& t < s := by
  refine Nat.lt_of_le_of_ne Nat.and_le_left fun e => h ?_
  apply Nat.eq_of_testBit_eq
  intro i
  have h1 := congrArg (·.testBit i) e
  simp only [Nat.testBit_and, Nat.zero_testBit] at h1 ⊢
  rw [show 65535 - t = 2 ^ 16 - (t + 1) by omega, Nat.testBit_two_pow_sub_succ ht]
  cases hx : s.testBit i <;> cases hy : t.testBit i <;> simp_all
theorem bit_ne2 {s t : Nat} (hs : s < 65536) (ht : t < 65536) (h : s &&& t ≠ 0) : s &&& (65535 - t) < s := by
  refine Nat.lt_of_le_of_ne Nat.and_le_left fun e => h ?_
  apply Nat.eq_of_testBit_eq
  intro i
  have h1 := congrArg (·.testBit i) e
  simp only [Nat.testBit_and, Nat.zero_testBit] at h1 ⊢
  rw [show 65535 - t = 2 ^ 16 - (t + 1) by omega, Nat.testBit_two_pow_sub_succ ht] at h1
  cases hx : s.testBit i <;> cases hy : t.testBit i <;> simp_all
theorem mrow_bel {S : Nat → Prop} (M : PM) : (mrow M).bel S := by
  intro i hi
  simp only [mvs, List.length_map] at hi
  rw [List.getD_eq_getElem?_getD, mvs, List.getElem?_map, List.getElem?_eq_getElem hi]
  simp [go_sem, Pl.v]
theorem huH_full (of : List Nat) (cs : List Int) (M : PM) (S : Nat → Prop) : Full S (huH of cs M) := by
  refine ⟨?_, ?_, mrow_bel M, trivial⟩
  · rw [row_bel_cells]; exact bels_of fun v hv => by
      simp only [ofV, List.mem_map] at hv
      obtain ⟨t, -, rfl⟩ := hv
      simp [go_sem]
  · rw [row_bel_cells]; exact bels_of fun v hv => by
      simp only [List.mem_map] at hv
      obtain ⟨t, -, rfl⟩ := hv
      simp [go_sem]
theorem pl_bel (p : Pl) (S : Nat → Prop) : Bel S p.v := by unfold Pl.v; simp only [go_sem]
theorem huV_bel (n : Nat) : Bel (· < 3) (huV n) := by
  unfold huV
  rw [bel_agg]
  exact ⟨by rw [bel_sl]; omega, by rw [bel_sl]; omega, .mp 2 (by omega), trivial⟩
theorem huH_at {of : List Nat} {cs : List Int} {M : PM} (X : Heap) (f : Nat → Nat) : rowsOK (huH of cs M ++ X) (nth [0, 1, 2]) [0, 1, 2] (huH of cs M) := by
  obtain ⟨a, b, c, -⟩ := huH_full of cs M (fun _ => False)
  exact ⟨by rw [Row.ren_same a]; rfl, by rw [Row.ren_same b]; rfl, by rw [Row.ren_same c]; rfl, trivial⟩
theorem hu_out {of : List Nat} {cs : List Int} {M' : PM} (n : Nat) : outΔ (outσ [0, 1, 2] n) 0 (huH of cs M') = [(0, .cells true 1 (ofV of)), (1, .cells true 1 (cs.map (.int .i64))), (2, mrow M')] := by
  obtain ⟨a, b, c, -⟩ := huH_full of cs M' (fun _ => False)
  unfold huH
  simp only [outΔ, Row.ren_same a, Row.ren_same b, Row.ren_same c]
  rfl
set_option maxHeartbeats 4000000 in
set_option maxRecDepth 20000 in
theorem withA {of : List Nat} {cs : List Int} (hof : ∀ t ∈ of, t < 65536) (hlen : cs.length = of.length) (hl : of.length ≤ 1000) {f : Nat}
    (ih : ∀ s M, s < f → s < 65536 → Ans Try.prog n_pump_hunter_plan [huV of.length, .int .u16 s] (huH of cs M) (planF of cs f s M).1.v (huH of cs (planF of cs f s M).2))
    {n s : Nat} (hn : n < of.length) (hs : s < 65536) (hf : s < f + 1) (M : PM) :
    Ans Try.prog n_pump_hunter_with [huV of.length, .int .i64 n, .int .u16 s] (huH of cs M) (.tup [.int .i64 (withF (planF of cs f) of cs n s M).1.1, .bool (withF (planF of cs f) of cs n s M).1.2]) (huH of cs (withF (planF of cs f) of cs n s M).2) := by
  have ht : of.getD n 0 = of[n] := by rw [List.getD_eq_getElem?_getD, List.getElem?_eq_getElem hn]; rfl
  have hc : cs.getD n 0 = cs[n]'(by omega) := by rw [List.getD_eq_getElem?_getD, List.getElem?_eq_getElem (by omega)]; rfl
  have g1 : of[n]? = some of[n] := List.getElem?_eq_getElem hn
  have g2 : cs[n]? = some (cs[n]'(by omega)) := List.getElem?_eq_getElem (by omega)
  have ht2 := hof of[n] (List.getElem_mem hn)
  unfold withF
  rw [ht, hc]
  generalize of[n] = t at *
  generalize cs[n]'(by omega) = c at *
  have b1 := and16 hs ht2
  have b2 := andNot16 hs ht2
  have ni : ¬ (n : Int) < 0 := by omega
  have nl : (n : Int) < of.length := by omega
  have z1 : ∀ a : Nat, ((a : Int) == 0) = decide (a = 0) := fun a => by
    by_cases h : a = 0
    · subst h; rfl
    · rw [beq_eq_false_iff_ne.2 (by omega), decide_eq_false h]
  refine spec_run e_pump_hunter_with fun G => ?_
  simp only [go_sem, huV, huH, ofV, List.length_map, g1, b1, b2, ni, nl, z1]
  by_cases a0 : s &&& t = 0
  · simp only [go_sem, a0]
    exact ⟨_, rfl⟩
  by_cases c0 : s &&& (65535 - t) = 0
  · simp only [go_sem, a0, c0]
    exact ⟨_, rfl⟩
  rw [if_neg (by rintro (h | h) <;> contradiction)]
  simp only [go_sem, a0, c0]
  have i1 := ih (s &&& t) M (by have := bit_ne hs ht2 c0; omega) (by have := bit_ne hs ht2 c0; omega)
  generalize planF of cs f (s &&& t) M = r1 at *
  have i2 := ih (s &&& (65535 - t)) r1.2 (by have := bit_ne2 hs ht2 a0; omega) (by have := bit_ne2 hs ht2 a0; omega)
  generalize planF of cs f (s &&& (65535 - t)) r1.2 = r2 at *
  refine dS i1 [0, 1, 2] (by decide) (huH_at _ id) rfl ⟨huV_bel _, by simp only [go_sem], trivial⟩ (huH_full _ _ _ _) rfl (pl_bel _ _) (huH_full _ _ _ _) (by simp) (by simp) ?_ ?_
  · rw [hu_out]; rfl
  rw [hu_out]
  simp only [go_sem]
  refine dS i2 [0, 1, 2] (by decide) (huH_at _ id) rfl ⟨huV_bel _, by simp only [go_sem], trivial⟩ (huH_full _ _ _ _) rfl (pl_bel _ _) (huH_full _ _ _ _) (by simp) (by simp) ?_ ?_
  · rw [hu_out]; rfl
  rw [hu_out]
  simp only [go_sem, Pl.v, g2]
  refine ⟨⟨hlen.symm, nl⟩, fun h => ⟨by rw [h, Bool.true_and], _, rfl⟩, fun h => ⟨by rw [h, Bool.false_and], _, rfl⟩⟩
set_option maxHeartbeats 4000000 in
set_option maxRecDepth 20000 in
theorem planA {of : List Nat} {cs : List Int} (hof : ∀ t ∈ of, t < 65536) (hlen : cs.length = of.length) (hl : of.length ≤ 1000) :
    ∀ (f s : Nat) (M : PM), s < f → s < 65536 → Ans Try.prog n_pump_hunter_plan [huV of.length, .int .u16 (s : Int)] (huH of cs M) (planF of cs f s M).1.v (huH of cs (planF of cs f s M).2)
  | 0, s, M, h, _ => absurd h (Nat.not_lt_zero _)
  | f + 1, s, M, hf, hs => by
    have ih := planA hof hlen hl f
    have k1 := isOne_run hs
    rw [planF]
    generalize hpl : planF of cs f = pl at *
    refine spec_run e_pump_hunter_plan fun G => ?_
    simp only [go_sem, huV, huH, List.length_map]
    refine cP k1 ?_
    by_cases h1 : one1 s = true
    · rw [if_pos h1, h1]
      simp only [go_sem, Pl.v]
      exact ⟨_, rfl⟩
    rw [if_neg h1]
    rw [Bool.not_eq_true] at h1
    rw [h1]
    simp only [go_sem, mrow]
    have ofl : (ofV of).length = of.length := by simp [ofV]
    match hx : fnd s M with
    | some p =>
      obtain ⟨j, e1, e2, -⟩ := mfind_of_some 0 hx
      simp only [Pl.v] at e2 ⊢
      simp only [go_sem, e1, e2, lkV]
      exact ⟨_, rfl⟩
    | none =>
      have e1 := mfind_of_none 0 hx
      simp only [go_sem, e1, lkV, ofl]
      refine loop_ind k_pump_hunter_plan_r14.eq_1 (fun n : Nat => n ≤ of.length) (fun n => of.length - n)
        (fun n => (tsets 57 [(1, .int .u16 (s : Int)), (2, .ptr 3 0 0 1), (4, .ptr 4 0 0 1), (7, .ptr 6 0 0 1), (25, .int .i64 of.length), (26, .int .i64 n)],
          huH of cs (loopF pl of cs s M n).2 ++ [some (.cells false 3 [huV of.length]), some (.cells false 3 [.agg [.bool false, .int .i64 0, .int .i64 0]]), some (.cells false 3 [.agg [.bool false, .int .i64 0, .int .i64 0]]), some (.cells false 3 [(loopF pl of cs s M n).1.v])])) 0 (Nat.zero_le _) (by simp [go_sem]) rfl ?_
      intro n hn ih2
      dsimp only at hn ih2 ⊢
      by_cases n1 : n < of.length
      · have n2 : (n : Int) < of.length := by omega
        have w5 : IntKind.i64.wrap ((n : Int) + 1) = ((n + 1 : Nat) : Int) := by rw [w64 (by omega)]; rfl
        have kw := withA hof hlen hl (f := f) (n := n) (s := s) (by rw [hpl]; exact ih) n1 hs hf (loopF pl of cs s M n).2
        rw [hpl] at kw
        have ihk := ih2 (n + 1) (by omega) (by omega)
        clear ih2
        rw [loopF] at ihk
        generalize loopF pl of cs s M n = st at *
        generalize withF pl of cs n s st.2 = wf at *
        simp only [go_sem, huH, n2, mrow, huV]
        refine callS kw [0, 1, 2] (by decide) (huH_at _ id) rfl ⟨huV_bel _, by simp only [go_sem], by simp only [go_sem], trivial⟩ (huH_full _ _ _ _) (Nat.le_refl _) (by simp only [go_sem]) (huH_full _ _ _ _) (by simp) (by simp) (by simp) ?_
        rw [hu_out]
        have leaf : ∀ X : Pl, (rndF n st.1 wf).1 = X → ∀ ρ', Wk ρ' (tsets 57 [(1, .int .u16 (s : Int)), (2, .ptr 3 0 0 1), (4, .ptr 4 0 0 1), (7, .ptr 6 0 0 1), (25, .int .i64 of.length), (26, .int .i64 ((n + 1 : Nat) : Int))]) → _ := fun X hX ρ' hw => by
          have := ihk ρ' hw
          rw [hX] at this
          exact this
        clear ihk
        simp only [go_sem, ren, rens, Pl.v, w5]
        refine ⟨fun a => ⟨fun b => ⟨fun c => ?_, fun c => ?_⟩, fun b => ?_⟩, fun a => ?_⟩
        · exact leaf ⟨true, wf.1.1, n⟩ (by simp [rndF, a, c]) _ (by simp [go_sem])
        · exact leaf st.1 (by simp [rndF, a, b, c]) _ (by simp [go_sem])
        · exact leaf ⟨true, wf.1.1, n⟩ (by simp [rndF, a, b]) _ (by simp [go_sem])
        · exact leaf st.1 (by simp [rndF, a]) _ (by simp [go_sem])
      · obtain rfl : n = of.length := by omega
        have n2 : ¬ (of.length : Int) < of.length := by omega
        clear ih2
        generalize loopF pl of cs s M of.length = st at *
        match hy : fnd s st.2 with
        | some q =>
          obtain ⟨j, e2, e3, e4⟩ := mfind_of_some 0 hy
          obtain ⟨u1, u2⟩ := e4 st.1
          simp only [go_sem, huH, n2, mrow, huV, Pl.v, e2]
          rw [u1, u2]
          exact ⟨_, rfl⟩
        | none =>
          have e2 := mfind_of_none 0 hy
          obtain ⟨u1, u2⟩ := upd_none (q := st.1) hy
          simp only [go_sem, huH, n2, mrow, huV, Pl.v, e2]
          rw [u1, u2]
          exact ⟨_, rfl⟩
end Go.Proofs

namespace Go.Proofs
open Go Go.Sx

inductive Tell (of : List Nat) (cs : List Int) : Nat → Int → Prop
  | one (s : Nat) (c : Int) : one1 s = true → 0 ≤ c → Tell of cs s c
  | step (s n : Nat) (a b c : Int) : n < of.length → s &&& of.getD n 0 ≠ 0 → s &&& (65535 - of.getD n 0) ≠ 0 → Tell of cs (s &&& of.getD n 0) a → Tell of cs (s &&& (65535 - of.getD n 0)) b → cs.getD n 0 + a ≤ c → cs.getD n 0 + b ≤ c → Tell of cs s c
structure HtN (of : List Nat) (cs : List Int) : Prop where
  sets : ∀ t ∈ of, t < 65536
  len : cs.length = of.length
  costs : ∀ c ∈ cs, 0 ≤ c ∧ c ≤ 1000
theorem HtN.t {of : List Nat} {cs : List Int} (h : HtN of cs) {n : Nat} (hn : n < of.length) : of.getD n 0 < 65536 := by
  rw [List.getD_eq_getElem?_getD, List.getElem?_eq_getElem hn]; exact h.sets _ (List.getElem_mem hn)
theorem HtN.c {of : List Nat} {cs : List Int} (h : HtN of cs) {n : Nat} (hn : n < of.length) : 0 ≤ cs.getD n 0 ∧ cs.getD n 0 ≤ 1000 := by
  have := h.len
  rw [List.getD_eq_getElem?_getD, List.getElem?_eq_getElem (by omega)]; exact h.costs _ (List.getElem_mem _)
section
variable {of : List Nat} {cs : List Int}
theorem tell_pos (h : HtN of cs) {s : Nat} {c : Int} (t : Tell of cs s c) : 0 ≤ c := by
  induction t with
  | one s c h1 h2 => exact h2
  | step s n a b c hn _ _ _ _ h1 h2 i1 i2 => have := h.c hn; omega
theorem tell_weak {s : Nat} {a c : Int} (t : Tell of cs s a) (h : a ≤ c) : Tell of cs s c := by
  cases t with
  | one _ _ h1 h2 => exact .one _ _ h1 (by omega)
  | step _ n x y _ hn h1 h2 t1 t2 h3 h4 => exact .step _ n x y _ hn h1 h2 t1 t2 (by omega) (by omega)
def StepC (of : List Nat) (cs : List Int) (s n : Nat) (c : Int) : Prop := s &&& of.getD n 0 ≠ 0 ∧ s &&& (65535 - of.getD n 0) ≠ 0 ∧ ∃ a b, Tell of cs (s &&& of.getD n 0) a ∧ Tell of cs (s &&& (65535 - of.getD n 0)) b ∧ cs.getD n 0 + a ≤ c ∧ cs.getD n 0 + b ≤ c
structure GoodP (of : List Nat) (cs : List Int) (s : Nat) (p : Pl) : Prop where
  yes : p.told = true → 0 ≤ p.cost ∧ p.cost ≤ 1000 * s ∧ Tell of cs s p.cost ∧ ∀ c, Tell of cs s c → p.cost ≤ c
  no : p.told = false → ∀ c, ¬ Tell of cs s c
def Snd (of : List Nat) (cs : List Int) (M : PM) : Prop := ∀ k p, fnd k M = some p → GoodP of cs k p
structure GoodW (of : List Nat) (cs : List Int) (s n : Nat) (x : Int × Bool) : Prop where
  yes : x.2 = true → 0 ≤ x.1 ∧ x.1 ≤ 1000 * s ∧ StepC of cs s n x.1 ∧ ∀ c, StepC of cs s n c → x.1 ≤ c
  no : x.2 = false → ∀ c, ¬ StepC of cs s n c
structure GoodL (of : List Nat) (cs : List Int) (s n : Nat) (b : Pl) : Prop where
  yes : b.told = true → 0 ≤ b.cost ∧ b.cost ≤ 1000 * s ∧ (∃ m, m < n ∧ StepC of cs s m b.cost) ∧ ∀ m, m < n → ∀ c, StepC of cs s m c → b.cost ≤ c
  no : b.told = false → ∀ m, m < n → ∀ c, ¬ StepC of cs s m c
theorem with_good (h : HtN of cs) {pl : Nat → PM → Pl × PM} {s : Nat} (hs : s < 65536) (ih : ∀ a M, a < s → Snd of cs M → GoodP of cs a (pl a M).1 ∧ Snd of cs (pl a M).2) {n : Nat} (hn : n < of.length) {M : PM} (hM : Snd of cs M) :
    GoodW of cs s n (withF pl of cs n s M).1 ∧ Snd of cs (withF pl of cs n s M).2 := by
  have ht := h.t hn
  have hc := h.c hn
  unfold withF
  generalize htt : of.getD n 0 = t at *
  generalize hcc : cs.getD n 0 = k at *
  by_cases a0 : s &&& t = 0
  · rw [if_pos (.inl a0)]
    exact ⟨⟨fun e => (by cases e), fun _ c hst => by unfold StepC at hst; rw [htt] at hst; exact hst.1 a0⟩, hM⟩
  by_cases b0 : s &&& (65535 - t) = 0
  · rw [if_pos (.inr b0)]
    exact ⟨⟨fun e => (by cases e), fun _ c hst => by unfold StepC at hst; rw [htt] at hst; exact hst.2.1 b0⟩, hM⟩
  rw [if_neg (by rintro (e | e) <;> contradiction)]
  have l1 := bit_ne hs ht b0
  have l2 := bit_ne2 hs ht a0
  obtain ⟨g1, s1⟩ := ih (s &&& t) M l1 hM
  generalize pl (s &&& t) M = r1 at *
  obtain ⟨g2, s2⟩ := ih (s &&& (65535 - t)) r1.2 l2 s1
  generalize pl (s &&& (65535 - t)) r1.2 = r2 at *
  refine ⟨?_, s2⟩
  generalize hx : (if r2.1.cost > r1.1.cost then r2.1.cost else r1.1.cost) = mx
  have hmx : r1.1.cost ≤ mx ∧ r2.1.cost ≤ mx ∧ (mx = r1.1.cost ∨ mx = r2.1.cost) := by rw [← hx]; split <;> omega
  refine ⟨fun e => ?_, fun e c hst => ?_⟩
  · simp only [Bool.and_eq_true] at e
    obtain ⟨p1, p2, p3, p4⟩ := g1.yes e.1
    obtain ⟨q1, q2, q3, q4⟩ := g2.yes e.2
    have w : IntKind.i64.wrap (k + mx) = k + mx := w64 (by omega)
    dsimp only
    rw [w]
    refine ⟨by omega, by omega, ⟨by rw [htt]; exact a0, by rw [htt]; exact b0, _, _, by rw [htt]; exact p3, by rw [htt]; exact q3, by rw [hcc]; omega, by rw [hcc]; omega⟩, fun c hst => ?_⟩
    obtain ⟨-, -, a, b, t1, t2, h1, h2⟩ := hst
    rw [htt] at t1 t2
    rw [hcc] at h1 h2
    have := p4 a t1
    have := q4 b t2
    omega
  · obtain ⟨-, -, a, b, t1, t2, h1, h2⟩ := hst
    rw [htt] at t1 t2
    simp only [Bool.and_eq_false_iff] at e
    rcases e with e | e
    · exact g1.no e a t1
    · exact g2.no e b t2
theorem loop_good (h : HtN of cs) {pl : Nat → PM → Pl × PM} {s : Nat} (hs : s < 65536) (ih : ∀ a M, a < s → Snd of cs M → GoodP of cs a (pl a M).1 ∧ Snd of cs (pl a M).2) {M : PM} (hM : Snd of cs M) :
    ∀ n, n ≤ of.length → GoodL of cs s n (loopF pl of cs s M n).1 ∧ Snd of cs (loopF pl of cs s M n).2
  | 0, _ => ⟨⟨fun e => (by cases e), fun _ m hm => absurd hm (Nat.not_lt_zero _)⟩, hM⟩
  | n + 1, hn => by
    obtain ⟨g, hS⟩ := loop_good h hs ih hM n (by omega)
    rw [loopF]
    generalize loopF pl of cs s M n = st at *
    obtain ⟨w, hS2⟩ := with_good h hs ih (n := n) (by omega) hS
    generalize withF pl of cs n s st.2 = x at *
    refine ⟨?_, hS2⟩
    unfold rndF
    have split : ∀ m, m < n + 1 → m < n ∨ m = n := fun m hm => by omega
    cases e1 : x.1.2 with
    | false =>
      simp only [Bool.false_and, Bool.false_eq_true, if_false]
      exact ⟨fun e => by
        obtain ⟨a, b, ⟨m, hm, hst⟩, d⟩ := g.yes e
        exact ⟨a, b, ⟨m, by omega, hst⟩, fun m hm c hc => (split m hm).elim (fun h => d m h c hc) fun h => by subst h; exact absurd hc (w.no e1 c)⟩, fun e m hm c hc => (split m hm).elim (fun h => g.no e m h c hc) fun h => by subst h; exact w.no e1 c hc⟩
    | true =>
      obtain ⟨w1, w2, w3, w4⟩ := w.yes e1
      cases e2 : st.1.told with
      | false =>
        simp only [Bool.not_false, Bool.true_or, Bool.and_true, if_true]
        exact ⟨fun _ => ⟨w1, w2, ⟨n, by omega, w3⟩, fun m hm c hc => (split m hm).elim (fun h => absurd hc (g.no e2 m h c)) fun h => by subst h; exact w4 c hc⟩, fun e => by cases e⟩
      | true =>
        obtain ⟨a, b, ⟨m0, hm0, hst⟩, d⟩ := g.yes e2
        by_cases lt : x.1.1 < st.1.cost
        · simp only [Bool.not_true, Bool.false_or, decide_eq_true lt, Bool.and_true, if_true]
          exact ⟨fun _ => ⟨w1, w2, ⟨n, by omega, w3⟩, fun m hm c hc => (split m hm).elim (fun h => by have := d m h c hc; dsimp only; omega) fun h => by subst h; exact w4 c hc⟩, fun e => by cases e⟩
        · simp only [Bool.not_true, Bool.false_or, decide_eq_false lt, Bool.and_false, Bool.false_eq_true, if_false]
          exact ⟨fun _ => ⟨a, b, ⟨m0, by omega, hst⟩, fun m hm c hc => (split m hm).elim (fun h => d m h c hc) fun h => by subst h; have := w4 c hc; omega⟩, fun e => by rw [e2] at e; cases e⟩
theorem fnd_upd {k q : Nat} {p : Pl} : ∀ {M : PM}, fnd q (upd k p M) = if q = k then some p else fnd q M
  | [] => by simp [upd, fnd]
  | (k', p') :: M => by
    unfold upd
    split
    · rename_i h
      subst h
      simp only [fnd]
      split <;> rfl
    · rename_i h
      simp only [fnd]
      split
      · rename_i hq
        rw [if_neg (by omega)]
      · exact fnd_upd
theorem plan_good (h : HtN of cs) : ∀ (f s : Nat) (M : PM), s < f → s < 65536 → Snd of cs M → GoodP of cs s (planF of cs f s M).1 ∧ Snd of cs (planF of cs f s M).2
  | 0, s, M, hf, _, _ => absurd hf (Nat.not_lt_zero _)
  | f + 1, s, M, hf, hs, hM => by
    rw [planF]
    by_cases h1 : one1 s = true
    · rw [if_pos h1]
      exact ⟨⟨fun _ => ⟨Int.le_refl 0, by dsimp only; omega, .one _ _ h1 (Int.le_refl 0), fun c t => tell_pos h t⟩, fun e => by cases e⟩, hM⟩
    rw [if_neg h1]
    match hx : fnd s M with
    | some p => exact ⟨hM s p hx, hM⟩
    | none =>
      obtain ⟨g, hS⟩ := loop_good h (pl := planF of cs f) hs (fun a M ha hM => plan_good h f a M (by omega) (by omega) hM) hM of.length (Nat.le_refl _)
      dsimp only
      generalize loopF (planF of cs f) of cs s M of.length = st at *
      have gp : GoodP of cs s st.1 := ⟨fun e => by
        obtain ⟨a, b, ⟨m, hm, u1, u2, x, y, t1, t2, u3, u4⟩, d⟩ := g.yes e
        refine ⟨a, b, .step _ m x y _ hm u1 u2 t1 t2 u3 u4, fun c t => ?_⟩
        cases t with
        | one _ _ k1 k2 => exact absurd k1 h1
        | step _ n x y _ hn k1 k2 t1 t2 k3 k4 => exact d n hn c ⟨k1, k2, x, y, t1, t2, k3, k4⟩, fun e c t => by
        cases t with
        | one _ _ k1 k2 => exact absurd k1 h1
        | step _ n x y _ hn k1 k2 t1 t2 k3 k4 => exact g.no e n hn c ⟨k1, k2, x, y, t1, t2, k3, k4⟩⟩
      refine ⟨gp, fun k p hk => ?_⟩
      rw [fnd_upd] at hk
      split at hk
      · rename_i e; subst e; cases hk; exact gp
      · exact hS k p hk
end
end Go.Proofs

namespace Go.Proofs
open Go Go.Sx
attribute [local irreducible] Run

def nvw (l : List Nat) : AVal := .view (l.map fun k : Nat => AVal.int .i64 (k : Int))
def Asc (n : Nat) (l : List Nat) : Prop := l.Pairwise (· < ·) ∧ ∀ k ∈ l, k < n
theorem asc_len {n : Nat} : ∀ {l : List Nat} {a : Nat}, l.Pairwise (· < ·) → (∀ k ∈ l, a ≤ k ∧ k < n) → l.length ≤ n - a
  | [], _, _, _ => Nat.zero_le _
  | k :: l, a, h, hl => by
    rw [List.pairwise_cons] at h
    have h1 := hl k (by simp)
    have h2 := asc_len (n := n) (l := l) (a := k + 1) h.2 fun q hq => ⟨h.1 q hq, (hl q (by simp [hq])).2⟩
    rw [List.length_cons]
    omega
theorem Asc.len {n : Nat} {l : List Nat} (h : Asc n l) : l.length ≤ n := by
  have := asc_len (n := n) (a := 0) h.1 fun k hk => ⟨Nat.zero_le _, h.2 k hk⟩
  omega
def setN (l : List Nat) : Nat := l.foldl (fun s k => s ||| 2 ^ k) 0
def wiP (n a b : Int) : Bool := decide (a ≤ n ∧ n ≤ b)
theorem pwithin_run (n a b : Int) : Ans Try.prog n_pump_within [.int .i64 n, .int .i64 a, .int .i64 b] [] (.bool (wiP n a b)) [] := by
  refine spec_run e_pump_within fun G => ?_
  unfold wiP
  by_cases h1 : a ≤ n
  · by_cases h2 : n ≤ b
    · simp only [go_sem, h1, h2]
    · simp only [go_sem, h1, h2]
  · simp only [go_sem, h1]
theorem or16 {s t : Nat} (hs : s < 65536) (ht : t < 65536) : bitW .or .u16 (s : Int) (t : Int) = ((s ||| t : Nat) : Int) := by
  have h1 : (BitVec.ofInt 16 (s : Int)).toNat = s := by simp [BitVec.toNat_ofInt]; omega
  have h2 : (BitVec.ofInt 16 (t : Int)).toNat = t := by simp [BitVec.toNat_ofInt]; omega
  show IntKind.u16.wrap (((BitVec.ofInt 16 (s : Int) ||| BitVec.ofInt 16 (t : Int)).toNat : Nat) : Int) = _
  rw [BitVec.toNat_or, h1, h2]
  exact u16_wrap (Nat.or_lt_two_pow (n := 16) hs ht)
theorem shl16 {k : Nat} (h : k < 16) : shlW .u16 1 (k : Int) = ((2 ^ k : Nat) : Int) := by
  have : ∀ k : Fin 16, shlW .u16 1 ((k : Nat) : Int) = ((2 ^ (k : Nat) : Nat) : Int) := by decide
  exact this ⟨k, h⟩
theorem setN_lt {n : Nat} (hn : n ≤ 16) : ∀ {l : List Nat} {s : Nat}, (∀ k ∈ l, k < n) → s < 65536 → l.foldl (fun s k => s ||| 2 ^ k) s < 65536
  | [], s, _, hs => hs
  | k :: l, s, h, hs => by
    rw [List.foldl_cons]
    exact setN_lt hn (fun q hq => h q (by simp [hq])) (Nat.or_lt_two_pow (n := 16) hs (Nat.lt_of_lt_of_le (Nat.pow_lt_pow_right (by decide) (h k (by simp))) (Nat.pow_le_pow_right (by decide) hn)))
set_option maxRecDepth 20000 in
theorem setOf_run {n : Nat} (hn : n ≤ 16) {l : List Nat} (hl : ∀ k ∈ l, k < n) (hlen : l.length ≤ 1000000) : Ans Try.prog n_pump_setOf [nvw l] [] (.int .u16 (setN l)) [] := by
  unfold setN nvw
  refine spec_run e_pump_setOf fun G => ?_
  simp only [go_sem, List.length_map]
  refine loop_ind k_pump_setOf_r7.eq_1 (fun i : Nat => i ≤ l.length) (fun i => l.length - i)
    (fun i => (tsets 18 [(3, .int .u16 ((l.take i).foldl (fun s k => s ||| 2 ^ k) 0 : Nat)), (6, .view (l.map fun k : Nat => AVal.int .i64 (k : Int))), (7, .int .i64 l.length), (8, .int .i64 i)], [])) 0 (Nat.zero_le _) (by simp [go_sem]) rfl ?_
  intro i hi ih
  dsimp only at hi ih ⊢
  by_cases i1 : i < l.length
  · have i2 : (i : Int) < l.length := by omega
    have ni : ¬ (i : Int) < 0 := by omega
    have w5 : IntKind.i64.wrap ((i : Int) + 1) = ((i + 1 : Nat) : Int) := by rw [w64 (by omega)]; rfl
    have hz : l[i]? = some l[i] := List.getElem?_eq_getElem i1
    have hk := hl l[i] (List.getElem_mem i1)
    have ihk := ih (i + 1) (by omega) (by omega)
    clear ih
    rw [List.take_add_one, hz, List.foldl_append] at ihk
    have hb : (l.take i).foldl (fun s k => s ||| 2 ^ k) 0 < 65536 := setN_lt hn (fun k hk => hl k (List.mem_of_mem_take hk)) (by decide)
    generalize (l.take i).foldl (fun s k => s ||| 2 ^ k) 0 = s at *
    generalize l[i] = k at *
    have s1 := shl16 (k := k) (by omega)
    have s2 := or16 hb (t := 2 ^ k) (Nat.pow_lt_pow_right (by decide) (show k < 16 by omega))
    have nk : ¬ (k : Int) < 0 := by omega
    simp only [go_sem, i2, ni, hz, w5, List.length_map, s1, s2, nk]
    exact ihk _ (by simp [go_sem])
  · obtain rfl : i = l.length := by omega
    have i2 : ¬ (l.length : Int) < l.length := by omega
    clear ih
    simp only [go_sem, i2, List.length_map, List.take_length]
set_option maxHeartbeats 2000000 in
set_option maxRecDepth 20000 in
theorem checkNumbers_run {n : Nat} (hn : n ≤ 1000) {l : List Nat} (h : Asc n l) : Ans Try.prog n_pump_checkNumbers [nvw l, .int .i64 n] [] (.int .i64 0) [] := by
  have hlen := h.len
  unfold nvw
  refine spec_run e_pump_checkNumbers fun G => ?_
  simp only [go_sem, List.length_map]
  refine loop_ind k_pump_checkNumbers_r9.eq_1 (fun i : Nat => i ≤ l.length) (fun i => l.length - i)
    (fun i => (tsets 31 [(0, .view (l.map fun k : Nat => AVal.int .i64 (k : Int))), (1, .int .i64 n), (7, .view (l.map fun k : Nat => AVal.int .i64 (k : Int))), (8, .int .i64 l.length), (9, .int .i64 i)], [])) 0 (Nat.zero_le _) (by simp [go_sem]) rfl ?_
  intro i hi ih
  dsimp only at hi ih ⊢
  by_cases i1 : i < l.length
  · have i2 : (i : Int) < l.length := by omega
    have ni : ¬ (i : Int) < 0 := by omega
    have w5 : IntKind.i64.wrap ((i : Int) + 1) = ((i + 1 : Nat) : Int) := by rw [w64 (by omega)]; rfl
    have w6 : IntKind.i64.wrap ((n : Int) - 1) = (n : Int) - 1 := w64 (by omega)
    have hz : l[i]? = some l[i] := List.getElem?_eq_getElem i1
    have hk := h.2 l[i] (List.getElem_mem i1)
    have ihk := ih (i + 1) (by omega) (by omega)
    clear ih
    have kw := pwithin_run (l[i] : Nat) 0 ((n : Int) - 1)
    have e0 : wiP (l[i] : Nat) 0 ((n : Int) - 1) = true := decide_eq_true (by omega)
    rw [e0] at kw
    by_cases z0 : i = 0
    · have z2 : ¬ (i : Int) > 0 := by omega
      generalize l[i] = k at *
      simp only [go_sem, i2, ni, hz, w5, w6, List.length_map]
      refine cP kw ?_
      simp only [go_sem, z2, w5]
      exact ihk _ (by simp [go_sem])
    · have z2 : (i : Int) > 0 := by omega
      obtain ⟨m, rfl⟩ : ∃ m, i = m + 1 := ⟨i - 1, by omega⟩
      have w7 : IntKind.i64.wrap (((m + 1 : Nat) : Int) - 1) = (m : Int) := by rw [w64 (by omega)]; omega
      have nm : ¬ (m : Int) < 0 := by omega
      have nm2 : (m : Int) < l.length := by omega
      have hz2 : l[m]? = some l[m] := List.getElem?_eq_getElem (by omega)
      have lt := List.pairwise_iff_getElem.1 h.1 m (m + 1) (by omega) i1 (by omega)
      have le : ¬ (l[m + 1] : Int) ≤ l[m] := by omega
      generalize l[m + 1] = k at *
      generalize l[m] = k' at *
      simp only [go_sem, i2, ni, hz, w5, w6, List.length_map]
      refine cP kw ?_
      simp only [go_sem, z2, w7, w5, hz2, nm, nm2, List.length_map, le]
      exact ihk _ (by simp [go_sem])
  · obtain rfl : i = l.length := by omega
    have i2 : ¬ (l.length : Int) < l.length := by omega
    clear ih
    simp only [go_sem, i2, List.length_map]
end Go.Proofs

namespace Go.Proofs
open Go Go.Sx
attribute [local irreducible] Run

structure Tr where
  of : List Nat
  cost : Int
def Tr.v (t : Tr) : AVal := .agg [nvw t.of, .int .i64 t.cost]
def huntV (n : Nat) (ts : List Tr) : AVal := .agg [.int .i64 n, .view (ts.map Tr.v)]
structure TrOK (n : Nat) (t : Tr) : Prop where
  of : Asc n t.of
  cost : 0 ≤ t.cost ∧ t.cost ≤ 1000
structure HtOK (n : Nat) (ts : List Tr) : Prop where
  many : 1 ≤ n ∧ n ≤ 12
  len : ts.length ≤ 12
  ts : ∀ t ∈ ts, TrOK n t
theorem nvw_bel (l : List Nat) (S : Nat → Prop) : Bel S (nvw l) := by
  unfold nvw
  rw [bel_view]
  exact bels_of fun v hv => by
    obtain ⟨k, -, rfl⟩ := List.mem_map.1 hv
    exact .int _ _
set_option maxHeartbeats 2000000 in
set_option maxRecDepth 20000 in
theorem CheckHunt_run {n : Nat} {ts : List Tr} (h : HtOK n ts) : Ans Try.prog n_pump_CheckHunt [huntV n ts] [] (.int .i64 0) [] := by
  have hn := h.many
  have hl := h.len
  have kw := pwithin_run (n : Int) 1 12
  rw [show wiP (n : Int) 1 12 = true from decide_eq_true (by omega)] at kw
  have ng : ¬ (ts.length : Int) > 12 := by omega
  refine spec_run e_pump_CheckHunt fun G => ?_
  simp only [go_sem, huntV]
  refine cP kw ?_
  simp only [go_sem, List.length_map, ng]
  refine loop_ind k_pump_CheckHunt_r14.eq_1 (fun a : Nat × Heap => a.1 ≤ ts.length) (fun a => ts.length - a.1)
    (fun a => (tsets 34 [(1, .ptr 0 0 0 1), (15, .view (ts.map Tr.v)), (16, .int .i64 ts.length), (17, .int .i64 a.1)], some (.cells false 2 [.agg [.int .i64 n, .view (ts.map Tr.v)]]) :: a.2)) (0, []) (Nat.zero_le _) (by simp [go_sem]) rfl ?_
  rintro ⟨i, J⟩ hi ih
  dsimp only at hi ih ⊢
  by_cases i1 : i < ts.length
  · have i2 : (i : Int) < ts.length := by omega
    have ni : ¬ (i : Int) < 0 := by omega
    have w5 : IntKind.i64.wrap ((i : Int) + 1) = ((i + 1 : Nat) : Int) := by rw [w64 (by omega)]; rfl
    have hz : ts[i]? = some ts[i] := List.getElem?_eq_getElem i1
    have hk := h.ts ts[i] (List.getElem_mem i1)
    have ihk := fun J' => ih (i + 1, J') (by simp only; omega) i1
    clear ih
    dsimp only at ihk
    generalize ts[i] = t at *
    have kn := checkNumbers_run (n := n) (by omega) hk.of
    unfold nvw at kn
    have hb := nvw_bel t.of (fun _ => False)
    unfold nvw at hb
    have hc := hk.cost
    have kc := pwithin_run t.cost 0 1000
    rw [show wiP t.cost 0 1000 = true from decide_eq_true (by omega)] at kc
    simp only [go_sem, i2, ni, hz, List.length_map, Tr.v, nvw]
    refine cP kn ?_ (hb := ⟨hb, by simp only [go_sem], trivial⟩)
    simp only [go_sem]
    refine cP kc ?_
    simp only [go_sem, w5]
    exact ihk _ _ (by simp [go_sem])
  · obtain rfl : i = ts.length := by omega
    have i2 : ¬ (ts.length : Int) < ts.length := by omega
    clear ih
    simp only [go_sem, i2, List.length_map]
theorem kept3 {x0 x1 x2 : Row} {r v : AVal} {H' : Heap} (j0 j1 j2 : Nat) (d1 : j0 ≠ j1) (d2 : j0 ≠ j2) (d3 : j1 ≠ j2) (hv : v = ren (fun i => if i = 0 then j0 else if i = 1 then j1 else j2) r) (b0 : x0.bel (fun _ => False)) (b1 : x1.bel (fun _ => False)) (b2 : x2.bel (fun _ => False))
    (h0 : H'[j0]? = some (some x0)) (h1 : H'[j1]? = some (some x1)) (h2 : H'[j2]? = some (some x2)) : ∃ σ, Kept [] [some x0, some x1, some x2] r v H' σ :=
  ⟨fun i => if i = 0 then j0 else if i = 1 then j1 else j2, fun i hi => by simp at hi, fun i k hi hk h => by
    simp only [List.length_cons, List.length_nil] at hi hk
    obtain rfl | rfl | rfl : i = 0 ∨ i = 1 ∨ i = 2 := by omega
    all_goals obtain rfl | rfl | rfl : k = 0 ∨ k = 1 ∨ k = 2 := by omega
    all_goals first | rfl | (simp at h; omega), hv, fun i z hz => by
    have hi := (List.getElem?_eq_some_iff.1 hz).1
    simp only [List.length_cons, List.length_nil] at hi
    obtain rfl | rfl | rfl : i = 0 ∨ i = 1 ∨ i = 2 := by omega
    · simp only [List.getElem?_cons_zero, Option.some.injEq] at hz
      subst hz
      rw [Row.ren_same b0]; exact h0
    · simp only [List.getElem?_cons_succ, List.getElem?_cons_zero, Option.some.injEq] at hz
      subst hz
      rw [Row.ren_same b1]; exact h1
    · simp only [List.getElem?_cons_succ, List.getElem?_cons_zero, Option.some.injEq] at hz
      subst hz
      rw [Row.ren_same b2]; exact h2⟩
def tof (ts : List Tr) : List Nat := ts.map fun t => setN t.of
def tcs (ts : List Tr) : List Int := ts.map Tr.cost
set_option maxHeartbeats 4000000 in
set_option maxRecDepth 20000 in
theorem newHunter_run {n : Nat} {ts : List Tr} (h : HtOK n ts) (h0 : ts ≠ []) : Ans Try.prog n_pump_newHunter [huntV n ts] [] (huV ts.length) (huH (tof ts) (tcs ts) []) := by
  have hn := h.many
  have hl := h.len
  have hp : 0 < ts.length := List.length_pos_iff.2 h0
  refine Ans.keep ?_ (by simp [huH]) (by simpa [huH] using huV_bel ts.length) (huH_full _ _ _ _)
  refine run_fn e_pump_newHunter fun G => ?_
  simp only [go_sem, huntV, List.length_map]
  refine loop_body 3000 k_pump_newHunter_r8.eq_1 ?_
  have p2 : (0 : Int) < ts.length := by omega
  have hz : ts[0]? = some ts[0] := List.getElem?_eq_getElem hp
  have hk := h.ts ts[0] (List.getElem_mem hp)
  have ks := setOf_run (n := n) (by omega) hk.of.2 (by have := hk.of.len; omega)
  have t1 : tof (ts.take 1) = [setN ts[0].of] ∧ tcs (ts.take 1) = [ts[0].cost] := by
    match ts, hp with
    | t :: ts, _ => exact ⟨rfl, rfl⟩
  generalize ts[0] = t at *
  unfold nvw at ks
  simp only [go_sem, p2, hz, List.length_map, Tr.v, nvw]
  refine dF ks 6 [] ⟨.inl (by simp [frz, Function.comp_def]), trivial⟩ ?_
  have w1 : IntKind.i64.wrap 1 = 1 := by decide
  simp only [go_sem, w1]
  refine ⟨by decide, by decide, ?_⟩
  refine loop_ind k_pump_newHunter_r8.eq_1 (fun a : Nat × Heap => 1 ≤ a.1 ∧ a.1 ≤ ts.length) (fun a => ts.length - a.1)
    (fun a => (tsets 32 [(1, .ptr 0 0 0 1), (2, .ptr 1 0 0 1), (3, .ptr 3 0 0 1), (9, .view (ts.map Tr.v)), (10, .int .i64 ts.length), (11, .int .i64 a.1)],
      [some (.cells false 2 [.agg [.int .i64 n, .view (ts.map Tr.v)]]), some (.cells false 3 [.agg [.nilsl, .nilsl, .nilmap]]), some (.mapr .u16 [] []), some (.cells false 3 [.agg [.sl 6 0 a.1, .sl 8 0 a.1, .mp 2]]),
        some (.cells false 2 [t.v]), some (.cells false 1 [.int .u16 (setN t.of)]), some (.cells true 1 (ofV (tof (ts.take a.1)))), some (.cells false 1 [.int .i64 t.cost]), some (.cells true 1 ((tcs (ts.take a.1)).map (.int .i64)))] ++ a.2)) (1, []) ⟨Nat.le_refl _, hp⟩ (by simp [go_sem]) (by rw [t1.1, t1.2]; rfl) ?_
  rintro ⟨i, J⟩ ⟨hi0, hi⟩ ih
  dsimp only at hi hi0 ih ⊢
  have lt : (ts.take i).length = i := by rw [List.length_take]; omega
  have l1 : (ofV (tof (ts.take i))).length = i := by simp only [ofV, tof, List.length_map, lt]
  have l2 : (tcs (ts.take i)).length = i := by simp only [tcs, List.length_map, lt]
  by_cases i1 : i < ts.length
  · have i2 : (i : Int) < ts.length := by omega
    have ni : ¬ (i : Int) < 0 := by omega
    have w5 : IntKind.i64.wrap ((i : Int) + 1) = ((i + 1 : Nat) : Int) := by rw [w64 (by omega)]; rfl
    have hz : ts[i]? = some ts[i] := List.getElem?_eq_getElem i1
    have hk := h.ts ts[i] (List.getElem_mem i1)
    have ks := setOf_run (n := n) (by omega) hk.of.2 (by have := hk.of.len; omega)
    have ihk := fun J' => ih (i + 1, J') (by simp only; omega) ⟨by simp only; omega, i1⟩
    clear ih
    dsimp only at ihk
    have u1 : ofV (tof (ts.take (i + 1))) = ofV (tof (ts.take i)) ++ [.int .u16 (setN ts[i].of : Nat)] := by
      unfold ofV tof; rw [List.take_add_one, hz]; simp only [List.map_append, Option.toList, List.map_cons, List.map_nil]
    have u2 : (tcs (ts.take (i + 1))).map (AVal.int .i64) = (tcs (ts.take i)).map (AVal.int .i64) ++ [.int .i64 ts[i].cost] := by
      unfold tcs; rw [List.take_add_one, hz]; simp only [List.map_append, Option.toList, List.map_cons, List.map_nil]
    rw [u1, u2] at ihk
    generalize ofV (tof (ts.take i)) = A at *
    generalize tcs (ts.take i) = B at *
    generalize ts[i] = t' at *
    unfold nvw at ks
    have e1 : (i + 1) * 2 ≤ 2 ^ 44 := by omega
    have e2 : (i + 1) * 8 ≤ 2 ^ 44 := by omega
    simp only [go_sem, i2, ni, hz, List.length_map, Tr.v, nvw]
    refine dF ks 6 [] ⟨.inl (by simp [frz, Function.comp_def]), trivial⟩ ?_
    simp only [go_sem, w5, l1, l2, e1, e2]
    simp only [Tr.v, nvw, List.cons_append, List.nil_append] at ihk
    refine ⟨?_, ihk _ _ (by simp [go_sem])⟩
    rw [show (3 == List.length J + 1 + 1 + 1 + 1 + 1 + 1 + 1 + 1 + 1 + 1) = false from beq_eq_false_iff_ne.2 (by omega)]; rfl
  · obtain rfl : i = ts.length := by omega
    have i2 : ¬ (ts.length : Int) < ts.length := by omega
    clear ih
    rw [List.take_length] at *
    simp only [go_sem, i2, List.length_map]
    exact kept3 6 8 2 (by decide) (by decide) (by decide) rfl (huH_full (tof ts) (tcs ts) [] _).1 (huH_full (tof ts) (tcs ts) [] _).2.1 (mrow_bel []) rfl rfl rfl
end Go.Proofs

namespace Go.Proofs
open Go Go.Sx
attribute [local irreducible] Run

theorem tof_lt {n : Nat} {ts : List Tr} (h : HtOK n ts) : ∀ t ∈ tof ts, t < 65536 := fun t ht => by
  obtain ⟨x, hx, rfl⟩ := List.mem_map.1 ht
  exact setN_lt (n := n) (by have := h.many; omega) (h.ts x hx).of.2 (by decide)
theorem tcs_len (ts : List Tr) : (tcs ts).length = (tof ts).length := by simp [tcs, tof]
theorem tof_len (ts : List Tr) : (tof ts).length = ts.length := by simp [tof]
theorem trv_bel (ts : List Tr) (S : Nat → Prop) : Bel S (.view (ts.map Tr.v)) := by
  rw [bel_view]
  exact bels_of fun v hv => by
    obtain ⟨t, -, rfl⟩ := List.mem_map.1 hv
    unfold Tr.v
    rw [bel_agg]
    exact ⟨nvw_bel _ _, .int _ _, trivial⟩
theorem huntV_bel (n : Nat) (ts : List Tr) (S : Nat → Prop) : Bel S (huntV n ts) := by
  unfold huntV
  rw [bel_agg]
  exact ⟨.int _ _, trv_bel ts S, trivial⟩
def plnOf (ts : List Tr) (s : Nat) : Pl := (planF (tof ts) (tcs ts) (s + 1) s []).1
theorem huH_at1 {of : List Nat} {cs : List Int} {M : PM} (x : Option Row) (X : Heap) : rowsOK (x :: (huH of cs M ++ X)) (nth [1, 2, 3]) [1, 2, 3] (huH of cs M) := by
  obtain ⟨a, b, c, -⟩ := huH_full of cs M (fun _ => False)
  exact ⟨by rw [Row.ren_same a]; rfl, by rw [Row.ren_same b]; rfl, by rw [Row.ren_same c]; rfl, trivial⟩
theorem hu_out1 {of : List Nat} {cs : List Int} {M' : PM} (n : Nat) : outΔ (outσ [1, 2, 3] n) 0 (huH of cs M') = [(1, .cells true 1 (ofV of)), (2, .cells true 1 (cs.map (.int .i64))), (3, mrow M')] := by
  obtain ⟨a, b, c, -⟩ := huH_full of cs M' (fun _ => False)
  unfold huH
  simp only [outΔ, Row.ren_same a, Row.ren_same b, Row.ren_same c]
  rfl
theorem hu_new {of : List Nat} {cs : List Int} (n : Nat) : outΔ (outσ [] n) 0 (huH of cs []) = [(n, .cells true 1 (ofV of)), (n + 1, .cells true 1 (cs.map (.int .i64))), (n + 2, mrow [])] := by
  obtain ⟨a, b, c, -⟩ := huH_full of cs [] (fun _ => False)
  unfold huH
  simp only [outΔ, Row.ren_same a, Row.ren_same b, Row.ren_same c]
  rfl
set_option maxHeartbeats 4000000 in
set_option maxRecDepth 20000 in
theorem Worst_run {n : Nat} {ts : List Tr} (h : HtOK n ts) (h0 : ts ≠ []) {l : List Nat} (hl : Asc n l) (l0 : l ≠ []) :
    Ans Try.prog n_pump_Worst [huntV n ts, nvw l] [] (.tup (if (plnOf ts (setN l)).told = true then [.int .i64 (plnOf ts (setN l)).cost, .int .i64 (plnOf ts (setN l)).trial, .int .i64 0] else [.int .i64 0, .int .i64 0, .int .i64 15])) [] := by
  have hn := h.many
  have k1 := CheckHunt_run h
  have k2 := checkNumbers_run (n := n) (by omega) hl
  have k3 := newHunter_run h h0
  have k4 := setOf_run (n := n) (by omega) hl.2 (by have := hl.len; omega)
  have sl : setN l < 65536 := setN_lt (n := n) (by omega) hl.2 (by decide)
  have k5 := planA (tof_lt h) (tcs_len ts) (by rw [tof_len]; have := h.len; omega) (setN l + 1) (setN l) [] (by omega) sl
  have lp : 0 < l.length := List.length_pos_iff.2 l0
  have b1 := nvw_bel l (fun _ => False)
  have b2 := huntV_bel n ts (fun _ => False)
  have le : ((l.length : Int) == 0) = false := beq_eq_false_iff_ne.2 (by omega)
  unfold plnOf
  rw [tof_len] at k5
  generalize planF (tof ts) (tcs ts) (setN l + 1) (setN l) [] = r at *
  refine spec_run e_pump_Worst fun G => ?_
  simp only [huntV, nvw] at k1 k2 k3 k4 b1 b2 ⊢
  simp only [go_sem]
  refine cP k1 ?_ (hb := ⟨b2, trivial⟩)
  simp only [go_sem, bne, List.length_map, le]
  refine cP k2 ?_ (hb := ⟨b1, by simp only [go_sem], trivial⟩)
  simp only [go_sem, bne]
  refine callS k3 [] (by simp) trivial (by rw [List.map_cons, List.map_nil, ren_same b2]) ⟨b2.mono fun _ h => h.elim, trivial⟩ trivial (by simp) (by simpa [huH] using huV_bel ts.length) (by simpa [huH] using huH_full (tof ts) (tcs ts) [] (· < 3)) (by simp) (by simp) (by simp) ?_
  rw [hu_new]
  simp only [go_sem, huV]
  rw [show ren (outσ [] 1) (.agg [.sl 0 0 ts.length, .sl 1 0 ts.length, .mp 2]) = .agg [.sl 1 0 ts.length, .sl 2 0 ts.length, .mp 3] from rfl]
  refine cP k4 ?_ (hb := ⟨b1, trivial⟩)
  simp only [go_sem]
  refine callS k5 [1, 2, 3] (by decide) (huH_at1 _ []) rfl ⟨huV_bel _, by simp only [go_sem], trivial⟩ (huH_full _ _ _ _) (Nat.le_refl _) (pl_bel _ _) (huH_full _ _ _ _) (by simp) (by simp) (by simp) ?_
  rw [hu_out1, ren_same (pl_bel _ _)]
  simp only [go_sem, Pl.v]
  refine ⟨fun a => ?_, fun a => ?_⟩
  · simp only [a]; rfl
  · simp only [a, if_true]
end Go.Proofs

namespace Go.Proofs
open Go Go.Sx

def one2 (s : Nat) : Bool := one1 s == (s == 1 || (s == 2 || (s == 4 || (s == 8 || (s == 16 || (s == 32 || (s == 64 || (s == 128 || (s == 256 || (s == 512 || (s == 1024 || s == 2048)))))))))))
def allB (p : Nat → Bool) : Nat → Bool
  | 0 => true
  | n + 1 => p n && allB p n
theorem allB_get {p : Nat → Bool} : ∀ {n : Nat}, allB p n = true → ∀ i, i < n → p i = true
  | 0, _, i, h => absurd h (Nat.not_lt_zero _)
  | n + 1, h, i, hi => by
    simp only [allB, Bool.and_eq_true] at h
    rcases Nat.lt_or_ge i n with h1 | h1
    · exact allB_get h.2 i h1
    · obtain rfl : i = n := by omega
      exact h.1
theorem one2_all : allB one2 4096 = true := by kernel_rfl
theorem one1_pow {s : Nat} (h : s < 4096) (h1 : one1 s = true) : ∃ k, k < 12 ∧ s = 2 ^ k := by
  have := allB_get one2_all s h
  unfold one2 at this
  rw [h1] at this
  simp only [beq_iff_eq, Bool.true_eq, Bool.or_eq_true] at this
  rcases this with h | h | h | h | h | h | h | h | h | h | h | h
  · exact ⟨0, by decide, h⟩
  · exact ⟨1, by decide, h⟩
  · exact ⟨2, by decide, h⟩
  · exact ⟨3, by decide, h⟩
  · exact ⟨4, by decide, h⟩
  · exact ⟨5, by decide, h⟩
  · exact ⟨6, by decide, h⟩
  · exact ⟨7, by decide, h⟩
  · exact ⟨8, by decide, h⟩
  · exact ⟨9, by decide, h⟩
  · exact ⟨10, by decide, h⟩
  · exact ⟨11, by decide, h⟩
def Sub (a b : Nat) : Prop := ∀ i, a.testBit i = true → b.testBit i = true
theorem sub_and {a b t : Nat} (h : Sub a b) : Sub (a &&& t) (b &&& t) := fun i hi => by
  rw [Nat.testBit_and, Bool.and_eq_true] at hi ⊢
  exact ⟨h i hi.1, hi.2⟩
theorem sub_le {a b : Nat} (h : Sub a b) : a ≤ b := by
  have : a = a &&& b := Nat.eq_of_testBit_eq fun i => by
    rw [Nat.testBit_and]
    cases hx : a.testBit i
    · rfl
    · rw [h i hx]; rfl
  rw [this]; exact Nat.and_le_right
theorem sub_off {a t : Nat} (ha : a < 65536) (ht : t < 65536) (h : a &&& t = 0) : a &&& (65535 - t) = a := by
  apply Nat.eq_of_testBit_eq
  intro i
  have h1 := congrArg (·.testBit i) h
  simp only [Nat.testBit_and, Nat.zero_testBit] at h1 ⊢
  rw [show 65535 - t = 2 ^ 16 - (t + 1) by omega, Nat.testBit_two_pow_sub_succ ht]
  have hlt : a.testBit i = true → i < 16 := fun hx => by
    rcases Nat.lt_or_ge i 16 with h | h
    · exact h
    · have : a < 2 ^ i := Nat.lt_of_lt_of_le (show a < 2 ^ 16 by omega) (Nat.pow_le_pow_right (by decide) h)
      rw [Nat.testBit_lt_two_pow this] at hx; cases hx
  cases hx : a.testBit i <;> cases hy : t.testBit i <;> simp_all
theorem sub_on {a t : Nat} (ha : a < 65536) (ht : t < 65536) (h : a &&& (65535 - t) = 0) : a &&& t = a := by
  apply Nat.eq_of_testBit_eq
  intro i
  have h1 := congrArg (·.testBit i) h
  simp only [Nat.testBit_and, Nat.zero_testBit] at h1 ⊢
  rw [show 65535 - t = 2 ^ 16 - (t + 1) by omega, Nat.testBit_two_pow_sub_succ ht] at h1
  have hlt : a.testBit i = true → i < 16 := fun hx => by
    rcases Nat.lt_or_ge i 16 with h | h
    · exact h
    · have : a < 2 ^ i := Nat.lt_of_lt_of_le (show a < 2 ^ 16 by omega) (Nat.pow_le_pow_right (by decide) h)
      rw [Nat.testBit_lt_two_pow this] at hx; cases hx
  cases hx : a.testBit i <;> cases hy : t.testBit i <;> simp_all
theorem sub_one {a : Nat} {k : Nat} (h : Sub a (2 ^ k)) (h0 : a ≠ 0) : a = 2 ^ k := by
  apply Nat.eq_of_testBit_eq
  intro i
  obtain ⟨j, hj⟩ := Nat.exists_testBit_of_ne_zero h0
  have h1 := h j hj
  rw [Nat.testBit_two_pow] at h1 ⊢
  have hk : k = j := by simpa using h1
  subst hk
  by_cases hi : k = i
  · subst hi; simpa using hj
  · rw [decide_eq_false hi]
    cases hx : a.testBit i
    · rfl
    · have := h i hx
      rw [Nat.testBit_two_pow, decide_eq_false hi] at this; cases this
section
variable {of : List Nat} {cs : List Int}
theorem tell_sub (h : HtN of cs) {s : Nat} {c : Int} (t : Tell of cs s c) : s < 4096 → ∀ s', Sub s' s → s' ≠ 0 → Tell of cs s' c := by
  induction t with
  | one s c h1 h2 =>
    intro hs s' hsub h0
    obtain ⟨k, hk, rfl⟩ := one1_pow hs h1
    rw [sub_one hsub h0]
    exact .one _ _ h1 h2
  | step s n a b c hn a0 b0 t1 t2 h1 h2 i1 i2 =>
    intro hs s' hsub h0
    have hc := h.c hn
    have ht := h.t hn
    have hs' := sub_le hsub
    have l1 : s &&& of.getD n 0 ≤ s := Nat.and_le_left
    have l2 : s &&& (65535 - of.getD n 0) ≤ s := Nat.and_le_left
    by_cases e1 : s' &&& of.getD n 0 = 0
    · have e2 := sub_off (by omega) ht e1
      have := i2 (by omega) (s' &&& (65535 - of.getD n 0)) (sub_and hsub) (by rw [e2]; exact h0)
      rw [e2] at this
      exact tell_weak this (by omega)
    · by_cases e2 : s' &&& (65535 - of.getD n 0) = 0
      · have e3 := sub_on (by omega) ht e2
        have := i1 (by omega) (s' &&& of.getD n 0) (sub_and hsub) (by rw [e3]; exact h0)
        rw [e3] at this
        exact tell_weak this (by omega)
      · exact .step s' n a b c hn e1 e2 (i1 (by omega) _ (sub_and hsub) e1) (i2 (by omega) _ (sub_and hsub) e2) h1 h2
theorem tell_more {of' : List Nat} {cs' : List Int} (h : ∀ m, m < of.length → ∃ m', m' < of'.length ∧ of'.getD m' 0 = of.getD m 0 ∧ cs'.getD m' 0 ≤ cs.getD m 0) {s : Nat} {c : Int} (t : Tell of cs s c) : Tell of' cs' s c := by
  induction t with
  | one s c h1 h2 => exact .one _ _ h1 h2
  | step s n a b c hn a0 b0 t1 t2 h1 h2 i1 i2 =>
    obtain ⟨m, hm, e1, e2⟩ := h n hn
    rw [← e1] at a0 b0 i1 i2
    exact .step s m a b c hm a0 b0 i1 i2 (by omega) (by omega)
end
theorem HtOK.htn {n : Nat} {ts : List Tr} (h : HtOK n ts) : HtN (tof ts) (tcs ts) := ⟨tof_lt h, tcs_len ts, fun c hc => by
  obtain ⟨t, ht, rfl⟩ := List.mem_map.1 hc
  exact (h.ts t ht).cost⟩
theorem pln_good {n : Nat} {ts : List Tr} (h : HtOK n ts) {s : Nat} (hs : s < 65536) : GoodP (tof ts) (tcs ts) s (plnOf ts s) := (plan_good h.htn (s + 1) s [] (by omega) hs fun k p hk => by cases hk).1
end Go.Proofs

namespace Go.Proofs
open Go Go.Sx

def k_kit_NewDice_r0 : List AOper := [
  ⟨some 2, .move (.const (.nilptr)), none, []⟩]
def k_kit_NewDice_r1 : List AOper := [
  ⟨some 5, .move (.tmp 0), none, []⟩,
 ⟨some 6, .len false (.tmp 5), none, []⟩,
 ⟨some 7, .toInt .u64 (.tmp 6), none, []⟩,
 ⟨some 8, .bin .plain .add (.tmp 7) (.const (.int .u64 1374496523)), none, []⟩,
 ⟨some 9, .build [.int .u64 0] [(0, 1, .tmp 8)], none, []⟩,
 ⟨some 10, .box (.tmp 9), none, []⟩,
 ⟨some 3, .move (.tmp 10), none, []⟩]
def k_kit_NewDice_r2 : List AOper := [
  ⟨some 4, .move (.const (.int .i64 0)), none, []⟩]
def k_kit_NewDice_r3 : List AOper := [
  ⟨some 11, .move (.tmp 4), none, []⟩,
 ⟨some 12, .move (.tmp 0), none, []⟩,
 ⟨some 13, .len false (.tmp 12), none, []⟩,
 ⟨some 14, .bin .plain .lss (.tmp 11) (.tmp 13), none, []⟩]
def k_kit_NewDice_r4 : List AOper := [
  ⟨some 17, .move (.tmp 3), none, []⟩,
 ⟨some 18, .move (.tmp 3), none, [0]⟩,
 ⟨some 19, .nilCheck (.tmp 18), none, [0]⟩,
 ⟨some 20, .fieldAddr 0 (.tmp 19), none, [0]⟩,
 ⟨some 21, .load none (.tmp 20), none, [0]⟩,
 ⟨some 22, .move (.tmp 0), none, [0, 1, 2, 3, 4]⟩,
 ⟨some 23, .move (.tmp 4), none, [0, 1, 2, 3, 4, 5]⟩,
 ⟨some 24, .indexAddr 1 (.tmp 22) (.tmp 23), none, [0, 1, 2, 3, 4]⟩,
 ⟨some 25, .load none (.tmp 24), none, [0, 1, 2, 3, 4]⟩,
 ⟨some 26, .toInt .u64 (.tmp 25), none, [0, 1, 2, 3, 4]⟩,
 ⟨some 27, .bin .plain .xor (.tmp 21) (.tmp 26), none, [0]⟩,
 ⟨some 28, .nilCheck (.tmp 17), none, []⟩,
 ⟨some 29, .fieldAddr 0 (.tmp 28), none, []⟩,
 ⟨none, .store 1 (.tmp 29) (.tmp 27), none, []⟩]
def k_kit_NewDice_r4s : List (List AOper) := [
  [
  ⟨some 17, .move (.tmp 3), none, []⟩,
 ⟨some 18, .move (.tmp 3), none, [0]⟩,
 ⟨some 19, .nilCheck (.tmp 18), none, [0]⟩,
 ⟨some 20, .fieldAddr 0 (.tmp 19), none, [0]⟩,
 ⟨some 21, .load none (.tmp 20), none, [0]⟩,
 ⟨some 22, .move (.tmp 0), none, [0, 1, 2, 3, 4]⟩,
 ⟨some 23, .move (.tmp 4), none, [0, 1, 2, 3, 4, 5]⟩,
 ⟨some 24, .indexAddr 1 (.tmp 22) (.tmp 23), none, [0, 1, 2, 3, 4]⟩,
 ⟨some 25, .load none (.tmp 24), none, [0, 1, 2, 3, 4]⟩,
 ⟨some 26, .toInt .u64 (.tmp 25), none, [0, 1, 2, 3, 4]⟩,
 ⟨some 27, .bin .plain .xor (.tmp 21) (.tmp 26), none, [0]⟩], 
  [
  ⟨some 28, .nilCheck (.tmp 17), none, []⟩], 
  [
  ⟨some 29, .fieldAddr 0 (.tmp 28), none, []⟩], 
  [
  ⟨none, .store 1 (.tmp 29) (.tmp 27), none, []⟩]]
theorem k_kit_NewDice_r4_sg : segs k_kit_NewDice_r4 = k_kit_NewDice_r4s := by kernel_rfl
theorem k_kit_NewDice_r4_st : statOK k_kit_NewDice_r4 = true := by kernel_rfl
def k_kit_NewDice_r5 : List AOper := [
  ⟨some 30, .move (.tmp 3), none, []⟩,
 ⟨some 31, .call (.const (.fn (.func 80) [] [])) [.tmp 30], none, []⟩]
def k_kit_NewDice_r6 : List AOper := [
  ⟨some 15, .move (.tmp 4), none, []⟩,
 ⟨some 16, .bin .plain .add (.tmp 15) (.const (.int .i64 1)), none, []⟩,
 ⟨some 4, .move (.tmp 16), none, []⟩]
def k_kit_NewDice_r7 : ACode := (.seq (.seq (.reg k_kit_NewDice_r3 false) (.cond (.tmp 14) .skip (.exit 0))) (.seq (.block 1 (.seq (.reg k_kit_NewDice_r4 true) (.reg k_kit_NewDice_r5 false))) (.reg k_kit_NewDice_r6 false)))
def k_kit_NewDice_r8 : List AOper := [
  ⟨some 32, .move (.tmp 3), none, []⟩,
 ⟨some 2, .move (.tmp 32), none, []⟩]
def k_kit_NewDice : AFun := { params := 1, ntmps := 33, body := (.seq (.reg k_kit_NewDice_r0 false) (.seq (.reg k_kit_NewDice_r1 false) (.seq (.seq (.reg k_kit_NewDice_r2 false) (.block 0 (.loop k_kit_NewDice_r7))) (.seq (.reg k_kit_NewDice_r8 false) .ret)))), res := [.tmp 2] }
theorem k_kit_NewDice_ok : cfun Try.prog Try.f22 = k_kit_NewDice := by kernel_rfl

def k_kit_Dice_Upto_r0 : List AOper := [
  ⟨some 4, .move (.const (.int .i64 0)), none, []⟩]
def k_kit_Dice_Upto_r1 : List AOper := [
  ⟨some 6, .move (.tmp 0), none, []⟩,
 ⟨some 7, .call (.const (.fn (.func 80) [] [])) [.tmp 6], none, []⟩,
 ⟨some 5, .move (.tmp 7), none, []⟩]
def k_kit_Dice_Upto_r2 : List AOper := [
  ⟨some 8, .move (.tmp 1), none, []⟩,
 ⟨some 9, .bin .plain .lss (.tmp 8) (.const (.int .i64 1)), none, []⟩]
def k_kit_Dice_Upto_r3 : List AOper := [
  ⟨some 4, .move (.const (.int .i64 0)), none, []⟩]
def k_kit_Dice_Upto_r4 : List AOper := [
  ⟨some 10, .move (.tmp 5), none, []⟩,
 ⟨some 11, .move (.tmp 1), none, []⟩,
 ⟨some 12, .toInt .u64 (.tmp 11), none, []⟩,
 ⟨some 13, .bin .plain .rem (.tmp 10) (.tmp 12), none, []⟩,
 ⟨some 14, .toInt .i64 (.tmp 13), none, []⟩,
 ⟨some 4, .move (.tmp 14), none, []⟩]
def k_kit_Dice_Upto : AFun := { params := 2, ntmps := 15, body := (.seq (.reg k_kit_Dice_Upto_r0 false) (.seq (.reg k_kit_Dice_Upto_r1 false) (.seq (.seq (.reg k_kit_Dice_Upto_r2 false) (.cond (.tmp 9) (.seq (.reg k_kit_Dice_Upto_r3 false) .ret) .skip)) (.seq (.reg k_kit_Dice_Upto_r4 false) .ret)))), res := [.tmp 4] }
theorem k_kit_Dice_Upto_ok : cfun Try.prog Try.f36 = k_kit_Dice_Upto := by kernel_rfl

def k_kit_HuntOf_r0 : List AOper := [
  ⟨some 6, .box (.const (.agg [.int .i64 0, .nilsl])), none, []⟩]
def k_kit_HuntOf_r1 : List AOper := [
  ⟨some 11, .move (.tmp 0), none, []⟩,
 ⟨some 12, .move (.tmp 1), none, []⟩,
 ⟨some 13, .call (.const (.fn (.func 77) [] [])) [.tmp 11, .const (.int .i64 1), .tmp 12], none, []⟩,
 ⟨some 14, .build [.int .i64 0, .nilsl] [(0, 1, .tmp 13)], none, []⟩,
 ⟨some 7, .box (.const (.agg [.int .i64 0, .nilsl])), none, []⟩,
 ⟨none, .store 2 (.tmp 7) (.tmp 14), none, []⟩]
def k_kit_HuntOf_r2 : List AOper := [
  ⟨some 15, .move (.tmp 0), none, []⟩,
 ⟨some 16, .move (.tmp 2), none, []⟩,
 ⟨some 17, .bin .plain .add (.tmp 16) (.const (.int .i64 1)), none, []⟩,
 ⟨some 18, .call (.const (.fn (.func 36) [] [])) [.tmp 15, .tmp 17], none, []⟩,
 ⟨some 8, .move (.tmp 18), none, []⟩]
def k_kit_HuntOf_r3 : List AOper := [
  ⟨some 19, .move (.tmp 8), none, []⟩,
 ⟨some 20, .bin .plain .gtr (.tmp 19) (.const (.int .i64 0)), none, []⟩]
def k_kit_HuntOf_r4 : List AOper := [
  ⟨some 23, .move (.tmp 0), none, []⟩,
 ⟨some 24, .call (.const (.fn (.func 36) [] [])) [.tmp 23, .const (.int .i64 9)], none, []⟩,
 ⟨some 25, .build [.nilsl, .int .i64 0] [(1, 1, .tmp 24)], none, []⟩,
 ⟨some 9, .box (.const (.agg [.nilsl, .int .i64 0])), none, []⟩,
 ⟨none, .store 2 (.tmp 9) (.tmp 25), none, []⟩]
def k_kit_HuntOf_r5 : List AOper := [
  ⟨some 26, .move (.tmp 0), none, []⟩,
 ⟨some 27, .call (.const (.fn (.func 52) [] [])) [.tmp 26, .const (.int .i64 2)], none, []⟩]
def k_kit_HuntOf_r6 : List AOper := [
  ⟨some 28, .fieldAddr 1 (.tmp 9), none, []⟩,
 ⟨none, .store 1 (.tmp 28) (.const (.int .i64 1)), none, []⟩]
def k_kit_HuntOf_r7 : List AOper := [
  ⟨some 10, .move (.const (.int .i64 0)), none, []⟩]
def k_kit_HuntOf_r8 : List AOper := [
  ⟨some 29, .move (.tmp 10), none, []⟩,
 ⟨some 30, .fieldAddr 0 (.tmp 7), none, []⟩,
 ⟨some 31, .load none (.tmp 30), none, []⟩,
 ⟨some 32, .bin .plain .lss (.tmp 29) (.tmp 31), none, []⟩]
def k_kit_HuntOf_r9 : List AOper := [
  ⟨some 35, .move (.tmp 0), none, []⟩,
 ⟨some 36, .call (.const (.fn (.func 52) [] [])) [.tmp 35, .const (.int .i64 2)], none, []⟩]
def k_kit_HuntOf_r10 : List AOper := [
  ⟨some 37, .fieldAddr 0 (.tmp 9), none, []⟩,
 ⟨some 38, .load none (.tmp 37), none, []⟩,
 ⟨some 39, .move (.tmp 10), none, []⟩,
 ⟨some 40, .buildSlice 1 [.tmp 39], none, []⟩,
 ⟨some 41, .append 1 8 false (.tmp 38) (.tmp 40), none, []⟩,
 ⟨some 42, .fieldAddr 0 (.tmp 9), none, []⟩,
 ⟨none, .store 1 (.tmp 42) (.tmp 41), none, []⟩]
def k_kit_HuntOf_r11 : List AOper := [
  ⟨some 33, .move (.tmp 10), none, []⟩,
 ⟨some 34, .bin .plain .add (.tmp 33) (.const (.int .i64 1)), none, []⟩,
 ⟨some 10, .move (.tmp 34), none, []⟩]
def k_kit_HuntOf_r12 : ACode := (.seq (.seq (.reg k_kit_HuntOf_r8 false) (.cond (.tmp 32) .skip (.exit 2))) (.seq (.block 3 (.seq (.reg k_kit_HuntOf_r9 false) (.cond (.tmp 36) (.reg k_kit_HuntOf_r10 false) .skip))) (.reg k_kit_HuntOf_r11 false)))
def k_kit_HuntOf_r13 : List AOper := [
  ⟨some 43, .fieldAddr 1 (.tmp 7), none, []⟩,
 ⟨some 44, .load none (.tmp 43), none, []⟩,
 ⟨some 45, .load (some (2)) (.tmp 9), none, []⟩,
 ⟨some 46, .buildSlice 2 [.tmp 45], none, []⟩,
 ⟨some 47, .append 2 32 true (.tmp 44) (.tmp 46), none, []⟩,
 ⟨some 48, .fieldAddr 1 (.tmp 7), none, []⟩,
 ⟨none, .store 1 (.tmp 48) (.tmp 47), none, []⟩]
def k_kit_HuntOf_r14 : List AOper := [
  ⟨some 21, .move (.tmp 8), none, []⟩,
 ⟨some 22, .bin .plain .sub (.tmp 21) (.const (.int .i64 1)), none, []⟩,
 ⟨some 8, .move (.tmp 22), none, []⟩]
def k_kit_HuntOf_r15 : ACode := (.seq (.seq (.reg k_kit_HuntOf_r3 false) (.cond (.tmp 20) .skip (.exit 0))) (.seq (.block 1 (.seq (.reg k_kit_HuntOf_r4 false) (.seq (.seq (.reg k_kit_HuntOf_r5 false) (.cond (.tmp 27) (.reg k_kit_HuntOf_r6 false) .skip)) (.seq (.seq (.reg k_kit_HuntOf_r7 false) (.block 2 (.loop k_kit_HuntOf_r12))) (.reg k_kit_HuntOf_r13 false))))) (.reg k_kit_HuntOf_r14 false)))
def k_kit_HuntOf_r16 : List AOper := [
  ⟨some 49, .load (some (2)) (.tmp 7), none, []⟩,
 ⟨none, .store 2 (.tmp 6) (.tmp 49), none, []⟩]
def k_kit_HuntOf : AFun := { params := 3, ntmps := 50, body := (.seq (.reg k_kit_HuntOf_r0 false) (.seq (.reg k_kit_HuntOf_r1 false) (.seq (.seq (.reg k_kit_HuntOf_r2 false) (.block 0 (.loop k_kit_HuntOf_r15))) (.seq (.reg k_kit_HuntOf_r16 false) .ret)))), res := [.cell 6 (some ((some (2))))] }
theorem k_kit_HuntOf_ok : cfun Try.prog Try.f51 = k_kit_HuntOf := by kernel_rfl

def k_kit_Dice_One_r0 : List AOper := [
  ⟨some 4, .move (.const (.bool false)), none, []⟩]
def k_kit_Dice_One_r1 : List AOper := [
  ⟨some 5, .move (.tmp 0), none, []⟩,
 ⟨some 6, .move (.tmp 1), none, []⟩,
 ⟨some 7, .call (.const (.fn (.func 36) [] [])) [.tmp 5, .tmp 6], none, []⟩,
 ⟨some 8, .bin .plain .eql (.tmp 7) (.const (.int .i64 0)), none, []⟩,
 ⟨some 4, .move (.tmp 8), none, []⟩]
def k_kit_Dice_One : AFun := { params := 2, ntmps := 9, body := (.seq (.reg k_kit_Dice_One_r0 false) (.seq (.reg k_kit_Dice_One_r1 false) .ret)), res := [.tmp 4] }
theorem k_kit_Dice_One_ok : cfun Try.prog Try.f52 = k_kit_Dice_One := by kernel_rfl

def k_kit_Dice_Between_r0 : List AOper := [
  ⟨some 6, .move (.const (.int .i64 0)), none, []⟩]
def k_kit_Dice_Between_r1 : List AOper := [
  ⟨some 7, .move (.tmp 1), none, []⟩,
 ⟨some 8, .move (.tmp 0), none, []⟩,
 ⟨some 9, .move (.tmp 2), none, []⟩,
 ⟨some 10, .move (.tmp 1), none, []⟩,
 ⟨some 11, .bin .plain .sub (.tmp 9) (.tmp 10), none, []⟩,
 ⟨some 12, .bin .plain .add (.tmp 11) (.const (.int .i64 1)), none, []⟩,
 ⟨some 13, .call (.const (.fn (.func 36) [] [])) [.tmp 8, .tmp 12], none, []⟩,
 ⟨some 14, .bin .plain .add (.tmp 7) (.tmp 13), none, []⟩,
 ⟨some 6, .move (.tmp 14), none, []⟩]
def k_kit_Dice_Between : AFun := { params := 3, ntmps := 15, body := (.seq (.reg k_kit_Dice_Between_r0 false) (.seq (.reg k_kit_Dice_Between_r1 false) .ret)), res := [.tmp 6] }
theorem k_kit_Dice_Between_ok : cfun Try.prog Try.f77 = k_kit_Dice_Between := by kernel_rfl

def k_kit_Dice_next_r0 : List AOper := [
  ⟨some 2, .move (.const (.int .u64 0)), none, []⟩]
def k_kit_Dice_next_r1 : List AOper := [
  ⟨some 4, .move (.tmp 0), none, []⟩,
 ⟨some 5, .move (.tmp 0), none, []⟩,
 ⟨some 6, .nilCheck (.tmp 5), none, []⟩,
 ⟨some 7, .fieldAddr 0 (.tmp 6), none, []⟩,
 ⟨some 8, .load none (.tmp 7), none, []⟩,
 ⟨some 9, .bin .plain .add (.tmp 8) (.const (.int .u64 11400714819323198485)), none, []⟩,
 ⟨some 10, .nilCheck (.tmp 4), none, []⟩,
 ⟨some 11, .fieldAddr 0 (.tmp 10), none, []⟩,
 ⟨none, .store 1 (.tmp 11) (.tmp 9), none, []⟩]
def k_kit_Dice_next_r2 : List AOper := [
  ⟨some 12, .move (.tmp 0), none, []⟩,
 ⟨some 13, .nilCheck (.tmp 12), none, []⟩,
 ⟨some 14, .fieldAddr 0 (.tmp 13), none, []⟩,
 ⟨some 15, .load none (.tmp 14), none, []⟩,
 ⟨some 3, .move (.tmp 15), none, []⟩]
def k_kit_Dice_next_r3 : List AOper := [
  ⟨some 16, .move (.tmp 3), none, []⟩,
 ⟨some 17, .move (.tmp 3), none, []⟩,
 ⟨some 18, .bin .plain .shr (.tmp 17) (.const (.int .u64 30)), none, []⟩,
 ⟨some 19, .bin .plain .xor (.tmp 16) (.tmp 18), none, []⟩,
 ⟨some 20, .bin .plain .mul (.tmp 19) (.const (.int .u64 13787848793156543929)), none, []⟩,
 ⟨some 3, .move (.tmp 20), none, []⟩]
def k_kit_Dice_next_r4 : List AOper := [
  ⟨some 21, .move (.tmp 3), none, []⟩,
 ⟨some 22, .move (.tmp 3), none, []⟩,
 ⟨some 23, .bin .plain .shr (.tmp 22) (.const (.int .u64 27)), none, []⟩,
 ⟨some 24, .bin .plain .xor (.tmp 21) (.tmp 23), none, []⟩,
 ⟨some 25, .bin .plain .mul (.tmp 24) (.const (.int .u64 10723151780598845931)), none, []⟩,
 ⟨some 3, .move (.tmp 25), none, []⟩]
def k_kit_Dice_next_r5 : List AOper := [
  ⟨some 26, .move (.tmp 3), none, []⟩,
 ⟨some 27, .move (.tmp 3), none, []⟩,
 ⟨some 28, .bin .plain .shr (.tmp 27) (.const (.int .u64 31)), none, []⟩,
 ⟨some 29, .bin .plain .xor (.tmp 26) (.tmp 28), none, []⟩,
 ⟨some 2, .move (.tmp 29), none, []⟩]
def k_kit_Dice_next : AFun := { params := 1, ntmps := 30, body := (.seq (.reg k_kit_Dice_next_r0 false) (.seq (.reg k_kit_Dice_next_r1 false) (.seq (.reg k_kit_Dice_next_r2 false) (.seq (.reg k_kit_Dice_next_r3 false) (.seq (.reg k_kit_Dice_next_r4 false) (.seq (.reg k_kit_Dice_next_r5 false) .ret)))))), res := [.tmp 2] }
theorem k_kit_Dice_next_ok : cfun Try.prog Try.f80 = k_kit_Dice_next := by kernel_rfl


abbrev n_kit_NewDice : Nat := 22
theorem e_kit_NewDice : EntryOK Try.prog n_kit_NewDice k_kit_NewDice := ⟨Try.f22, Try.func22, k_kit_NewDice_ok, by kernel_rfl⟩
abbrev n_kit_Dice_Upto : Nat := 36
theorem e_kit_Dice_Upto : EntryOK Try.prog n_kit_Dice_Upto k_kit_Dice_Upto := ⟨Try.f36, Try.func36, k_kit_Dice_Upto_ok, by kernel_rfl⟩
abbrev n_kit_HuntOf : Nat := 51
theorem e_kit_HuntOf : EntryOK Try.prog n_kit_HuntOf k_kit_HuntOf := ⟨Try.f51, Try.func51, k_kit_HuntOf_ok, by kernel_rfl⟩
abbrev n_kit_Dice_One : Nat := 52
theorem e_kit_Dice_One : EntryOK Try.prog n_kit_Dice_One k_kit_Dice_One := ⟨Try.f52, Try.func52, k_kit_Dice_One_ok, by kernel_rfl⟩
abbrev n_kit_Dice_Between : Nat := 77
theorem e_kit_Dice_Between : EntryOK Try.prog n_kit_Dice_Between k_kit_Dice_Between := ⟨Try.f77, Try.func77, k_kit_Dice_Between_ok, by kernel_rfl⟩
abbrev n_kit_Dice_next : Nat := 80
theorem e_kit_Dice_next : EntryOK Try.prog n_kit_Dice_next k_kit_Dice_next := ⟨Try.f80, Try.func80, k_kit_Dice_next_ok, by kernel_rfl⟩

attribute [go_sem] k_kit_NewDice_r0 k_kit_NewDice_r1 k_kit_NewDice_r2 k_kit_NewDice_r3 k_kit_NewDice_r4s k_kit_NewDice_r5 k_kit_NewDice_r6 k_kit_NewDice_r8 k_kit_Dice_Upto_r0 k_kit_Dice_Upto_r1 k_kit_Dice_Upto_r2 k_kit_Dice_Upto_r3
attribute [go_sem] k_kit_Dice_Upto_r4 k_kit_HuntOf_r0 k_kit_HuntOf_r1 k_kit_HuntOf_r2 k_kit_HuntOf_r3 k_kit_HuntOf_r4 k_kit_HuntOf_r5 k_kit_HuntOf_r6 k_kit_HuntOf_r7 k_kit_HuntOf_r8 k_kit_HuntOf_r9 k_kit_HuntOf_r10
attribute [go_sem] k_kit_HuntOf_r11 k_kit_HuntOf_r13 k_kit_HuntOf_r14 k_kit_HuntOf_r16 k_kit_Dice_One_r0 k_kit_Dice_One_r1 k_kit_Dice_Between_r0 k_kit_Dice_Between_r1 k_kit_Dice_next_r0 k_kit_Dice_next_r1 k_kit_Dice_next_r2 k_kit_Dice_next_r3
attribute [go_sem] k_kit_Dice_next_r4 k_kit_Dice_next_r5 k_kit_NewDice_r4_sg k_kit_NewDice_r4_st k_kit_NewDice k_kit_Dice_Upto k_kit_HuntOf k_kit_Dice_One k_kit_Dice_Between k_kit_Dice_next
end Go.Proofs

namespace Go.Proofs
open Go Go.Sx
attribute [local irreducible] Run

theorem next_ok (w : Int) : Ans Try.prog n_kit_Dice_next [.ptr 0 0 0 1] [some (Dr w)] (.int .u64 (dmix (dstep w))) [some (Dr (dstep w))] := by
  refine spec_run e_kit_Dice_next fun G => ?_
  simp only [go_sem, Dr, dmix, dstep]
  exact ⟨_, rfl⟩

theorem upto_ok (w n : Int) (hn : n ≤ 9223372036854775807) : Ans Try.prog n_kit_Dice_Upto [.ptr 0 0 0 1, .int .i64 n] [some (Dr w)] (.int .i64 (upto w n)) [some (Dr (dstep w))] := by
  refine spec_run e_kit_Dice_Upto fun G => ?_
  simp only [go_sem]
  refine callD (next_ok w) rfl trivial (.int _ _) (dr_bel _ _) (dr_bel _ _) (by simp) (by simp) ?_
  simp only [go_sem]
  refine ⟨fun h => ⟨by simp [upto, h], by simp⟩, fun h => ?_⟩
  have hm : 0 ≤ dmix (dstep w) := (bitW_u64 _ _ _).1
  have h1 : IntKind.u64.wrap n = n := IntWalk.u64_in n (by omega)
  have h2 : (dmix (dstep w)).tmod n = dmix (dstep w) % n := Int.tmod_eq_emod_of_nonneg hm
  have h3 := Int.emod_nonneg (dmix (dstep w)) (show n ≠ 0 by omega)
  have h4 := Int.emod_lt_of_pos (dmix (dstep w)) (show 0 < n by omega)
  rw [h1, h2, IntWalk.i64_in _ (by omega)]
  refine ⟨by omega, by rw [upto, if_neg h], _, rfl⟩

theorem between_ok (w lo hi : Int) (h1 : -1152921504606846976 ≤ lo) (h2 : lo ≤ hi) (h3 : hi ≤ 1152921504606846976) : Ans Try.prog n_kit_Dice_Between [.ptr 0 0 0 1, .int .i64 lo, .int .i64 hi] [some (Dr w)] (.int .i64 (btw w lo hi)) [some (Dr (dstep w))] := by
  refine spec_run e_kit_Dice_Between fun G => ?_
  simp only [go_sem]
  rw [IntWalk.i64_in (hi - lo) (by omega), IntWalk.i64_in (hi - lo + 1) (by omega)]
  refine callD (upto_ok w _ (by omega)) rfl ⟨.int _ _, trivial⟩ (.int _ _) (dr_bel _ _) (dr_bel _ _) (by simp) (by simp) ?_
  have := btw_in (w := w) h2
  unfold btw at this
  simp only [go_sem]
  rw [IntWalk.i64_in _ (by omega)]
  exact ⟨rfl, _, rfl⟩

theorem newdice_ok (xs : List Int) (hl : xs.length ≤ 9223372036854775807) : Ans Try.prog n_kit_NewDice [.view (xs.map (.int .i64))] [] (.ptr 0 0 0 1) [some (Dr (seedW xs))] := by
  unfold seedW
  refine spec_run e_kit_NewDice fun G => ?_
  simp only [go_sem]
  have key : ∀ (zs : List Int) (i : Nat) (w : Int), xs.drop i = zs → i ≤ xs.length →
      Sx.Loop Try.prog G 0 none k_kit_NewDice_r7 [.blk 0, .seq (.seq (.reg k_kit_NewDice_r8 false) .ret)] ⟨[.view (xs.map (.int .i64)), .any, .nilptr, .ptr 0 0 0 1, .int .i64 i] ++ List.replicate 28 .any, [some (Dr w)], []⟩
        (RetPost [ARes.tmp 2] fun v H' => v = .ptr 0 0 0 1 ∧ ∃ X, H' = some (Dr (feed w zs)) :: X) := by
    intro zs
    induction zs with
    | nil =>
      intro i w hd hi
      have : xs.length ≤ i := by simpa using hd
      have h1 : ¬ (i : Int) < xs.length := by omega
      refine loop_body 200 k_kit_NewDice_r7.eq_1 ?_
      simp only [go_sem, h1, feed]
      exact ⟨_, rfl⟩
    | cons z zs ih =>
      intro i w hd hi
      have hx : xs[i]? = some z := by have := congrArg (·[0]?) hd; simpa using this
      have h1 : i < xs.length := (List.getElem?_eq_some_iff.1 hx).1
      have h2 : (i : Int) < xs.length := by omega
      have h3 : IntKind.i64.wrap ((i : Int) + 1) = ((i + 1 : Nat) : Int) := by rw [IntWalk.i64_in _ (by omega)]; rfl
      have hd' : xs.drop (i + 1) = zs := by have := congrArg (List.drop 1) hd; simpa [Nat.add_comm] using this
      refine loop_body 200 k_kit_NewDice_r7.eq_1 ?_
      simp only [go_sem, hx, h2, Dr]
      refine callD (next_ok _) rfl trivial (.int _ _) (dr_bel _ _) (dr_bel _ _) (by simp) (by simp) ?_
      simp only [go_sem, h3]
      refine loop_wk ?_ (ih (i + 1) _ hd' h1)
      simp [Wk]
  refine loop_wk ?_ (key xs 0 _ rfl (Nat.zero_le _))
  simp [Wk]

theorem one_ok (w n : Int) (hn : n ≤ 9223372036854775807) : Ans Try.prog n_kit_Dice_One [.ptr 0 0 0 1, .int .i64 n] [some (Dr w)] (.bool (upto w n == 0)) [some (Dr (dstep w))] := by
  refine spec_run e_kit_Dice_One fun G => ?_
  simp only [go_sem]
  refine cD (upto_ok w n hn) ?_
  simp only [go_sem]
  exact ⟨_, rfl⟩
def dstp : Nat → Int → Int
  | 0, w => w
  | n + 1, w => dstep (dstp n w)
def ofS (w : Int) : Nat → List Nat
  | 0 => []
  | i + 1 => if upto (dstp i w) 2 = 0 then ofS w i ++ [i] else ofS w i
def trS (n : Nat) (w : Int) : Tr := ⟨ofS (dstep (dstep w)) n, if upto (dstep w) 2 = 0 then 1 else upto w 9⟩
def trW (n : Nat) (w : Int) : Int := dstp n (dstep (dstep w))
def tsS (n : Nat) (w : Int) : Nat → List Tr × Int
  | 0 => ([], w)
  | j + 1 => ((tsS n w j).1 ++ [trS n (tsS n w j).2], trW n (tsS n w j).2)
def ofC (l : List Nat) : AVal := if l = [] then .nilsl else nvw l
def trC (t : Tr) : AVal := .agg [ofC t.of, .int .i64 t.cost]
def tsC (ts : List Tr) : AVal := if ts = [] then .nilsl else .view (ts.map trC)
def htC (n : Nat) (ts : List Tr) : AVal := .agg [.int .i64 n, tsC ts]
def hnN (w : Int) (m : Nat) : Nat := (btw w 1 m).toNat
def hnT (w : Int) (m k : Nat) : List Tr × Int := tsS (hnN w m) (dstep (dstep w)) (upto (dstep w) (k + 1)).toNat
theorem ofS_lt (w : Int) : ∀ n, ∀ k ∈ ofS w n, k < n
  | 0, k, h => by simp [ofS] at h
  | n + 1, k, h => by
    unfold ofS at h
    split at h
    · rcases List.mem_append.1 h with h | h
      · have := ofS_lt w n k h; omega
      · have : k = n := by simpa using h
        omega
    · have := ofS_lt w n k h; omega
theorem ofS_asc (w : Int) : ∀ n, Asc n (ofS w n)
  | 0 => ⟨by simp [ofS], fun k h => by simp [ofS] at h⟩
  | n + 1 => ⟨by
    unfold ofS
    split
    · rw [List.pairwise_append]
      exact ⟨(ofS_asc w n).1, List.pairwise_singleton _ _, fun a ha b hb => by
        have := ofS_lt w n a ha
        have : b = n := by simpa using hb
        omega⟩
    · exact (ofS_asc w n).1, ofS_lt w (n + 1)⟩
theorem trS_ok (n : Nat) (w : Int) : TrOK n (trS n w) := ⟨ofS_asc _ n, by
  have := upto_in (w := w) (n := 9) (by decide)
  show 0 ≤ (if upto (dstep w) 2 = 0 then (1 : Int) else upto w 9) ∧ (if upto (dstep w) 2 = 0 then (1 : Int) else upto w 9) ≤ 1000
  split <;> omega⟩
theorem tsS_ok (n : Nat) (w : Int) : ∀ j, ((tsS n w j).1.length = j) ∧ ∀ t ∈ (tsS n w j).1, TrOK n t
  | 0 => ⟨rfl, fun t h => by simp [tsS] at h⟩
  | j + 1 => by
    obtain ⟨a, b⟩ := tsS_ok n w j
    refine ⟨by simp [tsS, a], fun t h => ?_⟩
    simp only [tsS, List.mem_append, List.mem_singleton] at h
    rcases h with h | rfl
    · exact b t h
    · exact trS_ok n _
theorem hunt_ok (w : Int) {m k : Nat} (hm : 1 ≤ m ∧ m ≤ 12) (hk : k ≤ 11) : HtOK (hnN w m) (hnT w m k).1 := by
  have b := btw_in (w := w) (lo := 1) (hi := m) (by omega)
  have u := upto_in (w := dstep w) (n := k + 1) (by omega)
  obtain ⟨a, c⟩ := tsS_ok (hnN w m) (dstep (dstep w)) (upto (dstep w) (k + 1)).toNat
  exact ⟨by unfold hnN; omega, by unfold hnT; omega, c⟩
theorem of_all3 (H : Heap) (d : Nat) (l : List Nat) : All3 (Dat (d + 1) H) [] (l.map fun k : Nat => AVal.int .i64 (k : Int)) (l.map fun k : Nat => AVal.int .i64 (k : Int)) := by
  have := Dat.ints (d := d) (H := H) .i64 (l.map fun k : Nat => (k : Int))
  rwa [List.map_map] at this
theorem ofC_pure (l : List Nat) (d : Nat) : Pure (d + 2) (ofC l) := by
  unfold ofC
  split
  · exact rfl
  · rename_i h
    exact ⟨by simpa using h, fun e he => by obtain ⟨x, -, rfl⟩ := List.mem_map.1 he; exact rfl⟩
theorem trC_pure (t : Tr) (d : Nat) : Pure (d + 3) (trC t) := fun e he => by
  simp only [List.mem_cons, List.not_mem_nil, or_false] at he
  rcases he with rfl | rfl
  · exact ofC_pure _ _
  · exact rfl
theorem htC_pure (n : Nat) (ts : List Tr) : Pure 6 (htC n ts) := fun e he => by
  simp only [List.mem_cons, List.not_mem_nil, or_false] at he
  rcases he with rfl | rfl
  · exact rfl
  · unfold tsC
    split
    · exact rfl
    · rename_i h
      exact ⟨by simpa using h, fun e he => by obtain ⟨x, -, rfl⟩ := List.mem_map.1 he; exact trC_pure x _⟩
end Go.Proofs

