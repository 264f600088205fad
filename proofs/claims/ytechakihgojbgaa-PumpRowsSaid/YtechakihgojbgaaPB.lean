/- A part of the proof. -/
import Derived.Test.YtechakihgojbgaaPA
import Derived.IntWalk
set_option linter.unusedSimpArgs false
set_option linter.unusedVariables false
namespace Go.Proofs
open Go Go.Sx

end Go.Proofs

namespace Go.Proofs
open Go Go.Sx
def yes : Option (AVal × Heap) → Bool
  | some (.bool b, _) => b
  | _ => false
theorem yes_ans {P : Program} (hm : P.follows .mixedOrders = true) {tab : Nat → Option AFun} (hT : ∀ g af, tab g = some af → EntryOK P g af) {m n g : Nat} (h : yes (exFn tab m n g [] []) = true) : Ans P g [] [] (.bool true) [] := by
  match hx : exFn tab m n g [] [] with
  | none => rw [hx] at h; cases h
  | some (v, H') =>
    rw [hx] at h
    cases v <;> try (cases h; done)
    rename_i b
    have hb : b = true := h
    subst hb
    exact (spec_ex hm hT hx).mono fun v H'' hv => ⟨hv.1, H'', rfl⟩
theorem awake_yes : yes (exFn tab 3000 40 n_law06_awake [] []) = true := by kernel_rfl
theorem awake_ok : Ans Try.prog n_law06_awake [] [] (.bool true) [] := yes_ans mixed tab_ok awake_yes
end Go.Proofs

namespace Go.Proofs
open Go Go.Sx

def Dr (w : Int) : Row := .cells false 1 [.agg [.int .u64 w]]
theorem dr_bel (w : Int) (S : Nat → Prop) : (Dr w).bel S := by unfold Dr; rw [row_bel_cells]; simp only [go_sem]

structure Rg where
  lo : Int
  hi : Int
  deriving Inhabited, DecidableEq

def Rg.v (r : Rg) : AVal := .agg [.int .i64 r.lo, .int .i64 r.hi]
@[go_sem] theorem rg_bel_eq (r : Rg) (S : Nat → Prop) : Bel S r.v = True := by unfold Rg.v; simp only [go_sem]
@[go_sem] theorem rg_nv (r : Rg) : NV r.v = True := by unfold Rg.v; simp only [go_sem]
@[go_sem] theorem dr_bel_eq (w : Int) (S : Nat → Prop) : (Dr w).bel S = True := eq_true (dr_bel w S)
theorem w64 {n : Int} (h : -9223372036854775808 ≤ n ∧ n ≤ 9223372036854775807) : IntKind.i64.wrap n = n := IntWalk.i64_in _ h
end Go.Proofs

namespace Go.Proofs
open Go Go.Sx
attribute [local irreducible] Run

theorem u16_wrap {n : Nat} (h : n < 65536) : IntKind.u16.wrap (n : Int) = n := by
  have : IntKind.u16.wrap (n : Int) = (n : Int) % 65536 := rfl
  rw [this]; omega
theorem and16 {s t : Nat} (hs : s < 65536) (ht : t < 65536) : bitW .and .u16 (s : Int) (t : Int) = ((s &&& t : Nat) : Int) := by
  have h1 : (BitVec.ofInt 16 (s : Int)).toNat = s := by simp [BitVec.toNat_ofInt]; omega
  have h2 : (BitVec.ofInt 16 (t : Int)).toNat = t := by simp [BitVec.toNat_ofInt]; omega
  show IntKind.u16.wrap (((BitVec.ofInt 16 (s : Int) &&& BitVec.ofInt 16 (t : Int)).toNat : Nat) : Int) = _
  rw [BitVec.toNat_and, h1, h2]
  exact u16_wrap (Nat.lt_of_le_of_lt Nat.and_le_left hs)
theorem andNot16 {s t : Nat} (hs : s < 65536) (ht : t < 65536) : bitW .andNot .u16 (s : Int) (t : Int) = ((s &&& (65535 - t) : Nat) : Int) := by
  have h1 : (BitVec.ofInt 16 (s : Int)).toNat = s := by simp [BitVec.toNat_ofInt]; omega
  have h2 : (BitVec.ofInt 16 (t : Int)).toNat = t := by simp [BitVec.toNat_ofInt]; omega
  show IntKind.u16.wrap (((BitVec.ofInt 16 (s : Int) &&& ~~~ BitVec.ofInt 16 (t : Int)).toNat : Nat) : Int) = _
  rw [BitVec.toNat_and, BitVec.toNat_not, h1, h2]
  exact u16_wrap (Nat.lt_of_le_of_lt Nat.and_le_left hs)
def popS : List UInt8 := [0, 1, 1, 2, 1, 2, 2, 3, 1, 2, 2, 3, 2, 3, 3, 4, 1, 2, 2, 3, 2, 3, 3, 4, 2, 3, 3, 4, 3, 4, 4, 5, 1, 2, 2, 3, 2, 3, 3, 4, 2, 3, 3, 4, 3, 4, 4, 5, 2, 3, 3, 4, 3, 4, 4, 5, 3, 4, 4, 5, 4, 5, 5, 6, 1, 2, 2, 3, 2, 3, 3, 4, 2, 3, 3, 4, 3, 4, 4, 5, 2, 3, 3, 4, 3, 4, 4, 5, 3, 4, 4, 5, 4, 5, 5, 6, 2, 3, 3, 4, 3, 4, 4, 5, 3, 4, 4, 5, 4, 5, 5, 6, 3, 4, 4, 5, 4, 5, 5, 6, 4, 5, 5, 6, 5, 6, 6, 7, 1, 2, 2, 3, 2, 3, 3, 4, 2, 3, 3, 4, 3, 4, 4, 5, 2, 3, 3, 4, 3, 4, 4, 5, 3, 4, 4, 5, 4, 5, 5, 6, 2, 3, 3, 4, 3, 4, 4, 5, 3, 4, 4, 5, 4, 5, 5, 6, 3, 4, 4, 5, 4, 5, 5, 6, 4, 5, 5, 6, 5, 6, 6, 7, 2, 3, 3, 4, 3, 4, 4, 5, 3, 4, 4, 5, 4, 5, 5, 6, 3, 4, 4, 5, 4, 5, 5, 6, 4, 5, 5, 6, 5, 6, 6, 7, 3, 4, 4, 5, 4, 5, 5, 6, 4, 5, 5, 6, 5, 6, 6, 7, 4, 5, 5, 6, 5, 6, 6, 7, 5, 6, 6, 7, 6, 7, 7, 8]
def popc (i : Nat) : Nat := (popS.getD i 0).toNat
set_option maxRecDepth 100000 in
theorem popc_le : ∀ i, popc i ≤ 8 := by
  have h : popS.all (fun b => b.toNat ≤ 8) = true := by decide
  intro i
  unfold popc
  rw [List.getD_eq_getElem?_getD]
  match hx : popS[i]? with
  | none => simp
  | some b => 
    have := List.all_eq_true.1 h b (List.mem_of_getElem? hx)
    simpa using this
def one1 (s : Nat) : Bool := popc (s / 256) + popc (s % 256) == 1
set_option maxRecDepth 100000 in
theorem popc_get {i : Nat} (h : i < 256) : ∃ b, popS[i]? = some b ∧ b.toNat = popc i := by
  have hl : popS.length = 256 := by decide
  refine ⟨popS[i]'(by omega), List.getElem?_eq_getElem _, ?_⟩
  unfold popc
  rw [List.getD_eq_getElem?_getD, List.getElem?_eq_getElem (by omega)]; rfl
set_option maxRecDepth 100000 in
theorem isOne_run {s : Nat} (hs : s < 65536) : Ans Try.prog n_pump_set_isOne [.int .u16 s] [] (.bool (one1 s)) [] := by
  have l1 := popc_le (s / 256)
  have l2 := popc_le (s % 256)
  have k : Ans Try.prog n_bits_OnesCount16 [.int .u16 s] [] (.int .i64 ((popc (s / 256) + popc (s % 256) : Nat) : Int)) [] := by
    obtain ⟨b1, g1, p1⟩ := popc_get (i := s / 256) (by omega)
    obtain ⟨b2, g2, p2⟩ := popc_get (i := s % 256) (by omega)
    rw [← p1] at l1
    rw [← p2] at l2
    rw [← p1, ← p2]
    refine spec_run e_bits_OnesCount16 fun G => ?_
    have h1 : shrW .u16 (s : Int) 8 = ((s / 256 : Nat) : Int) := by
      show Int.fdiv (s : Int) 256 = _
      rw [Int.fdiv_eq_ediv_of_nonneg _ (by decide)]; rfl
    have h2 : bitW .and .u16 (s : Int) 255 = ((s % 256 : Nat) : Int) := by
      have := and16 (t := 255) hs (by decide)
      rw [show ((255 : Nat) : Int) = 255 from rfl] at this
      rw [this, show (255 : Nat) = 2 ^ 8 - 1 from rfl, Nat.and_two_pow_sub_one_eq_mod]
    have w1 : IntKind.u8.wrap ((b1.toNat : Int) + b2.toNat) = (b1.toNat : Int) + b2.toNat := by
      have : IntKind.u8.wrap ((b1.toNat : Int) + b2.toNat) = ((b1.toNat : Int) + b2.toNat) % 256 := rfl
      rw [this]; omega
    have w2 : IntKind.i64.wrap ((b1.toNat : Int) + b2.toNat) = (b1.toNat : Int) + b2.toNat := w64 (by omega)
    unfold popS at g1 g2
    simp only [go_sem, h1, h2, g1, g2, w1, w2]
    omega
  refine spec_run e_pump_set_isOne fun G => ?_
  simp only [go_sem]
  refine cP k ?_
  have e : (((popc (s / 256) + popc (s % 256) : Nat) : Int) == 1) = one1 s := by
    unfold one1
    generalize popc (s / 256) + popc (s % 256) = m
    by_cases h : m = 1
    · subst h; rfl
    · rw [beq_eq_false_iff_ne.2 h, beq_eq_false_iff_ne.2 (by omega)]
  simp only [go_sem, e]
end Go.Proofs

namespace Go.Proofs
open Go Go.Sx
attribute [local irreducible] Run

structure Pl where
  told : Bool
  cost : Int
  trial : Int
def Pl.v (p : Pl) : AVal := .agg [.bool p.told, .int .i64 p.cost, .int .i64 p.trial]
abbrev PM := List (Nat × Pl)
def fnd (k : Nat) : PM → Option Pl
  | [] => none
  | (k', p) :: M => if k = k' then some p else fnd k M
def upd (k : Nat) (p : Pl) : PM → PM
  | [] => [(k, p)]
  | (k', q) :: M => if k = k' then (k', p) :: M else (k', q) :: upd k p M
def mks (M : PM) : List Int := M.map fun p => (p.1 : Int)
def mvs (M : PM) : List AVal := M.map fun p => p.2.v
def mrow (M : PM) : Row := .mapr .u16 (mks M) (mvs M)
theorem mfind_of_none {k : Nat} : ∀ {M : PM} (i : Nat), fnd k M = none → mfind (k : Int) (mks M) i = none
  | [], _, _ => rfl
  | (k', p) :: M, i, h => by
    simp only [fnd] at h
    split at h
    · cases h
    · rename_i hk
      have h2 := mfind_of_none (i + 1) h
      simp only [mks, List.map_cons, mfind] at h2 ⊢
      rw [if_neg (by omega)]; exact h2
theorem mfind_of_some {k : Nat} {p : Pl} : ∀ {M : PM} (i : Nat), fnd k M = some p → ∃ j, mfind (k : Int) (mks M) i = some (i + j) ∧ (mvs M).getD j .any = p.v ∧ ∀ q : Pl, mks (upd k q M) = mks M ∧ mvs (upd k q M) = (mvs M).set j q.v
  | [], _, h => by cases h
  | (k', p') :: M, i, h => by
    simp only [fnd] at h
    split at h
    · rename_i hk
      subst hk
      cases h
      exact ⟨0, by simp [mks, mfind], by simp [mvs], fun q => by simp [mks, mvs, upd]⟩
    · rename_i hk
      obtain ⟨j, h1, h2, h3⟩ := mfind_of_some (i + 1) h
      refine ⟨j + 1, ?_, ?_, fun q => ?_⟩
      · simp only [mks, List.map_cons, mfind] at h1 ⊢
        rw [if_neg (by omega), h1]
        congr 1; omega
      · simpa [mvs] using h2
      · obtain ⟨a, b⟩ := h3 q
        simp only [upd, if_neg hk]
        exact ⟨by simp only [mks, List.map_cons] at a ⊢; rw [a], by simp only [mvs, List.map_cons, List.set_cons_succ] at b ⊢; rw [b]⟩
theorem upd_none {k : Nat} {q : Pl} : ∀ {M : PM}, fnd k M = none → mks (upd k q M) = mks M ++ [(k : Int)] ∧ mvs (upd k q M) = mvs M ++ [q.v]
  | [], _ => ⟨rfl, rfl⟩
  | (k', p) :: M, h => by
    simp only [fnd] at h
    split at h
    · cases h
    · rename_i hk
      obtain ⟨a, b⟩ := upd_none (q := q) h
      simp only [upd, if_neg hk]
      exact ⟨by simp only [mks, List.map_cons, List.cons_append] at a ⊢; rw [a], by simp only [mvs, List.map_cons, List.cons_append] at b ⊢; rw [b]⟩
def withF (pl : Nat → PM → Pl × PM) (of : List Nat) (cs : List Int) (n s : Nat) (M : PM) : (Int × Bool) × PM :=
  if s &&& of.getD n 0 = 0 ∨ s &&& (65535 - of.getD n 0) = 0 then ((0, false), M) else
  ((IntKind.i64.wrap (cs.getD n 0 + (if (pl (s &&& (65535 - of.getD n 0)) (pl (s &&& of.getD n 0) M).2).1.cost > (pl (s &&& of.getD n 0) M).1.cost then (pl (s &&& (65535 - of.getD n 0)) (pl (s &&& of.getD n 0) M).2).1.cost else (pl (s &&& of.getD n 0) M).1.cost)),
    (pl (s &&& of.getD n 0) M).1.told && (pl (s &&& (65535 - of.getD n 0)) (pl (s &&& of.getD n 0) M).2).1.told), (pl (s &&& (65535 - of.getD n 0)) (pl (s &&& of.getD n 0) M).2).2)
def rndF (n : Nat) (b : Pl) (x : (Int × Bool) × PM) : Pl × PM :=
  (if x.1.2 && (!b.told || decide (x.1.1 < b.cost)) then ⟨true, x.1.1, n⟩ else b, x.2)
def loopF (pl : Nat → PM → Pl × PM) (of : List Nat) (cs : List Int) (s : Nat) (M : PM) : Nat → Pl × PM
  | 0 => (⟨false, 0, 0⟩, M)
  | n + 1 => rndF n (loopF pl of cs s M n).1 (withF pl of cs n s (loopF pl of cs s M n).2)
def planF (of : List Nat) (cs : List Int) : Nat → Nat → PM → Pl × PM
  | 0, _, M => (⟨false, 0, 0⟩, M)
  | f + 1, s, M =>
    if one1 s = true then (⟨true, 0, -1⟩, M) else
    match fnd s M with
    | some p => (p, M)
    | none => ((loopF (planF of cs f) of cs s M of.length).1, upd s (loopF (planF of cs f) of cs s M of.length).1 (loopF (planF of cs f) of cs s M of.length).2)
def huV (n : Nat) : AVal := .agg [.sl 0 0 n, .sl 1 0 n, .mp 2]
def ofV (of : List Nat) : List AVal := of.map fun t : Nat => AVal.int .u16 (t : Int)
def huH (of : List Nat) (cs : List Int) (M : PM) : Heap := [some (.cells true 1 (ofV of)), some (.cells true 1 (cs.map (.int .i64))), some (mrow M)]
theorem bit_ne {s t : Nat} (hs : s < 65536) (ht : t < 65536) (h : s &&& (65535 - t) ≠ 0) : s &&& t < s := by
  refine Nat.lt_of_le_of_ne Nat.and_le_left fun e => h ?_
  apply Nat.eq_of_testBit_eq
  intro i
  have h1 := congrArg (·.testBit i) e
  simp only [Nat.testBit_and, Nat.zero_testBit] at h1 ⊢
  rw [show 65535 - t = 2 ^ 16 - (t + 1) by omega, Nat.testBit_two_pow_sub_succ ht]
  cases hx : s.testBit i <;> cases hy : t.testBit i <;> simp_all
theorem bit_ne2 {s t : Nat} (hs : s < 65536) (ht : t < 65536) (h : s &&& t ≠ 0) : s &&& (65535 - t) < s := by
  refine Nat.lt_of_le_of_ne Nat.and_le_left fun e => h ?_
  apply Nat.eq_of_testBit_eq
  intro i
  have h1 := congrArg (·.testBit i) e
  simp only [Nat.testBit_and, Nat.zero_testBit] at h1 ⊢
  rw [show 65535 - t = 2 ^ 16 - (t + 1) by omega, Nat.testBit_two_pow_sub_succ ht] at h1
  cases hx : s.testBit i <;> cases hy : t.testBit i <;> simp_all
theorem mrow_bel {S : Nat → Prop} (M : PM) : (mrow M).bel S := by
  intro i hi
  simp only [mvs, List.length_map] at hi
  rw [List.getD_eq_getElem?_getD, mvs, List.getElem?_map, List.getElem?_eq_getElem hi]
  simp [go_sem, Pl.v]
theorem huH_full (of : List Nat) (cs : List Int) (M : PM) (S : Nat → Prop) : Full S (huH of cs M) := by
  refine ⟨?_, ?_, mrow_bel M, trivial⟩
  · rw [row_bel_cells]; exact bels_of fun v hv => by
      simp only [ofV, List.mem_map] at hv
      obtain ⟨t, -, rfl⟩ := hv
      simp [go_sem]
  · rw [row_bel_cells]; exact bels_of fun v hv => by
      simp only [List.mem_map] at hv
      obtain ⟨t, -, rfl⟩ := hv
      simp [go_sem]
theorem pl_bel (p : Pl) (S : Nat → Prop) : Bel S p.v := by unfold Pl.v; simp only [go_sem]
theorem huV_bel (n : Nat) : Bel (· < 3) (huV n) := by
  unfold huV
  rw [bel_agg]
  exact ⟨by rw [bel_sl]; omega, by rw [bel_sl]; omega, .mp 2 (by omega), trivial⟩
theorem huH_at {of : List Nat} {cs : List Int} {M : PM} (X : Heap) (f : Nat → Nat) : rowsOK (huH of cs M ++ X) (nth [0, 1, 2]) [0, 1, 2] (huH of cs M) := by
  obtain ⟨a, b, c, -⟩ := huH_full of cs M (fun _ => False)
  exact ⟨by rw [Row.ren_same a]; rfl, by rw [Row.ren_same b]; rfl, by rw [Row.ren_same c]; rfl, trivial⟩
theorem hu_out {of : List Nat} {cs : List Int} {M' : PM} (n : Nat) : outΔ (outσ [0, 1, 2] n) 0 (huH of cs M') = [(0, .cells true 1 (ofV of)), (1, .cells true 1 (cs.map (.int .i64))), (2, mrow M')] := by
  obtain ⟨a, b, c, -⟩ := huH_full of cs M' (fun _ => False)
  unfold huH
  simp only [outΔ, Row.ren_same a, Row.ren_same b, Row.ren_same c]
  rfl
set_option maxHeartbeats 4000000 in
set_option maxRecDepth 20000 in
theorem withA {of : List Nat} {cs : List Int} (hof : ∀ t ∈ of, t < 65536) (hlen : cs.length = of.length) (hl : of.length ≤ 1000) {f : Nat}
    (ih : ∀ s M, s < f → s < 65536 → Ans Try.prog n_pump_hunter_plan [huV of.length, .int .u16 s] (huH of cs M) (planF of cs f s M).1.v (huH of cs (planF of cs f s M).2))
    {n s : Nat} (hn : n < of.length) (hs : s < 65536) (hf : s < f + 1) (M : PM) :
    Ans Try.prog n_pump_hunter_with [huV of.length, .int .i64 n, .int .u16 s] (huH of cs M) (.tup [.int .i64 (withF (planF of cs f) of cs n s M).1.1, .bool (withF (planF of cs f) of cs n s M).1.2]) (huH of cs (withF (planF of cs f) of cs n s M).2) := by
  have ht : of.getD n 0 = of[n] := by rw [List.getD_eq_getElem?_getD, List.getElem?_eq_getElem hn]; rfl
  have hc : cs.getD n 0 = cs[n]'(by omega) := by rw [List.getD_eq_getElem?_getD, List.getElem?_eq_getElem (by omega)]; rfl
  have g1 : of[n]? = some of[n] := List.getElem?_eq_getElem hn
  have g2 : cs[n]? = some (cs[n]'(by omega)) := List.getElem?_eq_getElem (by omega)
  have ht2 := hof of[n] (List.getElem_mem hn)
  unfold withF
  rw [ht, hc]
  generalize of[n] = t at *
  generalize cs[n]'(by omega) = c at *
  have b1 := and16 hs ht2
  have b2 := andNot16 hs ht2
  have ni : ¬ (n : Int) < 0 := by omega
  have nl : (n : Int) < of.length := by omega
  have z1 : ∀ a : Nat, ((a : Int) == 0) = decide (a = 0) := fun a => by
    by_cases h : a = 0
    · subst h; rfl
    · rw [beq_eq_false_iff_ne.2 (by omega), decide_eq_false h]
  refine spec_run e_pump_hunter_with fun G => ?_
  simp only [go_sem, huV, huH, ofV, List.length_map, g1, b1, b2, ni, nl, z1]
  by_cases a0 : s &&& t = 0
  · simp only [go_sem, a0]
    exact ⟨_, rfl⟩
  by_cases c0 : s &&& (65535 - t) = 0
  · simp only [go_sem, a0, c0]
    exact ⟨_, rfl⟩
  rw [if_neg (by rintro (h | h) <;> contradiction)]
  simp only [go_sem, a0, c0]
  have i1 := ih (s &&& t) M (by have := bit_ne hs ht2 c0; omega) (by have := bit_ne hs ht2 c0; omega)
  generalize planF of cs f (s &&& t) M = r1 at *
  have i2 := ih (s &&& (65535 - t)) r1.2 (by have := bit_ne2 hs ht2 a0; omega) (by have := bit_ne2 hs ht2 a0; omega)
  generalize planF of cs f (s &&& (65535 - t)) r1.2 = r2 at *
  refine dS i1 [0, 1, 2] (by decide) (huH_at _ id) rfl ⟨huV_bel _, by simp only [go_sem], trivial⟩ (huH_full _ _ _ _) rfl (pl_bel _ _) (huH_full _ _ _ _) (by simp) (by simp) ?_ ?_
  · rw [hu_out]; rfl
  rw [hu_out]
  simp only [go_sem]
  refine dS i2 [0, 1, 2] (by decide) (huH_at _ id) rfl ⟨huV_bel _, by simp only [go_sem], trivial⟩ (huH_full _ _ _ _) rfl (pl_bel _ _) (huH_full _ _ _ _) (by simp) (by simp) ?_ ?_
  · rw [hu_out]; rfl
  rw [hu_out]
  simp only [go_sem, Pl.v, g2]
  refine ⟨⟨hlen.symm, nl⟩, fun h => ⟨by rw [h, Bool.true_and], _, rfl⟩, fun h => ⟨by rw [h, Bool.false_and], _, rfl⟩⟩
set_option maxHeartbeats 4000000 in
set_option maxRecDepth 20000 in
theorem planA {of : List Nat} {cs : List Int} (hof : ∀ t ∈ of, t < 65536) (hlen : cs.length = of.length) (hl : of.length ≤ 1000) :
    ∀ (f s : Nat) (M : PM), s < f → s < 65536 → Ans Try.prog n_pump_hunter_plan [huV of.length, .int .u16 (s : Int)] (huH of cs M) (planF of cs f s M).1.v (huH of cs (planF of cs f s M).2)
  | 0, s, M, h, _ => absurd h (Nat.not_lt_zero _)
  | f + 1, s, M, hf, hs => by
    have ih := planA hof hlen hl f
    have k1 := isOne_run hs
    rw [planF]
    generalize hpl : planF of cs f = pl at *
    refine spec_run e_pump_hunter_plan fun G => ?_
    simp only [go_sem, huV, huH, List.length_map]
    refine cP k1 ?_
    by_cases h1 : one1 s = true
    · rw [if_pos h1, h1]
      simp only [go_sem, Pl.v]
      exact ⟨_, rfl⟩
    rw [if_neg h1]
    rw [Bool.not_eq_true] at h1
    rw [h1]
    simp only [go_sem, mrow]
    have ofl : (ofV of).length = of.length := by simp [ofV]
    match hx : fnd s M with
    | some p =>
      obtain ⟨j, e1, e2, -⟩ := mfind_of_some 0 hx
      simp only [Pl.v] at e2 ⊢
      simp only [go_sem, e1, e2, lkV]
      exact ⟨_, rfl⟩
    | none =>
      have e1 := mfind_of_none 0 hx
      simp only [go_sem, e1, lkV, ofl]
      refine loop_ind k_pump_hunter_plan_r14.eq_1 (fun n : Nat => n ≤ of.length) (fun n => of.length - n)
        (fun n => (tsets 57 [(1, .int .u16 (s : Int)), (2, .ptr 3 0 0 1), (4, .ptr 4 0 0 1), (7, .ptr 6 0 0 1), (25, .int .i64 of.length), (26, .int .i64 n)],
          huH of cs (loopF pl of cs s M n).2 ++ [some (.cells false 3 [huV of.length]), some (.cells false 3 [.agg [.bool false, .int .i64 0, .int .i64 0]]), some (.cells false 3 [.agg [.bool false, .int .i64 0, .int .i64 0]]), some (.cells false 3 [(loopF pl of cs s M n).1.v])])) 0 (Nat.zero_le _) (by simp [go_sem]) rfl ?_
      intro n hn ih2
      dsimp only at hn ih2 ⊢
      by_cases n1 : n < of.length
      · have n2 : (n : Int) < of.length := by omega
        have w5 : IntKind.i64.wrap ((n : Int) + 1) = ((n + 1 : Nat) : Int) := by rw [w64 (by omega)]; rfl
        have kw := withA hof hlen hl (f := f) (n := n) (s := s) (by rw [hpl]; exact ih) n1 hs hf (loopF pl of cs s M n).2
        rw [hpl] at kw
        have ihk := ih2 (n + 1) (by omega) (by omega)
        clear ih2
        rw [loopF] at ihk
        generalize loopF pl of cs s M n = st at *
        generalize withF pl of cs n s st.2 = wf at *
        simp only [go_sem, huH, n2, mrow, huV]
        refine callS kw [0, 1, 2] (by decide) (huH_at _ id) rfl ⟨huV_bel _, by simp only [go_sem], by simp only [go_sem], trivial⟩ (huH_full _ _ _ _) (Nat.le_refl _) (by simp only [go_sem]) (huH_full _ _ _ _) (by simp) (by simp) (by simp) ?_
        rw [hu_out]
        have leaf : ∀ X : Pl, (rndF n st.1 wf).1 = X → ∀ ρ', Wk ρ' (tsets 57 [(1, .int .u16 (s : Int)), (2, .ptr 3 0 0 1), (4, .ptr 4 0 0 1), (7, .ptr 6 0 0 1), (25, .int .i64 of.length), (26, .int .i64 ((n + 1 : Nat) : Int))]) → _ := fun X hX ρ' hw => by
          have := ihk ρ' hw
          rw [hX] at this
          exact this
        clear ihk
        simp only [go_sem, ren, rens, Pl.v, w5]
        refine ⟨fun a => ⟨fun b => ⟨fun c => ?_, fun c => ?_⟩, fun b => ?_⟩, fun a => ?_⟩
        · exact leaf ⟨true, wf.1.1, n⟩ (by simp [rndF, a, c]) _ (by simp [go_sem])
        · exact leaf st.1 (by simp [rndF, a, b, c]) _ (by simp [go_sem])
        · exact leaf ⟨true, wf.1.1, n⟩ (by simp [rndF, a, b]) _ (by simp [go_sem])
        · exact leaf st.1 (by simp [rndF, a]) _ (by simp [go_sem])
      · obtain rfl : n = of.length := by omega
        have n2 : ¬ (of.length : Int) < of.length := by omega
        clear ih2
        generalize loopF pl of cs s M of.length = st at *
        match hy : fnd s st.2 with
        | some q =>
          obtain ⟨j, e2, e3, e4⟩ := mfind_of_some 0 hy
          obtain ⟨u1, u2⟩ := e4 st.1
          simp only [go_sem, huH, n2, mrow, huV, Pl.v, e2]
          rw [u1, u2]
          exact ⟨_, rfl⟩
        | none =>
          have e2 := mfind_of_none 0 hy
          obtain ⟨u1, u2⟩ := upd_none (q := st.1) hy
          simp only [go_sem, huH, n2, mrow, huV, Pl.v, e2]
          rw [u1, u2]
          exact ⟨_, rfl⟩
end Go.Proofs

namespace Go.Proofs
open Go Go.Sx
attribute [local irreducible] Run

def nvw (l : List Nat) : AVal := .view (l.map fun k : Nat => AVal.int .i64 (k : Int))
def Asc (n : Nat) (l : List Nat) : Prop := l.Pairwise (· < ·) ∧ ∀ k ∈ l, k < n
theorem asc_len {n : Nat} : ∀ {l : List Nat} {a : Nat}, l.Pairwise (· < ·) → (∀ k ∈ l, a ≤ k ∧ k < n) → l.length ≤ n - a
  | [], _, _, _ => Nat.zero_le _
  | k :: l, a, h, hl => by
    rw [List.pairwise_cons] at h
    have h1 := hl k (by simp)
    have h2 := asc_len (n := n) (l := l) (a := k + 1) h.2 fun q hq => ⟨h.1 q hq, (hl q (by simp [hq])).2⟩
    rw [List.length_cons]
    omega
theorem Asc.len {n : Nat} {l : List Nat} (h : Asc n l) : l.length ≤ n := by
  have := asc_len (n := n) (a := 0) h.1 fun k hk => ⟨Nat.zero_le _, h.2 k hk⟩
  omega
def setN (l : List Nat) : Nat := l.foldl (fun s k => s ||| 2 ^ k) 0
def wiP (n a b : Int) : Bool := decide (a ≤ n ∧ n ≤ b)
theorem pwithin_run (n a b : Int) : Ans Try.prog n_pump_within [.int .i64 n, .int .i64 a, .int .i64 b] [] (.bool (wiP n a b)) [] := by
  refine spec_run e_pump_within fun G => ?_
  unfold wiP
  by_cases h1 : a ≤ n
  · by_cases h2 : n ≤ b
    · simp only [go_sem, h1, h2]
    · simp only [go_sem, h1, h2]
  · simp only [go_sem, h1]
theorem or16 {s t : Nat} (hs : s < 65536) (ht : t < 65536) : bitW .or .u16 (s : Int) (t : Int) = ((s ||| t : Nat) : Int) := by
  have h1 : (BitVec.ofInt 16 (s : Int)).toNat = s := by simp [BitVec.toNat_ofInt]; omega
  have h2 : (BitVec.ofInt 16 (t : Int)).toNat = t := by simp [BitVec.toNat_ofInt]; omega
  show IntKind.u16.wrap (((BitVec.ofInt 16 (s : Int) ||| BitVec.ofInt 16 (t : Int)).toNat : Nat) : Int) = _
  rw [BitVec.toNat_or, h1, h2]
  exact u16_wrap (Nat.or_lt_two_pow (n := 16) hs ht)
theorem shl16 {k : Nat} (h : k < 16) : shlW .u16 1 (k : Int) = ((2 ^ k : Nat) : Int) := by
  have : ∀ k : Fin 16, shlW .u16 1 ((k : Nat) : Int) = ((2 ^ (k : Nat) : Nat) : Int) := by decide
  exact this ⟨k, h⟩
theorem setN_lt {n : Nat} (hn : n ≤ 16) : ∀ {l : List Nat} {s : Nat}, (∀ k ∈ l, k < n) → s < 65536 → l.foldl (fun s k => s ||| 2 ^ k) s < 65536
  | [], s, _, hs => hs
  | k :: l, s, h, hs => by
    rw [List.foldl_cons]
    exact setN_lt hn (fun q hq => h q (by simp [hq])) (Nat.or_lt_two_pow (n := 16) hs (Nat.lt_of_lt_of_le (Nat.pow_lt_pow_right (by decide) (h k (by simp))) (Nat.pow_le_pow_right (by decide) hn)))
set_option maxRecDepth 20000 in
theorem setOf_run {n : Nat} (hn : n ≤ 16) {l : List Nat} (hl : ∀ k ∈ l, k < n) (hlen : l.length ≤ 1000000) : Ans Try.prog n_pump_setOf [nvw l] [] (.int .u16 (setN l)) [] := by
  unfold setN nvw
  refine spec_run e_pump_setOf fun G => ?_
  simp only [go_sem, List.length_map]
  refine loop_ind k_pump_setOf_r7.eq_1 (fun i : Nat => i ≤ l.length) (fun i => l.length - i)
    (fun i => (tsets 18 [(3, .int .u16 ((l.take i).foldl (fun s k => s ||| 2 ^ k) 0 : Nat)), (6, .view (l.map fun k : Nat => AVal.int .i64 (k : Int))), (7, .int .i64 l.length), (8, .int .i64 i)], [])) 0 (Nat.zero_le _) (by simp [go_sem]) rfl ?_
  intro i hi ih
  dsimp only at hi ih ⊢
  by_cases i1 : i < l.length
  · have i2 : (i : Int) < l.length := by omega
    have ni : ¬ (i : Int) < 0 := by omega
    have w5 : IntKind.i64.wrap ((i : Int) + 1) = ((i + 1 : Nat) : Int) := by rw [w64 (by omega)]; rfl
    have hz : l[i]? = some l[i] := List.getElem?_eq_getElem i1
    have hk := hl l[i] (List.getElem_mem i1)
    have ihk := ih (i + 1) (by omega) (by omega)
    clear ih
    rw [List.take_add_one, hz, List.foldl_append] at ihk
    have hb : (l.take i).foldl (fun s k => s ||| 2 ^ k) 0 < 65536 := setN_lt hn (fun k hk => hl k (List.mem_of_mem_take hk)) (by decide)
    generalize (l.take i).foldl (fun s k => s ||| 2 ^ k) 0 = s at *
    generalize l[i] = k at *
    have s1 := shl16 (k := k) (by omega)
    have s2 := or16 hb (t := 2 ^ k) (Nat.pow_lt_pow_right (by decide) (show k < 16 by omega))
    have nk : ¬ (k : Int) < 0 := by omega
    simp only [go_sem, i2, ni, hz, w5, List.length_map, s1, s2, nk]
    exact ihk _ (by simp [go_sem])
  · obtain rfl : i = l.length := by omega
    have i2 : ¬ (l.length : Int) < l.length := by omega
    clear ih
    simp only [go_sem, i2, List.length_map, List.take_length]
set_option maxHeartbeats 2000000 in
set_option maxRecDepth 20000 in
theorem checkNumbers_run {n : Nat} (hn : n ≤ 1000) {l : List Nat} (h : Asc n l) : Ans Try.prog n_pump_checkNumbers [nvw l, .int .i64 n] [] (.int .i64 0) [] := by
  have hlen := h.len
  unfold nvw
  refine spec_run e_pump_checkNumbers fun G => ?_
  simp only [go_sem, List.length_map]
  refine loop_ind k_pump_checkNumbers_r9.eq_1 (fun i : Nat => i ≤ l.length) (fun i => l.length - i)
    (fun i => (tsets 31 [(0, .view (l.map fun k : Nat => AVal.int .i64 (k : Int))), (1, .int .i64 n), (7, .view (l.map fun k : Nat => AVal.int .i64 (k : Int))), (8, .int .i64 l.length), (9, .int .i64 i)], [])) 0 (Nat.zero_le _) (by simp [go_sem]) rfl ?_
  intro i hi ih
  dsimp only at hi ih ⊢
  by_cases i1 : i < l.length
  · have i2 : (i : Int) < l.length := by omega
    have ni : ¬ (i : Int) < 0 := by omega
    have w5 : IntKind.i64.wrap ((i : Int) + 1) = ((i + 1 : Nat) : Int) := by rw [w64 (by omega)]; rfl
    have w6 : IntKind.i64.wrap ((n : Int) - 1) = (n : Int) - 1 := w64 (by omega)
    have hz : l[i]? = some l[i] := List.getElem?_eq_getElem i1
    have hk := h.2 l[i] (List.getElem_mem i1)
    have ihk := ih (i + 1) (by omega) (by omega)
    clear ih
    have kw := pwithin_run (l[i] : Nat) 0 ((n : Int) - 1)
    have e0 : wiP (l[i] : Nat) 0 ((n : Int) - 1) = true := decide_eq_true (by omega)
    rw [e0] at kw
    by_cases z0 : i = 0
    · have z2 : ¬ (i : Int) > 0 := by omega
      generalize l[i] = k at *
      simp only [go_sem, i2, ni, hz, w5, w6, List.length_map]
      refine cP kw ?_
      simp only [go_sem, z2, w5]
      exact ihk _ (by simp [go_sem])
    · have z2 : (i : Int) > 0 := by omega
      obtain ⟨m, rfl⟩ : ∃ m, i = m + 1 := ⟨i - 1, by omega⟩
      have w7 : IntKind.i64.wrap (((m + 1 : Nat) : Int) - 1) = (m : Int) := by rw [w64 (by omega)]; omega
      have nm : ¬ (m : Int) < 0 := by omega
      have nm2 : (m : Int) < l.length := by omega
      have hz2 : l[m]? = some l[m] := List.getElem?_eq_getElem (by omega)
      have lt := List.pairwise_iff_getElem.1 h.1 m (m + 1) (by omega) i1 (by omega)
      have le : ¬ (l[m + 1] : Int) ≤ l[m] := by omega
      generalize l[m + 1] = k at *
      generalize l[m] = k' at *
      simp only [go_sem, i2, ni, hz, w5, w6, List.length_map]
      refine cP kw ?_
      simp only [go_sem, z2, w7, w5, hz2, nm, nm2, List.length_map, le]
      exact ihk _ (by simp [go_sem])
  · obtain rfl : i = l.length := by omega
    have i2 : ¬ (l.length : Int) < l.length := by omega
    clear ih
    simp only [go_sem, i2, List.length_map]
end Go.Proofs

namespace Go.Proofs
open Go Go.Sx
attribute [local irreducible] Run

structure Tr where
  of : List Nat
  cost : Int
def Tr.v (t : Tr) : AVal := .agg [nvw t.of, .int .i64 t.cost]
def huntV (n : Nat) (ts : List Tr) : AVal := .agg [.int .i64 n, .view (ts.map Tr.v)]
structure TrOK (n : Nat) (t : Tr) : Prop where
  of : Asc n t.of
  cost : 0 ≤ t.cost ∧ t.cost ≤ 1000
structure HtOK (n : Nat) (ts : List Tr) : Prop where
  many : 1 ≤ n ∧ n ≤ 12
  len : ts.length ≤ 12
  ts : ∀ t ∈ ts, TrOK n t
theorem nvw_bel (l : List Nat) (S : Nat → Prop) : Bel S (nvw l) := by
  unfold nvw
  rw [bel_view]
  exact bels_of fun v hv => by
    obtain ⟨k, -, rfl⟩ := List.mem_map.1 hv
    exact .int _ _
set_option maxHeartbeats 2000000 in
set_option maxRecDepth 20000 in
theorem CheckHunt_run {n : Nat} {ts : List Tr} (h : HtOK n ts) : Ans Try.prog n_pump_CheckHunt [huntV n ts] [] (.int .i64 0) [] := by
  have hn := h.many
  have hl := h.len
  have kw := pwithin_run (n : Int) 1 12
  rw [show wiP (n : Int) 1 12 = true from decide_eq_true (by omega)] at kw
  have ng : ¬ (ts.length : Int) > 12 := by omega
  refine spec_run e_pump_CheckHunt fun G => ?_
  simp only [go_sem, huntV]
  refine cP kw ?_
  simp only [go_sem, List.length_map, ng]
  refine loop_ind k_pump_CheckHunt_r14.eq_1 (fun a : Nat × Heap => a.1 ≤ ts.length) (fun a => ts.length - a.1)
    (fun a => (tsets 34 [(1, .ptr 0 0 0 1), (15, .view (ts.map Tr.v)), (16, .int .i64 ts.length), (17, .int .i64 a.1)], some (.cells false 2 [.agg [.int .i64 n, .view (ts.map Tr.v)]]) :: a.2)) (0, []) (Nat.zero_le _) (by simp [go_sem]) rfl ?_
  rintro ⟨i, J⟩ hi ih
  dsimp only at hi ih ⊢
  by_cases i1 : i < ts.length
  · have i2 : (i : Int) < ts.length := by omega
    have ni : ¬ (i : Int) < 0 := by omega
    have w5 : IntKind.i64.wrap ((i : Int) + 1) = ((i + 1 : Nat) : Int) := by rw [w64 (by omega)]; rfl
    have hz : ts[i]? = some ts[i] := List.getElem?_eq_getElem i1
    have hk := h.ts ts[i] (List.getElem_mem i1)
    have ihk := fun J' => ih (i + 1, J') (by simp only; omega) i1
    clear ih
    dsimp only at ihk
    generalize ts[i] = t at *
    have kn := checkNumbers_run (n := n) (by omega) hk.of
    unfold nvw at kn
    have hb := nvw_bel t.of (fun _ => False)
    unfold nvw at hb
    have hc := hk.cost
    have kc := pwithin_run t.cost 0 1000
    rw [show wiP t.cost 0 1000 = true from decide_eq_true (by omega)] at kc
    simp only [go_sem, i2, ni, hz, List.length_map, Tr.v, nvw]
    refine cP kn ?_ (hb := ⟨hb, by simp only [go_sem], trivial⟩)
    simp only [go_sem]
    refine cP kc ?_
    simp only [go_sem, w5]
    exact ihk _ _ (by simp [go_sem])
  · obtain rfl : i = ts.length := by omega
    have i2 : ¬ (ts.length : Int) < ts.length := by omega
    clear ih
    simp only [go_sem, i2, List.length_map]
theorem kept3 {x0 x1 x2 : Row} {r v : AVal} {H' : Heap} (j0 j1 j2 : Nat) (d1 : j0 ≠ j1) (d2 : j0 ≠ j2) (d3 : j1 ≠ j2) (hv : v = ren (fun i => if i = 0 then j0 else if i = 1 then j1 else j2) r) (b0 : x0.bel (fun _ => False)) (b1 : x1.bel (fun _ => False)) (b2 : x2.bel (fun _ => False))
    (h0 : H'[j0]? = some (some x0)) (h1 : H'[j1]? = some (some x1)) (h2 : H'[j2]? = some (some x2)) : ∃ σ, Kept [] [some x0, some x1, some x2] r v H' σ :=
  ⟨fun i => if i = 0 then j0 else if i = 1 then j1 else j2, fun i hi => by simp at hi, fun i k hi hk h => by
    simp only [List.length_cons, List.length_nil] at hi hk
    obtain rfl | rfl | rfl : i = 0 ∨ i = 1 ∨ i = 2 := by omega
    all_goals obtain rfl | rfl | rfl : k = 0 ∨ k = 1 ∨ k = 2 := by omega
    all_goals first | rfl | (simp at h; omega), hv, fun i z hz => by
    have hi := (List.getElem?_eq_some_iff.1 hz).1
    simp only [List.length_cons, List.length_nil] at hi
    obtain rfl | rfl | rfl : i = 0 ∨ i = 1 ∨ i = 2 := by omega
    · simp only [List.getElem?_cons_zero, Option.some.injEq] at hz
      subst hz
      rw [Row.ren_same b0]; exact h0
    · simp only [List.getElem?_cons_succ, List.getElem?_cons_zero, Option.some.injEq] at hz
      subst hz
      rw [Row.ren_same b1]; exact h1
    · simp only [List.getElem?_cons_succ, List.getElem?_cons_zero, Option.some.injEq] at hz
      subst hz
      rw [Row.ren_same b2]; exact h2⟩
def tof (ts : List Tr) : List Nat := ts.map fun t => setN t.of
def tcs (ts : List Tr) : List Int := ts.map Tr.cost
set_option maxHeartbeats 4000000 in
set_option maxRecDepth 20000 in
theorem newHunter_run {n : Nat} {ts : List Tr} (h : HtOK n ts) (h0 : ts ≠ []) : Ans Try.prog n_pump_newHunter [huntV n ts] [] (huV ts.length) (huH (tof ts) (tcs ts) []) := by
  have hn := h.many
  have hl := h.len
  have hp : 0 < ts.length := List.length_pos_iff.2 h0
  refine Ans.keep ?_ (by simp [huH]) (by simpa [huH] using huV_bel ts.length) (huH_full _ _ _ _)
  refine run_fn e_pump_newHunter fun G => ?_
  simp only [go_sem, huntV, List.length_map]
  refine loop_body 3000 k_pump_newHunter_r8.eq_1 ?_
  have p2 : (0 : Int) < ts.length := by omega
  have hz : ts[0]? = some ts[0] := List.getElem?_eq_getElem hp
  have hk := h.ts ts[0] (List.getElem_mem hp)
  have ks := setOf_run (n := n) (by omega) hk.of.2 (by have := hk.of.len; omega)
  have t1 : tof (ts.take 1) = [setN ts[0].of] ∧ tcs (ts.take 1) = [ts[0].cost] := by
    match ts, hp with
    | t :: ts, _ => exact ⟨rfl, rfl⟩
  generalize ts[0] = t at *
  unfold nvw at ks
  simp only [go_sem, p2, hz, List.length_map, Tr.v, nvw]
  refine dF ks 6 [] ⟨.inl (by simp [frz, Function.comp_def]), trivial⟩ ?_
  have w1 : IntKind.i64.wrap 1 = 1 := by decide
  simp only [go_sem, w1]
  refine ⟨by decide, by decide, ?_⟩
  refine loop_ind k_pump_newHunter_r8.eq_1 (fun a : Nat × Heap => 1 ≤ a.1 ∧ a.1 ≤ ts.length) (fun a => ts.length - a.1)
    (fun a => (tsets 32 [(1, .ptr 0 0 0 1), (2, .ptr 1 0 0 1), (3, .ptr 3 0 0 1), (9, .view (ts.map Tr.v)), (10, .int .i64 ts.length), (11, .int .i64 a.1)],
      [some (.cells false 2 [.agg [.int .i64 n, .view (ts.map Tr.v)]]), some (.cells false 3 [.agg [.nilsl, .nilsl, .nilmap]]), some (.mapr .u16 [] []), some (.cells false 3 [.agg [.sl 6 0 a.1, .sl 8 0 a.1, .mp 2]]),
        some (.cells false 2 [t.v]), some (.cells false 1 [.int .u16 (setN t.of)]), some (.cells true 1 (ofV (tof (ts.take a.1)))), some (.cells false 1 [.int .i64 t.cost]), some (.cells true 1 ((tcs (ts.take a.1)).map (.int .i64)))] ++ a.2)) (1, []) ⟨Nat.le_refl _, hp⟩ (by simp [go_sem]) (by rw [t1.1, t1.2]; rfl) ?_
  rintro ⟨i, J⟩ ⟨hi0, hi⟩ ih
  dsimp only at hi hi0 ih ⊢
  have lt : (ts.take i).length = i := by rw [List.length_take]; omega
  have l1 : (ofV (tof (ts.take i))).length = i := by simp only [ofV, tof, List.length_map, lt]
  have l2 : (tcs (ts.take i)).length = i := by simp only [tcs, List.length_map, lt]
  by_cases i1 : i < ts.length
  · have i2 : (i : Int) < ts.length := by omega
    have ni : ¬ (i : Int) < 0 := by omega
    have w5 : IntKind.i64.wrap ((i : Int) + 1) = ((i + 1 : Nat) : Int) := by rw [w64 (by omega)]; rfl
    have hz : ts[i]? = some ts[i] := List.getElem?_eq_getElem i1
    have hk := h.ts ts[i] (List.getElem_mem i1)
    have ks := setOf_run (n := n) (by omega) hk.of.2 (by have := hk.of.len; omega)
    have ihk := fun J' => ih (i + 1, J') (by simp only; omega) ⟨by simp only; omega, i1⟩
    clear ih
    dsimp only at ihk
    have u1 : ofV (tof (ts.take (i + 1))) = ofV (tof (ts.take i)) ++ [.int .u16 (setN ts[i].of : Nat)] := by
      unfold ofV tof; rw [List.take_add_one, hz]; simp only [List.map_append, Option.toList, List.map_cons, List.map_nil]
    have u2 : (tcs (ts.take (i + 1))).map (AVal.int .i64) = (tcs (ts.take i)).map (AVal.int .i64) ++ [.int .i64 ts[i].cost] := by
      unfold tcs; rw [List.take_add_one, hz]; simp only [List.map_append, Option.toList, List.map_cons, List.map_nil]
    rw [u1, u2] at ihk
    generalize ofV (tof (ts.take i)) = A at *
    generalize tcs (ts.take i) = B at *
    generalize ts[i] = t' at *
    unfold nvw at ks
    have e1 : (i + 1) * 2 ≤ 2 ^ 44 := by omega
    have e2 : (i + 1) * 8 ≤ 2 ^ 44 := by omega
    simp only [go_sem, i2, ni, hz, List.length_map, Tr.v, nvw]
    refine dF ks 6 [] ⟨.inl (by simp [frz, Function.comp_def]), trivial⟩ ?_
    simp only [go_sem, w5, l1, l2, e1, e2]
    simp only [Tr.v, nvw, List.cons_append, List.nil_append] at ihk
    refine ⟨?_, ihk _ _ (by simp [go_sem])⟩
    rw [show (3 == List.length J + 1 + 1 + 1 + 1 + 1 + 1 + 1 + 1 + 1 + 1) = false from beq_eq_false_iff_ne.2 (by omega)]; rfl
  · obtain rfl : i = ts.length := by omega
    have i2 : ¬ (ts.length : Int) < ts.length := by omega
    clear ih
    rw [List.take_length] at *
    simp only [go_sem, i2, List.length_map]
    exact kept3 6 8 2 (by decide) (by decide) (by decide) rfl (huH_full (tof ts) (tcs ts) [] _).1 (huH_full (tof ts) (tcs ts) [] _).2.1 (mrow_bel []) rfl rfl rfl
end Go.Proofs

namespace Go.Proofs
open Go Go.Sx
attribute [local irreducible] Run

theorem tof_lt {n : Nat} {ts : List Tr} (h : HtOK n ts) : ∀ t ∈ tof ts, t < 65536 := fun t ht => by
  obtain ⟨x, hx, rfl⟩ := List.mem_map.1 ht
  exact setN_lt (n := n) (by have := h.many; omega) (h.ts x hx).of.2 (by decide)
theorem tcs_len (ts : List Tr) : (tcs ts).length = (tof ts).length := by simp [tcs, tof]
theorem tof_len (ts : List Tr) : (tof ts).length = ts.length := by simp [tof]
theorem trv_bel (ts : List Tr) (S : Nat → Prop) : Bel S (.view (ts.map Tr.v)) := by
  rw [bel_view]
  exact bels_of fun v hv => by
    obtain ⟨t, -, rfl⟩ := List.mem_map.1 hv
    unfold Tr.v
    rw [bel_agg]
    exact ⟨nvw_bel _ _, .int _ _, trivial⟩
theorem huntV_bel (n : Nat) (ts : List Tr) (S : Nat → Prop) : Bel S (huntV n ts) := by
  unfold huntV
  rw [bel_agg]
  exact ⟨.int _ _, trv_bel ts S, trivial⟩
def plnOf (ts : List Tr) (s : Nat) : Pl := (planF (tof ts) (tcs ts) (s + 1) s []).1
theorem huH_at1 {of : List Nat} {cs : List Int} {M : PM} (x : Option Row) (X : Heap) : rowsOK (x :: (huH of cs M ++ X)) (nth [1, 2, 3]) [1, 2, 3] (huH of cs M) := by
  obtain ⟨a, b, c, -⟩ := huH_full of cs M (fun _ => False)
  exact ⟨by rw [Row.ren_same a]; rfl, by rw [Row.ren_same b]; rfl, by rw [Row.ren_same c]; rfl, trivial⟩
theorem hu_out1 {of : List Nat} {cs : List Int} {M' : PM} (n : Nat) : outΔ (outσ [1, 2, 3] n) 0 (huH of cs M') = [(1, .cells true 1 (ofV of)), (2, .cells true 1 (cs.map (.int .i64))), (3, mrow M')] := by
  obtain ⟨a, b, c, -⟩ := huH_full of cs M' (fun _ => False)
  unfold huH
  simp only [outΔ, Row.ren_same a, Row.ren_same b, Row.ren_same c]
  rfl
theorem hu_new {of : List Nat} {cs : List Int} (n : Nat) : outΔ (outσ [] n) 0 (huH of cs []) = [(n, .cells true 1 (ofV of)), (n + 1, .cells true 1 (cs.map (.int .i64))), (n + 2, mrow [])] := by
  obtain ⟨a, b, c, -⟩ := huH_full of cs [] (fun _ => False)
  unfold huH
  simp only [outΔ, Row.ren_same a, Row.ren_same b, Row.ren_same c]
  rfl
set_option maxHeartbeats 4000000 in
set_option maxRecDepth 20000 in
theorem Worst_run {n : Nat} {ts : List Tr} (h : HtOK n ts) (h0 : ts ≠ []) {l : List Nat} (hl : Asc n l) (l0 : l ≠ []) :
    Ans Try.prog n_pump_Worst [huntV n ts, nvw l] [] (.tup (if (plnOf ts (setN l)).told = true then [.int .i64 (plnOf ts (setN l)).cost, .int .i64 (plnOf ts (setN l)).trial, .int .i64 0] else [.int .i64 0, .int .i64 0, .int .i64 15])) [] := by
  have hn := h.many
  have k1 := CheckHunt_run h
  have k2 := checkNumbers_run (n := n) (by omega) hl
  have k3 := newHunter_run h h0
  have k4 := setOf_run (n := n) (by omega) hl.2 (by have := hl.len; omega)
  have sl : setN l < 65536 := setN_lt (n := n) (by omega) hl.2 (by decide)
  have k5 := planA (tof_lt h) (tcs_len ts) (by rw [tof_len]; have := h.len; omega) (setN l + 1) (setN l) [] (by omega) sl
  have lp : 0 < l.length := List.length_pos_iff.2 l0
  have b1 := nvw_bel l (fun _ => False)
  have b2 := huntV_bel n ts (fun _ => False)
  have le : ((l.length : Int) == 0) = false := beq_eq_false_iff_ne.2 (by omega)
  unfold plnOf
  rw [tof_len] at k5
  generalize planF (tof ts) (tcs ts) (setN l + 1) (setN l) [] = r at *
  refine spec_run e_pump_Worst fun G => ?_
  simp only [huntV, nvw] at k1 k2 k3 k4 b1 b2 ⊢
  simp only [go_sem]
  refine cP k1 ?_ (hb := ⟨b2, trivial⟩)
  simp only [go_sem, bne, List.length_map, le]
  refine cP k2 ?_ (hb := ⟨b1, by simp only [go_sem], trivial⟩)
  simp only [go_sem, bne]
  refine callS k3 [] (by simp) trivial (by rw [List.map_cons, List.map_nil, ren_same b2]) ⟨b2.mono fun _ h => h.elim, trivial⟩ trivial (by simp) (by simpa [huH] using huV_bel ts.length) (by simpa [huH] using huH_full (tof ts) (tcs ts) [] (· < 3)) (by simp) (by simp) (by simp) ?_
  rw [hu_new]
  simp only [go_sem, huV]
  rw [show ren (outσ [] 1) (.agg [.sl 0 0 ts.length, .sl 1 0 ts.length, .mp 2]) = .agg [.sl 1 0 ts.length, .sl 2 0 ts.length, .mp 3] from rfl]
  refine cP k4 ?_ (hb := ⟨b1, trivial⟩)
  simp only [go_sem]
  refine callS k5 [1, 2, 3] (by decide) (huH_at1 _ []) rfl ⟨huV_bel _, by simp only [go_sem], trivial⟩ (huH_full _ _ _ _) (Nat.le_refl _) (pl_bel _ _) (huH_full _ _ _ _) (by simp) (by simp) (by simp) ?_
  rw [hu_out1, ren_same (pl_bel _ _)]
  simp only [go_sem, Pl.v]
  refine ⟨fun a => ?_, fun a => ?_⟩
  · simp only [a]; rfl
  · simp only [a, if_true]
end Go.Proofs

namespace Go.Proofs
open Go Go.Sx

theorem mod_ok (a b : Int) (hb : b ≤ 9223372036854775807) : Ans Try.prog n_kit_Mod [.int .i64 a, .int .i64 b] [] (.int .i64 (if b < 1 then 0 else a % b)) [] := by
  refine spec_run e_kit_Mod fun G => ?_
  simp only [go_sem]
  refine ⟨fun h => by simp [h], fun h => ?_⟩
  have e := Int.tmod_eq_emod (a := a) (b := b)
  have h1 := Int.emod_nonneg a (show b ≠ 0 by omega)
  have h2 := Int.emod_lt_of_pos a (show 0 < b by omega)
  rw [if_neg h]
  generalize a % b = m at *
  generalize a.tmod b = t at *
  refine ⟨by omega, fun h3 => ?_, fun h3 => ?_⟩
  · rw [IntWalk.i64_in _ (by split at e <;> omega)]
    split at e <;> omega
  · split at e <;> omega

theorem mod_pos (a b : Int) (hb : 1 ≤ b ∧ b ≤ 9223372036854775807) : Ans Try.prog n_kit_Mod [.int .i64 a, .int .i64 b] [] (.int .i64 (a % b)) [] := by
  have h := mod_ok a b hb.2
  rwa [if_neg (by omega)] at h
attribute [local irreducible] Run
def fstV (n : Nat) : List AVal := (List.range n).map fun k : Nat => AVal.int .i64 (k : Int)
set_option maxRecDepth 20000 in
theorem First_run {n : Nat} (h0 : 1 ≤ n) (h : n ≤ 1000) : Ans Try.prog n_kit_First [.int .i64 (n : Int)] [] (.sl 0 0 n) [some (.cells true 1 (fstV n))] := by
  have hb : (Row.cells true 1 (fstV n)).bel (fun _ => False) := by
    rw [row_bel_cells]
    exact bels_of fun v hv => by
      obtain ⟨k, -, rfl⟩ := List.mem_map.1 hv
      exact .int _ _
  refine Ans.keep ?_ (by simp) (by simp [go_sem]) ⟨bel_mono_row hb fun _ h => h.elim, trivial⟩
  refine run_fn e_kit_First fun G => ?_
  simp only [go_sem]
  have z0 : (0 : Int) < n := by omega
  have w1 : IntKind.i64.wrap 1 = 1 := by decide
  refine loop_body 3000 k_kit_First_r6.eq_1 ?_
  simp only [go_sem, z0, Int.zero_add, w1]
  refine ⟨by decide, ?_⟩
  refine loop_ind k_kit_First_r6.eq_1 (fun a : Nat × Heap => 1 ≤ a.1 ∧ a.1 ≤ n) (fun a => n - a.1)
    (fun a => (tsets 15 [(0, .int .i64 n), (3, .sl 1 0 a.1), (4, .int .i64 a.1)], some (.cells false 1 [.int .i64 0]) :: some (.cells true 1 (fstV a.1)) :: a.2)) (1, []) ⟨Nat.le_refl _, h0⟩ (by simp [go_sem]) rfl ?_
  rintro ⟨i, J⟩ ⟨hi0, hi⟩ ih
  dsimp only at hi hi0 ih ⊢
  have l1 : (fstV i).length = i := by simp [fstV]
  by_cases i1 : i < n
  · have i2 : (i : Int) < n := by omega
    have w5 : IntKind.i64.wrap ((i : Int) + 1) = ((i + 1 : Nat) : Int) := by rw [w64 (by omega)]; rfl
    have ihk := fun J' => ih (i + 1, J') (by simp only; omega) ⟨by simp only; omega, i1⟩
    clear ih
    have u : fstV (i + 1) = fstV i ++ [.int .i64 i] := by unfold fstV; rw [List.range_succ, List.map_append]; rfl
    dsimp only at ihk
    rw [u] at ihk
    generalize fstV i = A at *
    have e1 : (i + 1) * 8 ≤ 2 ^ 44 := by omega
    simp only [go_sem, i2, w5, l1, e1]
    exact ihk _ _ (by simp [go_sem])
  · obtain rfl : i = n := by omega
    have i2 : ¬ (i : Int) < i := by omega
    clear ih
    simp only [go_sem, i2]
    exact kept_one 1 rfl hb rfl
def rts (n : Nat) : List Tr := (List.range (n - 1)).map fun i => ⟨List.range (i + 1), 1⟩
theorem range_asc {n m : Nat} (h : m ≤ n) : Asc n (List.range m) := ⟨List.pairwise_lt_range, fun k hk => by have := List.mem_range.1 hk; omega⟩
theorem rts_ok {n : Nat} (h : 1 ≤ n ∧ n ≤ 12) : HtOK n (rts n) := ⟨h, by simp [rts]; omega, fun t ht => by
  obtain ⟨i, hi, rfl⟩ := List.mem_map.1 ht
  have := List.mem_range.1 hi
  exact ⟨range_asc (by omega), by show (0 : Int) ≤ 1 ∧ (1 : Int) ≤ 1000; decide⟩⟩
theorem rts_ne {n : Nat} (h : 2 ≤ n) : rts n ≠ [] := fun e => by have := congrArg List.length e; simp [rts] at this; omega
def okW (n k : Nat) : Bool := match plnOf (rts n) (setN (List.range n)) with | ⟨true, c, _⟩ => c == (k : Int) | _ => false
theorem worst_row {n k : Nat} (h : 2 ≤ n ∧ n ≤ 12) (ho : okW n k = true) : ∃ t : Int, Ans Try.prog n_pump_Worst [huntV n (rts n), nvw (List.range n)] [] (.tup [.int .i64 k, .int .i64 t, .int .i64 0]) [] := by
  have w := Worst_run (rts_ok (n := n) (by omega)) (rts_ne h.1) (l := List.range n) (range_asc (Nat.le_refl _)) (fun e => by have := congrArg List.length e; simp at this; omega)
  unfold okW at ho
  generalize plnOf (rts n) (setN (List.range n)) = p at *
  obtain ⟨b, c, t⟩ := p
  cases b
  · simp at ho
  · have hc : c = (k : Int) := by simpa using ho
    subst hc
    exact ⟨t, w⟩
end Go.Proofs

