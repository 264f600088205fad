/- A part of the proof. -/
import Derived.Test.YtdodlephmmpemaaPF
set_option linter.unusedSimpArgs false
set_option linter.unusedVariables false
namespace Go.Proofs
open Go Go.Sx
attribute [local irreducible] Run

theorem beyond_ok (n a b : Int) : Ans Try.prog n_ref01_beyond [.int .i64 n, .int .i64 a, .int .i64 b] [] (.bool (decide (¬ (a ≤ n ∧ n ≤ b)))) [] := by
  refine spec_run e_ref01_beyond fun G => ?_
  by_cases h1 : n < a
  · simp only [go_sem, h1]
    rw [decide_eq_true (by omega)]
  · by_cases h2 : b < n
    · simp only [go_sem, h1, h2]
      rw [decide_eq_true (by omega)]
    · simp only [go_sem, h1, h2]
      rw [decide_eq_false (by omega)]
theorem beyond_yes {n a b : Int} (h : ¬ (a ≤ n ∧ n ≤ b)) : Ans Try.prog n_ref01_beyond [.int .i64 n, .int .i64 a, .int .i64 b] [] (.bool true) [] := by
  have := beyond_ok n a b
  rwa [decide_eq_true h] at this
theorem beyond_no {n a b : Int} (h : a ≤ n ∧ n ≤ b) : Ans Try.prog n_ref01_beyond [.int .i64 n, .int .i64 a, .int .i64 b] [] (.bool false) [] := by
  have := beyond_ok n a b
  rwa [decide_eq_false (fun h' => h' h)] at this

def wgt (p : Pl) (i j : Nat) : Int :=
  if max i j = min i j + 1 ∧ 0 < max i j % p.w then besW p.rd (min i j % p.w) else if max i j = min i j + p.w then abvW p.rd (min i j % p.w) else 0

set_option maxHeartbeats 2000000 in
theorem weight_ok {p : Pl} (hp : PlOK p) {i j : Nat} (hi : i < p.w * p.h) (hj : j < p.w * p.h) : Ans Try.prog n_ref01_weight [p.v, .int .i64 i, .int .i64 j] [] (.int .i64 (wgt p i j)) [] := by
  have hw := hp.w; have hh := hp.h
  have hN : p.w * p.h ≤ 256 := Nat.mul_le_mul hw.2 hh.2
  have em : IntKind.i64.wrap ((p.w : Int) * p.h) = ((p.w * p.h : Nat) : Int) := by rw [w64 (by push_cast at *; omega)]; push_cast; rfl
  have em1 : IntKind.i64.wrap (((p.w * p.h : Nat) : Int) - 1) = ((p.w * p.h : Nat) : Int) - 1 := w64 (by omega)
  refine spec_run e_ref01_weight fun G => ?_
  simp only [go_sem, Pl.v, Pl.a, Pl.c4, vw, em, em1]
  refine cP (beyond_no (by omega)) ?_
  simp only [go_sem, Pl.v, Pl.a, Pl.c4, vw, em, em1]
  refine cP (beyond_no (by omega)) ?_
  simp only [go_sem, Pl.v, Pl.a, Pl.c4, vw]
  have hM : (if (j : Int) > i then (j : Int) else i) = ((max i j : Nat) : Int) := by split <;> omega
  have hm : (if (j : Int) < i then (j : Int) else i) = ((min i j : Nat) : Int) := by split <;> omega
  have hMl : max i j < p.w * p.h := by omega
  have hml : min i j < p.w * p.h := by omega
  rw [hM, hm, nat_rem, nat_rem]
  unfold wgt
  clear hM hm
  generalize max i j = M at *
  generalize min i j = m at *
  have hx : m % p.w < p.w := Nat.mod_lt _ (by omega)
  generalize M % p.w = xM at *
  generalize m % p.w = x at *
  have w1 : IntKind.i64.wrap ((m : Int) + 1) = ((m + 1 : Nat) : Int) := by rw [w64 (by omega)]; rfl
  have w2 : IntKind.i64.wrap ((m : Int) + p.w) = ((m + p.w : Nat) : Int) := by rw [w64 (by omega)]; push_cast; rfl
  have w3 : IntKind.i64.wrap ((x : Int) + 1) = (x : Int) + 1 := w64 (by omega)
  have w4 : IntKind.i64.wrap (2 * ((x : Int) + 1)) = 2 * ((x : Int) + 1) := w64 (by omega)
  have w5 : IntKind.i64.wrap (2 * (x : Int)) = 2 * (x : Int) := w64 (by omega)
  have w6 : IntKind.i64.wrap (2 * (x : Int) + 1) = 2 * (x : Int) + 1 := w64 (by omega)
  rw [w1, w2, w3, w4, w5, w6]
  unfold besW abvW
  refine ⟨by omega, fun h1 => ⟨by omega, fun h2 => ⟨fun h3 => ?_, fun h3 => ?_⟩, fun h2 => ⟨fun h4 => ⟨fun h3 => ?_, fun h3 => ?_⟩, fun h4 => ?_⟩⟩, fun h1 => ⟨fun h4 => ⟨fun h3 => ?_, fun h3 => ?_⟩, fun h4 => ?_⟩⟩
  · rw [if_pos ⟨by omega, by omega⟩, h3]; rfl
  · rw [if_pos ⟨by omega, by omega⟩, h3]; rfl
  · rw [if_neg (fun h => h2 (by omega)), if_pos (by omega), h3]; rfl
  · rw [if_neg (fun h => h2 (by omega)), if_pos (by omega), h3]; rfl
  · rw [if_neg (fun h => h2 (by omega)), if_neg (by omega)]
  · rw [if_neg (fun h => h1 (by omega)), if_pos (by omega), h3]; rfl
  · rw [if_neg (fun h => h1 (by omega)), if_pos (by omega), h3]; rfl
  · rw [if_neg (fun h => h1 (by omega)), if_neg (by omega)]
theorem weight_out {p : Pl} (hp : PlOK p) {i : Nat} (hi : i < p.w * p.h) {b : Int} (hb : ¬ (0 ≤ b ∧ b < (p.w * p.h : Nat))) : Ans Try.prog n_ref01_weight [p.v, .int .i64 i, .int .i64 b] [] (.int .i64 0) [] := by
  have hw := hp.w; have hh := hp.h
  have hN : p.w * p.h ≤ 256 := Nat.mul_le_mul hw.2 hh.2
  have em : IntKind.i64.wrap ((p.w : Int) * p.h) = ((p.w * p.h : Nat) : Int) := by rw [w64 (by push_cast at *; omega)]; push_cast; rfl
  have em1 : IntKind.i64.wrap (((p.w * p.h : Nat) : Int) - 1) = ((p.w * p.h : Nat) : Int) - 1 := w64 (by omega)
  refine spec_run e_ref01_weight fun G => ?_
  simp only [go_sem, Pl.v, Pl.a, Pl.c4, vw, em, em1]
  refine cP (beyond_no (by omega)) ?_
  simp only [go_sem, Pl.v, Pl.a, Pl.c4, vw, em, em1]
  refine cP (beyond_yes (by omega)) ?_
  simp only [go_sem]
end Go.Proofs

namespace Go.Proofs
open Go Go.Sx
attribute [local irreducible] Run

def wgI (p : Pl) (i : Nat) (b : Int) : Int := if 0 ≤ b ∧ b < (p.w * p.h : Nat) then wgt p i b.toNat else 0
theorem weightI_ok {p : Pl} (hp : PlOK p) {i : Nat} (hi : i < p.w * p.h) (b : Int) : Ans Try.prog n_ref01_weight [p.v, .int .i64 i, .int .i64 b] [] (.int .i64 (wgI p i b)) [] := by
  unfold wgI
  by_cases h : 0 ≤ b ∧ b < (p.w * p.h : Nat)
  · rw [if_pos h]
    have := weight_ok hp hi (j := b.toNat) (by omega)
    rwa [show ((b.toNat : Nat) : Int) = b by omega] at this
  · rw [if_neg h]; exact weight_out hp hi h
def nearL (p : Pl) (i : Nat) : List Int := if p.w = 1 then [(i : Int) - 1, (i : Int) + 1] else [(i : Int) - p.w, (i : Int) - 1, (i : Int) + 1, (i : Int) + p.w]
def nrL (p : Pl) (i : Nat) : List Int := (nearL p i).filter fun b => 0 < wgI p i b
theorem slv0_bel (l : List Int) : Bel (· < (slrG true 1 (iv l)).length) (slv 0 (iv l)) := by
  unfold slv slrG
  split <;> simp [go_sem]
theorem slr0_ful (l : List Int) : Full (· < (slrG true 1 (iv l)).length) (slrG true 1 (iv l)) := by
  unfold slrG
  split
  · trivial
  · exact ⟨iv_row _ _ _, trivial⟩

set_option maxHeartbeats 4000000 in
theorem around_one {p : Pl} (hp : PlOK p) {i : Nat} (hi : i < p.w * p.h) (h1w : p.w = 1) : Ans Try.prog n_ref01_around [p.v, .int .i64 i] [] (slv 0 (iv (nrL p i))) (slrG true 1 (iv (nrL p i))) := by
  have hw := hp.w; have hh := hp.h
  have hN : p.w * p.h ≤ 256 := Nat.mul_le_mul hw.2 hh.2
  have hnear : nearL p i = [(i : Int) - 1, (i : Int) + 1] := by unfold nearL; rw [if_pos h1w]
  have w1 : IntKind.i64.wrap ((i : Int) - p.w) = (i : Int) - p.w := w64 (by omega)
  have w2 : IntKind.i64.wrap ((i : Int) - 1) = (i : Int) - 1 := w64 (by omega)
  have w3 : IntKind.i64.wrap ((i : Int) + 1) = (i : Int) + 1 := w64 (by omega)
  have w4 : IntKind.i64.wrap ((i : Int) + p.w) = (i : Int) + p.w := w64 (by omega)
  have hww : ((p.w : Int) == 1) = true := by simp [h1w]
  have hiv : iv (nearL p i) = [.int .i64 ((i : Int) - 1), .int .i64 ((i : Int) + 1)] := by rw [hnear]; rfl
  have hnl : (nearL p i).length = 2 := by rw [hnear]; rfl
  refine Ans.keep (run_fn e_ref01_around fun G => ?_) (by simp) (slv0_bel _) (slr0_ful _)
  simp only [go_sem, Pl.v, Pl.a, Pl.c4, vw, w1, w2, w3, w4, hww]
  have hx0 : some (Row.cells false 1 (iv (nearL p i))) = some (.cells false 1 [.int .i64 ((i : Int) - 1), .int .i64 ((i : Int) + 1)]) := by rw [hiv]
  clear hww w1 w2 w3 w4
  refine loop_ind k_ref01_around_r10.eq_1 (fun a : Nat × AVal × Heap => a.1 ≤ 2 ∧ ((((nearL p i).take a.1).filter (fun b => 0 < wgI p i b) = [] ∧ a.2.1 = .nilsl ∧ a.2.2 = some (.cells false 4 [p.v]) :: some (.cells false 1 [.int .i64 ((i : Int) - p.w), .int .i64 ((i : Int) - 1), .int .i64 ((i : Int) + 1), .int .i64 ((i : Int) + p.w)]) :: some (.cells false 1 (iv (nearL p i))) :: []) ∨ (((nearL p i).take a.1).filter (fun b => 0 < wgI p i b) ≠ [] ∧ a.2.1 = .sl 4 0 (((nearL p i).take a.1).filter (fun b => 0 < wgI p i b)).length ∧ ∃ g X, a.2.2 = some (.cells false 4 [p.v]) :: some (.cells false 1 [.int .i64 ((i : Int) - p.w), .int .i64 ((i : Int) - 1), .int .i64 ((i : Int) + 1), .int .i64 ((i : Int) + p.w)]) :: some (.cells false 1 (iv (nearL p i))) :: g :: some (.cells true 1 (iv (((nearL p i).take a.1).filter (fun b => 0 < wgI p i b)))) :: X))) (fun a => 2 - a.1)
    (fun a => (tsets 51 [(1, .int .i64 i), (2, .ptr 0 0 0 1), (5, .sl 2 0 2), (6, a.2.1), (7, .int .i64 a.1)], a.2.2)) (0, .nilsl, some (.cells false 4 [p.v]) :: some (.cells false 1 [.int .i64 ((i : Int) - p.w), .int .i64 ((i : Int) - 1), .int .i64 ((i : Int) + 1), .int .i64 ((i : Int) + p.w)]) :: some (.cells false 1 (iv (nearL p i))) :: []) ⟨Nat.zero_le _, .inl ⟨by rw [List.take_zero]; rfl, rfl, rfl⟩⟩ (by simp [go_sem]) (by rw [hx0]; rfl) ?_
  rintro ⟨k, t6, H⟩ ⟨hk, hH⟩ ih
  dsimp only at hk hH ih ⊢
  by_cases h1 : k < 2
  · have h2 : (k : Int) < 2 := by omega
    have h3 := idx_next h1 (by omega)
    have n0 : ¬ (k : Int) < 0 := by omega
    have hg := iv_get (l := nearL p i) (i := k) (by omega)
    have hlen : (nearL p i).length = 2 := hnl
    have hW := weightI_ok hp hi (gt (nearL p i) k)
    have hT : (nearL p i).take (k + 1) = (nearL p i).take k ++ [gt (nearL p i) k] := by rw [List.take_add_one, gt_get (by omega)]; rfl
    have hle : (((nearL p i).take k).filter (fun b => 0 < wgI p i b)).length ≤ 4 := by
      have := List.length_filter_le (fun b => decide (0 < wgI p i b)) ((nearL p i).take k)
      rw [List.length_take] at this; omega
    have ihn := fun t6' H' => ih (k + 1, t6', H') (by dsimp only; omega)
    clear ih hx0 hiv hnear
    simp only [hT, List.filter_append] at ihn
    generalize hz : gt (nearL p i) k = z at *
    generalize (((nearL p i).take k).filter (fun b => 0 < wgI p i b)) = l at *
    by_cases hw0 : 0 < wgI p i z
    · have hf : List.filter (fun b => decide (0 < wgI p i b)) [z] = [z] := by simp [hw0]
      simp only [hf] at ihn
      rcases hH with ⟨rfl, rfl, rfl⟩ | ⟨hne, rfl, g, X, rfl⟩
      · simp only [List.nil_append] at ihn
        simp only [go_sem, Pl.v, Pl.a, Pl.c4, vw, iv_len, hlen, h2, n0, hg]
        refine cP hW ?_
        simp only [go_sem, hw0, h3, iv_len, hlen, h2, n0, hg]
        exact ⟨by decide, ihn _ _ ⟨h1, .inr ⟨by simp, rfl, _, [], rfl⟩⟩ _ (by simp [go_sem])⟩
      · simp only [go_sem, Pl.v, Pl.a, Pl.c4, vw, iv_len, hlen, h2, n0, hg]
        refine cP hW ?_
        simp only [go_sem, hw0, h3, iv_len, hlen, h2, n0, hg, iv_app]
        exact ⟨by omega, ihn _ _ ⟨h1, .inr ⟨by simp, rfl, _, _, rfl⟩⟩ _ (by simp [go_sem])⟩
    · have hf : List.filter (fun b => decide (0 < wgI p i b)) [z] = [] := by simp [hw0]
      simp only [hf, List.append_nil] at ihn
      rcases hH with ⟨rfl, rfl, rfl⟩ | ⟨hne, rfl, g, X, rfl⟩
      · simp only [go_sem, Pl.v, Pl.a, Pl.c4, vw, iv_len, hlen, h2, n0, hg]
        refine cP hW ?_
        simp only [go_sem, hw0, h3]
        exact ihn _ _ ⟨h1, .inl ⟨rfl, rfl, rfl⟩⟩ _ (by simp [go_sem])
      · simp only [go_sem, Pl.v, Pl.a, Pl.c4, vw, iv_len, hlen, h2, n0, hg]
        refine cP hW ?_
        simp only [go_sem, hw0, h3]
        exact ihn _ _ ⟨h1, .inr ⟨hne, rfl, _, _, rfl⟩⟩ _ (by simp [go_sem])
  · have h2 : ¬ (k : Int) < 2 := by omega
    have hall : ((nearL p i).take k).filter (fun b => 0 < wgI p i b) = nrL p i := by rw [List.take_of_length_le (by omega)]; rfl
    rw [hall] at hH
    clear ih hall hx0 hiv
    generalize nrL p i = l at *
    rcases hH with ⟨rfl, rfl, rfl⟩ | ⟨hne, rfl, g, X, rfl⟩
    · simp only [go_sem, iv_len, hnl, h2]
      show ∃ σ, Kept [] [] .nilsl .nilsl _ σ
      exact kept_id rfl (by simp only [go_sem]) (fun i x hx => by simp at hx)
    · have hne' : iv l ≠ [] := fun h => hne (List.map_eq_nil_iff.1 h)
      simp only [go_sem, iv_len, hnl, h2]
      unfold slv slrG
      rw [if_neg hne', if_neg hne']
      exact kept_new (A := []) 0 4 rfl rfl (by omega) (by simp [ren, rens, iv_len]) (fun i x hx => by simp at hx) (iv_row _ _ _) rfl

set_option maxHeartbeats 4000000 in
theorem around_more {p : Pl} (hp : PlOK p) {i : Nat} (hi : i < p.w * p.h) (h1w : p.w ≠ 1) : Ans Try.prog n_ref01_around [p.v, .int .i64 i] [] (slv 0 (iv (nrL p i))) (slrG true 1 (iv (nrL p i))) := by
  have hw := hp.w; have hh := hp.h
  have hN : p.w * p.h ≤ 256 := Nat.mul_le_mul hw.2 hh.2
  have hnear : nearL p i = [(i : Int) - p.w, (i : Int) - 1, (i : Int) + 1, (i : Int) + p.w] := by unfold nearL; rw [if_neg h1w]
  have w1 : IntKind.i64.wrap ((i : Int) - p.w) = (i : Int) - p.w := w64 (by omega)
  have w2 : IntKind.i64.wrap ((i : Int) - 1) = (i : Int) - 1 := w64 (by omega)
  have w3 : IntKind.i64.wrap ((i : Int) + 1) = (i : Int) + 1 := w64 (by omega)
  have w4 : IntKind.i64.wrap ((i : Int) + p.w) = (i : Int) + p.w := w64 (by omega)
  have hww : ((p.w : Int) == 1) = false := by simp; omega
  have hiv : iv (nearL p i) = [.int .i64 ((i : Int) - p.w), .int .i64 ((i : Int) - 1), .int .i64 ((i : Int) + 1), .int .i64 ((i : Int) + p.w)] := by rw [hnear]; rfl
  have hnl : (nearL p i).length = 4 := by rw [hnear]; rfl
  refine Ans.keep (run_fn e_ref01_around fun G => ?_) (by simp) (slv0_bel _) (slr0_ful _)
  simp only [go_sem, Pl.v, Pl.a, Pl.c4, vw, w1, w2, w3, w4, hww]
  have hx0 : some (Row.cells false 1 (iv (nearL p i))) = some (.cells false 1 [.int .i64 ((i : Int) - p.w), .int .i64 ((i : Int) - 1), .int .i64 ((i : Int) + 1), .int .i64 ((i : Int) + p.w)]) := by rw [hiv]
  clear hww w1 w2 w3 w4
  refine loop_ind k_ref01_around_r10.eq_1 (fun a : Nat × AVal × Heap => a.1 ≤ 4 ∧ ((((nearL p i).take a.1).filter (fun b => 0 < wgI p i b) = [] ∧ a.2.1 = .nilsl ∧ a.2.2 = some (.cells false 4 [p.v]) :: some (.cells false 1 (iv (nearL p i))) :: []) ∨ (((nearL p i).take a.1).filter (fun b => 0 < wgI p i b) ≠ [] ∧ a.2.1 = .sl 3 0 (((nearL p i).take a.1).filter (fun b => 0 < wgI p i b)).length ∧ ∃ g X, a.2.2 = some (.cells false 4 [p.v]) :: some (.cells false 1 (iv (nearL p i))) :: g :: some (.cells true 1 (iv (((nearL p i).take a.1).filter (fun b => 0 < wgI p i b)))) :: X))) (fun a => 4 - a.1)
    (fun a => (tsets 51 [(1, .int .i64 i), (2, .ptr 0 0 0 1), (5, .sl 1 0 4), (6, a.2.1), (7, .int .i64 a.1)], a.2.2)) (0, .nilsl, some (.cells false 4 [p.v]) :: some (.cells false 1 (iv (nearL p i))) :: []) ⟨Nat.zero_le _, .inl ⟨by rw [List.take_zero]; rfl, rfl, rfl⟩⟩ (by simp [go_sem]) (by rw [hx0]; rfl) ?_
  rintro ⟨k, t6, H⟩ ⟨hk, hH⟩ ih
  dsimp only at hk hH ih ⊢
  by_cases h1 : k < 4
  · have h2 : (k : Int) < 4 := by omega
    have h3 := idx_next h1 (by omega)
    have n0 : ¬ (k : Int) < 0 := by omega
    have hg := iv_get (l := nearL p i) (i := k) (by omega)
    have hlen : (nearL p i).length = 4 := hnl
    have hW := weightI_ok hp hi (gt (nearL p i) k)
    have hT : (nearL p i).take (k + 1) = (nearL p i).take k ++ [gt (nearL p i) k] := by rw [List.take_add_one, gt_get (by omega)]; rfl
    have hle : (((nearL p i).take k).filter (fun b => 0 < wgI p i b)).length ≤ 4 := by
      have := List.length_filter_le (fun b => decide (0 < wgI p i b)) ((nearL p i).take k)
      rw [List.length_take] at this; omega
    have ihn := fun t6' H' => ih (k + 1, t6', H') (by dsimp only; omega)
    clear ih hx0 hiv hnear
    simp only [hT, List.filter_append] at ihn
    generalize hz : gt (nearL p i) k = z at *
    generalize (((nearL p i).take k).filter (fun b => 0 < wgI p i b)) = l at *
    by_cases hw0 : 0 < wgI p i z
    · have hf : List.filter (fun b => decide (0 < wgI p i b)) [z] = [z] := by simp [hw0]
      simp only [hf] at ihn
      rcases hH with ⟨rfl, rfl, rfl⟩ | ⟨hne, rfl, g, X, rfl⟩
      · simp only [List.nil_append] at ihn
        simp only [go_sem, Pl.v, Pl.a, Pl.c4, vw, iv_len, hlen, h2, n0, hg]
        refine cP hW ?_
        simp only [go_sem, hw0, h3, iv_len, hlen, h2, n0, hg]
        exact ⟨by decide, ihn _ _ ⟨h1, .inr ⟨by simp, rfl, _, [], rfl⟩⟩ _ (by simp [go_sem])⟩
      · simp only [go_sem, Pl.v, Pl.a, Pl.c4, vw, iv_len, hlen, h2, n0, hg]
        refine cP hW ?_
        simp only [go_sem, hw0, h3, iv_len, hlen, h2, n0, hg, iv_app]
        exact ⟨by omega, ihn _ _ ⟨h1, .inr ⟨by simp, rfl, _, _, rfl⟩⟩ _ (by simp [go_sem])⟩
    · have hf : List.filter (fun b => decide (0 < wgI p i b)) [z] = [] := by simp [hw0]
      simp only [hf, List.append_nil] at ihn
      rcases hH with ⟨rfl, rfl, rfl⟩ | ⟨hne, rfl, g, X, rfl⟩
      · simp only [go_sem, Pl.v, Pl.a, Pl.c4, vw, iv_len, hlen, h2, n0, hg]
        refine cP hW ?_
        simp only [go_sem, hw0, h3]
        exact ihn _ _ ⟨h1, .inl ⟨rfl, rfl, rfl⟩⟩ _ (by simp [go_sem])
      · simp only [go_sem, Pl.v, Pl.a, Pl.c4, vw, iv_len, hlen, h2, n0, hg]
        refine cP hW ?_
        simp only [go_sem, hw0, h3]
        exact ihn _ _ ⟨h1, .inr ⟨hne, rfl, _, _, rfl⟩⟩ _ (by simp [go_sem])
  · have h2 : ¬ (k : Int) < 4 := by omega
    have hall : ((nearL p i).take k).filter (fun b => 0 < wgI p i b) = nrL p i := by rw [List.take_of_length_le (by omega)]; rfl
    rw [hall] at hH
    clear ih hall hx0 hiv
    generalize nrL p i = l at *
    rcases hH with ⟨rfl, rfl, rfl⟩ | ⟨hne, rfl, g, X, rfl⟩
    · simp only [go_sem, iv_len, hnl, h2]
      show ∃ σ, Kept [] [] .nilsl .nilsl _ σ
      exact kept_id rfl (by simp only [go_sem]) (fun i x hx => by simp at hx)
    · have hne' : iv l ≠ [] := fun h => hne (List.map_eq_nil_iff.1 h)
      simp only [go_sem, iv_len, hnl, h2]
      unfold slv slrG
      rw [if_neg hne', if_neg hne']
      exact kept_new (A := []) 0 3 rfl rfl (by omega) (by simp [ren, rens, iv_len]) (fun i x hx => by simp at hx) (iv_row _ _ _) rfl
end Go.Proofs

namespace Go.Proofs
open Go Go.Sx
attribute [local irreducible] Run

theorem wgt_nonneg (p : Pl) (i j : Nat) : 0 ≤ wgt p i j := by
  unfold wgt besW abvW
  split
  · split <;> omega
  · split
    · split <;> omega
    · omega
theorem wgI_nonneg (p : Pl) (i : Nat) (b : Int) : 0 ≤ wgI p i b := by
  unfold wgI; split
  · exact wgt_nonneg _ _ _
  · omega
def lsum (p : Pl) (i : Nat) (f : Nat → Int) : List Int → Int
  | [] => 0
  | b :: l => wgI p i b * f b.toNat + lsum p i f l
theorem lsum_filter (p : Pl) (i : Nat) (f : Nat → Int) : ∀ l, lsum p i f (l.filter fun b => 0 < wgI p i b) = lsum p i f l
  | [] => rfl
  | b :: l => by
    rw [List.filter_cons]
    split
    · rw [lsum, lsum, lsum_filter p i f l]
    · rename_i h
      have h1 := wgI_nonneg p i b
      have h2 : wgI p i b = 0 := by
        have : ¬ 0 < wgI p i b := by simpa using h
        omega
      rw [lsum, lsum_filter p i f l, h2, Int.zero_mul, Int.zero_add]
theorem wgI_nat {p : Pl} (i : Nat) {j : Nat} (hj : j < p.w * p.h) : wgI p i (j : Int) = wgt p i j := by
  unfold wgI
  rw [if_pos ⟨by omega, by omega⟩]; rfl
theorem wgI_out {p : Pl} (i : Nat) {b : Int} (h : b < 0 ∨ (p.w * p.h : Nat) ≤ b) : wgI p i b = 0 := by
  unfold wgI
  rw [if_neg (by omega)]

section
variable {p : Pl} (hp : PlOK p) {x y : Nat} (hx : x < p.w) (hy : y < p.h)
include hp hx hy
omit hp in
theorem wgI_left (f : Nat → Int) (h1 : p.w ≠ 1) : wgI p (y * p.w + x) (((y * p.w + x : Nat) : Int) - 1) * f (((y * p.w + x : Nat) : Int) - 1).toNat = if 0 < x then besW p.rd (x - 1) * f (y * p.w + (x - 1)) else 0 := by
  have hi := cell_in hx hy
  by_cases h : 0 < x
  · have e : ((y * p.w + x : Nat) : Int) - 1 = ((y * p.w + (x - 1) : Nat) : Int) := by omega
    rw [e, wgI_nat _ (by omega), if_pos h]
    obtain ⟨m1, _⟩ := cell_at (w := p.w) (x := x) (y := y) hx
    obtain ⟨m2, _⟩ := cell_at (w := p.w) (x := x - 1) (y := y) (by omega)
    unfold wgt
    rw [show max (y * p.w + x) (y * p.w + (x - 1)) = y * p.w + x by omega, show min (y * p.w + x) (y * p.w + (x - 1)) = y * p.w + (x - 1) by omega, m1, m2, if_pos ⟨by omega, h⟩]
    rfl
  · have hx0 : x = 0 := by omega
    subst hx0
    rw [if_neg h, Nat.add_zero]
    by_cases hy0 : y = 0
    · subst hy0
      rw [Nat.zero_mul, wgI_out _ (.inl (by omega)), Int.zero_mul]
    · have hyw : p.w ≤ y * p.w := Nat.le_mul_of_pos_left _ (by omega)
      have e : ((y * p.w : Nat) : Int) - 1 = ((y * p.w - 1 : Nat) : Int) := by omega
      rw [e, wgI_nat _ (by omega)]
      obtain ⟨m1, _⟩ := cell_at (w := p.w) (x := 0) (y := y) hx
      rw [Nat.add_zero] at m1
      unfold wgt
      rw [show max (y * p.w) (y * p.w - 1) = y * p.w by omega, show min (y * p.w) (y * p.w - 1) = y * p.w - 1 by omega, m1, if_neg (by omega), if_neg (by omega), Int.zero_mul]
omit hp in
theorem wgI_right (f : Nat → Int) (h1 : p.w ≠ 1) : wgI p (y * p.w + x) (((y * p.w + x : Nat) : Int) + 1) * f (((y * p.w + x : Nat) : Int) + 1).toNat = if x + 1 < p.w then besW p.rd x * f (y * p.w + (x + 1)) else 0 := by
  have hi := cell_in hx hy
  have e : ((y * p.w + x : Nat) : Int) + 1 = ((y * p.w + (x + 1) : Nat) : Int) := by omega
  rw [e]
  obtain ⟨m1, _⟩ := cell_at (w := p.w) (x := x) (y := y) hx
  by_cases h : x + 1 < p.w
  · have hj := cell_in h hy
    obtain ⟨m2, _⟩ := cell_at (w := p.w) (x := x + 1) (y := y) h
    rw [wgI_nat _ hj, if_pos h]
    unfold wgt
    rw [show max (y * p.w + x) (y * p.w + (x + 1)) = y * p.w + (x + 1) by omega, show min (y * p.w + x) (y * p.w + (x + 1)) = y * p.w + x by omega, m1, m2, if_pos ⟨by omega, by omega⟩]
    rfl
  · rw [if_neg h]
    have e2 : y * p.w + (x + 1) = (y + 1) * p.w := by rw [Nat.add_mul]; omega
    rw [e2]
    by_cases hy1 : y + 1 < p.h
    · have hj : (y + 1) * p.w < p.w * p.h := by have := cell_in (w := p.w) (h := p.h) (x := 0) (y := y + 1) (by omega) hy1; rwa [Nat.add_zero] at this
      rw [wgI_nat _ hj]
      unfold wgt
      rw [show max (y * p.w + x) ((y + 1) * p.w) = (y + 1) * p.w by omega, show min (y * p.w + x) ((y + 1) * p.w) = y * p.w + x by omega, Nat.mul_mod_left, if_neg (by omega), if_neg (by omega), Int.zero_mul]
    · have hyh : y + 1 = p.h := by omega
      have : (y + 1) * p.w = p.w * p.h := by rw [hyh, Nat.mul_comm]
      rw [wgI_out _ (.inr (by omega)), Int.zero_mul]
theorem wgI_up (f : Nat → Int) (b : Int) (hb : b = ((y * p.w + x : Nat) : Int) - p.w) : wgI p (y * p.w + x) b * f b.toNat = if 0 < y then abvW p.rd x * f ((y - 1) * p.w + x) else 0 := by
  have hi := cell_in hx hy
  have hw := hp.w
  by_cases h : 0 < y
  · have e2 : y * p.w = (y - 1) * p.w + p.w := by
      have : y = y - 1 + 1 := by omega
      conv => lhs; rw [this, Nat.add_mul, Nat.one_mul]
    have e : b = (((y - 1) * p.w + x : Nat) : Int) := by omega
    rw [e, wgI_nat _ (by omega), if_pos h]
    obtain ⟨m1, _⟩ := cell_at (w := p.w) (x := x) (y := y) hx
    obtain ⟨m2, _⟩ := cell_at (w := p.w) (x := x) (y := y - 1) hx
    unfold wgt
    rw [show max (y * p.w + x) ((y - 1) * p.w + x) = y * p.w + x by omega, show min (y * p.w + x) ((y - 1) * p.w + x) = (y - 1) * p.w + x by omega, m1, m2, if_neg (by omega), if_pos (by omega)]
    rfl
  · have hy0 : y = 0 := by omega
    subst hy0
    rw [if_neg h, wgI_out _ (.inl (by omega)), Int.zero_mul]
theorem wgI_down (f : Nat → Int) (b : Int) (hb : b = ((y * p.w + x : Nat) : Int) + p.w) : wgI p (y * p.w + x) b * f b.toNat = if y + 1 < p.h then abvW p.rd x * f ((y + 1) * p.w + x) else 0 := by
  have hi := cell_in hx hy
  have hw := hp.w
  have e2 : (y + 1) * p.w = y * p.w + p.w := by rw [Nat.add_mul, Nat.one_mul]
  have e : b = (((y + 1) * p.w + x : Nat) : Int) := by omega
  rw [e]
  obtain ⟨m1, _⟩ := cell_at (w := p.w) (x := x) (y := y) hx
  obtain ⟨m2, _⟩ := cell_at (w := p.w) (x := x) (y := y + 1) hx
  by_cases h : y + 1 < p.h
  · have hj := cell_in hx h
    rw [wgI_nat _ hj, if_pos h]
    unfold wgt
    rw [show max (y * p.w + x) ((y + 1) * p.w + x) = (y + 1) * p.w + x by omega, show min (y * p.w + x) ((y + 1) * p.w + x) = y * p.w + x by omega, m1, m2, if_neg (by omega), if_pos (by omega)]
    rfl
  · have hyh : y + 1 = p.h := by omega
    have : (y + 1) * p.w = p.w * p.h := by rw [hyh, Nat.mul_comm]
    rw [if_neg h, wgI_out _ (.inr (by omega)), Int.zero_mul]
end

theorem nr_sum {p : Pl} (hp : PlOK p) {i : Nat} (hi : i < p.w * p.h) (f : Nat → Int) : lsum p i f (nrL p i) = wsum (nbs p i) f := by
  obtain ⟨c1, c2, c3⟩ := cell_lt hi
  unfold nrL
  rw [lsum_filter, ← c3, wsum_nbs p c1]
  generalize i % p.w = x at *
  generalize i / p.w = y at *
  unfold nearL
  by_cases h1 : p.w = 1
  · rw [if_pos h1]
    simp only [lsum]
    rw [wgI_up hp c1 c2 f (((y * p.w + x : Nat) : Int) - 1) (by omega), wgI_down hp c1 c2 f (((y * p.w + x : Nat) : Int) + 1) (by omega), if_neg (show ¬ 0 < x by omega), if_neg (show ¬ x + 1 < p.w by omega)]
    omega
  · rw [if_neg h1]
    simp only [lsum]
    rw [wgI_up hp c1 c2 f (((y * p.w + x : Nat) : Int) - p.w) rfl, wgI_down hp c1 c2 f (((y * p.w + x : Nat) : Int) + p.w) rfl, wgI_left c1 c2 f h1, wgI_right c1 c2 f h1]
    omega

theorem around_ok' {p : Pl} (hp : PlOK p) {i : Nat} (hi : i < p.w * p.h) : Ans Try.prog n_ref01_around [p.v, .int .i64 i] [] (slv 0 (iv (nrL p i))) (slrG true 1 (iv (nrL p i))) := by
  by_cases h : p.w = 1
  · exact around_one hp hi h
  · exact around_more hp hi h
theorem lsum_app (p : Pl) (i : Nat) (f : Nat → Int) : ∀ l m, lsum p i f (l ++ m) = lsum p i f l + lsum p i f m
  | [], m => by simp [lsum]
  | b :: l, m => by rw [List.cons_append, lsum, lsum, lsum_app p i f l m]; omega
theorem nr_in {p : Pl} {i : Nat} {b : Int} (h : b ∈ nrL p i) : 0 ≤ b ∧ b < (p.w * p.h : Nat) ∧ 1 ≤ wgI p i b := by
  unfold nrL at h
  have h1 := (List.mem_filter.1 h).2
  have h2 : 0 < wgI p i b := by simpa using h1
  by_cases h3 : 0 ≤ b ∧ b < (p.w * p.h : Nat)
  · exact ⟨h3.1, h3.2, by omega⟩
  · unfold wgI at h2; rw [if_neg h3] at h2; omega
theorem wgI_le {p : Pl} (hp : PlOK p) (i : Nat) (b : Int) : wgI p i b ≤ 32 := by
  have hw := hp.w
  unfold wgI
  split
  · unfold wgt besW abvW
    have h1 : min i b.toNat % p.w < p.w := Nat.mod_lt _ (by omega)
    generalize min i b.toNat % p.w = x at *
    split
    · split <;> omega
    · split
      · split <;> omega
      · omega
  · omega
theorem nr_len (p : Pl) (i : Nat) : (nrL p i).length ≤ 4 := by
  unfold nrL
  refine Nat.le_trans (List.length_filter_le _ _) ?_
  unfold nearL
  split <;> simp
theorem lsum_bd {p : Pl} (hp : PlOK p) {a : List Int} (ha : AtOK p a) (i : Nat) : ∀ l : List Int, (∀ b ∈ l, 0 ≤ b ∧ b < (p.w * p.h : Nat)) → -32000000 * (l.length : Int) ≤ lsum p i (gt a) l ∧ lsum p i (gt a) l ≤ 32000000 * (l.length : Int) ∧ 0 ≤ lsum p i (fun _ => 1) l ∧ lsum p i (fun _ => 1) l ≤ 32 * (l.length : Int)
  | [], _ => by simp [lsum]
  | b :: l, h => by
    have ih := lsum_bd hp ha i l fun c hc => h c (by simp [hc])
    have h1 := h b (by simp)
    have h2 := ha.bd b.toNat (by omega)
    have h3 := wgI_le hp i b
    have h4 := wgI_nonneg p i b
    have h5 := Int.mul_le_mul_of_nonneg_left h2.1 h4
    have h6 := Int.mul_le_mul_of_nonneg_left h2.2 h4
    rw [lsum, lsum, List.length_cons]
    push_cast
    omega

set_option maxHeartbeats 4000000 in
theorem sums_ok {p : Pl} (hp : PlOK p) {a : List Int} (ha : AtOK p a) {i : Nat} (hi : i < p.w * p.h) : Ans Try.prog n_ref01_sums [p.v, vw a, .int .i64 i] [] (.tup [.int .i64 (wtot (nbs p i)), .int .i64 (wsum (nbs p i) (gt a))]) [] := by
  have hw := hp.w; have hh := hp.h
  have hN : p.w * p.h ≤ 256 := Nat.mul_le_mul hw.2 hh.2
  have hA := around_ok' hp hi
  have r1 := nr_sum hp hi (gt a)
  have r2 := nr_sum hp hi fun _ => 1
  have hmem := fun b (hb : b ∈ nrL p i) => nr_in hb
  have hnl := nr_len p i
  rw [← r1, wtot, ← r2]
  clear r1 r2
  generalize nrL p i = l at *
  refine spec_run e_ref01_sums fun G => ?_
  simp only [go_sem, Pl.v, Pl.a, Pl.c4, vw]
  by_cases hne : iv l = []
  · have hl : l = [] := List.map_eq_nil_iff.1 hne
    unfold slv slrG at hA
    rw [if_pos hne, if_pos hne] at hA
    refine cP hA ?_
    simp only [go_sem]
    subst hl
    refine loop_body 3000 k_ref01_sums_r8.eq_1 ?_
    simp only [go_sem, lsum]
  · unfold slv slrG at hA
    rw [if_neg hne, if_neg hne] at hA
    refine cN1 hA ?_ (hr := by simp [go_sem]) (hx := iv_row _ _ _)
    simp only [go_sem, ren, rens, iv_len]
    refine loop_ind k_ref01_sums_r8.eq_1 (fun k : Nat => k ≤ l.length) (fun k => l.length - k)
      (fun k => (tsets 45 [(1, vw a), (2, .int .i64 i), (3, .ptr 0 0 0 1), (8, .int .i64 (lsum p i (fun _ => 1) (l.take k))), (9, .int .i64 (lsum p i (gt a) (l.take k))), (10, .sl 1 0 l.length), (11, .int .i64 k)],
        [some (.cells false 4 [p.v]), some (.cells true 1 (iv l))])) 0 (Nat.zero_le _) (by simp [go_sem, lsum, vw]) rfl ?_
    intro k hk ih
    dsimp only at hk ih ⊢
    by_cases h1 : k < l.length
    · have h2 : (k : Int) < l.length := by omega
      have h3 := idx_next h1 (by omega)
      have n0 : ¬ (k : Int) < 0 := by omega
      have hg := iv_get h1
      have hT : l.take (k + 1) = l.take k ++ [gt l k] := by rw [List.take_add_one, gt_get h1]; rfl
      have hm := hmem _ (gt_mem h1)
      have hW := weightI_ok hp hi (gt l k)
      have b1 := lsum_bd hp ha i (l.take k) fun b hb => by have := hmem b (List.mem_of_mem_take hb); exact ⟨this.1, this.2.1⟩
      have hlt : (l.take k).length = k := by rw [List.length_take]; omega
      have ihn := ih (k + 1) (by omega) h1
      rw [hT, lsum_app, lsum_app] at ihn
      simp only [lsum, Int.mul_one, Int.add_zero] at ihn
      clear ih hT
      rw [hlt] at b1
      generalize gt l k = z at *
      obtain ⟨j, rfl⟩ : ∃ j : Nat, (j : Int) = z := ⟨z.toNat, by omega⟩
      have ga := gt_get (l := a) (i := j) (by rw [ha.len]; omega)
      have hjl : (j : Int) < a.length := by rw [ha.len]; omega
      have nj : ¬ (j : Int) < 0 := by omega
      have hbd := ha.bd j (by omega)
      have hw32 := wgI_le hp i (j : Int)
      have hw0 := hm.2.2
      rw [Int.toNat_natCast] at ihn
      generalize gt a j = y at *
      generalize wgI p i (j : Int) = wt at *
      generalize lsum p i (fun _ => 1) (l.take k) = s1 at *
      generalize lsum p i (gt a) (l.take k) = s2 at *
      have m1 : -32000000 ≤ wt * y ∧ wt * y ≤ 32000000 := by
        have h5 := Int.mul_le_mul_of_nonneg_left hbd.1 (show 0 ≤ wt by omega)
        have h6 := Int.mul_le_mul_of_nonneg_left hbd.2 (show 0 ≤ wt by omega)
        omega
      have z1 : IntKind.i64.wrap (s1 + wt) = s1 + wt := w64 (by omega)
      have z2 : IntKind.i64.wrap (wt * y) = wt * y := w64 (by omega)
      have z3 : IntKind.i64.wrap (s2 + wt * y) = s2 + wt * y := w64 (by omega)
      simp only [go_sem, Pl.v, Pl.a, Pl.c4, vw, iv_len, h2, n0, hg]
      refine cP hW ?_
      simp only [go_sem, iv_len, h2, n0, hg, nj, hjl, ga, z1, z2, z3, h3, List.length_map]
      exact ihn _ (by simp [go_sem, vw])
    · have h2 : ¬ (k : Int) < l.length := by omega
      rw [List.take_of_length_le (by omega)]
      simp only [go_sem, iv_len, h2]
end Go.Proofs

namespace Go.Proofs
open Go Go.Sx
attribute [local irreducible] Run

theorem wgt_symm (p : Pl) (i j : Nat) : wgt p i j = wgt p j i := by
  unfold wgt; rw [Nat.max_comm, Nat.min_comm]
theorem lsum_ind (p : Pl) (i j : Nat) : ∀ l : List Int, 0 < lsum p i (fun n => if n = j then 1 else 0) l → ∃ b ∈ l, b.toNat = j ∧ 0 < wgI p i b
  | [], h => by simp [lsum] at h
  | b :: l, h => by
    rw [lsum] at h
    by_cases hb : b.toNat = j ∧ 0 < wgI p i b
    · exact ⟨b, by simp, hb⟩
    · have h0 : wgI p i b * (if b.toNat = j then 1 else 0) = 0 := by
        by_cases h1 : b.toNat = j
        · have := wgI_nonneg p i b
          have h2 : wgI p i b = 0 := by
            have : ¬ 0 < wgI p i b := fun h3 => hb ⟨h1, h3⟩
            omega
          rw [h2, Int.zero_mul]
        · rw [if_neg h1, Int.mul_zero]
      obtain ⟨c, hc, hc2⟩ := lsum_ind p i j l (by omega)
      exact ⟨c, by simp [hc], hc2⟩
theorem wsum_ind {l : List (Nat × Int)} (h : ∀ q ∈ l, 1 ≤ q.2) {q : Nat × Int} (hq : q ∈ l) : 0 < wsum l fun n => if n = q.1 then 1 else 0 := by
  induction l with
  | nil => simp at hq
  | cons r l ih =>
    have h1 := h r (by simp)
    have nn : 0 ≤ wsum l fun n => if n = q.1 then 1 else 0 := by
      have := wsum_mono (l := l) (f := fun _ => 0) (g := fun n => if n = q.1 then 1 else 0) fun s hs => ⟨by have := h s (by simp [hs]); omega, by split <;> omega⟩
      rw [wsum_const, Int.mul_zero] at this; exact this
    have nr : 0 ≤ r.2 * (if r.1 = q.1 then 1 else 0) := Int.mul_nonneg (by omega) (by split <;> omega)
    simp only [wsum]
    rcases List.mem_cons.1 hq with rfl | hq
    · rw [if_pos rfl, Int.mul_one]; omega
    · have := ih (fun s hs => h s (by simp [hs])) hq
      omega
theorem nr_back {p : Pl} (hp : PlOK p) {i : Nat} (hi : i < p.w * p.h) {q : Nat × Int} (hq : q ∈ nbs p i) : (i : Int) ∈ nrL p q.1 := by
  have hN := nbs_in p hp.w.2 hi
  obtain ⟨k1, k2, _⟩ := hN q hq
  have h1 := wsum_ind (fun r hr => (hN r hr).2.1) hq
  rw [← nr_sum hp hi] at h1
  obtain ⟨b, hb, hbj, hbw⟩ := lsum_ind p i q.1 _ h1
  obtain ⟨m1, m2, _⟩ := nr_in hb
  have e : b = (q.1 : Int) := by omega
  subst e
  rw [wgI_nat _ k1, wgt_symm] at hbw
  unfold nrL
  rw [List.mem_filter]
  refine ⟨?_, by rw [wgI_nat _ hi]; simpa using hbw⟩
  unfold nrL at hb
  have hb1 := (List.mem_filter.1 hb).1
  unfold nearL at hb1 ⊢
  split at hb1
  · rename_i hw1
    rw [if_pos hw1]
    simp only [List.mem_cons, List.not_mem_nil, or_false] at hb1 ⊢
    omega
  · rename_i hw1
    rw [if_neg hw1]
    simp only [List.mem_cons, List.not_mem_nil, or_false] at hb1 ⊢
    omega

structure HeOK (p : Pl) (bs : List Bool) : Prop where
  len : bs.length = p.w * p.h
  el : ∀ i, i < p.w * p.h → p.el i → bs.getD i false = true
def nf (bs : List Bool) : Nat := bs.count false
def HeCl (p : Pl) (bs : List Bool) (i : Nat) : Prop := ∀ b ∈ nrL p i, bs.getD b.toNat false = true → bs.getD i false = true
theorem held_all {p : Pl} (hp : PlOK p) {bs : List Bool} (h : HeOK p bs) (hc : ∀ i, i < p.w * p.h → HeCl p bs i) : bs = List.replicate (p.w * p.h) true := by
  have hall := grid_conn p (fun i => bs.getD i false = true) (by
    obtain ⟨i, hi, hE⟩ := hp.some
    exact ⟨i, hi, h.el i hi hE⟩) (fun i hi hS q hq => by
    obtain ⟨k1, _⟩ := nbs_in p hp.w.2 hi q hq
    exact hc q.1 k1 i (nr_back hp hi hq) (by rw [Int.toNat_natCast]; exact hS))
  refine List.ext_getElem (by rw [h.len, List.length_replicate]) fun i h1 h2 => ?_
  have := hall i (by rw [← h.len]; exact h1)
  rw [List.getD_eq_getElem?_getD, List.getElem?_eq_getElem h1] at this
  rw [List.getElem_replicate]
  exact this
theorem nf_set {bs : List Bool} {i : Nat} (hi : i < bs.length) (h : bs.getD i false = false) : nf (bs.set i true) + 1 = nf bs := by
  have hg : bs[i] = false := by rw [List.getD_eq_getElem?_getD, List.getElem?_eq_getElem hi] at h; exact h
  have h1 : 0 < bs.count false := List.count_pos_iff.2 (by rw [← hg]; exact List.getElem_mem hi)
  unfold nf
  rw [List.count_set hi, hg]
  simp
  omega
theorem HeOK.set {p : Pl} {bs : List Bool} (h : HeOK p bs) {i : Nat} (hi : i < p.w * p.h) : HeOK p (bs.set i true) := by
  refine ⟨by rw [List.length_set]; exact h.len, fun j hj hE => ?_⟩
  rw [getD_set _ _ _ (by rw [h.len]; exact hi)]
  split
  · rfl
  · exact h.el j hj hE

def elT (p : Pl) (i : Nat) : List Bool := (List.range (p.w * p.h)).map fun j => decide (j < i) && decide (0 < gt p.cs j)
theorem elT_len (p : Pl) (i : Nat) : (elT p i).length = p.w * p.h := by simp [elT]
theorem elT_get (p : Pl) (i : Nat) {j : Nat} (hj : j < p.w * p.h) : (elT p i).getD j false = (decide (j < i) && decide (0 < gt p.cs j)) := by
  unfold elT
  rw [List.getD_eq_getElem?_getD, List.getElem?_map, List.getElem?_range hj]; rfl
theorem bl_ext {a b : List Bool} (hl : a.length = b.length) (h : ∀ i, i < a.length → a.getD i false = b.getD i false) : a = b := by
  refine List.ext_getElem hl fun i h1 h2 => ?_
  have := h i h1
  rw [List.getD_eq_getElem?_getD, List.getD_eq_getElem?_getD, List.getElem?_eq_getElem h1, List.getElem?_eq_getElem h2] at this
  exact this
theorem elT_set (p : Pl) {i : Nat} (hi : i < p.w * p.h) : (elT p i).set i (decide (0 < gt p.cs i)) = elT p (i + 1) := bl_ext (by rw [List.length_set, elT_len, elT_len]) fun j hj => by
  rw [List.length_set, elT_len] at hj
  rw [elT_get _ _ hj, List.getD_eq_getElem?_getD]
  by_cases e : j = i
  · subst e
    rw [List.getElem?_set_self (by rw [elT_len]; exact hj)]
    simp
  · rw [List.getElem?_set_ne (by omega), ← List.getD_eq_getElem?_getD, elT_get _ _ hj]
    by_cases h1 : j < i
    · rw [decide_eq_true h1, decide_eq_true (show j < i + 1 by omega)]
    · rw [decide_eq_false h1, decide_eq_false (show ¬ j < i + 1 by omega)]
theorem elT_ok {p : Pl} (hp : PlOK p) : HeOK p (elT p (p.w * p.h)) := ⟨elT_len _ _, fun i hi hE => by
  have h1 := hp.cell _ (hp.mem hi)
  have h2 : gt p.cs i ≠ 0 := hE
  rw [elT_get _ _ hi, decide_eq_true hi, decide_eq_true (by omega)]; rfl⟩
theorem bv_set1 {bs : List Bool} {i : Nat} (x : Bool) : (bv bs).set i (.bool x) = bv (bs.set i x) := by simp [bv, List.map_set]

set_option maxHeartbeats 8000000 in
set_option maxRecDepth 4000 in
theorem held_ok {p : Pl} (hp : PlOK p) : Ans Try.prog n_ref01_held [p.v] [] (.sl 0 0 p.cs.length) [some (.cells false 1 (bv (List.replicate (p.w * p.h) true)))] := by
  have hw := hp.w; have hh := hp.h
  have hN : p.w * p.h ≤ 256 := Nat.mul_le_mul hw.2 hh.2
  have hlen := hp.len
  refine Ans.keep (run_fn e_ref01_held fun G => ?_) (by simp) (by simp [go_sem]) ⟨by rw [row_bel_cells]; unfold bv; simp only [go_sem], trivial⟩
  have q1 : (0 : Int) ≤ p.cs.length := by omega
  have q2 : (p.cs.length : Int) ≤ 2 ^ 44 := by omega
  have q3 : (p.cs.length : Int) * 1 ≤ 2 ^ 44 := by omega
  simp only [go_sem, Pl.v, Pl.a, Pl.c4, vw, List.length_map, q1, q2, q3, Int.toNat_natCast]
  refine ⟨Int.le_refl _, ?_⟩
  have h0 : List.replicate p.cs.length (AVal.bool false) = bv (elT p 0) := by
    have : elT p 0 = List.replicate (p.w * p.h) false := bl_ext (by simp [elT]) fun j hj => by
      rw [elT_len] at hj
      rw [elT_get _ _ hj, List.getD_eq_getElem?_getD, List.getElem?_replicate, if_pos hj]; simp
    rw [this, hlen]; simp [bv]
  rw [h0]
  refine loop_ind k_ref01_held_r6.eq_1 (fun i : Nat => i ≤ p.cs.length) (fun i => p.cs.length - i)
    (fun i => (tsets 64 [(1, .ptr 0 0 0 1), (3, .sl 1 0 p.cs.length), (4, .int .i64 i)], [some (.cells false 4 [p.v]), some (.cells false 1 (bv (elT p i)))])) 0 (Nat.zero_le _) (by simp [go_sem]) rfl ?_
  intro i hi ih
  dsimp only at hi ih ⊢
  by_cases h1 : i < p.cs.length
  · have h2 : (i : Int) < p.cs.length := by omega
    have h3 := idx_next h1 (by omega)
    have n0 : ¬ (i : Int) < 0 := by omega
    have hx := gt_get h1
    have hb := bv_get (bs := elT p i) (c := i) (by rw [elT_len]; omega)
    have s1 := elT_set p (i := i) (by omega)
    have hEl : (elT p i).length = p.cs.length := by rw [elT_len, hlen]
    have ihn := ih (i + 1) (by omega) h1
    rw [← s1] at ihn
    clear ih s1
    generalize gt p.cs i = z at *
    by_cases hz : 0 < z
    · rw [decide_eq_true hz] at ihn
      simp only [go_sem, Pl.v, Pl.a, Pl.c4, vw, List.length_map, h2, n0, hx, hz, bv_len, hEl, hb, bv_set1, h3]
      exact ihn _ (by simp [go_sem])
    · rw [decide_eq_false hz] at ihn
      simp only [go_sem, Pl.v, Pl.a, Pl.c4, vw, List.length_map, h2, n0, hx, hz, bv_len, hEl, hb, bv_set1, h3]
      exact ihn _ (by simp [go_sem])
  · have h2 : ¬ (i : Int) < p.cs.length := by omega
    have hie : i = p.w * p.h := by omega
    subst hie
    clear ih
    simp only [go_sem, Pl.v, Pl.a, Pl.c4, vw, List.length_map, h2]
    have e0 := elT_ok hp
    generalize elT p (p.w * p.h) = bs0 at *
    clear h0
    refine loop_ind k_ref01_held_r21.eq_1 (fun a : List Bool × Bool × Heap => HeOK p a.1 ∧ (a.2.1 = false → ∀ i, i < p.w * p.h → HeCl p a.1 i)) (fun a => if a.2.1 then nf a.1 + 1 else 0)
      (fun a => (tsets 64 [(1, .ptr 0 0 0 1), (3, .sl 1 0 p.cs.length), (5, .bool a.2.1)], some (.cells false 4 [p.v]) :: some (.cells false 1 (bv a.1)) :: a.2.2)) (bs0, true, []) ⟨e0, fun h => by cases h⟩ (by simp [go_sem]) rfl ?_
    clear e0 bs0
    rintro ⟨bs, more, X⟩ ⟨hb, hcl⟩ ih
    dsimp only at hb hcl ih ⊢
    cases more with
    | false =>
      simp only [go_sem]
      rw [← held_all hp hb (hcl rfl)]
      exact kept_new (A := []) 0 1 rfl rfl (by omega) (by simp [ren, rens]) (fun i x hx => by simp at hx) (by rw [row_bel_cells]; unfold bv; simp only [go_sem]) rfl
    | true =>
      clear hcl
      simp only [if_true] at ih
      simp only [go_sem]
      refine loop_ind k_ref01_held_r20.eq_1 (fun a : Nat × List Bool × Bool × Heap => a.1 ≤ p.cs.length ∧ HeOK p a.2.1 ∧ (a.2.2.1 = true → nf a.2.1 < nf bs) ∧ (a.2.2.1 = false → a.2.1 = bs ∧ ∀ j, j < a.1 → HeCl p bs j)) (fun a => p.cs.length - a.1)
        (fun a => (tsets 64 [(1, .ptr 0 0 0 1), (3, .sl 1 0 p.cs.length), (5, .bool a.2.2.1), (6, .int .i64 a.1)], some (.cells false 4 [p.v]) :: some (.cells false 1 (bv a.2.1)) :: a.2.2.2)) (0, bs, false, X) ⟨Nat.zero_le _, hb, (fun h => by cases h), fun _ => ⟨rfl, fun j hj => absurd hj (Nat.not_lt_zero _)⟩⟩ (by simp [go_sem]) rfl ?_
      clear X
      rintro ⟨i, cs, m, X⟩ ⟨hi, hc, hm1, hm2⟩ ihi
      dsimp only at hi hc hm1 hm2 ihi ⊢
      by_cases h4 : i < p.cs.length
      · have h5 : (i : Int) < p.cs.length := by omega
        have h6 := idx_next h4 (by omega)
        have hiN : i < p.w * p.h := by omega
        clear ih
        have hA := around_ok' hp hiN
        have ihn := fun cs' m' X' => ihi (i + 1, cs', m', X') (by dsimp only; omega)
        clear ihi
        simp only [go_sem, Pl.v, Pl.a, Pl.c4, vw, List.length_map, h5]
        by_cases hne : iv (nrL p i) = []
        · have hl : nrL p i = [] := List.map_eq_nil_iff.1 hne
          unfold slv slrG at hA
          rw [if_pos hne, if_pos hne] at hA
          refine cP hA ?_
          simp only [go_sem]
          refine loop_body 3000 k_ref01_held_r18.eq_1 ?_
          simp only [go_sem, h6]
          exact ihn cs m X ⟨h4, hc, hm1, fun h => ⟨(hm2 h).1, fun j hj => by
            by_cases e1 : j = i
            · subst e1
              intro b hbm; rw [hl] at hbm; simp at hbm
            · exact (hm2 h).2 j (by omega)⟩⟩ _ (by simp [go_sem])
        · have hmem := fun b (hb : b ∈ nrL p i) => nr_in hb
          have hnl := nr_len p i
          unfold slv slrG at hA
          rw [if_neg hne, if_neg hne] at hA
          refine cN1 hA ?_ (hr := by simp [go_sem]) (hx := iv_row _ _ _)
          simp only [go_sem, ren, rens, iv_len]
          have hnr : ∀ (r0 r1 : Option Row), (r0 :: r1 :: (X ++ [some (Row.cells true 1 (iv (nrL p i)))]))[X.length + 2]? = some (some (Row.cells true 1 (iv (nrL p i)))) := fun r0 r1 => by simp
          unfold HeCl at hm2 ihn
          have hcell : ∀ b ∈ nrL p i, ∃ j : Nat, (j : Int) = b ∧ j < p.w * p.h := fun b hb => by have := hmem b hb; exact ⟨b.toNat, by omega, by omega⟩
          clear hmem
          generalize hll : nrL p i = l at *
          refine loop_ind k_ref01_held_r18.eq_1 (fun a : Nat × List Bool × Bool => a.1 ≤ l.length ∧ HeOK p a.2.1 ∧ (a.2.2 = true → nf a.2.1 < nf bs) ∧ (a.2.2 = false → a.2.1 = bs ∧ (∀ j, j < i → ∀ b ∈ nrL p j, bs.getD b.toNat false = true → bs.getD j false = true) ∧ ∀ b ∈ l.take a.1, bs.getD b.toNat false = true → bs.getD i false = true)) (fun a => l.length - a.1)
            (fun a => (tsets 64 [(1, .ptr 0 0 0 1), (3, .sl 1 0 p.cs.length), (5, .bool a.2.2), (6, .int .i64 i), (7, .sl (X.length + 2) 0 l.length), (8, .int .i64 a.1)], some (.cells false 4 [p.v]) :: some (.cells false 1 (bv a.2.1)) :: (X ++ [some (.cells true 1 (iv l))]))) (0, cs, m) ⟨Nat.zero_le _, hc, hm1, fun h => ⟨(hm2 h).1, (hm2 h).2, fun b hb => by simp at hb⟩⟩ (by simp [go_sem]) rfl ?_
          clear hc hm1 hm2 cs m
          rintro ⟨k, cs, m⟩ ⟨hk, hc, hm1, hm2⟩ ihk
          dsimp only at hk hc hm1 hm2 ihk ⊢
          by_cases h7 : k < l.length
          · have h8 : (k : Int) < l.length := by omega
            have h9 := idx_next h7 (by omega)
            have n0 : ¬ (k : Int) < 0 := by omega
            have hg := iv_get h7
            have hT : l.take (k + 1) = l.take k ++ [gt l k] := by rw [List.take_add_one, gt_get h7]; rfl
            obtain ⟨j, hj, hjN⟩ := hcell _ (gt_mem h7)
            have ihm := fun cs' m' => ihk (k + 1, cs', m') (by dsimp only; omega)
            clear ihk
            simp only [hT] at ihm
            rw [← hj] at ihm hg
            clear hj hT
            have gj := bv_get (bs := cs) (c := j) (by rw [hc.len]; exact hjN)
            have gi := bv_get (bs := cs) (c := i) (by rw [hc.len]; exact hiN)
            have nj : ¬ (j : Int) < 0 := by omega
            have ni : ¬ (i : Int) < 0 := by omega
            have hjl : (j : Int) < p.cs.length := by omega
            have hcl := hc.len
            rw [← hlen] at hcl
            have hca := cells_at (hnr (some (.cells false 4 [p.v])) (some (.cells false 1 (bv cs))))
            simp only [Pl.v, Pl.a, Pl.c4, vw] at hca
            cases hbj : cs.getD j false with
            | false =>
              rw [hbj] at gj
              simp only [go_sem, Pl.v, Pl.a, Pl.c4, vw, iv_len, hca, h8, n0, hg, nj, hjl, bv_len, hcl, gj, h9]
              exact ihm cs m ⟨h7, hc, hm1, fun h => ⟨(hm2 h).1, (hm2 h).2.1, fun b hb hbt => by
                rcases List.mem_append.1 hb with h1 | h1
                · exact (hm2 h).2.2 b h1 hbt
                · simp only [List.mem_singleton] at h1
                  subst h1
                  rw [Int.toNat_natCast, ← (hm2 h).1, hbj] at hbt
                  cases hbt⟩⟩ _ (by simp [go_sem])
            | true =>
              rw [hbj] at gj
              cases hbi : cs.getD i false with
              | true =>
                rw [hbi] at gi
                simp only [go_sem, Pl.v, Pl.a, Pl.c4, vw, iv_len, hca, h8, n0, hg, nj, hjl, bv_len, hcl, gj, ni, h5, gi, h9]
                exact ihm cs m ⟨h7, hc, hm1, fun h => ⟨(hm2 h).1, (hm2 h).2.1, fun b hb hbt => by
                  rw [← (hm2 h).1]; exact hbi⟩⟩ _ (by simp [go_sem])
              | false =>
                rw [hbi] at gi
                have hs := nf_set (bs := cs) (i := i) (by rw [hc.len]; exact hiN) hbi
                simp only [go_sem, Pl.v, Pl.a, Pl.c4, vw, iv_len, hca, h8, n0, hg, nj, hjl, bv_len, hcl, gj, ni, h5, gi, bv_set1, h9]
                exact ihm (cs.set i true) true ⟨h7, hc.set hiN, fun _ => by
                  cases m with
                  | true => have := hm1 rfl; omega
                  | false => have := (hm2 rfl).1; rw [this] at hs ⊢; omega, fun h => by cases h⟩ _ (by simp [go_sem])
          · have h8 : ¬ (k : Int) < l.length := by omega
            rw [List.take_of_length_le (by omega)] at hm2
            have hca := cells_at (hnr (some (.cells false 4 [p.v])) (some (.cells false 1 (bv cs))))
            simp only [Pl.v, Pl.a, Pl.c4, vw] at hca
            simp only [go_sem, Pl.v, Pl.a, Pl.c4, vw, iv_len, hca, h8, h6]
            exact ihn cs m _ ⟨h4, hc, hm1, fun h => ⟨(hm2 h).1, fun j hj => by
              by_cases e1 : j = i
              · subst e1
                rw [hll]; exact (hm2 h).2.2
              · exact (hm2 h).2.1 j (by dsimp only at hj; omega)⟩⟩ _ (by simp [go_sem])
      · have h5 : ¬ (i : Int) < p.cs.length := by omega
        have hle : i = p.w * p.h := by omega
        simp only [go_sem, Pl.v, Pl.a, Pl.c4, vw, List.length_map, h5]
        exact ih (cs, m, X) (by
          dsimp only
          cases m with
          | true => have := hm1 rfl; simp only [if_true]; omega
          | false => simp) ⟨hc, fun h => by
            obtain ⟨e1, e2⟩ := hm2 h
            dsimp only
            rw [e1, ← hle]; exact e2⟩ _ (by simp [go_sem])
end Go.Proofs

namespace Go.Proofs
open Go Go.Sx
attribute [local irreducible] Run

theorem gmax_pos {l : List Int} (h : ∀ c ∈ l, 0 ≤ c) : gmax l = 0 ↔ ¬ ∃ c ∈ l, 0 < c := by
  have h1 := (mxL_ge l 0).2
  constructor
  · rintro h0 ⟨c, hc, hp⟩
    have : c ≤ gmax l := h1 c hc
    omega
  · intro hn
    rcases mxL_or l 0 with h2 | h2
    · exact h2
    · have h3 : mxL 0 l = gmax l := rfl
      rw [h3] at h2
      have := h _ h2
      have h4 : ¬ 0 < gmax l := fun h5 => hn ⟨_, h2, h5⟩
      omega

set_option maxHeartbeats 4000000 in
theorem rCheck_raw (p : Rp) (hlen : p.cs.length ≤ 1000000) : Ans Try.prog n_ref01_Check [p.v] [] (.int .i64 p.err) [] := by
  have herr := @Rp.ok p
  unfold Rp.err at herr ⊢
  refine spec_run e_ref01_Check fun G => ?_
  simp only [go_sem, Rp.v, vw]
  by_cases hw : 1 ≤ p.w ∧ p.w ≤ 16
  · refine cP (beyond_no hw) ?_
    simp only [go_sem]
    by_cases hh : 1 ≤ p.h ∧ p.h ≤ 16
    · rw [if_neg (fun h => h ⟨hw, hh⟩)] at herr ⊢
      refine cP (beyond_no hh) ?_
      obtain ⟨w, hw'⟩ : ∃ w : Nat, (w : Int) = p.w := ⟨p.w.toNat, by omega⟩
      obtain ⟨h, hh'⟩ : ∃ h : Nat, (h : Int) = p.h := ⟨p.h.toNat, by omega⟩
      have hN : w * h ≤ 256 := Nat.mul_le_mul (show w ≤ 16 by omega) (show h ≤ 16 by omega)
      have em : IntKind.i64.wrap (p.w * p.h) = p.w * p.h := by rw [← hw', ← hh', w64 (by push_cast at *; omega)]
      by_cases hl : (p.cs.length : Int) = p.w * p.h
      · rw [if_neg (fun h => h hl)] at herr ⊢
        have hl' : ((p.cs.length : Int) != p.w * p.h) = false := by simp [hl]
        simp only [go_sem, List.length_map, em, hl']
        refine loop_ind k_ref01_Check_r12.eq_1 (fun a : Nat × Bool × Heap => a.1 ≤ p.cs.length ∧ (∀ c ∈ p.cs.take a.1, 0 ≤ c ∧ c ≤ 6) ∧ (a.2.1 = true ↔ ∃ c ∈ p.cs.take a.1, 0 < c)) (fun a => p.cs.length - a.1)
          (fun a => (tsets 61 [(1, .ptr 0 0 0 1), (2, .int .i64 0), (3, .bool a.2.1), (4, .int .i64 a.1)], some (.cells false 4 [p.v]) :: a.2.2)) (0, false, []) ⟨Nat.zero_le _, by simp, by simp⟩ (by simp [go_sem]) rfl ?_
        rintro ⟨i, s, X⟩ ⟨hi, hm, hs⟩ ih
        dsimp only at hi hm hs ih ⊢
        by_cases h1 : i < p.cs.length
        · have h2 : (i : Int) < p.cs.length := by omega
          have h3 := idx_next h1 (by omega)
          have n0 : ¬ (i : Int) < 0 := by omega
          have hx := gt_get h1
          have hT : p.cs.take (i + 1) = p.cs.take i ++ [gt p.cs i] := by rw [List.take_add_one, gt_get h1]; rfl
          have hmem := gt_mem h1
          have ihn := fun s' X => ih (i + 1, s', X) (by dsimp only; omega)
          clear ih
          simp only [hT] at ihn
          generalize gt p.cs i = z at *
          simp only [go_sem, Rp.v, vw, List.length_map, h2, n0, hx]
          by_cases hz : 0 ≤ z ∧ z ≤ 6
          · have hmn : ∀ x ∈ p.cs.take i ++ [z], 0 ≤ x ∧ x ≤ 6 := fun x hx' => by
              rcases List.mem_append.1 hx' with h | h
              · exact hm x h
              · simp only [List.mem_singleton] at h
                rw [h]; exact hz
            refine cP (beyond_no hz) ?_
            cases s with
            | true =>
              obtain ⟨c, hc, hc0⟩ := hs.1 rfl
              simp only [go_sem, h3]
              exact ihn true _ ⟨h1, hmn, fun _ => ⟨c, List.mem_append_left _ hc, hc0⟩, fun _ => rfl⟩ _ (by simp [go_sem])
            | false =>
              have hno : ¬ ∃ c ∈ p.cs.take i, 0 < c := fun h => by have := hs.2 h; cases this
              by_cases hz0 : 0 < z
              · simp only [go_sem, Rp.v, vw, List.length_map, h2, n0, hx, hz0, h3]
                exact ihn true _ ⟨h1, hmn, fun _ => ⟨z, by simp, hz0⟩, fun _ => rfl⟩ _ (by simp [go_sem])
              · simp only [go_sem, Rp.v, vw, List.length_map, h2, n0, hx, hz0, h3]
                have hno2 : ¬ ∃ c ∈ p.cs.take i ++ [z], 0 < c := by
                  rintro ⟨c, hc, hc0⟩
                  rcases List.mem_append.1 hc with h | h
                  · exact hno ⟨c, h, hc0⟩
                  · simp only [List.mem_singleton] at h
                    omega
                exact ihn false _ ⟨h1, hmn, (fun h => by cases h), fun h => absurd h hno2⟩ _ (by simp [go_sem])
          · rw [if_pos fun h => hz (h z hmem)]
            refine cP (beyond_yes hz) ?_
            simp only [go_sem]
        · have h2 : ¬ (i : Int) < p.cs.length := by omega
          rw [List.take_of_length_le (by omega)] at hm hs
          rw [if_neg (fun h => h hm)] at herr ⊢
          have hg := gmax_pos fun c hc => (hm c hc).1
          clear ih
          cases s with
          | false =>
            have hno : ¬ ∃ c ∈ p.cs, 0 < c := fun h => by have := hs.2 h; cases this
            rw [if_pos (hg.2 hno)]
            simp only [go_sem, Rp.v, vw, List.length_map, h2]
          | true =>
            have hne : gmax p.cs ≠ 0 := fun h => hg.1 h (hs.1 rfl)
            rw [if_neg hne] at herr ⊢
            obtain ⟨hp, hv⟩ := herr rfl
            have hE := held_ok hp
            have hpn : p.pl.w * p.pl.h = p.cs.length := hp.len.symm
            rw [← hv, hpn] at hE
            have hE' : Ans Try.prog n_ref01_held [p.v] [] (.sl 0 0 p.cs.length) [some (.cells false 1 (bv (List.replicate p.cs.length true)))] := hE
            simp only [go_sem, Rp.v, vw, List.length_map, h2]
            refine cN1 hE' ?_ (hr := by simp [go_sem]) (hx := by rw [row_bel_cells]; unfold bv; simp only [go_sem])
            simp only [go_sem, ren, rens]
            have hnr : ∀ r0 : Option Row, (r0 :: (X ++ [some (Row.cells false 1 (bv (List.replicate p.cs.length true)))]))[X.length + 1]? = some (some (Row.cells false 1 (bv (List.replicate p.cs.length true)))) := fun r0 => by simp
            refine loop_ind k_ref01_Check_r21.eq_1 (fun j : Nat => j ≤ p.cs.length) (fun j => p.cs.length - j)
              (fun j => (tsets 61 [(2, .int .i64 0), (5, .sl (X.length + 1) 0 p.cs.length), (6, .int .i64 j)], some (.cells false 4 [p.v]) :: (X ++ [some (Row.cells false 1 (bv (List.replicate p.cs.length true)))]))) 0 (Nat.zero_le _) (by simp [go_sem]) rfl ?_
            intro j hj ih
            dsimp only at hj ih ⊢
            have hca := cells_at (hnr (some (.cells false 4 [p.v])))
            simp only [Rp.v, vw] at hca
            have hbl : (bv (List.replicate p.cs.length true)).length = p.cs.length := by simp [bv]
            by_cases h4 : j < p.cs.length
            · have h5 : (j : Int) < p.cs.length := by omega
              have h6 := idx_next h4 (by omega)
              have n0 : ¬ (j : Int) < 0 := by omega
              have gj := bv_get (bs := List.replicate p.cs.length true) (c := j) (by simpa using h4)
              have g1 : (List.replicate p.cs.length true).getD j false = true := by rw [List.getD_eq_getElem?_getD, List.getElem?_replicate, if_pos h4]; rfl
              rw [g1] at gj
              simp only [go_sem, Rp.v, vw, hca, hbl, h5, n0, gj, h6]
              exact ih (j + 1) (by omega) h4 _ (by simp [go_sem])
            · have h5 : ¬ (j : Int) < p.cs.length := by omega
              simp only [go_sem, Rp.v, vw, hca, hbl, h5]
      · rw [if_pos hl]
        have hl' : ((p.cs.length : Int) != p.w * p.h) = true := by simp [hl]
        simp only [go_sem, List.length_map, em, hl']
    · rw [if_pos (fun h => hh h.2)]
      refine cP (beyond_yes hh) ?_
      simp only [go_sem]
  · rw [if_pos (fun h => hw h.1)]
    refine cP (beyond_yes hw) ?_
    simp only [go_sem]

theorem rGreatest_ok (p : Rp) (hlen : p.cs.length ≤ 1000000) : Ans Try.prog n_ref01_greatest [p.v] [] (.int .i64 (gmax p.cs)) [] := by
  generalize hRES : gmax p.cs = RES
  refine spec_run e_ref01_greatest fun G => ?_
  simp only [go_sem, Rp.v, vw]
  refine loop_ind k_ref01_greatest_r6.eq_1 (fun a : Nat × Int × Heap => a.1 ≤ p.cs.length ∧ mxL a.2.1 (p.cs.drop a.1) = RES) (fun a => p.cs.length - a.1)
    (fun a => (tsets 20 [(1, .ptr 0 0 0 1), (3, .int .i64 a.2.1), (4, .int .i64 a.1)], some (.cells false 4 [p.v]) :: a.2.2)) (0, 0, []) ⟨Nat.zero_le _, hRES⟩ (by simp [go_sem]) rfl ?_
  rintro ⟨i, m, X⟩ ⟨hi, hm⟩ ih
  dsimp only at hi hm ih ⊢
  by_cases h1 : i < p.cs.length
  · have h2 : (i : Int) < p.cs.length := by omega
    have h3 := idx_next h1 (by omega)
    have n0 : ¬ (i : Int) < 0 := by omega
    have hx := gt_get h1
    rw [drop_step h1, mxL] at hm
    generalize gt p.cs i = z at *
    simp only [go_sem, Rp.v, vw, List.length_map, h2, n0, hx, h3]
    exact ih (i + 1, _, _) (by dsimp only; omega) ⟨h1, hm⟩ _ (by simp [go_sem]; rfl)
  · have h2 : ¬ (i : Int) < p.cs.length := by omega
    rw [drop_end (by omega)] at hm
    simp only [go_sem, Rp.v, vw, List.length_map, h2]
    rw [← hm]; rfl

theorem rCheckVolts_raw (p : Rp) {v : List Int} (hlen : p.cs.length ≤ 1000000) (hv : v.length ≤ 1000000) : Ans Try.prog n_ref01_CheckVolts [p.v, vw v] [] (.int .i64 (p.errV v)) [] := by
  have c1 := rCheck_raw p hlen
  have c2 := rGreatest_ok p hlen
  unfold Rp.errV
  refine spec_run e_ref01_CheckVolts fun G => ?_
  simp only [go_sem, Rp.v, vw]
  refine cP c1 ?_
  by_cases h : p.err = 0
  · have h' : (p.err != 0) = false := by simp [h]
    rw [if_neg fun h2 => h2 h]
    simp only [go_sem, List.length_map, h']
    refine cP c2 ?_
    by_cases h2 : (v.length : Int) = gmax p.cs
    · have h2' : ((v.length : Int) != gmax p.cs) = false := by simp [h2]
      rw [if_neg fun h3 => h3 h2]
      simp only [go_sem, h2', vw]
      unfold numErr
      refine loop_ind k_ref01_CheckVolts_r11.eq_1 (fun a : Nat × Heap => a.1 ≤ v.length ∧ ∀ x ∈ v.take a.1, -1000000 ≤ x ∧ x ≤ 1000000) (fun a => v.length - a.1)
        (fun a => (tsets 28 [(1, vw v), (4, .int .i64 0), (6, .int .i64 a.1)], a.2)) (0, _) ⟨Nat.zero_le _, by simp⟩ (by simp [go_sem, vw]) rfl ?_
      rintro ⟨i, X⟩ ⟨hi, hm⟩ ih
      dsimp only at hi hm ih ⊢
      by_cases h1 : i < v.length
      · have h2 : (i : Int) < v.length := by omega
        have h3 := idx_next h1 (by omega)
        have n0 : ¬ (i : Int) < 0 := by omega
        have hx := gt_get h1
        have hT : v.take (i + 1) = v.take i ++ [gt v i] := by rw [List.take_add_one, gt_get h1]; rfl
        have hmem := gt_mem h1
        have ihn := fun X => ih (i + 1, X) (by dsimp only; omega)
        clear ih
        simp only [hT] at ihn
        generalize gt v i = z at *
        simp only [go_sem, vw, List.length_map, h2, n0, hx]
        by_cases hz : -1000000 ≤ z ∧ z ≤ 1000000
        · refine cP (beyond_no hz) ?_
          simp only [go_sem, h3]
          exact ihn _ ⟨h1, fun x hx' => by
            rcases List.mem_append.1 hx' with h | h
            · exact hm x h
            · simp only [List.mem_singleton] at h
              rw [h]; exact hz⟩ _ (by simp [go_sem, vw])
        · rw [if_neg fun h => hz (h z hmem)]
          refine cP (beyond_yes hz) ?_
          simp only [go_sem]
      · have h2 : ¬ (i : Int) < v.length := by omega
        rw [List.take_of_length_le (by omega)] at hm
        rw [if_pos hm]
        simp only [go_sem, vw, List.length_map, h2]
    · have h2' : ((v.length : Int) != gmax p.cs) = true := by simp [h2]
      rw [if_pos h2]
      simp only [go_sem, h2']
  · have h' : (p.err != 0) = true := by simp [h]
    rw [if_pos h]
    simp only [go_sem, h']

theorem rHas_ok {p : Pl} (hp : PlOK p) (e : Int) : Ans Try.prog n_ref01_has [p.v, .int .i64 e] [] (.bool (decide (e ≠ 0 ∧ e ∈ p.cs))) [] := by
  have hN : p.w * p.h ≤ 256 := Nat.mul_le_mul hp.w.2 hp.h.2
  have hlen := hp.len
  have hRES : decide (e ≠ 0 ∧ e ∈ p.cs) = decide (0 < e ∧ e ∈ p.cs) := decide_eq_decide.2 ⟨fun ⟨h1, h2⟩ => ⟨by have := hp.cell e h2; omega, h2⟩, fun ⟨h1, h2⟩ => ⟨by omega, h2⟩⟩
  rw [hRES]
  clear hRES
  generalize hRES : decide (0 < e ∧ e ∈ p.cs) = RES
  refine spec_run e_ref01_has fun G => ?_
  simp only [go_sem, Pl.v, Pl.a, Pl.c4, vw]
  refine loop_ind k_ref01_has_r6.eq_1 (fun a : Nat × Heap => a.1 ≤ p.cs.length ∧ decide (0 < e ∧ e ∈ p.cs.drop a.1) = RES) (fun a => p.cs.length - a.1)
    (fun a => (tsets 24 [(1, .int .i64 e), (2, .ptr 0 0 0 1), (5, .int .i64 a.1)], some (.cells false 4 [p.v]) :: a.2)) (0, []) ⟨Nat.zero_le _, by simpa using hRES⟩ (by simp [go_sem]) rfl ?_
  rintro ⟨i, X⟩ ⟨hi, hm⟩ ih
  dsimp only at hi hm ih ⊢
  by_cases h1 : i < p.cs.length
  · have h2 : (i : Int) < p.cs.length := by omega
    have h3 := idx_next h1 (by omega)
    have n0 : ¬ (i : Int) < 0 := by omega
    have hx := gt_get h1
    rw [drop_step h1] at hm
    generalize gt p.cs i = z at *
    by_cases he : 0 < e
    · by_cases hz : z = e
      · have hz' : (z == e) = true := by simp [hz]
        simp only [go_sem, Pl.v, Pl.a, Pl.c4, vw, List.length_map, h2, n0, hx, he, hz']
        rw [← hm, decide_eq_true ⟨he, by rw [hz]; simp⟩]
      · have hz' : (z == e) = false := by simp [hz]
        have hz2 : ¬ e = z := fun h => hz h.symm
        simp only [go_sem, Pl.v, Pl.a, Pl.c4, vw, List.length_map, h2, n0, hx, he, hz', h3]
        exact ih (i + 1, _) (by dsimp only; omega) ⟨h1, by rw [← hm]; simp [hz2]⟩ _ (by simp [go_sem])
    · simp only [go_sem, Pl.v, Pl.a, Pl.c4, vw, List.length_map, h2, n0, hx, he, h3]
      exact ih (i + 1, _) (by dsimp only; omega) ⟨h1, by rw [← hm]; simp [he]⟩ _ (by simp [go_sem])
  · have h2 : ¬ (i : Int) < p.cs.length := by omega
    rw [drop_end (by omega)] at hm
    simp only [go_sem, Pl.v, Pl.a, Pl.c4, vw, List.length_map, h2]
    rw [← hm]; simp

theorem rDown_ok (n b : Int) (hb : 0 < b ∧ b ≤ 1000000000) (hn : -1000000000000 ≤ n ∧ n ≤ 1000000000000) : Ans Try.prog n_ref01_Down [.int .i64 n, .int .i64 b] [] (.int .i64 (rdn n b)) [] := by
  have e := Int.tdiv_eq_ediv (a := n) (b := b)
  have e' := Int.tmod_eq_emod (a := n) (b := b)
  have h1 := Int.emod_nonneg n (show b ≠ 0 by omega)
  have h2 := Int.emod_lt_of_pos n (show 0 < b by omega)
  have hd := Int.dvd_iff_emod_eq_zero (a := b) (b := n)
  have hq1 : n / b ≤ 1000000000000 := Int.ediv_le_of_le_mul (by omega) (by have := Int.mul_le_mul_of_nonneg_left (show (1 : Int) ≤ b by omega) (show (0 : Int) ≤ 1000000000000 by omega); omega)
  have hq2 : -1000000000000 ≤ n / b := Int.le_ediv_of_mul_le (by omega) (by have := Int.mul_le_mul_of_nonneg_left (show (1 : Int) ≤ b by omega) (show (0 : Int) ≤ 1000000000000 by omega); omega)
  refine spec_run e_ref01_Down fun G => ?_
  have hs : b.sign = 1 := Int.sign_eq_one_of_pos (by omega)
  rw [hs] at e
  have e'' : n.tmod b = if 0 ≤ n ∨ b ∣ n then n % b else n % b - b := by
    rw [e']; split
    · omega
    · rw [Int.natAbs_of_nonneg (by omega)]
  have w1 : IntKind.i64.wrap (n.tdiv b) = n.tdiv b := w64 (by rw [e]; split <;> omega)
  unfold rdn
  simp only [go_sem, w1]
  by_cases hc : 0 ≤ n ∨ b ∣ n
  · rw [if_pos hc] at e e''
    have h3 : ¬ n.tmod b < 0 := by omega
    have h4 : b ≠ 0 := by omega
    simp only [go_sem, h3, h4]
    rw [e]; simp
  · rw [if_neg hc] at e e''
    have h3 : n.tmod b < 0 := by omega
    have h4 : b ≠ 0 := by omega
    have w2 : IntKind.i64.wrap (n.tdiv b - 1) = n.tdiv b - 1 := w64 (by rw [e]; omega)
    simp only [go_sem, h3, h4, w2]
    rw [e]; simp

theorem rUp_ok (n b : Int) (hb : 0 < b ∧ b ≤ 1000000000) (hn : -1000000000000 ≤ n ∧ n ≤ 1000000000000) : Ans Try.prog n_ref01_Up [.int .i64 n, .int .i64 b] [] (.int .i64 (rup n b)) [] := by
  have hq1 : -n / b ≤ 1000000000000 := Int.ediv_le_of_le_mul (by omega) (by have := Int.mul_le_mul_of_nonneg_left (show (1 : Int) ≤ b by omega) (show (0 : Int) ≤ 1000000000000 by omega); omega)
  have hq2 : -1000000000000 ≤ -n / b := Int.le_ediv_of_mul_le (by omega) (by have := Int.mul_le_mul_of_nonneg_left (show (1 : Int) ≤ b by omega) (show (0 : Int) ≤ 1000000000000 by omega); omega)
  have w0 : IntKind.i64.wrap (0 - n) = -n := by rw [w64 (by omega)]; omega
  have w1 : IntKind.i64.wrap (0 - rdn (-n) b) = -rdn (-n) b := by unfold rdn; rw [w64 (by omega)]; omega
  refine spec_run e_ref01_Up fun G => ?_
  unfold rup
  simp only [go_sem, w0]
  refine cP (rDown_ok (-n) b hb (by omega)) ?_
  simp only [go_sem, w1]
  rfl


end Go.Proofs

namespace Go.Proofs
open Go Go.Sx
attribute [local irreducible] Run

def noF : AVal := .agg [.nilsl, .nilsl, .int .i64 0, .bool false]
def beA (p : Pl) : Heap := [some (.cells false 4 [p.v]), some (.cells false 4 [noF]), some (.cells false 4 [noF])]
def beB (p : Pl) (l m : List Int) (g h : Option Row) : Heap := [some (.cells false 4 [p.v]), some (.cells false 4 [noF]), some (.cells false 4 [.agg [.sl 4 0 l.length, .sl 6 0 m.length, .int .i64 0, .bool false]]), g, some (.cells true 1 (iv l)), h, some (.cells true 1 (iv m))]

set_option maxRecDepth 8000 in
set_option maxHeartbeats 4000000 in
theorem rBegin_ok {p : Pl} (hp : PlOK p) {v : List Int} (hvl : VLen p v) (hv : v.length ≤ 1000000) :
    Ans Try.prog n_ref01_begin [p.v, vw v] [] (fldV p.cs.length 0 false 0 1) [some (.cells true 1 (iv (at0 p v (endL p v)))), some (.cells true 1 (iv (at0 p v (endM p v))))] := by
  have hN : p.cs.length ≤ 256 := by rw [hp.len]; exact Nat.mul_le_mul hp.w.2 hp.h.2
  refine Ans.keep (run_fn e_ref01_begin fun G => ?_) (by simp) (by simp [go_sem, fldV]) ⟨iv_row _ _ _, iv_row _ _ _, trivial⟩
  simp only [go_sem, Pl.v, Pl.a, Pl.c4, vw]
  refine loop_ind k_ref01_begin_r7.eq_1 (fun a : Nat × Int × Int => a.1 ≤ p.cs.length ∧ endLs v a.2.1 (p.cs.drop a.1) = endL p v ∧ endMs v a.2.2 (p.cs.drop a.1) = endM p v) (fun a => p.cs.length - a.1)
    (fun a => (tsets 93 [(1, vw v), (2, .ptr 0 0 0 1), (4, .ptr 1 0 0 1), (5, .int .i64 a.2.1), (6, .int .i64 a.2.2), (7, .int .i64 a.1)], [some (.cells false 4 [p.v]), some (.cells false 4 [noF])])) (0, 1000000, -1000000) ⟨Nat.zero_le _, rfl, rfl⟩ (by simp [go_sem, vw]) rfl ?_
  rintro ⟨i, m, M⟩ ⟨hi, hm, hM⟩ ih
  dsimp only at hi hm hM ih ⊢
  by_cases h1 : i < p.cs.length
  · have h2 : (i : Int) < p.cs.length := by omega
    have h3 := idx_next h1 (by omega)
    have n0 : ¬ (i : Int) < 0 := by omega
    have hx := gt_get h1
    have hcm := hvl _ (gt_mem h1)
    have hcr := hp.cell _ (gt_mem h1)
    rw [drop_step h1, endLs] at hm
    rw [drop_step h1, endMs] at hM
    have ihn := fun m' M' => ih (i + 1, m', M') (by dsimp only; omega)
    clear ih
    dsimp only at ihn
    generalize gt p.cs i = z at *
    by_cases hz : z = 0
    · rw [if_pos hz] at hm hM
      have hz' : ¬ 0 < z := by omega
      simp only [go_sem, noF, Pl.v, Pl.a, Pl.c4, vw, List.length_map, h2, n0, hx, hz', h3]
      exact ihn m M ⟨h1, hm, hM⟩ _ (by simp [go_sem, vw])
    · rw [if_neg hz] at hm hM
      have hz' : 0 < z := by omega
      have w1 : IntKind.i64.wrap (z - 1) = z - 1 := w64 (by omega)
      have k1 : ¬ z - 1 < 0 := by omega
      have k2 : z - 1 < v.length := by omega
      have hxv : v[(z - 1).toNat]? = some (vo v z) := gt_get (by omega)
      simp only [go_sem, noF, Pl.v, Pl.a, Pl.c4, vw, List.length_map, h2, n0, hx, hz', h3, w1, k1, k2, hxv]
      exact ihn _ _ ⟨h1, hm, hM⟩ _ (by simp [go_sem, vw])
  · have h2 : ¬ (i : Int) < p.cs.length := by omega
    rw [drop_end (by omega)] at hm hM
    simp only [endLs, endMs] at hm hM
    subst hm
    subst hM
    simp only [go_sem, noF, Pl.v, Pl.a, Pl.c4, vw, List.length_map, h2]
    have hal := fun f => show (at0 p v f).length = p.cs.length by simp [at0]
    refine loop_ind k_ref01_begin_r16.eq_1 (fun q : Nat × Heap => q.1 ≤ p.cs.length ∧ ((q.1 = 0 ∧ q.2 = beA p) ∨ (q.1 ≠ 0 ∧ ∃ g h X, q.2 = beB p ((at0 p v (endL p v)).take q.1) ((at0 p v (endM p v)).take q.1) g h ++ X))) (fun q => p.cs.length - q.1)
      (fun q => (tsets 93 [(1, vw v), (2, .ptr 0 0 0 1), (4, .ptr 1 0 0 1), (5, .int .i64 (endL p v)), (6, .int .i64 (endM p v)), (8, .ptr 2 0 0 1), (9, .int .i64 q.1)], q.2)) (0, beA p) ⟨Nat.zero_le _, .inl ⟨rfl, rfl⟩⟩ (by simp [go_sem, vw]) rfl ?_
    rintro ⟨i, H⟩ ⟨hi, hH⟩ ih
    dsimp only at hi hH ih ⊢
    by_cases h1 : i < p.cs.length
    · have h2 : (i : Int) < p.cs.length := by omega
      have h3 := idx_next h1 (by omega)
      have n0 : ¬ (i : Int) < 0 := by omega
      have hx := gt_get h1
      have hcm := hvl _ (gt_mem h1)
      have hcr := hp.cell _ (gt_mem h1)
      have hT := fun f => show (at0 p v f).take (i + 1) = (at0 p v f).take i ++ [if gt p.cs i = 0 then f else vo v (gt p.cs i)] by rw [List.take_add_one, gt_get (by rw [hal]; exact h1), gt_at0 v f h1]; rfl
      have hlt := fun f => show ((at0 p v f).take i).length = i by rw [List.length_take, hal]; omega
      have ihn := fun g h X => ih (i + 1, beB p ((at0 p v (endL p v)).take (i + 1)) ((at0 p v (endM p v)).take (i + 1)) g h ++ X) (by dsimp only; omega) ⟨h1, .inr ⟨by simp, g, h, X, rfl⟩⟩
      clear ih
      dsimp only at ihn
      rw [hT, hT] at ihn
      clear hT
      generalize gt p.cs i = z at *
      have hl1 := hlt (endL p v)
      have hl2 := hlt (endM p v)
      clear hlt
      generalize (at0 p v (endL p v)).take i = L1 at *
      generalize (at0 p v (endM p v)).take i = L2 at *
      generalize endL p v = e1 at *
      generalize endM p v = e2 at *
      rcases hH with ⟨rfl, rfl⟩ | ⟨hne, g, h, X, rfl⟩
      · obtain rfl : L1 = [] := List.length_eq_zero_iff.1 hl1
        obtain rfl : L2 = [] := List.length_eq_zero_iff.1 hl2
        have h2 : (0 : Int) < p.cs.length := by omega
        have h3 : IntKind.i64.wrap 1 = 1 := by decide
        have f1 : (1 : Nat) = 0 + 1 := rfl
        simp only [beB, List.nil_append, List.length_cons, List.length_nil, Nat.zero_add, List.cons_append] at ihn
        by_cases hz : z = 0
        · have hz' : ¬ 0 < z := by omega
          rw [if_pos hz, if_pos hz] at ihn
          simp only [beA, go_sem, noF, Pl.v, Pl.a, Pl.c4, vw, List.length_map, h2, n0, hx, hz', h3]
          exact ⟨by decide, by decide, ihn _ _ [] _ (by simp [go_sem, vw])⟩
        · have hz' : 0 < z := by omega
          rw [if_neg hz, if_neg hz] at ihn
          have w1 : IntKind.i64.wrap (z - 1) = z - 1 := w64 (by omega)
          have k1 : ¬ z - 1 < 0 := by omega
          have k2 : z - 1 < v.length := by omega
          have hxv : v[(z - 1).toNat]? = some (vo v z) := gt_get (by omega)
          simp only [beA, go_sem, noF, Pl.v, Pl.a, Pl.c4, vw, List.length_map, h2, n0, hx, hz', h3, w1, k1, k2, hxv]
          exact ⟨by decide, by decide, ihn _ _ [] _ (by simp [go_sem, vw])⟩
      · simp only [beB, List.length_append, List.length_cons, List.length_nil, Nat.zero_add, List.cons_append, List.nil_append, hl1, hl2] at ihn ⊢
        by_cases hz : z = 0
        · have hz' : ¬ 0 < z := by omega
          rw [if_pos hz, if_pos hz] at ihn
          simp only [go_sem, noF, Pl.v, Pl.a, Pl.c4, vw, List.length_map, h2, n0, hx, hz', h3, iv_len, iv_app, hl1, hl2]
          exact ⟨by simp <;> omega, by omega, by simp <;> omega, by omega, ihn _ _ _ _ (by simp [go_sem, vw])⟩
        · have hz' : 0 < z := by omega
          rw [if_neg hz, if_neg hz] at ihn
          have w1 : IntKind.i64.wrap (z - 1) = z - 1 := w64 (by omega)
          have k1 : ¬ z - 1 < 0 := by omega
          have k2 : z - 1 < v.length := by omega
          have hxv : v[(z - 1).toNat]? = some (vo v z) := gt_get (by omega)
          simp only [go_sem, noF, Pl.v, Pl.a, Pl.c4, vw, List.length_map, h2, n0, hx, hz', h3, w1, k1, k2, hxv, iv_len, iv_app, hl1, hl2]
          exact ⟨by simp <;> omega, by omega, by simp <;> omega, by omega, ihn _ _ _ _ (by simp [go_sem, vw])⟩
    · have h2 : ¬ (i : Int) < p.cs.length := by omega
      have hne : i ≠ 0 := by
        have := hp.len; have := Nat.mul_pos hp.w.1 hp.h.1; omega
      obtain ⟨g, h, X, rfl⟩ : ∃ g h X, H = beB p ((at0 p v (endL p v)).take i) ((at0 p v (endM p v)).take i) g h ++ X := by
        rcases hH with ⟨h, _⟩ | ⟨_, h⟩
        · exact absurd h hne
        · exact h
      have t1 := hal (endL p v)
      have t2 := hal (endM p v)
      rw [List.take_of_length_le (by omega), List.take_of_length_le (by omega)]
      clear ih
      generalize at0 p v (endL p v) = L1 at *
      generalize at0 p v (endM p v) = L2 at *
      simp only [beB, go_sem, noF, Pl.v, Pl.a, Pl.c4, vw, List.length_map, h2, t1, t2, List.cons_append, List.nil_append]
      exact kept_pair 4 6 (by decide) rfl (iv_row _ _ _) (iv_row _ _ _) rfl rfl
end Go.Proofs

namespace Go.Proofs
open Go Go.Sx
attribute [local irreducible] Run

def mvd (p : Pl) (la ha : List Int) (i : Nat) : Bool := decide (swpTo p rdn la i ≠ la) || decide (swpTo p rup ha i ≠ ha)

set_option maxHeartbeats 4000000 in
theorem rSweep_ok {p : Pl} (hp : PlOK p) {la ha : List Int} (hla : ∀ k, k ≤ p.w * p.h → AtOK p (swpTo p rdn la k)) (hha : ∀ k, k ≤ p.w * p.h → AtOK p (swpTo p rup ha k)) (s : Nat) (t : Bool) :
    Ans Try.prog n_ref01_sweep [p.v, fldV p.cs.length s t 0 1] [some (.cells true 1 (iv la)), some (.cells true 1 (iv ha))] (.bool (mvd p la ha p.cs.length)) [some (.cells true 1 (iv (swp p rdn la))), some (.cells true 1 (iv (swp p rup ha)))] := by
  have hw := hp.w; have hh := hp.h
  have hN : p.w * p.h ≤ 256 := Nat.mul_le_mul hw.2 hh.2
  have hal : la.length = p.w * p.h := (hla 0 (Nat.zero_le _)).len
  have hhl : ha.length = p.w * p.h := (hha 0 (Nat.zero_le _)).len
  refine spec_run e_ref01_sweep fun G => ?_
  simp only [go_sem, Pl.v, Pl.a, Pl.c4, vw, fldV]
  refine loop_ind k_ref01_sweep_r12.eq_1 (fun i : Nat => i ≤ p.cs.length) (fun i => p.cs.length - i)
    (fun i => (tsets 76 [(2, .ptr 2 0 0 1), (3, .ptr 3 0 0 1), (5, .bool (mvd p la ha i)), (6, .int .i64 i)],
      [some (.cells true 1 (iv (swpTo p rdn la i))), some (.cells true 1 (iv (swpTo p rup ha i))), some (.cells false 4 [p.v]), some (.cells false 4 [fldV p.cs.length s t 0 1])])) 0 (Nat.zero_le _) (by simp [go_sem, mvd, swpTo]) (by simp [Pl.v, Pl.a, Pl.c4, vw, swpTo, fldV]) ?_
  intro i hi ih
  dsimp only at hi ih ⊢
  by_cases h1 : i < p.cs.length
  · have h2 : (i : Int) < p.cs.length := by omega
    have h3 := idx_next h1 (by rw [hp.len]; omega)
    have n0 : ¬ (i : Int) < 0 := by omega
    have hiN : i < p.w * p.h := by rw [← hp.len]; exact h1
    have hx := gt_get h1
    have hlk := hla i (by omega)
    have hhk := hha i (by omega)
    have hsl := swpTo_len p rdn la i
    have hsh := swpTo_len p rup ha i
    have hst : swpTo p rdn la (i + 1) = stp p rdn (swpTo p rdn la i) i := rfl
    have hsu : swpTo p rup ha (i + 1) = stp p rup (swpTo p rup ha i) i := rfl
    have ihn := ih (i + 1) (by omega) h1
    have hce := hp.cell _ (gt_mem h1)
    clear ih
    unfold stp at hst hsu
    by_cases hz : gt p.cs i = 0
    · have hz' : ¬ 0 < gt p.cs i := by omega
      have hfl1 := swp_flag p rdn la (k := i) (by omega) hz
      have hfl2 := swp_flag p rup ha (k := i) (by omega) hz
      rw [if_pos hz] at hst hsu
      have s1 := sums_ok hp hlk hiN
      have s2 := sums_ok hp hhk hiN
      obtain ⟨_, w2, w3⟩ := wtot_in p hw.2 hiN
      have w3 := w3 (hp.two hiN hz)
      have hwb := wsum_bd hp hlk hiN (nbs p i).length
      have hwc := wsum_bd hp hhk hiN (nbs p i).length
      rw [List.take_length] at hwb hwc
      have r1 := rDown_ok (wsum (nbs p i) (gt (swpTo p rdn la i))) (wtot (nbs p i)) (by omega) (by omega)
      have r2 := rUp_ok (wsum (nbs p i) (gt (swpTo p rup ha i))) (wtot (nbs p i)) (by omega) (by omega)
      have hil : i < (swpTo p rdn la i).length := by rw [hsl, hal]; exact hiN
      have hih : i < (swpTo p rup ha i).length := by rw [hsh, hhl]; exact hiN
      have hgl := iv_get hil
      have hgh := iv_get hih
      have e1 : (swpTo p rdn la i).length = p.cs.length := by rw [hsl, hal, hp.len]
      have e2 : (swpTo p rup ha i).length = p.cs.length := by rw [hsh, hhl, hp.len]
      unfold mvd at ihn ⊢
      generalize wsum (nbs p i) (gt (swpTo p rdn la i)) = s1' at *
      generalize wsum (nbs p i) (gt (swpTo p rup ha i)) = s2' at *
      generalize wtot (nbs p i) = tt at *
      generalize gt p.cs i = z at *
      generalize swpTo p rdn la (i + 1) = b at *
      generalize swpTo p rdn la i = c at *
      generalize swpTo p rup ha (i + 1) = b' at *
      generalize swpTo p rup ha i = c' at *
      generalize decide (c ≠ la) = f0 at *
      generalize decide (b ≠ la) = f1 at *
      generalize decide (c' ≠ ha) = u0 at *
      generalize decide (b' ≠ ha) = u1 at *
      simp only [go_sem, fldV, vw, List.length_map, h2, n0, hx, hz', h3, Pl.v, Pl.a, Pl.c4]
      refine cF s1 6 ⟨.inl (plv_frz 3 _ p), .inl (iv_frz_sl (d := 4) (j := 0) (g := true) (l := c) rfl e1.symm), .inl rfl, trivial⟩ ?_
      simp only [go_sem]
      refine cP r1 ?_
      simp only [go_sem, fldV, vw, Pl.v, Pl.a, Pl.c4]
      refine cF s2 6 ⟨.inl (plv_frz 3 _ p), .inl (iv_frz_sl (d := 4) (j := 1) (g := true) (l := c') rfl e2.symm), .inl rfl, trivial⟩ ?_
      simp only [go_sem]
      refine cP r2 ?_
      generalize rdn s1' tt = m1 at *
      generalize rup s2' tt = m2 at *
      subst hst
      subst hsu
      subst hfl1
      subst hfl2
      clear s1 s2 r1 r2
      by_cases hm1 : m1 = gt c i <;> by_cases hm2 : m2 = gt c' i
      · have q1 : (m1 != gt c i) = false := by simp [hm1]
        have q2 : (m2 != gt c' i) = false := by simp [hm2]
        rw [q1, q2] at ihn
        clear q1 q2
        generalize hg1 : gt c i = y1 at *
        generalize hg2 : gt c' i = y2 at *
        subst hm1
        subst hm2
        cases f0 <;> cases u0 <;> (simp only [go_sem, fldV, h2, n0, hgl, hgh, iv_set, iv_len, h3, e1, e2] ; exact ihn _ (by simp [go_sem]))
      · have q1 : (m1 != gt c i) = false := by simp [hm1]
        have q2 : (m2 != gt c' i) = true := by simp [hm2]
        rw [q1, q2] at ihn
        clear q1 q2
        generalize hg1 : gt c i = y1 at *
        generalize hg2 : gt c' i = y2 at *
        subst hm1
        cases f0 <;> cases u0 <;> (simp only [go_sem, fldV, h2, n0, hgl, hgh, iv_set, iv_len, h3, e1, e2, hm2] ; exact ihn _ (by simp [go_sem, hm2]))
      · have q1 : (m1 != gt c i) = true := by simp [hm1]
        have q2 : (m2 != gt c' i) = false := by simp [hm2]
        rw [q1, q2] at ihn
        clear q1 q2
        generalize hg1 : gt c i = y1 at *
        generalize hg2 : gt c' i = y2 at *
        subst hm2
        cases f0 <;> cases u0 <;> (simp only [go_sem, fldV, h2, n0, hgl, hgh, iv_set, iv_len, h3, e1, e2, hm1] ; exact ihn _ (by simp [go_sem]))
      · have q1 : (m1 != gt c i) = true := by simp [hm1]
        have q2 : (m2 != gt c' i) = true := by simp [hm2]
        rw [q1, q2] at ihn
        clear q1 q2
        generalize hg1 : gt c i = y1 at *
        generalize hg2 : gt c' i = y2 at *
        cases f0 <;> cases u0 <;> (simp only [go_sem, fldV, h2, n0, hgl, hgh, iv_set, iv_len, h3, e1, e2, hm1, hm2] ; exact ihn _ (by simp [go_sem, hm1, hm2]))
    · have hz' : 0 < gt p.cs i := by omega
      rw [if_neg hz] at hst hsu
      generalize gt p.cs i = z at *
      simp only [go_sem, fldV, vw, Pl.v, Pl.a, Pl.c4, List.length_map, h2, n0, hx, hz', h3]
      unfold mvd at ihn ⊢
      rw [← hst, ← hsu] at *
      exact ihn _ (by simp [go_sem, vw])
  · have h2 : ¬ (i : Int) < p.cs.length := by omega
    have hie : i = p.cs.length := by omega
    subst hie
    simp only [go_sem, fldV, vw, Pl.v, Pl.a, Pl.c4, List.length_map, h2]
    exact ⟨_, rfl⟩
end Go.Proofs

namespace Go.Proofs
open Go Go.Sx
attribute [local irreducible] Run

theorem stl_mvd {p : Pl} (v : List Int) (s : Nat) : stl p v (s + 1) = !mvd p (lowB p v s) (highB p v s) p.cs.length := by
  rw [stl_succ, mvd, Bool.not_or]; rfl

set_option maxHeartbeats 4000000 in
theorem rSolve_ok {p : Rp} {v : List Int} {n : Int} (hE : p.errS v n = 0) :
    Ans Try.prog n_ref01_Solve [p.v, vw v, .int .i64 n] [] (.tup [fldV p.pl.cs.length (cnt p.pl v n.toNat) (stl p.pl v (cnt p.pl v n.toNat)) 0 1, .int .i64 0]) [some (.cells true 1 (iv (lowB p.pl v (cnt p.pl v n.toNat)))), some (.cells true 1 (iv (highB p.pl v (cnt p.pl v n.toNat))))] := by
  obtain ⟨⟨hp, hpv⟩, hv, hvl, hn⟩ := Rp.okS hE
  have hN : p.pl.cs.length ≤ 256 := by rw [hp.len]; exact Nat.mul_le_mul hp.w.2 hp.h.2
  have hmx := hp.max
  have hvl' : v.length ≤ 6 := by omega
  have hC : Ans Try.prog n_ref01_CheckVolts [p.v, vw v] [] (.int .i64 0) [] := by
    have h1 := rCheckVolts_raw p (v := v) (by show p.pl.cs.length ≤ _; omega) (by omega)
    have h2 : p.errV v = 0 := by
      unfold Rp.errS at hE
      by_cases h : p.errV v = 0
      · exact h
      · rw [if_pos h] at hE; exact absurd hE h
    rwa [h2] at h1
  have hB := rBegin_ok hp (VLen_of hp hvl) (by omega : v.length ≤ 1000000)
  rw [hpv] at hC ⊢
  obtain ⟨n, rfl⟩ : ∃ m : Nat, (m : Int) = n := ⟨n.toNat, by omega⟩
  rw [Int.toNat_natCast]
  generalize p.pl = p at *
  clear hE hpv
  refine Ans.keep (run_fn e_ref01_Solve fun G => ?_) (by simp) (by simp [go_sem, fldV]) ⟨iv_row _ _ _, iv_row _ _ _, trivial⟩
  simp only [go_sem, Pl.v, Pl.a, Pl.c4, vw]
  refine cP hC ?_
  simp only [go_sem]
  refine cP (beyond_no (by omega)) ?_
  simp only [go_sem, Pl.v, Pl.a, Pl.c4, vw]
  refine cN2 hB ?_ (hr := by simp [go_sem, fldV]) (hx := iv_row _ _ _) (hy := iv_row _ _ _)
  simp only [go_sem, ren, rens, fldV]
  refine loop_ind k_ref01_Solve_r10.eq_1 (fun s : Nat => s ≤ n ∧ cnt p v s = s) (fun s => n - s)
    (fun s => (tsets 42 [(2, .int .i64 n), (3, .ptr 0 0 0 1), (6, .ptr 1 0 0 1), (9, .ptr 4 0 0 1)],
      [some (.cells false 4 [p.v]), some (.cells false 4 [noF]), some (.cells true 1 (iv (lowB p v s))), some (.cells true 1 (iv (highB p v s))), some (.cells false 4 [fldV p.cs.length s (stl p v s) 2 3])])) 0 ⟨Nat.zero_le _, rfl⟩ (by simp [go_sem]) (by simp [Pl.v, Pl.a, Pl.c4, vw, fldV, noF, stl, lowB, highB, itr]) ?_
  rintro s ⟨hsn, hcs⟩ ih
  dsimp only at hsn hcs ih ⊢
  by_cases h1 : s < n
  · have h2 : (s : Int) < n := by omega
    cases hst : stl p v s with
    | true =>
      have hc : cnt p v n = s := by
        have := cnt_still hcs hst (n - s)
        rwa [show s + (n - s) = n by omega] at this
      rw [hc, hst]
      simp only [go_sem, noF, fldV, h2]
      exact kept_pair 2 3 (by decide) rfl (iv_row _ _ _) (iv_row _ _ _) rfl rfl
    | false =>
      have ihn := ih (s + 1) (by omega) ⟨h1, cnt_next hcs hst⟩
      clear ih
      have hS := rSweep_ok hp (la := lowB p v s) (ha := highB p v s) (fun k hk => low_at hp hv s k hk) (fun k hk => high_at hp hv s k hk) s false
      have h3 : IntKind.i64.wrap ((s : Int) + 1) = ((s + 1 : Nat) : Int) := by rw [w64 (by omega)]; rfl
      rw [stl_mvd] at ihn
      rw [show lowB p v (s + 1) = swp p rdn (lowB p v s) from rfl, show highB p v (s + 1) = swp p rup (highB p v s) from rfl] at ihn
      generalize mvd p (lowB p v s) (highB p v s) p.cs.length = f1 at *
      generalize swp p rdn (lowB p v s) = L1 at *
      generalize swp p rup (highB p v s) = H1 at *
      simp only [go_sem, noF, fldV, h2, Pl.v, Pl.a, Pl.c4, vw]
      refine cS2 hS (j0 := 2) (j1 := 3) ?_ ?_ rfl rfl (iv_row _ _ _) (iv_row _ _ _) (iv_row _ _ _) (iv_row _ _ _) (by decide) (.bool _) (by simp) (by simp) ?_
      · simp only [List.map_cons, List.map_nil, plv_ren]; rfl
      · simp [go_sem, fldV]
      simp only [go_sem, noF, fldV, h3]
      exact ihn _ (by simp [go_sem])
  · have h2 : ¬ (s : Int) < n := by omega
    have hsn' : s = n := by omega
    subst hsn'
    rw [hcs]
    simp only [go_sem, noF, fldV, h2]
    exact kept_pair 2 3 (by decide) rfl (iv_row _ _ _) (iv_row _ _ _) rfl rfl

end Go.Proofs

