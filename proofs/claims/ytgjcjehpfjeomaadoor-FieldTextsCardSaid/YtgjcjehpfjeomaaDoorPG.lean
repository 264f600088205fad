/- A part of the proof. -/
import Derived.Test.YtgjcjehpfjeomaaDoorPF
set_option linter.unusedSimpArgs false
set_option linter.unusedVariables false
namespace Go.Proofs
open Go Go.Sx
attribute [local irreducible] Run

theorem beyond_ok (n a b : Int) : Ans Tryd.prog n_ref01_beyond [.int .i64 n, .int .i64 a, .int .i64 b] [] (.bool (decide (¬ (a ≤ n ∧ n ≤ b)))) [] := by
  refine spec_run e_ref01_beyond fun G => ?_
  by_cases h1 : n < a
  · simp only [go_sem, h1]
    rw [decide_eq_true (by omega)]
  · by_cases h2 : b < n
    · simp only [go_sem, h1, h2]
      rw [decide_eq_true (by omega)]
    · simp only [go_sem, h1, h2]
      rw [decide_eq_false (by omega)]
theorem beyond_yes {n a b : Int} (h : ¬ (a ≤ n ∧ n ≤ b)) : Ans Tryd.prog n_ref01_beyond [.int .i64 n, .int .i64 a, .int .i64 b] [] (.bool true) [] := by
  have := beyond_ok n a b
  rwa [decide_eq_true h] at this
theorem beyond_no {n a b : Int} (h : a ≤ n ∧ n ≤ b) : Ans Tryd.prog n_ref01_beyond [.int .i64 n, .int .i64 a, .int .i64 b] [] (.bool false) [] := by
  have := beyond_ok n a b
  rwa [decide_eq_false (fun h' => h' h)] at this

def wgt (p : Pl) (i j : Nat) : Int :=
  if max i j = min i j + 1 ∧ 0 < max i j % p.w then besW p.rd (min i j % p.w) else if max i j = min i j + p.w then abvW p.rd (min i j % p.w) else 0

set_option maxHeartbeats 2000000 in
theorem weight_ok {p : Pl} (hp : PlOK p) {i j : Nat} (hi : i < p.w * p.h) (hj : j < p.w * p.h) : Ans Tryd.prog n_ref01_weight [p.v, .int .i64 i, .int .i64 j] [] (.int .i64 (wgt p i j)) [] := by
  have hw := hp.w; have hh := hp.h
  have hN : p.w * p.h ≤ 256 := Nat.mul_le_mul hw.2 hh.2
  have em : IntKind.i64.wrap ((p.w : Int) * p.h) = ((p.w * p.h : Nat) : Int) := by rw [w64 (by push_cast at *; omega)]; push_cast; rfl
  have em1 : IntKind.i64.wrap (((p.w * p.h : Nat) : Int) - 1) = ((p.w * p.h : Nat) : Int) - 1 := w64 (by omega)
  refine spec_run e_ref01_weight fun G => ?_
  simp only [go_sem, Pl.v, Pl.a, Pl.c4, vw, em, em1]
  refine cP (beyond_no (by omega)) ?_
  simp only [go_sem, Pl.v, Pl.a, Pl.c4, vw, em, em1]
  refine cP (beyond_no (by omega)) ?_
  simp only [go_sem, Pl.v, Pl.a, Pl.c4, vw]
  have hM : (if (j : Int) > i then (j : Int) else i) = ((max i j : Nat) : Int) := by split <;> omega
  have hm : (if (j : Int) < i then (j : Int) else i) = ((min i j : Nat) : Int) := by split <;> omega
  have hMl : max i j < p.w * p.h := by omega
  have hml : min i j < p.w * p.h := by omega
  rw [hM, hm, nat_rem, nat_rem]
  unfold wgt
  clear hM hm
  generalize max i j = M at *
  generalize min i j = m at *
  have hx : m % p.w < p.w := Nat.mod_lt _ (by omega)
  generalize M % p.w = xM at *
  generalize m % p.w = x at *
  have w1 : IntKind.i64.wrap ((m : Int) + 1) = ((m + 1 : Nat) : Int) := by rw [w64 (by omega)]; rfl
  have w2 : IntKind.i64.wrap ((m : Int) + p.w) = ((m + p.w : Nat) : Int) := by rw [w64 (by omega)]; push_cast; rfl
  have w3 : IntKind.i64.wrap ((x : Int) + 1) = (x : Int) + 1 := w64 (by omega)
  have w4 : IntKind.i64.wrap (2 * ((x : Int) + 1)) = 2 * ((x : Int) + 1) := w64 (by omega)
  have w5 : IntKind.i64.wrap (2 * (x : Int)) = 2 * (x : Int) := w64 (by omega)
  have w6 : IntKind.i64.wrap (2 * (x : Int) + 1) = 2 * (x : Int) + 1 := w64 (by omega)
  rw [w1, w2, w3, w4, w5, w6]
  unfold besW abvW
  refine ⟨by omega, fun h1 => ⟨by omega, fun h2 => ⟨fun h3 => ?_, fun h3 => ?_⟩, fun h2 => ⟨fun h4 => ⟨fun h3 => ?_, fun h3 => ?_⟩, fun h4 => ?_⟩⟩, fun h1 => ⟨fun h4 => ⟨fun h3 => ?_, fun h3 => ?_⟩, fun h4 => ?_⟩⟩
  · rw [if_pos ⟨by omega, by omega⟩, h3]; rfl
  · rw [if_pos ⟨by omega, by omega⟩, h3]; rfl
  · rw [if_neg (fun h => h2 (by omega)), if_pos (by omega), h3]; rfl
  · rw [if_neg (fun h => h2 (by omega)), if_pos (by omega), h3]; rfl
  · rw [if_neg (fun h => h2 (by omega)), if_neg (by omega)]
  · rw [if_neg (fun h => h1 (by omega)), if_pos (by omega), h3]; rfl
  · rw [if_neg (fun h => h1 (by omega)), if_pos (by omega), h3]; rfl
  · rw [if_neg (fun h => h1 (by omega)), if_neg (by omega)]
theorem weight_out {p : Pl} (hp : PlOK p) {i : Nat} (hi : i < p.w * p.h) {b : Int} (hb : ¬ (0 ≤ b ∧ b < (p.w * p.h : Nat))) : Ans Tryd.prog n_ref01_weight [p.v, .int .i64 i, .int .i64 b] [] (.int .i64 0) [] := by
  have hw := hp.w; have hh := hp.h
  have hN : p.w * p.h ≤ 256 := Nat.mul_le_mul hw.2 hh.2
  have em : IntKind.i64.wrap ((p.w : Int) * p.h) = ((p.w * p.h : Nat) : Int) := by rw [w64 (by push_cast at *; omega)]; push_cast; rfl
  have em1 : IntKind.i64.wrap (((p.w * p.h : Nat) : Int) - 1) = ((p.w * p.h : Nat) : Int) - 1 := w64 (by omega)
  refine spec_run e_ref01_weight fun G => ?_
  simp only [go_sem, Pl.v, Pl.a, Pl.c4, vw, em, em1]
  refine cP (beyond_no (by omega)) ?_
  simp only [go_sem, Pl.v, Pl.a, Pl.c4, vw, em, em1]
  refine cP (beyond_yes (by omega)) ?_
  simp only [go_sem]
end Go.Proofs

namespace Go.Proofs
open Go Go.Sx
attribute [local irreducible] Run

def wgI (p : Pl) (i : Nat) (b : Int) : Int := if 0 ≤ b ∧ b < (p.w * p.h : Nat) then wgt p i b.toNat else 0
theorem weightI_ok {p : Pl} (hp : PlOK p) {i : Nat} (hi : i < p.w * p.h) (b : Int) : Ans Tryd.prog n_ref01_weight [p.v, .int .i64 i, .int .i64 b] [] (.int .i64 (wgI p i b)) [] := by
  unfold wgI
  by_cases h : 0 ≤ b ∧ b < (p.w * p.h : Nat)
  · rw [if_pos h]
    have := weight_ok hp hi (j := b.toNat) (by omega)
    rwa [show ((b.toNat : Nat) : Int) = b by omega] at this
  · rw [if_neg h]; exact weight_out hp hi h
def nearL (p : Pl) (i : Nat) : List Int := if p.w = 1 then [(i : Int) - 1, (i : Int) + 1] else [(i : Int) - p.w, (i : Int) - 1, (i : Int) + 1, (i : Int) + p.w]
def nrL (p : Pl) (i : Nat) : List Int := (nearL p i).filter fun b => 0 < wgI p i b
theorem slv0_bel (l : List Int) : Bel (· < (slrG true 1 (iv l)).length) (slv 0 (iv l)) := by
  unfold slv slrG
  split <;> simp [go_sem]
theorem slr0_ful (l : List Int) : Full (· < (slrG true 1 (iv l)).length) (slrG true 1 (iv l)) := by
  unfold slrG
  split
  · trivial
  · exact ⟨iv_row _ _ _, trivial⟩

set_option maxHeartbeats 4000000 in
theorem around_one {p : Pl} (hp : PlOK p) {i : Nat} (hi : i < p.w * p.h) (h1w : p.w = 1) : Ans Tryd.prog n_ref01_around [p.v, .int .i64 i] [] (slv 0 (iv (nrL p i))) (slrG true 1 (iv (nrL p i))) := by
  have hw := hp.w; have hh := hp.h
  have hN : p.w * p.h ≤ 256 := Nat.mul_le_mul hw.2 hh.2
  have hnear : nearL p i = [(i : Int) - 1, (i : Int) + 1] := by unfold nearL; rw [if_pos h1w]
  have w1 : IntKind.i64.wrap ((i : Int) - p.w) = (i : Int) - p.w := w64 (by omega)
  have w2 : IntKind.i64.wrap ((i : Int) - 1) = (i : Int) - 1 := w64 (by omega)
  have w3 : IntKind.i64.wrap ((i : Int) + 1) = (i : Int) + 1 := w64 (by omega)
  have w4 : IntKind.i64.wrap ((i : Int) + p.w) = (i : Int) + p.w := w64 (by omega)
  have hww : ((p.w : Int) == 1) = true := by simp [h1w]
  have hiv : iv (nearL p i) = [.int .i64 ((i : Int) - 1), .int .i64 ((i : Int) + 1)] := by rw [hnear]; rfl
  have hnl : (nearL p i).length = 2 := by rw [hnear]; rfl
  refine Ans.keep (run_fn e_ref01_around fun G => ?_) (by simp) (slv0_bel _) (slr0_ful _)
  simp only [go_sem, Pl.v, Pl.a, Pl.c4, vw, w1, w2, w3, w4, hww]
  have hx0 : some (Row.cells false 1 (iv (nearL p i))) = some (.cells false 1 [.int .i64 ((i : Int) - 1), .int .i64 ((i : Int) + 1)]) := by rw [hiv]
  clear hww w1 w2 w3 w4
  refine loop_ind k_ref01_around_r10.eq_1 (fun a : Nat × AVal × Heap => a.1 ≤ 2 ∧ ((((nearL p i).take a.1).filter (fun b => 0 < wgI p i b) = [] ∧ a.2.1 = .nilsl ∧ a.2.2 = some (.cells false 4 [p.v]) :: some (.cells false 1 [.int .i64 ((i : Int) - p.w), .int .i64 ((i : Int) - 1), .int .i64 ((i : Int) + 1), .int .i64 ((i : Int) + p.w)]) :: some (.cells false 1 (iv (nearL p i))) :: []) ∨ (((nearL p i).take a.1).filter (fun b => 0 < wgI p i b) ≠ [] ∧ a.2.1 = .sl 4 0 (((nearL p i).take a.1).filter (fun b => 0 < wgI p i b)).length ∧ ∃ g X, a.2.2 = some (.cells false 4 [p.v]) :: some (.cells false 1 [.int .i64 ((i : Int) - p.w), .int .i64 ((i : Int) - 1), .int .i64 ((i : Int) + 1), .int .i64 ((i : Int) + p.w)]) :: some (.cells false 1 (iv (nearL p i))) :: g :: some (.cells true 1 (iv (((nearL p i).take a.1).filter (fun b => 0 < wgI p i b)))) :: X))) (fun a => 2 - a.1)
    (fun a => (tsets 51 [(1, .int .i64 i), (2, .ptr 0 0 0 1), (5, .sl 2 0 2), (6, a.2.1), (7, .int .i64 a.1)], a.2.2)) (0, .nilsl, some (.cells false 4 [p.v]) :: some (.cells false 1 [.int .i64 ((i : Int) - p.w), .int .i64 ((i : Int) - 1), .int .i64 ((i : Int) + 1), .int .i64 ((i : Int) + p.w)]) :: some (.cells false 1 (iv (nearL p i))) :: []) ⟨Nat.zero_le _, .inl ⟨by rw [List.take_zero]; rfl, rfl, rfl⟩⟩ (by simp [go_sem]) (by rw [hx0]; rfl) ?_
  rintro ⟨k, t6, H⟩ ⟨hk, hH⟩ ih
  dsimp only at hk hH ih ⊢
  by_cases h1 : k < 2
  · have h2 : (k : Int) < 2 := by omega
    have h3 := idx_next h1 (by omega)
    have n0 : ¬ (k : Int) < 0 := by omega
    have hg := iv_get (l := nearL p i) (i := k) (by omega)
    have hlen : (nearL p i).length = 2 := hnl
    have hW := weightI_ok hp hi (gt (nearL p i) k)
    have hT : (nearL p i).take (k + 1) = (nearL p i).take k ++ [gt (nearL p i) k] := by rw [List.take_add_one, gt_get (by omega)]; rfl
    have hle : (((nearL p i).take k).filter (fun b => 0 < wgI p i b)).length ≤ 4 := by
      have := List.length_filter_le (fun b => decide (0 < wgI p i b)) ((nearL p i).take k)
      rw [List.length_take] at this; omega
    have ihn := fun t6' H' => ih (k + 1, t6', H') (by dsimp only; omega)
    clear ih hx0 hiv hnear
    simp only [hT, List.filter_append] at ihn
    generalize hz : gt (nearL p i) k = z at *
    generalize (((nearL p i).take k).filter (fun b => 0 < wgI p i b)) = l at *
    by_cases hw0 : 0 < wgI p i z
    · have hf : List.filter (fun b => decide (0 < wgI p i b)) [z] = [z] := by simp [hw0]
      simp only [hf] at ihn
      rcases hH with ⟨rfl, rfl, rfl⟩ | ⟨hne, rfl, g, X, rfl⟩
      · simp only [List.nil_append] at ihn
        simp only [go_sem, Pl.v, Pl.a, Pl.c4, vw, iv_len, hlen, h2, n0, hg]
        refine cP hW ?_
        simp only [go_sem, hw0, h3, iv_len, hlen, h2, n0, hg]
        exact ⟨by decide, ihn _ _ ⟨h1, .inr ⟨by simp, rfl, _, [], rfl⟩⟩ _ (by simp [go_sem])⟩
      · simp only [go_sem, Pl.v, Pl.a, Pl.c4, vw, iv_len, hlen, h2, n0, hg]
        refine cP hW ?_
        simp only [go_sem, hw0, h3, iv_len, hlen, h2, n0, hg, iv_app]
        exact ⟨by omega, ihn _ _ ⟨h1, .inr ⟨by simp, rfl, _, _, rfl⟩⟩ _ (by simp [go_sem])⟩
    · have hf : List.filter (fun b => decide (0 < wgI p i b)) [z] = [] := by simp [hw0]
      simp only [hf, List.append_nil] at ihn
      rcases hH with ⟨rfl, rfl, rfl⟩ | ⟨hne, rfl, g, X, rfl⟩
      · simp only [go_sem, Pl.v, Pl.a, Pl.c4, vw, iv_len, hlen, h2, n0, hg]
        refine cP hW ?_
        simp only [go_sem, hw0, h3]
        exact ihn _ _ ⟨h1, .inl ⟨rfl, rfl, rfl⟩⟩ _ (by simp [go_sem])
      · simp only [go_sem, Pl.v, Pl.a, Pl.c4, vw, iv_len, hlen, h2, n0, hg]
        refine cP hW ?_
        simp only [go_sem, hw0, h3]
        exact ihn _ _ ⟨h1, .inr ⟨hne, rfl, _, _, rfl⟩⟩ _ (by simp [go_sem])
  · have h2 : ¬ (k : Int) < 2 := by omega
    have hall : ((nearL p i).take k).filter (fun b => 0 < wgI p i b) = nrL p i := by rw [List.take_of_length_le (by omega)]; rfl
    rw [hall] at hH
    clear ih hall hx0 hiv
    generalize nrL p i = l at *
    rcases hH with ⟨rfl, rfl, rfl⟩ | ⟨hne, rfl, g, X, rfl⟩
    · simp only [go_sem, iv_len, hnl, h2]
      show ∃ σ, Kept [] [] .nilsl .nilsl _ σ
      exact kept_id rfl (by simp only [go_sem]) (fun i x hx => by simp at hx)
    · have hne' : iv l ≠ [] := fun h => hne (List.map_eq_nil_iff.1 h)
      simp only [go_sem, iv_len, hnl, h2]
      unfold slv slrG
      rw [if_neg hne', if_neg hne']
      exact kept_new (A := []) 0 4 rfl rfl (by omega) (by simp [ren, rens, iv_len]) (fun i x hx => by simp at hx) (iv_row _ _ _) rfl

set_option maxHeartbeats 4000000 in
theorem around_more {p : Pl} (hp : PlOK p) {i : Nat} (hi : i < p.w * p.h) (h1w : p.w ≠ 1) : Ans Tryd.prog n_ref01_around [p.v, .int .i64 i] [] (slv 0 (iv (nrL p i))) (slrG true 1 (iv (nrL p i))) := by
  have hw := hp.w; have hh := hp.h
  have hN : p.w * p.h ≤ 256 := Nat.mul_le_mul hw.2 hh.2
  have hnear : nearL p i = [(i : Int) - p.w, (i : Int) - 1, (i : Int) + 1, (i : Int) + p.w] := by unfold nearL; rw [if_neg h1w]
  have w1 : IntKind.i64.wrap ((i : Int) - p.w) = (i : Int) - p.w := w64 (by omega)
  have w2 : IntKind.i64.wrap ((i : Int) - 1) = (i : Int) - 1 := w64 (by omega)
  have w3 : IntKind.i64.wrap ((i : Int) + 1) = (i : Int) + 1 := w64 (by omega)
  have w4 : IntKind.i64.wrap ((i : Int) + p.w) = (i : Int) + p.w := w64 (by omega)
  have hww : ((p.w : Int) == 1) = false := by simp; omega
  have hiv : iv (nearL p i) = [.int .i64 ((i : Int) - p.w), .int .i64 ((i : Int) - 1), .int .i64 ((i : Int) + 1), .int .i64 ((i : Int) + p.w)] := by rw [hnear]; rfl
  have hnl : (nearL p i).length = 4 := by rw [hnear]; rfl
  refine Ans.keep (run_fn e_ref01_around fun G => ?_) (by simp) (slv0_bel _) (slr0_ful _)
  simp only [go_sem, Pl.v, Pl.a, Pl.c4, vw, w1, w2, w3, w4, hww]
  have hx0 : some (Row.cells false 1 (iv (nearL p i))) = some (.cells false 1 [.int .i64 ((i : Int) - p.w), .int .i64 ((i : Int) - 1), .int .i64 ((i : Int) + 1), .int .i64 ((i : Int) + p.w)]) := by rw [hiv]
  clear hww w1 w2 w3 w4
  refine loop_ind k_ref01_around_r10.eq_1 (fun a : Nat × AVal × Heap => a.1 ≤ 4 ∧ ((((nearL p i).take a.1).filter (fun b => 0 < wgI p i b) = [] ∧ a.2.1 = .nilsl ∧ a.2.2 = some (.cells false 4 [p.v]) :: some (.cells false 1 (iv (nearL p i))) :: []) ∨ (((nearL p i).take a.1).filter (fun b => 0 < wgI p i b) ≠ [] ∧ a.2.1 = .sl 3 0 (((nearL p i).take a.1).filter (fun b => 0 < wgI p i b)).length ∧ ∃ g X, a.2.2 = some (.cells false 4 [p.v]) :: some (.cells false 1 (iv (nearL p i))) :: g :: some (.cells true 1 (iv (((nearL p i).take a.1).filter (fun b => 0 < wgI p i b)))) :: X))) (fun a => 4 - a.1)
    (fun a => (tsets 51 [(1, .int .i64 i), (2, .ptr 0 0 0 1), (5, .sl 1 0 4), (6, a.2.1), (7, .int .i64 a.1)], a.2.2)) (0, .nilsl, some (.cells false 4 [p.v]) :: some (.cells false 1 (iv (nearL p i))) :: []) ⟨Nat.zero_le _, .inl ⟨by rw [List.take_zero]; rfl, rfl, rfl⟩⟩ (by simp [go_sem]) (by rw [hx0]; rfl) ?_
  rintro ⟨k, t6, H⟩ ⟨hk, hH⟩ ih
  dsimp only at hk hH ih ⊢
  by_cases h1 : k < 4
  · have h2 : (k : Int) < 4 := by omega
    have h3 := idx_next h1 (by omega)
    have n0 : ¬ (k : Int) < 0 := by omega
    have hg := iv_get (l := nearL p i) (i := k) (by omega)
    have hlen : (nearL p i).length = 4 := hnl
    have hW := weightI_ok hp hi (gt (nearL p i) k)
    have hT : (nearL p i).take (k + 1) = (nearL p i).take k ++ [gt (nearL p i) k] := by rw [List.take_add_one, gt_get (by omega)]; rfl
    have hle : (((nearL p i).take k).filter (fun b => 0 < wgI p i b)).length ≤ 4 := by
      have := List.length_filter_le (fun b => decide (0 < wgI p i b)) ((nearL p i).take k)
      rw [List.length_take] at this; omega
    have ihn := fun t6' H' => ih (k + 1, t6', H') (by dsimp only; omega)
    clear ih hx0 hiv hnear
    simp only [hT, List.filter_append] at ihn
    generalize hz : gt (nearL p i) k = z at *
    generalize (((nearL p i).take k).filter (fun b => 0 < wgI p i b)) = l at *
    by_cases hw0 : 0 < wgI p i z
    · have hf : List.filter (fun b => decide (0 < wgI p i b)) [z] = [z] := by simp [hw0]
      simp only [hf] at ihn
      rcases hH with ⟨rfl, rfl, rfl⟩ | ⟨hne, rfl, g, X, rfl⟩
      · simp only [List.nil_append] at ihn
        simp only [go_sem, Pl.v, Pl.a, Pl.c4, vw, iv_len, hlen, h2, n0, hg]
        refine cP hW ?_
        simp only [go_sem, hw0, h3, iv_len, hlen, h2, n0, hg]
        exact ⟨by decide, ihn _ _ ⟨h1, .inr ⟨by simp, rfl, _, [], rfl⟩⟩ _ (by simp [go_sem])⟩
      · simp only [go_sem, Pl.v, Pl.a, Pl.c4, vw, iv_len, hlen, h2, n0, hg]
        refine cP hW ?_
        simp only [go_sem, hw0, h3, iv_len, hlen, h2, n0, hg, iv_app]
        exact ⟨by omega, ihn _ _ ⟨h1, .inr ⟨by simp, rfl, _, _, rfl⟩⟩ _ (by simp [go_sem])⟩
    · have hf : List.filter (fun b => decide (0 < wgI p i b)) [z] = [] := by simp [hw0]
      simp only [hf, List.append_nil] at ihn
      rcases hH with ⟨rfl, rfl, rfl⟩ | ⟨hne, rfl, g, X, rfl⟩
      · simp only [go_sem, Pl.v, Pl.a, Pl.c4, vw, iv_len, hlen, h2, n0, hg]
        refine cP hW ?_
        simp only [go_sem, hw0, h3]
        exact ihn _ _ ⟨h1, .inl ⟨rfl, rfl, rfl⟩⟩ _ (by simp [go_sem])
      · simp only [go_sem, Pl.v, Pl.a, Pl.c4, vw, iv_len, hlen, h2, n0, hg]
        refine cP hW ?_
        simp only [go_sem, hw0, h3]
        exact ihn _ _ ⟨h1, .inr ⟨hne, rfl, _, _, rfl⟩⟩ _ (by simp [go_sem])
  · have h2 : ¬ (k : Int) < 4 := by omega
    have hall : ((nearL p i).take k).filter (fun b => 0 < wgI p i b) = nrL p i := by rw [List.take_of_length_le (by omega)]; rfl
    rw [hall] at hH
    clear ih hall hx0 hiv
    generalize nrL p i = l at *
    rcases hH with ⟨rfl, rfl, rfl⟩ | ⟨hne, rfl, g, X, rfl⟩
    · simp only [go_sem, iv_len, hnl, h2]
      show ∃ σ, Kept [] [] .nilsl .nilsl _ σ
      exact kept_id rfl (by simp only [go_sem]) (fun i x hx => by simp at hx)
    · have hne' : iv l ≠ [] := fun h => hne (List.map_eq_nil_iff.1 h)
      simp only [go_sem, iv_len, hnl, h2]
      unfold slv slrG
      rw [if_neg hne', if_neg hne']
      exact kept_new (A := []) 0 3 rfl rfl (by omega) (by simp [ren, rens, iv_len]) (fun i x hx => by simp at hx) (iv_row _ _ _) rfl
end Go.Proofs

namespace Go.Proofs
open Go Go.Sx
attribute [local irreducible] Run

theorem wgt_nonneg (p : Pl) (i j : Nat) : 0 ≤ wgt p i j := by
  unfold wgt besW abvW
  split
  · split <;> omega
  · split
    · split <;> omega
    · omega
theorem wgI_nonneg (p : Pl) (i : Nat) (b : Int) : 0 ≤ wgI p i b := by
  unfold wgI; split
  · exact wgt_nonneg _ _ _
  · omega
def lsum (p : Pl) (i : Nat) (f : Nat → Int) : List Int → Int
  | [] => 0
  | b :: l => wgI p i b * f b.toNat + lsum p i f l
theorem lsum_filter (p : Pl) (i : Nat) (f : Nat → Int) : ∀ l, lsum p i f (l.filter fun b => 0 < wgI p i b) = lsum p i f l
  | [] => rfl
  | b :: l => by
    rw [List.filter_cons]
    split
    · rw [lsum, lsum, lsum_filter p i f l]
    · rename_i h
      have h1 := wgI_nonneg p i b
      have h2 : wgI p i b = 0 := by
        have : ¬ 0 < wgI p i b := by simpa using h
        omega
      rw [lsum, lsum_filter p i f l, h2, Int.zero_mul, Int.zero_add]
theorem wgI_nat {p : Pl} (i : Nat) {j : Nat} (hj : j < p.w * p.h) : wgI p i (j : Int) = wgt p i j := by
  unfold wgI
  rw [if_pos ⟨by omega, by omega⟩]; rfl
theorem wgI_out {p : Pl} (i : Nat) {b : Int} (h : b < 0 ∨ (p.w * p.h : Nat) ≤ b) : wgI p i b = 0 := by
  unfold wgI
  rw [if_neg (by omega)]

section
variable {p : Pl} (hp : PlOK p) {x y : Nat} (hx : x < p.w) (hy : y < p.h)
include hp hx hy
omit hp in
theorem wgI_left (f : Nat → Int) (h1 : p.w ≠ 1) : wgI p (y * p.w + x) (((y * p.w + x : Nat) : Int) - 1) * f (((y * p.w + x : Nat) : Int) - 1).toNat = if 0 < x then besW p.rd (x - 1) * f (y * p.w + (x - 1)) else 0 := by
  have hi := cell_in hx hy
  by_cases h : 0 < x
  · have e : ((y * p.w + x : Nat) : Int) - 1 = ((y * p.w + (x - 1) : Nat) : Int) := by omega
    rw [e, wgI_nat _ (by omega), if_pos h]
    obtain ⟨m1, _⟩ := cell_at (w := p.w) (x := x) (y := y) hx
    obtain ⟨m2, _⟩ := cell_at (w := p.w) (x := x - 1) (y := y) (by omega)
    unfold wgt
    rw [show max (y * p.w + x) (y * p.w + (x - 1)) = y * p.w + x by omega, show min (y * p.w + x) (y * p.w + (x - 1)) = y * p.w + (x - 1) by omega, m1, m2, if_pos ⟨by omega, h⟩]
    rfl
  · have hx0 : x = 0 := by omega
    subst hx0
    rw [if_neg h, Nat.add_zero]
    by_cases hy0 : y = 0
    · subst hy0
      rw [Nat.zero_mul, wgI_out _ (.inl (by omega)), Int.zero_mul]
    · have hyw : p.w ≤ y * p.w := Nat.le_mul_of_pos_left _ (by omega)
      have e : ((y * p.w : Nat) : Int) - 1 = ((y * p.w - 1 : Nat) : Int) := by omega
      rw [e, wgI_nat _ (by omega)]
      obtain ⟨m1, _⟩ := cell_at (w := p.w) (x := 0) (y := y) hx
      rw [Nat.add_zero] at m1
      unfold wgt
      rw [show max (y * p.w) (y * p.w - 1) = y * p.w by omega, show min (y * p.w) (y * p.w - 1) = y * p.w - 1 by omega, m1, if_neg (by omega), if_neg (by omega), Int.zero_mul]
omit hp in
theorem wgI_right (f : Nat → Int) (h1 : p.w ≠ 1) : wgI p (y * p.w + x) (((y * p.w + x : Nat) : Int) + 1) * f (((y * p.w + x : Nat) : Int) + 1).toNat = if x + 1 < p.w then besW p.rd x * f (y * p.w + (x + 1)) else 0 := by
  have hi := cell_in hx hy
  have e : ((y * p.w + x : Nat) : Int) + 1 = ((y * p.w + (x + 1) : Nat) : Int) := by omega
  rw [e]
  obtain ⟨m1, _⟩ := cell_at (w := p.w) (x := x) (y := y) hx
  by_cases h : x + 1 < p.w
  · have hj := cell_in h hy
    obtain ⟨m2, _⟩ := cell_at (w := p.w) (x := x + 1) (y := y) h
    rw [wgI_nat _ hj, if_pos h]
    unfold wgt
    rw [show max (y * p.w + x) (y * p.w + (x + 1)) = y * p.w + (x + 1) by omega, show min (y * p.w + x) (y * p.w + (x + 1)) = y * p.w + x by omega, m1, m2, if_pos ⟨by omega, by omega⟩]
    rfl
  · rw [if_neg h]
    have e2 : y * p.w + (x + 1) = (y + 1) * p.w := by rw [Nat.add_mul]; omega
    rw [e2]
    by_cases hy1 : y + 1 < p.h
    · have hj : (y + 1) * p.w < p.w * p.h := by have := cell_in (w := p.w) (h := p.h) (x := 0) (y := y + 1) (by omega) hy1; rwa [Nat.add_zero] at this
      rw [wgI_nat _ hj]
      unfold wgt
      rw [show max (y * p.w + x) ((y + 1) * p.w) = (y + 1) * p.w by omega, show min (y * p.w + x) ((y + 1) * p.w) = y * p.w + x by omega, Nat.mul_mod_left, if_neg (by omega), if_neg (by omega), Int.zero_mul]
    · have hyh : y + 1 = p.h := by omega
      have : (y + 1) * p.w = p.w * p.h := by rw [hyh, Nat.mul_comm]
      rw [wgI_out _ (.inr (by omega)), Int.zero_mul]
theorem wgI_up (f : Nat → Int) (b : Int) (hb : b = ((y * p.w + x : Nat) : Int) - p.w) : wgI p (y * p.w + x) b * f b.toNat = if 0 < y then abvW p.rd x * f ((y - 1) * p.w + x) else 0 := by
  have hi := cell_in hx hy
  have hw := hp.w
  by_cases h : 0 < y
  · have e2 : y * p.w = (y - 1) * p.w + p.w := by
      have : y = y - 1 + 1 := by omega
      conv => lhs; rw [this, Nat.add_mul, Nat.one_mul]
    have e : b = (((y - 1) * p.w + x : Nat) : Int) := by omega
    rw [e, wgI_nat _ (by omega), if_pos h]
    obtain ⟨m1, _⟩ := cell_at (w := p.w) (x := x) (y := y) hx
    obtain ⟨m2, _⟩ := cell_at (w := p.w) (x := x) (y := y - 1) hx
    unfold wgt
    rw [show max (y * p.w + x) ((y - 1) * p.w + x) = y * p.w + x by omega, show min (y * p.w + x) ((y - 1) * p.w + x) = (y - 1) * p.w + x by omega, m1, m2, if_neg (by omega), if_pos (by omega)]
    rfl
  · have hy0 : y = 0 := by omega
    subst hy0
    rw [if_neg h, wgI_out _ (.inl (by omega)), Int.zero_mul]
theorem wgI_down (f : Nat → Int) (b : Int) (hb : b = ((y * p.w + x : Nat) : Int) + p.w) : wgI p (y * p.w + x) b * f b.toNat = if y + 1 < p.h then abvW p.rd x * f ((y + 1) * p.w + x) else 0 := by
  have hi := cell_in hx hy
  have hw := hp.w
  have e2 : (y + 1) * p.w = y * p.w + p.w := by rw [Nat.add_mul, Nat.one_mul]
  have e : b = (((y + 1) * p.w + x : Nat) : Int) := by omega
  rw [e]
  obtain ⟨m1, _⟩ := cell_at (w := p.w) (x := x) (y := y) hx
  obtain ⟨m2, _⟩ := cell_at (w := p.w) (x := x) (y := y + 1) hx
  by_cases h : y + 1 < p.h
  · have hj := cell_in hx h
    rw [wgI_nat _ hj, if_pos h]
    unfold wgt
    rw [show max (y * p.w + x) ((y + 1) * p.w + x) = (y + 1) * p.w + x by omega, show min (y * p.w + x) ((y + 1) * p.w + x) = y * p.w + x by omega, m1, m2, if_neg (by omega), if_pos (by omega)]
    rfl
  · have hyh : y + 1 = p.h := by omega
    have : (y + 1) * p.w = p.w * p.h := by rw [hyh, Nat.mul_comm]
    rw [if_neg h, wgI_out _ (.inr (by omega)), Int.zero_mul]
end

theorem wsum_if (c : Prop) [Decidable c] (n : Nat) (k : Int) (f : Nat → Int) : wsum (if c then [(n, k)] else []) f = if c then k * f n else 0 := by
  split <;> simp [wsum]
theorem wsum_nbs (p : Pl) {x y : Nat} (hx : x < p.w) (f : Nat → Int) : wsum (nbs p (y * p.w + x)) f =
    (if 0 < x then besW p.rd (x - 1) * f (y * p.w + (x - 1)) else 0) + ((if x + 1 < p.w then besW p.rd x * f (y * p.w + (x + 1)) else 0) +
    ((if 0 < y then abvW p.rd x * f ((y - 1) * p.w + x) else 0) + (if y + 1 < p.h then abvW p.rd x * f ((y + 1) * p.w + x) else 0))) := by
  rw [nbs_at p hx, wsum_append, wsum_append, wsum_append, wsum_if, wsum_if, wsum_if, wsum_if]

theorem nr_sum {p : Pl} (hp : PlOK p) {i : Nat} (hi : i < p.w * p.h) (f : Nat → Int) : lsum p i f (nrL p i) = wsum (nbs p i) f := by
  obtain ⟨c1, c2, c3⟩ := cell_lt hi
  unfold nrL
  rw [lsum_filter, ← c3, wsum_nbs p c1]
  generalize i % p.w = x at *
  generalize i / p.w = y at *
  unfold nearL
  by_cases h1 : p.w = 1
  · rw [if_pos h1]
    simp only [lsum]
    rw [wgI_up hp c1 c2 f (((y * p.w + x : Nat) : Int) - 1) (by omega), wgI_down hp c1 c2 f (((y * p.w + x : Nat) : Int) + 1) (by omega), if_neg (show ¬ 0 < x by omega), if_neg (show ¬ x + 1 < p.w by omega)]
    omega
  · rw [if_neg h1]
    simp only [lsum]
    rw [wgI_up hp c1 c2 f (((y * p.w + x : Nat) : Int) - p.w) rfl, wgI_down hp c1 c2 f (((y * p.w + x : Nat) : Int) + p.w) rfl, wgI_left c1 c2 f h1, wgI_right c1 c2 f h1]
    omega

theorem around_ok' {p : Pl} (hp : PlOK p) {i : Nat} (hi : i < p.w * p.h) : Ans Tryd.prog n_ref01_around [p.v, .int .i64 i] [] (slv 0 (iv (nrL p i))) (slrG true 1 (iv (nrL p i))) := by
  by_cases h : p.w = 1
  · exact around_one hp hi h
  · exact around_more hp hi h
theorem nr_in {p : Pl} {i : Nat} {b : Int} (h : b ∈ nrL p i) : 0 ≤ b ∧ b < (p.w * p.h : Nat) ∧ 1 ≤ wgI p i b := by
  unfold nrL at h
  have h1 := (List.mem_filter.1 h).2
  have h2 : 0 < wgI p i b := by simpa using h1
  by_cases h3 : 0 ≤ b ∧ b < (p.w * p.h : Nat)
  · exact ⟨h3.1, h3.2, by omega⟩
  · unfold wgI at h2; rw [if_neg h3] at h2; omega
theorem nr_len (p : Pl) (i : Nat) : (nrL p i).length ≤ 4 := by
  unfold nrL
  refine Nat.le_trans (List.length_filter_le _ _) ?_
  unfold nearL
  split <;> simp
end Go.Proofs

namespace Go.Proofs
open Go Go.Sx
attribute [local irreducible] Run

theorem wgt_symm (p : Pl) (i j : Nat) : wgt p i j = wgt p j i := by
  unfold wgt; rw [Nat.max_comm, Nat.min_comm]
theorem lsum_ind (p : Pl) (i j : Nat) : ∀ l : List Int, 0 < lsum p i (fun n => if n = j then 1 else 0) l → ∃ b ∈ l, b.toNat = j ∧ 0 < wgI p i b
  | [], h => by simp [lsum] at h
  | b :: l, h => by
    rw [lsum] at h
    by_cases hb : b.toNat = j ∧ 0 < wgI p i b
    · exact ⟨b, by simp, hb⟩
    · have h0 : wgI p i b * (if b.toNat = j then 1 else 0) = 0 := by
        by_cases h1 : b.toNat = j
        · have := wgI_nonneg p i b
          have h2 : wgI p i b = 0 := by
            have : ¬ 0 < wgI p i b := fun h3 => hb ⟨h1, h3⟩
            omega
          rw [h2, Int.zero_mul]
        · rw [if_neg h1, Int.mul_zero]
      obtain ⟨c, hc, hc2⟩ := lsum_ind p i j l (by omega)
      exact ⟨c, by simp [hc], hc2⟩
theorem wsum_ind {l : List (Nat × Int)} (h : ∀ q ∈ l, 1 ≤ q.2) {q : Nat × Int} (hq : q ∈ l) : 0 < wsum l fun n => if n = q.1 then 1 else 0 := by
  induction l with
  | nil => simp at hq
  | cons r l ih =>
    have h1 := h r (by simp)
    have nn : 0 ≤ wsum l fun n => if n = q.1 then 1 else 0 := by
      have := wsum_mono (l := l) (f := fun _ => 0) (g := fun n => if n = q.1 then 1 else 0) fun s hs => ⟨by have := h s (by simp [hs]); omega, by split <;> omega⟩
      rw [wsum_const, Int.mul_zero] at this; exact this
    have nr : 0 ≤ r.2 * (if r.1 = q.1 then 1 else 0) := Int.mul_nonneg (by omega) (by split <;> omega)
    simp only [wsum]
    rcases List.mem_cons.1 hq with rfl | hq
    · rw [if_pos rfl, Int.mul_one]; omega
    · have := ih (fun s hs => h s (by simp [hs])) hq
      omega
theorem nr_back {p : Pl} (hp : PlOK p) {i : Nat} (hi : i < p.w * p.h) {q : Nat × Int} (hq : q ∈ nbs p i) : (i : Int) ∈ nrL p q.1 := by
  have hN := nbs_in p hp.w.2 hi
  obtain ⟨k1, k2, _⟩ := hN q hq
  have h1 := wsum_ind (fun r hr => (hN r hr).2.1) hq
  rw [← nr_sum hp hi] at h1
  obtain ⟨b, hb, hbj, hbw⟩ := lsum_ind p i q.1 _ h1
  obtain ⟨m1, m2, _⟩ := nr_in hb
  have e : b = (q.1 : Int) := by omega
  subst e
  rw [wgI_nat _ k1, wgt_symm] at hbw
  unfold nrL
  rw [List.mem_filter]
  refine ⟨?_, by rw [wgI_nat _ hi]; simpa using hbw⟩
  unfold nrL at hb
  have hb1 := (List.mem_filter.1 hb).1
  unfold nearL at hb1 ⊢
  split at hb1
  · rename_i hw1
    rw [if_pos hw1]
    simp only [List.mem_cons, List.not_mem_nil, or_false] at hb1 ⊢
    omega
  · rename_i hw1
    rw [if_neg hw1]
    simp only [List.mem_cons, List.not_mem_nil, or_false] at hb1 ⊢
    omega

structure HeOK (p : Pl) (bs : List Bool) : Prop where
  len : bs.length = p.w * p.h
  el : ∀ i, i < p.w * p.h → p.el i → bs.getD i false = true
def nf (bs : List Bool) : Nat := bs.count false
def HeCl (p : Pl) (bs : List Bool) (i : Nat) : Prop := ∀ b ∈ nrL p i, bs.getD b.toNat false = true → bs.getD i false = true
theorem held_all {p : Pl} (hp : PlOK p) {bs : List Bool} (h : HeOK p bs) (hc : ∀ i, i < p.w * p.h → HeCl p bs i) : bs = List.replicate (p.w * p.h) true := by
  have hall := grid_conn p (fun i => bs.getD i false = true) (by
    obtain ⟨i, hi, hE⟩ := hp.some
    exact ⟨i, hi, h.el i hi hE⟩) (fun i hi hS q hq => by
    obtain ⟨k1, _⟩ := nbs_in p hp.w.2 hi q hq
    exact hc q.1 k1 i (nr_back hp hi hq) (by rw [Int.toNat_natCast]; exact hS))
  refine List.ext_getElem (by rw [h.len, List.length_replicate]) fun i h1 h2 => ?_
  have := hall i (by rw [← h.len]; exact h1)
  rw [List.getD_eq_getElem?_getD, List.getElem?_eq_getElem h1] at this
  rw [List.getElem_replicate]
  exact this
theorem nf_set {bs : List Bool} {i : Nat} (hi : i < bs.length) (h : bs.getD i false = false) : nf (bs.set i true) + 1 = nf bs := by
  have hg : bs[i] = false := by rw [List.getD_eq_getElem?_getD, List.getElem?_eq_getElem hi] at h; exact h
  have h1 : 0 < bs.count false := List.count_pos_iff.2 (by rw [← hg]; exact List.getElem_mem hi)
  unfold nf
  rw [List.count_set hi, hg]
  simp
  omega
theorem HeOK.set {p : Pl} {bs : List Bool} (h : HeOK p bs) {i : Nat} (hi : i < p.w * p.h) : HeOK p (bs.set i true) := by
  refine ⟨by rw [List.length_set]; exact h.len, fun j hj hE => ?_⟩
  rw [getD_set _ _ _ (by rw [h.len]; exact hi)]
  split
  · rfl
  · exact h.el j hj hE

def elT (p : Pl) (i : Nat) : List Bool := (List.range (p.w * p.h)).map fun j => decide (j < i) && decide (0 < gt p.cs j)
theorem elT_len (p : Pl) (i : Nat) : (elT p i).length = p.w * p.h := by simp [elT]
theorem elT_get (p : Pl) (i : Nat) {j : Nat} (hj : j < p.w * p.h) : (elT p i).getD j false = (decide (j < i) && decide (0 < gt p.cs j)) := by
  unfold elT
  rw [List.getD_eq_getElem?_getD, List.getElem?_map, List.getElem?_range hj]; rfl
theorem bl_ext {a b : List Bool} (hl : a.length = b.length) (h : ∀ i, i < a.length → a.getD i false = b.getD i false) : a = b := by
  refine List.ext_getElem hl fun i h1 h2 => ?_
  have := h i h1
  rw [List.getD_eq_getElem?_getD, List.getD_eq_getElem?_getD, List.getElem?_eq_getElem h1, List.getElem?_eq_getElem h2] at this
  exact this
theorem elT_set (p : Pl) {i : Nat} (hi : i < p.w * p.h) : (elT p i).set i (decide (0 < gt p.cs i)) = elT p (i + 1) := bl_ext (by rw [List.length_set, elT_len, elT_len]) fun j hj => by
  rw [List.length_set, elT_len] at hj
  rw [elT_get _ _ hj, List.getD_eq_getElem?_getD]
  by_cases e : j = i
  · subst e
    rw [List.getElem?_set_self (by rw [elT_len]; exact hj)]
    simp
  · rw [List.getElem?_set_ne (by omega), ← List.getD_eq_getElem?_getD, elT_get _ _ hj]
    by_cases h1 : j < i
    · rw [decide_eq_true h1, decide_eq_true (show j < i + 1 by omega)]
    · rw [decide_eq_false h1, decide_eq_false (show ¬ j < i + 1 by omega)]
theorem elT_ok {p : Pl} (hp : PlOK p) : HeOK p (elT p (p.w * p.h)) := ⟨elT_len _ _, fun i hi hE => by
  have h1 := hp.cell _ (hp.mem hi)
  have h2 : gt p.cs i ≠ 0 := hE
  rw [elT_get _ _ hi, decide_eq_true hi, decide_eq_true (by omega)]; rfl⟩
theorem bv_set1 {bs : List Bool} {i : Nat} (x : Bool) : (bv bs).set i (.bool x) = bv (bs.set i x) := by simp [bv, List.map_set]

set_option maxHeartbeats 8000000 in
set_option maxRecDepth 4000 in
theorem held_ok {p : Pl} (hp : PlOK p) : Ans Tryd.prog n_ref01_held [p.v] [] (.sl 0 0 p.cs.length) [some (.cells false 1 (bv (List.replicate (p.w * p.h) true)))] := by
  have hw := hp.w; have hh := hp.h
  have hN : p.w * p.h ≤ 256 := Nat.mul_le_mul hw.2 hh.2
  have hlen := hp.len
  refine Ans.keep (run_fn e_ref01_held fun G => ?_) (by simp) (by simp [go_sem]) ⟨by rw [row_bel_cells]; unfold bv; simp only [go_sem], trivial⟩
  have q1 : (0 : Int) ≤ p.cs.length := by omega
  have q2 : (p.cs.length : Int) ≤ 2 ^ 44 := by omega
  have q3 : (p.cs.length : Int) * 1 ≤ 2 ^ 44 := by omega
  simp only [go_sem, Pl.v, Pl.a, Pl.c4, vw, List.length_map, q1, q2, q3, Int.toNat_natCast]
  refine ⟨Int.le_refl _, ?_⟩
  have h0 : List.replicate p.cs.length (AVal.bool false) = bv (elT p 0) := by
    have : elT p 0 = List.replicate (p.w * p.h) false := bl_ext (by simp [elT]) fun j hj => by
      rw [elT_len] at hj
      rw [elT_get _ _ hj, List.getD_eq_getElem?_getD, List.getElem?_replicate, if_pos hj]; simp
    rw [this, hlen]; simp [bv]
  rw [h0]
  refine loop_ind k_ref01_held_r6.eq_1 (fun i : Nat => i ≤ p.cs.length) (fun i => p.cs.length - i)
    (fun i => (tsets 64 [(1, .ptr 0 0 0 1), (3, .sl 1 0 p.cs.length), (4, .int .i64 i)], [some (.cells false 4 [p.v]), some (.cells false 1 (bv (elT p i)))])) 0 (Nat.zero_le _) (by simp [go_sem]) rfl ?_
  intro i hi ih
  dsimp only at hi ih ⊢
  by_cases h1 : i < p.cs.length
  · have h2 : (i : Int) < p.cs.length := by omega
    have h3 := idx_next h1 (by omega)
    have n0 : ¬ (i : Int) < 0 := by omega
    have hx := gt_get h1
    have hb := bv_get (bs := elT p i) (c := i) (by rw [elT_len]; omega)
    have s1 := elT_set p (i := i) (by omega)
    have hEl : (elT p i).length = p.cs.length := by rw [elT_len, hlen]
    have ihn := ih (i + 1) (by omega) h1
    rw [← s1] at ihn
    clear ih s1
    generalize gt p.cs i = z at *
    by_cases hz : 0 < z
    · rw [decide_eq_true hz] at ihn
      simp only [go_sem, Pl.v, Pl.a, Pl.c4, vw, List.length_map, h2, n0, hx, hz, bv_len, hEl, hb, bv_set1, h3]
      exact ihn _ (by simp [go_sem])
    · rw [decide_eq_false hz] at ihn
      simp only [go_sem, Pl.v, Pl.a, Pl.c4, vw, List.length_map, h2, n0, hx, hz, bv_len, hEl, hb, bv_set1, h3]
      exact ihn _ (by simp [go_sem])
  · have h2 : ¬ (i : Int) < p.cs.length := by omega
    have hie : i = p.w * p.h := by omega
    subst hie
    clear ih
    simp only [go_sem, Pl.v, Pl.a, Pl.c4, vw, List.length_map, h2]
    have e0 := elT_ok hp
    generalize elT p (p.w * p.h) = bs0 at *
    clear h0
    refine loop_ind k_ref01_held_r21.eq_1 (fun a : List Bool × Bool × Heap => HeOK p a.1 ∧ (a.2.1 = false → ∀ i, i < p.w * p.h → HeCl p a.1 i)) (fun a => if a.2.1 then nf a.1 + 1 else 0)
      (fun a => (tsets 64 [(1, .ptr 0 0 0 1), (3, .sl 1 0 p.cs.length), (5, .bool a.2.1)], some (.cells false 4 [p.v]) :: some (.cells false 1 (bv a.1)) :: a.2.2)) (bs0, true, []) ⟨e0, fun h => by cases h⟩ (by simp [go_sem]) rfl ?_
    clear e0 bs0
    rintro ⟨bs, more, X⟩ ⟨hb, hcl⟩ ih
    dsimp only at hb hcl ih ⊢
    cases more with
    | false =>
      simp only [go_sem]
      rw [← held_all hp hb (hcl rfl)]
      exact kept_new (A := []) 0 1 rfl rfl (by omega) (by simp [ren, rens]) (fun i x hx => by simp at hx) (by rw [row_bel_cells]; unfold bv; simp only [go_sem]) rfl
    | true =>
      clear hcl
      simp only [if_true] at ih
      simp only [go_sem]
      refine loop_ind k_ref01_held_r20.eq_1 (fun a : Nat × List Bool × Bool × Heap => a.1 ≤ p.cs.length ∧ HeOK p a.2.1 ∧ (a.2.2.1 = true → nf a.2.1 < nf bs) ∧ (a.2.2.1 = false → a.2.1 = bs ∧ ∀ j, j < a.1 → HeCl p bs j)) (fun a => p.cs.length - a.1)
        (fun a => (tsets 64 [(1, .ptr 0 0 0 1), (3, .sl 1 0 p.cs.length), (5, .bool a.2.2.1), (6, .int .i64 a.1)], some (.cells false 4 [p.v]) :: some (.cells false 1 (bv a.2.1)) :: a.2.2.2)) (0, bs, false, X) ⟨Nat.zero_le _, hb, (fun h => by cases h), fun _ => ⟨rfl, fun j hj => absurd hj (Nat.not_lt_zero _)⟩⟩ (by simp [go_sem]) rfl ?_
      clear X
      rintro ⟨i, cs, m, X⟩ ⟨hi, hc, hm1, hm2⟩ ihi
      dsimp only at hi hc hm1 hm2 ihi ⊢
      by_cases h4 : i < p.cs.length
      · have h5 : (i : Int) < p.cs.length := by omega
        have h6 := idx_next h4 (by omega)
        have hiN : i < p.w * p.h := by omega
        clear ih
        have hA := around_ok' hp hiN
        have ihn := fun cs' m' X' => ihi (i + 1, cs', m', X') (by dsimp only; omega)
        clear ihi
        simp only [go_sem, Pl.v, Pl.a, Pl.c4, vw, List.length_map, h5]
        by_cases hne : iv (nrL p i) = []
        · have hl : nrL p i = [] := List.map_eq_nil_iff.1 hne
          unfold slv slrG at hA
          rw [if_pos hne, if_pos hne] at hA
          refine cP hA ?_
          simp only [go_sem]
          refine loop_body 3000 k_ref01_held_r18.eq_1 ?_
          simp only [go_sem, h6]
          exact ihn cs m X ⟨h4, hc, hm1, fun h => ⟨(hm2 h).1, fun j hj => by
            by_cases e1 : j = i
            · subst e1
              intro b hbm; rw [hl] at hbm; simp at hbm
            · exact (hm2 h).2 j (by omega)⟩⟩ _ (by simp [go_sem])
        · have hmem := fun b (hb : b ∈ nrL p i) => nr_in hb
          have hnl := nr_len p i
          unfold slv slrG at hA
          rw [if_neg hne, if_neg hne] at hA
          refine cN1 hA ?_ (hr := by simp [go_sem]) (hx := iv_row _ _ _)
          simp only [go_sem, ren, rens, iv_len]
          have hnr : ∀ (r0 r1 : Option Row), (r0 :: r1 :: (X ++ [some (Row.cells true 1 (iv (nrL p i)))]))[X.length + 2]? = some (some (Row.cells true 1 (iv (nrL p i)))) := fun r0 r1 => by simp
          unfold HeCl at hm2 ihn
          have hcell : ∀ b ∈ nrL p i, ∃ j : Nat, (j : Int) = b ∧ j < p.w * p.h := fun b hb => by have := hmem b hb; exact ⟨b.toNat, by omega, by omega⟩
          clear hmem
          generalize hll : nrL p i = l at *
          refine loop_ind k_ref01_held_r18.eq_1 (fun a : Nat × List Bool × Bool => a.1 ≤ l.length ∧ HeOK p a.2.1 ∧ (a.2.2 = true → nf a.2.1 < nf bs) ∧ (a.2.2 = false → a.2.1 = bs ∧ (∀ j, j < i → ∀ b ∈ nrL p j, bs.getD b.toNat false = true → bs.getD j false = true) ∧ ∀ b ∈ l.take a.1, bs.getD b.toNat false = true → bs.getD i false = true)) (fun a => l.length - a.1)
            (fun a => (tsets 64 [(1, .ptr 0 0 0 1), (3, .sl 1 0 p.cs.length), (5, .bool a.2.2), (6, .int .i64 i), (7, .sl (X.length + 2) 0 l.length), (8, .int .i64 a.1)], some (.cells false 4 [p.v]) :: some (.cells false 1 (bv a.2.1)) :: (X ++ [some (.cells true 1 (iv l))]))) (0, cs, m) ⟨Nat.zero_le _, hc, hm1, fun h => ⟨(hm2 h).1, (hm2 h).2, fun b hb => by simp at hb⟩⟩ (by simp [go_sem]) rfl ?_
          clear hc hm1 hm2 cs m
          rintro ⟨k, cs, m⟩ ⟨hk, hc, hm1, hm2⟩ ihk
          dsimp only at hk hc hm1 hm2 ihk ⊢
          by_cases h7 : k < l.length
          · have h8 : (k : Int) < l.length := by omega
            have h9 := idx_next h7 (by omega)
            have n0 : ¬ (k : Int) < 0 := by omega
            have hg := iv_get h7
            have hT : l.take (k + 1) = l.take k ++ [gt l k] := by rw [List.take_add_one, gt_get h7]; rfl
            obtain ⟨j, hj, hjN⟩ := hcell _ (gt_mem h7)
            have ihm := fun cs' m' => ihk (k + 1, cs', m') (by dsimp only; omega)
            clear ihk
            simp only [hT] at ihm
            rw [← hj] at ihm hg
            clear hj hT
            have gj := bv_get (bs := cs) (c := j) (by rw [hc.len]; exact hjN)
            have gi := bv_get (bs := cs) (c := i) (by rw [hc.len]; exact hiN)
            have nj : ¬ (j : Int) < 0 := by omega
            have ni : ¬ (i : Int) < 0 := by omega
            have hjl : (j : Int) < p.cs.length := by omega
            have hcl := hc.len
            rw [← hlen] at hcl
            have hca := cells_at (hnr (some (.cells false 4 [p.v])) (some (.cells false 1 (bv cs))))
            simp only [Pl.v, Pl.a, Pl.c4, vw] at hca
            cases hbj : cs.getD j false with
            | false =>
              rw [hbj] at gj
              simp only [go_sem, Pl.v, Pl.a, Pl.c4, vw, iv_len, hca, h8, n0, hg, nj, hjl, bv_len, hcl, gj, h9]
              exact ihm cs m ⟨h7, hc, hm1, fun h => ⟨(hm2 h).1, (hm2 h).2.1, fun b hb hbt => by
                rcases List.mem_append.1 hb with h1 | h1
                · exact (hm2 h).2.2 b h1 hbt
                · simp only [List.mem_singleton] at h1
                  subst h1
                  rw [Int.toNat_natCast, ← (hm2 h).1, hbj] at hbt
                  cases hbt⟩⟩ _ (by simp [go_sem])
            | true =>
              rw [hbj] at gj
              cases hbi : cs.getD i false with
              | true =>
                rw [hbi] at gi
                simp only [go_sem, Pl.v, Pl.a, Pl.c4, vw, iv_len, hca, h8, n0, hg, nj, hjl, bv_len, hcl, gj, ni, h5, gi, h9]
                exact ihm cs m ⟨h7, hc, hm1, fun h => ⟨(hm2 h).1, (hm2 h).2.1, fun b hb hbt => by
                  rw [← (hm2 h).1]; exact hbi⟩⟩ _ (by simp [go_sem])
              | false =>
                rw [hbi] at gi
                have hs := nf_set (bs := cs) (i := i) (by rw [hc.len]; exact hiN) hbi
                simp only [go_sem, Pl.v, Pl.a, Pl.c4, vw, iv_len, hca, h8, n0, hg, nj, hjl, bv_len, hcl, gj, ni, h5, gi, bv_set1, h9]
                exact ihm (cs.set i true) true ⟨h7, hc.set hiN, fun _ => by
                  cases m with
                  | true => have := hm1 rfl; omega
                  | false => have := (hm2 rfl).1; rw [this] at hs ⊢; omega, fun h => by cases h⟩ _ (by simp [go_sem])
          · have h8 : ¬ (k : Int) < l.length := by omega
            rw [List.take_of_length_le (by omega)] at hm2
            have hca := cells_at (hnr (some (.cells false 4 [p.v])) (some (.cells false 1 (bv cs))))
            simp only [Pl.v, Pl.a, Pl.c4, vw] at hca
            simp only [go_sem, Pl.v, Pl.a, Pl.c4, vw, iv_len, hca, h8, h6]
            exact ihn cs m _ ⟨h4, hc, hm1, fun h => ⟨(hm2 h).1, fun j hj => by
              by_cases e1 : j = i
              · subst e1
                rw [hll]; exact (hm2 h).2.2
              · exact (hm2 h).2.1 j (by dsimp only at hj; omega)⟩⟩ _ (by simp [go_sem])
      · have h5 : ¬ (i : Int) < p.cs.length := by omega
        have hle : i = p.w * p.h := by omega
        simp only [go_sem, Pl.v, Pl.a, Pl.c4, vw, List.length_map, h5]
        exact ih (cs, m, X) (by
          dsimp only
          cases m with
          | true => have := hm1 rfl; simp only [if_true]; omega
          | false => simp) ⟨hc, fun h => by
            obtain ⟨e1, e2⟩ := hm2 h
            dsimp only
            rw [e1, ← hle]; exact e2⟩ _ (by simp [go_sem])
end Go.Proofs

namespace Go.Proofs
open Go Go.Sx
attribute [local irreducible] Run

theorem gmax_pos {l : List Int} (h : ∀ c ∈ l, 0 ≤ c) : gmax l = 0 ↔ ¬ ∃ c ∈ l, 0 < c := by
  have h1 := (mxL_ge l 0).2
  constructor
  · rintro h0 ⟨c, hc, hp⟩
    have : c ≤ gmax l := h1 c hc
    omega
  · intro hn
    rcases mxL_or l 0 with h2 | h2
    · exact h2
    · have h3 : mxL 0 l = gmax l := rfl
      rw [h3] at h2
      have := h _ h2
      have h4 : ¬ 0 < gmax l := fun h5 => hn ⟨_, h2, h5⟩
      omega

set_option maxHeartbeats 4000000 in
theorem rCheck_raw (p : Rp) (hlen : p.cs.length ≤ 1000000) : Ans Tryd.prog n_ref01_Check [p.v] [] (.int .i64 p.err) [] := by
  have herr := @Rp.ok p
  unfold Rp.err at herr ⊢
  refine spec_run e_ref01_Check fun G => ?_
  simp only [go_sem, Rp.v, vw]
  by_cases hw : 1 ≤ p.w ∧ p.w ≤ 16
  · refine cP (beyond_no hw) ?_
    simp only [go_sem]
    by_cases hh : 1 ≤ p.h ∧ p.h ≤ 16
    · rw [if_neg (fun h => h ⟨hw, hh⟩)] at herr ⊢
      refine cP (beyond_no hh) ?_
      obtain ⟨w, hw'⟩ : ∃ w : Nat, (w : Int) = p.w := ⟨p.w.toNat, by omega⟩
      obtain ⟨h, hh'⟩ : ∃ h : Nat, (h : Int) = p.h := ⟨p.h.toNat, by omega⟩
      have hN : w * h ≤ 256 := Nat.mul_le_mul (show w ≤ 16 by omega) (show h ≤ 16 by omega)
      have em : IntKind.i64.wrap (p.w * p.h) = p.w * p.h := by rw [← hw', ← hh', w64 (by push_cast at *; omega)]
      by_cases hl : (p.cs.length : Int) = p.w * p.h
      · rw [if_neg (fun h => h hl)] at herr ⊢
        have hl' : ((p.cs.length : Int) != p.w * p.h) = false := by simp [hl]
        simp only [go_sem, List.length_map, em, hl']
        refine loop_ind k_ref01_Check_r12.eq_1 (fun a : Nat × Bool × Heap => a.1 ≤ p.cs.length ∧ (∀ c ∈ p.cs.take a.1, 0 ≤ c ∧ c ≤ 6) ∧ (a.2.1 = true ↔ ∃ c ∈ p.cs.take a.1, 0 < c)) (fun a => p.cs.length - a.1)
          (fun a => (tsets 61 [(1, .ptr 0 0 0 1), (2, .int .i64 0), (3, .bool a.2.1), (4, .int .i64 a.1)], some (.cells false 4 [p.v]) :: a.2.2)) (0, false, []) ⟨Nat.zero_le _, by simp, by simp⟩ (by simp [go_sem]) rfl ?_
        rintro ⟨i, s, X⟩ ⟨hi, hm, hs⟩ ih
        dsimp only at hi hm hs ih ⊢
        by_cases h1 : i < p.cs.length
        · have h2 : (i : Int) < p.cs.length := by omega
          have h3 := idx_next h1 (by omega)
          have n0 : ¬ (i : Int) < 0 := by omega
          have hx := gt_get h1
          have hT : p.cs.take (i + 1) = p.cs.take i ++ [gt p.cs i] := by rw [List.take_add_one, gt_get h1]; rfl
          have hmem := gt_mem h1
          have ihn := fun s' X => ih (i + 1, s', X) (by dsimp only; omega)
          clear ih
          simp only [hT] at ihn
          generalize gt p.cs i = z at *
          simp only [go_sem, Rp.v, vw, List.length_map, h2, n0, hx]
          by_cases hz : 0 ≤ z ∧ z ≤ 6
          · have hmn : ∀ x ∈ p.cs.take i ++ [z], 0 ≤ x ∧ x ≤ 6 := fun x hx' => by
              rcases List.mem_append.1 hx' with h | h
              · exact hm x h
              · simp only [List.mem_singleton] at h
                rw [h]; exact hz
            refine cP (beyond_no hz) ?_
            cases s with
            | true =>
              obtain ⟨c, hc, hc0⟩ := hs.1 rfl
              simp only [go_sem, h3]
              exact ihn true _ ⟨h1, hmn, fun _ => ⟨c, List.mem_append_left _ hc, hc0⟩, fun _ => rfl⟩ _ (by simp [go_sem])
            | false =>
              have hno : ¬ ∃ c ∈ p.cs.take i, 0 < c := fun h => by have := hs.2 h; cases this
              by_cases hz0 : 0 < z
              · simp only [go_sem, Rp.v, vw, List.length_map, h2, n0, hx, hz0, h3]
                exact ihn true _ ⟨h1, hmn, fun _ => ⟨z, by simp, hz0⟩, fun _ => rfl⟩ _ (by simp [go_sem])
              · simp only [go_sem, Rp.v, vw, List.length_map, h2, n0, hx, hz0, h3]
                have hno2 : ¬ ∃ c ∈ p.cs.take i ++ [z], 0 < c := by
                  rintro ⟨c, hc, hc0⟩
                  rcases List.mem_append.1 hc with h | h
                  · exact hno ⟨c, h, hc0⟩
                  · simp only [List.mem_singleton] at h
                    omega
                exact ihn false _ ⟨h1, hmn, (fun h => by cases h), fun h => absurd h hno2⟩ _ (by simp [go_sem])
          · rw [if_pos fun h => hz (h z hmem)]
            refine cP (beyond_yes hz) ?_
            simp only [go_sem]
        · have h2 : ¬ (i : Int) < p.cs.length := by omega
          rw [List.take_of_length_le (by omega)] at hm hs
          rw [if_neg (fun h => h hm)] at herr ⊢
          have hg := gmax_pos fun c hc => (hm c hc).1
          clear ih
          cases s with
          | false =>
            have hno : ¬ ∃ c ∈ p.cs, 0 < c := fun h => by have := hs.2 h; cases this
            rw [if_pos (hg.2 hno)]
            simp only [go_sem, Rp.v, vw, List.length_map, h2]
          | true =>
            have hne : gmax p.cs ≠ 0 := fun h => hg.1 h (hs.1 rfl)
            rw [if_neg hne] at herr ⊢
            obtain ⟨hp, hv⟩ := herr rfl
            have hE := held_ok hp
            have hpn : p.pl.w * p.pl.h = p.cs.length := hp.len.symm
            rw [← hv, hpn] at hE
            have hE' : Ans Tryd.prog n_ref01_held [p.v] [] (.sl 0 0 p.cs.length) [some (.cells false 1 (bv (List.replicate p.cs.length true)))] := hE
            simp only [go_sem, Rp.v, vw, List.length_map, h2]
            refine cN1 hE' ?_ (hr := by simp [go_sem]) (hx := by rw [row_bel_cells]; unfold bv; simp only [go_sem])
            simp only [go_sem, ren, rens]
            have hnr : ∀ r0 : Option Row, (r0 :: (X ++ [some (Row.cells false 1 (bv (List.replicate p.cs.length true)))]))[X.length + 1]? = some (some (Row.cells false 1 (bv (List.replicate p.cs.length true)))) := fun r0 => by simp
            refine loop_ind k_ref01_Check_r21.eq_1 (fun j : Nat => j ≤ p.cs.length) (fun j => p.cs.length - j)
              (fun j => (tsets 61 [(2, .int .i64 0), (5, .sl (X.length + 1) 0 p.cs.length), (6, .int .i64 j)], some (.cells false 4 [p.v]) :: (X ++ [some (Row.cells false 1 (bv (List.replicate p.cs.length true)))]))) 0 (Nat.zero_le _) (by simp [go_sem]) rfl ?_
            intro j hj ih
            dsimp only at hj ih ⊢
            have hca := cells_at (hnr (some (.cells false 4 [p.v])))
            simp only [Rp.v, vw] at hca
            have hbl : (bv (List.replicate p.cs.length true)).length = p.cs.length := by simp [bv]
            by_cases h4 : j < p.cs.length
            · have h5 : (j : Int) < p.cs.length := by omega
              have h6 := idx_next h4 (by omega)
              have n0 : ¬ (j : Int) < 0 := by omega
              have gj := bv_get (bs := List.replicate p.cs.length true) (c := j) (by simpa using h4)
              have g1 : (List.replicate p.cs.length true).getD j false = true := by rw [List.getD_eq_getElem?_getD, List.getElem?_replicate, if_pos h4]; rfl
              rw [g1] at gj
              simp only [go_sem, Rp.v, vw, hca, hbl, h5, n0, gj, h6]
              exact ih (j + 1) (by omega) h4 _ (by simp [go_sem])
            · have h5 : ¬ (j : Int) < p.cs.length := by omega
              simp only [go_sem, Rp.v, vw, hca, hbl, h5]
      · rw [if_pos hl]
        have hl' : ((p.cs.length : Int) != p.w * p.h) = true := by simp [hl]
        simp only [go_sem, List.length_map, em, hl']
    · rw [if_pos (fun h => hh h.2)]
      refine cP (beyond_yes hh) ?_
      simp only [go_sem]
  · rw [if_pos (fun h => hw h.1)]
    refine cP (beyond_yes hw) ?_
    simp only [go_sem]
end Go.Proofs

namespace Go.Proofs
open Go Go.Sx
open Go.Txt (okB celB chB joinR chk chk_len chk_rows cel_ch)
attribute [local irreducible] Run

def tC (cs : List Int) (w : Nat) (rd : Bool) : Nat → List UInt8
  | 0 => headB rd ++ [10]
  | i + 1 => tC cs w rd i ++ [chB (gt cs i)] ++ (if (i + 1) % w = 0 then [10] else [])
theorem rowI_take {cs : List Int} {w k j : Nat} (hj : j < w) (hk : k * w + j < cs.length) : (rowI cs w k).take (j + 1) = (rowI cs w k).take j ++ [gt cs (k * w + j)] := by
  have hg : (rowI cs w k)[j]? = some (gt cs (k * w + j)) := by
    unfold rowI
    rw [List.getElem?_take_of_lt hj, List.getElem?_drop]
    exact gt_get hk
  rw [List.take_add_one, hg]; rfl
theorem tC_row (cs : List Int) {w : Nat} (hw : 1 ≤ w) (rd : Bool) (k : Nat) (hk : k * w + w ≤ cs.length) : ∀ j, j ≤ w → tC cs w rd (k * w + j) = tC cs w rd (k * w) ++ ((rowI cs w k).take j).map chB ++ (if j = w then [10] else [])
  | 0, _ => by rw [if_neg (by omega)]; simp
  | j + 1, h => by
    have ih := tC_row cs hw rd k hk j (by omega)
    rw [if_neg (show ¬ j = w by omega), List.append_nil] at ih
    have hm : ((k * w + j + 1) % w = 0) ↔ j + 1 = w := by
      rw [Nat.add_assoc, Nat.add_comm, Nat.add_mul_mod_self_right]
      by_cases e : j + 1 = w
      · rw [e, Nat.mod_self]; simp
      · rw [Nat.mod_eq_of_lt (by omega)]; omega
    rw [← Nat.add_assoc, tC, ih, rowI_take (by omega) (by omega), List.map_append, List.map_singleton]
    by_cases e : j + 1 = w
    · rw [if_pos (hm.2 e), if_pos e]; simp
    · rw [if_neg (fun h => e (hm.1 h)), if_neg e]; simp
theorem tC_tK (cs : List Int) {w : Nat} (hw : 1 ≤ w) (rd : Bool) : ∀ k, k * w ≤ cs.length → tC cs w rd (k * w) = tK cs w rd k ++ [10]
  | 0, _ => by rw [Nat.zero_mul]; rfl
  | k + 1, h => by
    rw [Nat.add_mul, Nat.one_mul] at h ⊢
    have hr : (rowI cs w k).take w = rowI cs w k := List.take_of_length_le (rowI_len cs w k)
    rw [tC_row cs hw rd k h w (Nat.le_refl _), if_pos rfl, tC_tK cs hw rd k (by omega), hr, tK]
    simp
theorem tC_len (cs : List Int) (w : Nat) (rd : Bool) : ∀ i, (tC cs w rd i).length ≤ 6 + 2 * i
  | 0 => by rw [tC]; cases rd <;> decide
  | i + 1 => by
    have := tC_len cs w rd i
    rw [tC, List.length_append, List.length_append]
    split <;> simp <;> omega

theorem slice_ch {c : Int} (h : 0 ≤ c ∧ c ≤ 6) : ((([46, 49, 50, 51, 52, 53, 54] : List UInt8).drop c.toNat).take ((c + 1).toNat - c.toNat)) = [chB c] := by
  obtain ⟨n, rfl⟩ : ∃ n : Nat, c = n := ⟨c.toNat, by omega⟩
  have hn : n ≤ 6 := by omega
  match n, hn with
  | 0, _ => rfl
  | 1, _ => rfl
  | 2, _ => rfl
  | 3, _ => rfl
  | 4, _ => rfl
  | 5, _ => rfl
  | 6, _ => rfl

set_option maxHeartbeats 4000000 in
set_option maxRecDepth 4000 in
theorem rText_ok {p : Rp} (h : p.err = 0) : Ans Tryd.prog n_ref01_Text [p.v] [] (.tup [.str (textP p), .int .i64 0]) [] := by
  obtain ⟨hw, hh, hlen, hc⟩ := err_zero h
  have hch := rCheck_raw p (by have := Nat.mul_le_mul (show p.h.toNat ≤ 16 by omega) (show p.w.toNat ≤ 16 by omega); omega)
  rw [h] at hch
  have hN := Nat.mul_le_mul (show p.h.toNat ≤ 16 by omega) (show p.w.toNat ≤ 16 by omega)
  obtain ⟨w, hW⟩ : ∃ w : Nat, p.w.toNat = w := ⟨_, rfl⟩
  obtain ⟨H, hH⟩ : ∃ H : Nat, p.h.toNat = H := ⟨_, rfl⟩
  have ew : p.w = (w : Int) := by omega
  rw [hW, hH] at hlen hN
  have ht : textP p = tC p.cs w p.rd p.cs.length := by
    rw [textP_tK h, hW, hH, hlen, tC_tK p.cs (by omega) p.rd H (by omega)]
  rw [ht]
  have tl := tC_len p.cs w p.rd
  obtain ⟨rd, hrd⟩ : ∃ rd, p.rd = rd := ⟨_, rfl⟩
  have e0 : tC p.cs w p.rd 0 = headB p.rd ++ [10] := rfl
  rw [hrd] at e0 tl ⊢
  refine spec_run e_ref01_Text fun G => ?_
  simp only [go_sem, Rp.v]
  refine cP hch ?_
  have hbody : ∀ ρ', Wk ρ' (tsets 44 [(1, .ptr 0 0 0 1), (5, .str (headB rd ++ [10])), (6, .int .i64 0)]) → Sx.Loop Tryd.prog G 0 none k_ref01_Text_r13 [.blk 0, .seq (.seq (.reg k_ref01_Text_r14 false) .ret)] ⟨ρ', [some (.cells false 4 [.agg [.int .i64 w, .int .i64 p.h, .bool rd, vw p.cs]])], []⟩
      (RetPost [.tmp 2, .tmp 3] fun v H' => v = .tup [.str (tC p.cs w rd p.cs.length), .int .i64 0]) := by
    intro ρ' hρ
    refine loop_ind k_ref01_Text_r13.eq_1 (fun i : Nat => i ≤ p.cs.length) (fun i => p.cs.length - i)
      (fun i => (tsets 44 [(1, .ptr 0 0 0 1), (5, .str (tC p.cs w rd i)), (6, .int .i64 i)], [some (.cells false 4 [.agg [.int .i64 w, .int .i64 p.h, .bool rd, vw p.cs]])])) 0 (Nat.zero_le _) (by rw [e0]; exact hρ) rfl ?_
    intro i hi ih
    dsimp only at hi ih ⊢
    by_cases h1 : i < p.cs.length
    · have h2 : (i : Int) < p.cs.length := by omega
      have h3 := idx_next h1 (by omega)
      have n0 : ¬ (i : Int) < 0 := by omega
      have hx := gt_get h1
      have hcm := hc _ (gt_mem h1)
      have hs := slice_ch hcm
      have et : tC p.cs w rd (i + 1) = tC p.cs w rd i ++ [chB (gt p.cs i)] ++ (if (i + 1) % w = 0 then [10] else []) := rfl
      have tl0 := tl i
      have ihn := ih (i + 1) (by omega) h1
      clear ih
      simp only [et] at ihn
      generalize gt p.cs i = z at *
      have u1 : IntKind.i64.wrap (z + 1) = z + 1 := w64 (by omega)
      have z0 : ¬ z < 0 := by omega
      have z1 : z ≤ z + 1 := by omega
      have z2 : z + 1 ≤ 7 := by omega
      have q0 : (0 : Int) ≤ z := by omega
      have hx2 : (List.map (AVal.int IntKind.i64) p.cs)[i]? = some (.int .i64 z) := by rw [List.getElem?_map, hx]; rfl
      simp only [go_sem, vw, List.length_map, h2, n0, hx2, u1, h3]
      have um : ((i + 1 : Nat) : Int).tmod (w : Int) = (((i + 1) % w : Nat) : Int) := by rw [Int.tmod_eq_emod_of_nonneg (by omega)]; rfl
      have wne : ¬ (w : Int) = 0 := by omega
      simp only [hs, um, List.length_singleton]
      refine ⟨⟨q0, z1, z2⟩, by omega, wne, fun e => ⟨by omega, ?_⟩, fun e => ?_⟩
      · rw [if_pos (by omega)] at ihn
        exact ihn _ (by simp [go_sem])
      · rw [if_neg (by omega), List.append_nil] at ihn
        exact ihn _ (by simp [go_sem])
    · obtain rfl : i = p.cs.length := by omega
      have h2 : ¬ (p.cs.length : Int) < (p.cs.length : Int) := by omega
      simp only [go_sem, vw, List.length_map, h2]
  cases rd
  · simp only [go_sem, hrd, ew]
    exact hbody _ (by simp [go_sem]; rfl)
  · simp only [go_sem, hrd, ew]
    exact hbody _ (by simp [go_sem]; rfl)
end Go.Proofs

namespace Go.Proofs
open Go Go.Sx
open Go.Txt (okB celB chB spl spl_row rowB)
attribute [local irreducible] Run

theorem spl_last {l : List UInt8} (h : ∀ b ∈ l, b ≠ 10) : spl 10 l = [l] := by
  induction l with
  | nil => rfl
  | cons b l ih =>
    have hb := h b (List.mem_cons_self ..)
    have := ih fun x hx => h x (List.mem_cons_of_mem _ hx)
    rw [spl, if_neg hb, this]
def lsV (j : Nat) (R : List (List UInt8)) : AVal := if R = [] then .nilsl else .sl j 0 R.length
def lsH (R : List (List UInt8)) : Heap := if R = [] then [] else [some (.cells true 1 (strs R))]
def lsG (g : AVal) (R : List (List UInt8)) (X : Heap) : Heap := if R = [] then [] else [some (.cells false 1 [g]), some (.cells true 1 (strs R))] ++ X

theorem lsV_nil (j : Nat) : lsV j [] = .nilsl := rfl
theorem lsG_nil (g : AVal) (X : Heap) : lsG g [] X = [] := rfl
theorem lsV_ne {j : Nat} {L : List (List UInt8)} (h : L ≠ []) : lsV j L = .sl j 0 L.length := if_neg h
theorem lsG_ne {g : AVal} {L : List (List UInt8)} {X : Heap} (h : L ≠ []) : lsG g L X = [some (.cells false 1 [g]), some (.cells true 1 (strs L))] ++ X := if_neg h
theorem strs_len (L : List (List UInt8)) : (strs L).length = L.length := by simp [strs]
theorem strs_snoc (L : List (List UInt8)) (p : List UInt8) : strs L ++ [.str p] = strs (L ++ [p]) := by simp [strs]

set_option maxHeartbeats 2000000 in
theorem rows_ok (s : List UInt8) (hl : s.length ≤ 1000000) : ∃ R rest, spl 10 s = R ++ [rest] ∧ Ans Tryd.prog n_ref01_rows [.str s] [] (.tup [lsV 0 R, .str rest]) (lsH R) := by
  have key : ∀ R rest, spl 10 s = R ++ [rest] → Ans Tryd.prog n_ref01_rows [.str s] [] (.tup [lsV 0 R, .str rest]) (lsH R) := by
    intro R rest hR
    refine Ans.keep (run_fn e_ref01_rows fun G => ?_) (by simp) (by unfold lsV lsH; split <;> simp [go_sem]) (by unfold lsH; split <;> simp [go_sem, Full])
    simp only [go_sem]
    refine loop_ind k_ref01_rows_r9.eq_1 (fun a : Nat × Nat × List (List UInt8) × AVal × Heap => a.1 ≤ s.length ∧ a.2.1 ≤ a.1 ∧ (∀ b ∈ (s.drop a.2.1).take (a.1 - a.2.1), b ≠ 10) ∧ spl 10 s = a.2.2.1 ++ spl 10 (s.drop a.2.1) ∧ a.2.2.1.length ≤ a.1) (fun a => s.length - a.1)
      (fun a => (tsets 30 [(0, .str s), (4, lsV 1 a.2.2.1), (5, .int .i64 a.2.1), (6, .int .i64 a.1)], lsG a.2.2.2.1 a.2.2.1 a.2.2.2.2)) (0, 0, [], .any, []) ⟨Nat.zero_le _, Nat.le_refl _, by simp, by simp, Nat.le_refl _⟩ (by simp [go_sem, lsV]) (by simp [lsG]) ?_
    rintro ⟨i, f, L, g, X⟩ ⟨hi, hf, hno, hsp, hLl⟩ ih
    dsimp only at hi hf hno hsp hLl ih ⊢
    by_cases h1 : i < s.length
    · have h2 : (i : Int) < s.length := by omega
      have n0 : ¬ (i : Int) < 0 := by omega
      have h3 : IntKind.i64.wrap ((i : Int) + 1) = ((i + 1 : Nat) : Int) := by rw [w64 (by omega)]; rfl
      have hx : s[i]? = some s[i] := List.getElem?_eq_getElem h1
      obtain ⟨b, hb⟩ : ∃ b, s[i] = b := ⟨_, rfl⟩
      rw [hb] at hx
      by_cases hb10 : b = 10
      · subst hb10
        have q1 : (0 : Int) ≤ f := by omega
        have q2 : (f : Int) ≤ i := by omega
        have q3 : (i : Int) ≤ s.length := by omega
        have e10 : (((10 : UInt8).toNat : Nat) : Int) = 10 := rfl
        obtain ⟨P, hP⟩ : ∃ P, List.take (i - f) (List.drop f s) = P := ⟨_, rfl⟩
        rw [hP] at hno
        have hsplit : s.drop f = P ++ 10 :: s.drop (i + 1) := by
          have h := List.take_append_drop (i - f) (s.drop f)
          rw [hP, List.drop_drop, show f + (i - f) = i by omega, List.drop_eq_getElem_cons h1, hb] at h
          exact h.symm
        have hsp2 : spl 10 s = (L ++ [P]) ++ spl 10 (s.drop (i + 1)) := by
          rw [hsp, hsplit, spl_row hno]; simp
        have ihn := fun g' X' => ih (i + 1, i + 1, L ++ [P], g', X') (by dsimp only; omega) ⟨h1, Nat.le_refl _, by simp, hsp2, by simp; omega⟩
        clear ih hsp hsplit hsp2
        by_cases hL0 : L = []
        · subst hL0
          have := ihn (.str P) []
          rw [lsV_nil, lsG_nil]
          simp only [go_sem, h2, n0, hx, h3, q1, q2, q3, e10, hP]
          rw [List.nil_append, lsV_ne (by simp), lsG_ne (by simp)] at this
          exact ⟨by omega, this _ (by simp [go_sem])⟩
        · have := ihn g (X ++ [some (.cells false 1 [.str P])])
          rw [lsV_ne hL0, lsG_ne hL0]
          simp only [go_sem, h2, n0, hx, h3, q1, q2, q3, e10, hP, strs_len, strs_snoc]
          rw [lsV_ne (by simp), lsG_ne (by simp)] at this
          simp only [go_sem, List.length_append, List.length_singleton] at this ⊢
          exact ⟨by omega, this _ (by simp [go_sem])⟩
      · have e : ((b.toNat : Int) == 10) = false := by
          rw [beq_eq_false_iff_ne]; intro e; exact hb10 (UInt8.toNat_inj.1 (by show b.toNat = 10; omega))
        simp only [go_sem, h2, n0, hx, h3, e]
        refine ih (i + 1, f, L, g, X) (by dsimp only; omega) ⟨h1, by dsimp only; omega, ?_, hsp, by dsimp only; omega⟩ _ (by simp [go_sem])
        intro c hc
        dsimp only at hc
        rw [show i + 1 - f = (i - f) + 1 by omega, List.take_add_one, List.getElem?_drop, show f + (i - f) = i by omega, hx] at hc
        rcases List.mem_append.1 hc with hc | hc
        · exact hno c hc
        · simp at hc; rw [hc]; exact hb10
    · obtain rfl : i = s.length := by omega
      have h2 : ¬ (s.length : Int) < s.length := by omega
      have q1 : (0 : Int) ≤ f := by omega
      have q2 : (f : Int) ≤ s.length := by omega
      have htk : List.take (s.length - f) (List.drop f s) = List.drop f s := List.take_of_length_le (by simp)
      rw [htk] at hno
      rw [spl_last hno, hR] at hsp
      obtain ⟨hRL, hr⟩ := List.append_inj' hsp rfl
      simp only [List.cons.injEq, and_true] at hr
      rw [← hRL]
      have htk2 : List.take (s.length - f) rest = rest := by rw [hr]; exact htk
      simp only [go_sem, h2, q1, q2, ← hr, htk2]
      refine ⟨Int.le_refl _, ?_⟩
      unfold lsV lsH lsG
      by_cases hL0 : R = []
      · simp only [hL0, if_true]
        exact ⟨fun i => i, fun i hi => rfl, fun i j hi => by simp at hi, rfl, fun i y hy => by simp at hy⟩
      · simp only [hL0, if_false]
        exact kept_one 1 rfl (by simp only [go_sem]) rfl
  obtain ⟨R, rest, h⟩ : ∃ R rest, spl 10 s = R ++ [rest] := by
    have hne : spl 10 s ≠ [] := by
      intro h; have := Go.Txt.spl_len 10 s; rw [h] at this; simp at this
    exact ⟨_, _, (List.dropLast_concat_getLast hne).symm⟩
  exact ⟨R, rest, h, key R rest h⟩
end Go.Proofs

namespace Go.Proofs
open Go Go.Sx
open Go.Txt (okB celB chB spl spl_row rowB)
attribute [local irreducible] Run

def csG (g : AVal) (c : List Int) (X : Heap) : Heap := if c = [] then [] else [some (.cells false 1 [g]), some (.cells true 1 (ivl c))] ++ X
theorem csV_ne {j : Nat} {c : List Int} (h : c ≠ []) : csV j c = .sl j 0 c.length := if_neg h
theorem csG_ne {g : AVal} {c : List Int} {X : Heap} (h : c ≠ []) : csG g c X = [some (.cells false 1 [g]), some (.cells true 1 (ivl c))] ++ X := if_neg h
theorem csV_nil (j : Nat) : csV j [] = .nilsl := rfl
theorem csG_nil (g : AVal) (X : Heap) : csG g [] X = [] := rfl
theorem ivl_len (c : List Int) : (ivl c).length = c.length := by simp [ivl]
theorem ivl_snoc (c : List Int) (z : Int) : ivl c ++ [.int .i64 z] = ivl (c ++ [z]) := by simp [ivl]

set_option maxHeartbeats 4000000 in
theorem cells_ok (r : List UInt8) (hl : r.length ≤ 1000000) : Ans Tryd.prog n_ref01_cells [.str r] [] (.tup [if rowB r 0 = true then .sl 0 0 r.length else .nilsl, .bool (rowB r 0)]) (if rowB r 0 = true then [some (.cells true 1 (ivl (r.map celB)))] else []) := by
  obtain ⟨v, hv⟩ : ∃ v, rowB r 0 = v := ⟨_, rfl⟩
  rw [hv]
  refine Ans.keep (run_fn e_ref01_cells fun G => ?_) (by simp) (by split <;> simp [go_sem]) (by split <;> simp [go_sem, Full])
  simp only [go_sem]
  refine loop_ind k_ref01_cells_r10.eq_1 (fun a : Nat × AVal × Heap => a.1 ≤ r.length ∧ ∀ b ∈ r.take a.1, okB b = true) (fun a => r.length - a.1)
    (fun a => (tsets 43 [(0, .str r), (4, csV 1 ((r.take a.1).map celB)), (5, .int .i64 a.1)], csG a.2.1 ((r.take a.1).map celB) a.2.2)) (0, .any, []) ⟨Nat.zero_le _, by simp⟩ (by simp [go_sem, csV]) (by simp [csG]) ?_
  rintro ⟨i, g, X⟩ ⟨hi, hok⟩ ih
  dsimp only at hi hok ih ⊢
  by_cases h1 : i < r.length
  · have h2 : (i : Int) < r.length := by omega
    have n0 : ¬ (i : Int) < 0 := by omega
    have h3 : IntKind.i64.wrap ((i : Int) + 1) = ((i + 1 : Nat) : Int) := by rw [w64 (by omega)]; rfl
    have hx : r[i]? = some r[i] := List.getElem?_eq_getElem h1
    have hmem : r[i] ∈ r := List.getElem_mem h1
    have htk : r.take (i + 1) = r.take i ++ [r[i]] := by rw [List.take_add_one, hx]; rfl
    obtain ⟨b, hb⟩ : ∃ b, r[i] = b := ⟨_, rfl⟩
    rw [hb] at hx hmem htk
    have hlen : (r.take i).length = i := by rw [List.length_take]; omega
    by_cases hbo : okB b = true
    · have ihn := fun g' X' => ih (i + 1, g', X') (by dsimp only; omega) ⟨h1, fun x hx => by
        dsimp only at hx
        rw [htk] at hx
        rcases List.mem_append.1 hx with hx | hx
        · exact hok x hx
        · rw [List.mem_singleton.1 hx]; exact hbo⟩
      clear ih
      simp only [htk, List.map_append, List.map_singleton] at ihn
      obtain ⟨c, hc⟩ : ∃ c, (r.take i).map celB = c := ⟨_, rfl⟩
      have hcl : c.length = i := by rw [← hc, List.length_map, hlen]
      rw [hc] at ihn ⊢
      obtain ⟨z, hz⟩ : ∃ z, celB b = z := ⟨_, rfl⟩
      rw [hz] at ihn
      have s1 : c.length + 1 ≤ 1000000 := by omega
      unfold okB at hbo
      by_cases h0 : b = 46
      · have e : ((b.toNat : Int) == 46) = true := by subst h0; rfl
        have z0 : z = 0 := by rw [← hz]; unfold celB; rw [if_pos h0]
        subst z0
        by_cases hc0 : c = []
        · subst hc0
          have := ihn (.int .i64 0) []
          rw [csV_nil, csG_nil]
          simp only [go_sem, h2, n0, hx, h3, e]
          rw [List.nil_append, csV_ne (by simp), csG_ne (by simp)] at this
          exact ⟨by omega, this _ (by simp [go_sem])⟩
        · have := ihn g (X ++ [some (.cells false 1 [.int .i64 0])])
          rw [csV_ne hc0, csG_ne hc0]
          simp only [go_sem, h2, n0, hx, h3, e, ivl_len, ivl_snoc]
          rw [csV_ne (by simp), csG_ne (by simp)] at this
          simp only [go_sem, List.length_append, List.length_singleton] at this ⊢
          exact ⟨by omega, this _ (by simp [go_sem])⟩
      · have hn : b.toNat ≠ 46 := fun e => h0 (UInt8.toNat_inj.1 e)
        have h1' : ¬ (b == 46) = true := by simpa using h0
        simp only [Bool.or_eq_true, h1', Bool.and_eq_true, decide_eq_true_eq] at hbo
        rcases hbo with hbo | hbo
        · cases hbo
        have e : ((b.toNat : Int) == 46) = false := by rw [beq_eq_false_iff_ne]; omega
        have w1 : IntKind.u8.wrap ((b.toNat : Int) - 48) = (b.toNat : Int) - 48 := IntWalk.u8_in _ (by omega)
        have w2 : IntKind.i64.wrap ((b.toNat : Int) - 48) = (b.toNat : Int) - 48 := w64 (by omega)
        have g1 : (49 : Int) ≤ b.toNat := by omega
        have g2 : (b.toNat : Int) ≤ 54 := by omega
        have zz : z = (b.toNat : Int) - 48 := by rw [← hz]; unfold celB; rw [if_neg h0]
        subst zz
        by_cases hc0 : c = []
        · subst hc0
          have := ihn (.int .i64 ((b.toNat : Int) - 48)) []
          rw [csV_nil, csG_nil]
          simp only [go_sem, h2, n0, hx, h3, e, w1, w2, g1, g2]
          rw [List.nil_append, csV_ne (by simp), csG_ne (by simp)] at this
          exact ⟨by omega, this _ (by simp [go_sem])⟩
        · have := ihn g (X ++ [some (.cells false 1 [.int .i64 ((b.toNat : Int) - 48)])])
          rw [csV_ne hc0, csG_ne hc0]
          simp only [go_sem, h2, n0, hx, h3, e, w1, w2, g1, g2, ivl_len, ivl_snoc]
          rw [csV_ne (by simp), csG_ne (by simp)] at this
          simp only [go_sem, List.length_append, List.length_singleton] at this ⊢
          exact ⟨by omega, this _ (by simp [go_sem])⟩
    · have hvf : v = false := by
        rw [← hv]; unfold rowB
        have : r.all okB = false := by
          rw [Bool.eq_false_iff]; intro hall
          exact hbo (List.all_eq_true.1 hall b hmem)
        rw [this]; rfl
      subst hvf
      have hbo' : okB b = false := by simpa using hbo
      unfold okB at hbo'
      simp only [Bool.or_eq_false_iff, Bool.and_eq_false_iff, decide_eq_false_iff_not, beq_eq_false_iff_ne] at hbo'
      have hn : b.toNat ≠ 46 := fun e => hbo'.1 (UInt8.toNat_inj.1 e)
      have e : ((b.toNat : Int) == 46) = false := by rw [beq_eq_false_iff_ne]; omega
      have hK : ∀ A : Heap, ∃ σ, Kept [] [] (AVal.tup [.nilsl, .bool false]) (.tup [.nilsl, .bool false]) A σ := fun A => ⟨fun i => i, fun i hi => rfl, fun i j hi => by simp at hi, rfl, fun i y hy => by simp at hy⟩
      by_cases g1 : (49 : Int) ≤ b.toNat
      · have g2 : ¬ (b.toNat : Int) ≤ 54 := by omega
        simp only [go_sem, h2, n0, hx, h3, e, g1, g2]
        exact hK _
      · simp only [go_sem, h2, n0, hx, h3, e, g1]
        exact hK _
  · obtain rfl : i = r.length := by omega
    have h2 : ¬ (r.length : Int) < r.length := by omega
    rw [List.take_length] at hok ⊢
    have hall : r.all okB = true := List.all_eq_true.2 hok
    unfold rowB at hv
    rw [hall] at hv
    by_cases h0 : r = []
    · subst h0
      have hvf : v = false := by rw [← hv]; rfl
      subst hvf
      rw [List.map_nil, csV_nil, csG_nil]
      simp only [go_sem, h2]
      exact ⟨fun i => i, fun i hi => rfl, fun i j hi => by simp at hi, rfl, fun i y hy => by simp at hy⟩
    · have hp : 0 < r.length := List.length_pos_iff.2 h0
      have hvt : v = true := by rw [← hv]; simp [hp]
      subst hvt
      have hm : r.map celB ≠ [] := by simpa using h0
      have hp2 : (0 : Int) < r.length := by omega
      rw [csV_ne hm, csG_ne hm]
      simp only [go_sem, h2, ivl_len, List.length_map, hp2, ↓reduceIte]
      exact kept_one (x := .cells true 1 (ivl (r.map celB))) 1 rfl (by simp only [go_sem]) rfl
end Go.Proofs

namespace Go.Proofs
open Go Go.Sx
def yes : Option (AVal × Heap) → Bool
  | some (.bool b, _) => b
  | _ => false
theorem yes_ans {P : Program} (hm : P.follows .mixedOrders = true) {tab : Nat → Option AFun} (hT : ∀ g af, tab g = some af → EntryOK P g af) {m n g : Nat} (h : yes (exFn tab m n g [] []) = true) : Ans P g [] [] (.bool true) [] := by
  match hx : exFn tab m n g [] [] with
  | none => rw [hx] at h; cases h
  | some (v, H') =>
    rw [hx] at h
    cases v <;> try (cases h; done)
    rename_i b
    have hb : b = true := h
    subst hb
    exact (spec_ex hm hT hx).mono fun v H'' hv => ⟨hv.1, H'', rfl⟩
theorem awake_yes : yes (exFn tab 3000 40 n_law01_awake [] []) = true := by kernel_rfl
theorem awake_ok : Ans Tryd.prog n_law01_awake [] [] (.bool true) [] := yes_ans mixed tab_ok awake_yes
end Go.Proofs

namespace Go.Proofs
open Go Go.Sx
open Go.Txt (spl okB celB chB joinR)
attribute [local irreducible] Run

theorem Text_ok {p : Rp} (h : p.err = 0) : Ans Tryd.prog n_field_Text [p.v] [] (.tup [.str (textP p), .int .i64 0]) [] := by
  cases hrd : p.rd
  · exact Text_flat h hrd
  · exact Text_round h hrd
theorem textP_len {p : Rp} (h : p.err = 0) : (textP p).length ≤ 278 := by
  obtain ⟨hw, hh, _, _⟩ := err_zero h
  rw [textP_tK h, List.length_append]
  have := tK_len p.cs (w := p.w.toNat) (by omega) p.rd p.h.toNat
  simp only [List.length_singleton]; omega

def Pl.rp (p : Pl) : Rp := ⟨p.w, p.h, p.rd, p.cs⟩
theorem PlOK.err {p : Pl} (hp : PlOK p) : p.rp.err = 0 := by
  have hw := hp.w; have hh := hp.h
  have hm := hp.max
  unfold Rp.err Pl.rp
  dsimp only
  rw [if_neg (by omega), if_neg (by rw [hp.len]; push_cast; omega), if_neg (by intro h; exact h hp.cell), if_neg (by omega)]
theorem PlOK.cne {p : Pl} (hp : PlOK p) : p.cs ≠ [] := by
  intro h
  have hl := hp.len
  rw [h] at hl
  have := Nat.mul_le_mul hp.w.1 hp.h.1
  simp at hl; omega
theorem pla_bel (p : Pl) (j n : Nat) (S : Nat → Prop) (h : S j) : Bel S (p.a (.sl j 0 n)) := by unfold Pl.a Pl.c4; simp only [go_sem, h]

theorem vr_nilp {G : Ctx} {μ : Mu} {a b c : AVal} {x : Value} (h : VR G μ (.agg [a, b, c, .nilsl]) x) : VR G μ (.agg [a, b, c, .view []]) x := by
  cases h with
  | agg _ vs hl hv =>
    refine .agg _ vs (by simpa using hl) fun i hi => ?_
    match i, hi with
    | 0, _ => exact hv 0 (by simp)
    | 1, _ => exact hv 1 (by simp)
    | 2, _ => exact hv 2 (by simp)
    | 3, _ =>
      have h3 := hv 3 (by simp)
      simp only [List.getD_cons_zero, List.getD_cons_succ] at h3 ⊢
      generalize vs.getD 3 undef = y at *
      cases h3
      exact .viewnil none 0
def lss2 : List AVal → List AVal → Prop
  | [], [] => True
  | v :: vs, u :: us => (v = u ∨ (v = .nilsl ∧ u = .view []) ∨ (∃ a b c, v = .agg [a, b, c, .nilsl] ∧ u = .agg [a, b, c, .view []])) ∧ lss2 vs us
  | _, _ => False
theorem lss2_len : ∀ {l l' : List AVal}, lss2 l l' → l.length = l'.length
  | [], [], _ => rfl
  | v :: l, u :: l', h => by simp [lss2_len h.2]
  | [], _ :: _, h => h.elim
  | _ :: _, [], h => h.elim
theorem lss2_vr {G : Ctx} {μ : Mu} : ∀ {l l' : List AVal}, lss2 l l' → ∀ i c, i < l.length → VR G μ (l.getD i .any) c → VR G μ (l'.getD i .any) c
  | [], [], _, i, c, hi, _ => by simp at hi
  | v :: l, u :: l', h, i, c, hi, hv => by
    cases i with
    | zero =>
      simp only [List.getD_cons_zero] at hv ⊢
      rcases h.1 with rfl | ⟨rfl, rfl⟩ | ⟨a, b, d, rfl, rfl⟩
      · exact hv
      · cases hv; exact .viewnil none 0
      · exact vr_nilp hv
    | succ i =>
      simp only [List.getD_cons_succ] at hv ⊢
      exact lss2_vr h.2 i c (by simpa using hi) hv
  | [], _ :: _, h, _, _, _, _ => h.elim
  | _ :: _, [], h, _, _, _, _ => h.elim
theorem Ans.lss2 {P : Program} {g : FuncId} {args args' : List AVal} {LH LH' : Heap} {r : AVal} (h : Ans P g args LH r LH') (hw : Go.Proofs.lss2 args' args) : Ans P g args' LH r LH' := h.weak (lss2_len hw) fun _ _ i c hi hv => lss2_vr hw i c hi hv

def Rp.at (q : Rp) (v : AVal) : AVal := .agg [.int .i64 q.w, .int .i64 q.h, .bool q.rd, v]
theorem rpa_frz (d : Nat) {H : Heap} {q : Rp} {j : Nat} {g : Bool} (h : H[j]? = some (some (.cells g 1 (ivl q.cs)))) : frz (d + 3) H (.agg [.int .i64 q.w, .int .i64 q.h, .bool q.rd, .sl j 0 q.cs.length]) = q.v := by
  show AVal.agg [_, _, _, frz (d + 2) H (.sl j 0 q.cs.length)] = _
  rw [ivl_frz d H h]; rfl
theorem parse_yes {s : List UInt8} {q : Rp} (h : parseP s = (q, 0, 0)) (hc : q.cs ≠ []) (hl : s.length ≤ 1000000) :
    Ans Tryd.prog n_field_Parse [.str s] [] (.tup [.agg [.int .i64 q.w, .int .i64 q.h, .bool q.rd, .sl 0 0 q.cs.length], .int .i64 0, .int .i64 0]) [some (.cells true 1 (ivl q.cs))] := by
  have := Parse_ok s hl
  rw [h] at this
  unfold psV psH csV at this
  simp only [if_neg hc] at this
  exact this
theorem parse_no {s : List UInt8} {n e : Int} (h : parseP s = (zp, n, e)) (hl : s.length ≤ 1000000) :
    Ans Tryd.prog n_field_Parse [.str s] [] (.tup [.agg [.int .i64 0, .int .i64 0, .bool false, .nilsl], .int .i64 n, .int .i64 e]) [] := by
  have := Parse_ok s hl
  rw [h] at this
  exact this
theorem parse_cases (s : List UInt8) : (∃ q, parseP s = (q, 0, 0)) ∨ ∃ n e : Int, e ≠ 0 ∧ parseP s = (zp, n, e) := by
  unfold parseP
  by_cases h4 : 400 < s.length
  · rw [if_pos h4]; exact .inr ⟨_, _, by decide, rfl⟩
  rw [if_neg h4]
  split
  · exact .inr ⟨_, _, by decide, rfl⟩
  · split
    · rename_i h; exact .inr ⟨_, _, h, rfl⟩
    · exact .inl ⟨_, rfl⟩
theorem err_ne {q : Rp} (h : q.err = 0) : q.cs ≠ [] := (Rp.ok h).1.cne

end Go.Proofs

