/- A part of the proof. -/
import Derived.Test.YtpbheanmmfmffaaPE
set_option linter.unusedSimpArgs false
set_option linter.unusedVariables false
namespace Go.Proofs
open Go Go.Sx
attribute [local irreducible] Run

def wgI (p : Pl) (i : Nat) (b : Int) : Int := if 0 ≤ b ∧ b < (p.w * p.h : Nat) then wgt p i b.toNat else 0
theorem weightI_ok {p : Pl} (hp : PlOK p) {i : Nat} (hi : i < p.w * p.h) (b : Int) : Ans Try.prog n_ref01_weight [p.v, .int .i64 i, .int .i64 b] [] (.int .i64 (wgI p i b)) [] := by
  unfold wgI
  by_cases h : 0 ≤ b ∧ b < (p.w * p.h : Nat)
  · rw [if_pos h]
    have := weight_ok hp hi (j := b.toNat) (by omega)
    rwa [show ((b.toNat : Nat) : Int) = b by omega] at this
  · rw [if_neg h]; exact weight_out hp hi h
def nearL (p : Pl) (i : Nat) : List Int := if p.w = 1 then [(i : Int) - 1, (i : Int) + 1] else [(i : Int) - p.w, (i : Int) - 1, (i : Int) + 1, (i : Int) + p.w]
def nrL (p : Pl) (i : Nat) : List Int := (nearL p i).filter fun b => 0 < wgI p i b
theorem slv0_bel (l : List Int) : Bel (· < (slrG true 1 (iv l)).length) (slv 0 (iv l)) := by
  unfold slv slrG
  split <;> simp [go_sem]
theorem slr0_ful (l : List Int) : Full (· < (slrG true 1 (iv l)).length) (slrG true 1 (iv l)) := by
  unfold slrG
  split
  · trivial
  · exact ⟨iv_row _ _ _, trivial⟩

set_option maxHeartbeats 4000000 in
theorem around_one {p : Pl} (hp : PlOK p) {i : Nat} (hi : i < p.w * p.h) (h1w : p.w = 1) : Ans Try.prog n_ref01_around [p.v, .int .i64 i] [] (slv 0 (iv (nrL p i))) (slrG true 1 (iv (nrL p i))) := by
  have hw := hp.w; have hh := hp.h
  have hN : p.w * p.h ≤ 256 := Nat.mul_le_mul hw.2 hh.2
  have hnear : nearL p i = [(i : Int) - 1, (i : Int) + 1] := by unfold nearL; rw [if_pos h1w]
  have w1 : IntKind.i64.wrap ((i : Int) - p.w) = (i : Int) - p.w := w64 (by omega)
  have w2 : IntKind.i64.wrap ((i : Int) - 1) = (i : Int) - 1 := w64 (by omega)
  have w3 : IntKind.i64.wrap ((i : Int) + 1) = (i : Int) + 1 := w64 (by omega)
  have w4 : IntKind.i64.wrap ((i : Int) + p.w) = (i : Int) + p.w := w64 (by omega)
  have hww : ((p.w : Int) == 1) = true := by simp [h1w]
  have hiv : iv (nearL p i) = [.int .i64 ((i : Int) - 1), .int .i64 ((i : Int) + 1)] := by rw [hnear]; rfl
  have hnl : (nearL p i).length = 2 := by rw [hnear]; rfl
  refine Ans.keep (run_fn e_ref01_around fun G => ?_) (by simp) (slv0_bel _) (slr0_ful _)
  simp only [go_sem, Pl.v, Pl.a, Pl.c4, vw, w1, w2, w3, w4, hww]
  have hx0 : some (Row.cells false 1 (iv (nearL p i))) = some (.cells false 1 [.int .i64 ((i : Int) - 1), .int .i64 ((i : Int) + 1)]) := by rw [hiv]
  clear hww w1 w2 w3 w4
  refine loop_ind k_ref01_around_r10.eq_1 (fun a : Nat × AVal × Heap => a.1 ≤ 2 ∧ ((((nearL p i).take a.1).filter (fun b => 0 < wgI p i b) = [] ∧ a.2.1 = .nilsl ∧ a.2.2 = some (.cells false 4 [p.v]) :: some (.cells false 1 [.int .i64 ((i : Int) - p.w), .int .i64 ((i : Int) - 1), .int .i64 ((i : Int) + 1), .int .i64 ((i : Int) + p.w)]) :: some (.cells false 1 (iv (nearL p i))) :: []) ∨ (((nearL p i).take a.1).filter (fun b => 0 < wgI p i b) ≠ [] ∧ a.2.1 = .sl 4 0 (((nearL p i).take a.1).filter (fun b => 0 < wgI p i b)).length ∧ ∃ g X, a.2.2 = some (.cells false 4 [p.v]) :: some (.cells false 1 [.int .i64 ((i : Int) - p.w), .int .i64 ((i : Int) - 1), .int .i64 ((i : Int) + 1), .int .i64 ((i : Int) + p.w)]) :: some (.cells false 1 (iv (nearL p i))) :: g :: some (.cells true 1 (iv (((nearL p i).take a.1).filter (fun b => 0 < wgI p i b)))) :: X))) (fun a => 2 - a.1)
    (fun a => (tsets 51 [(1, .int .i64 i), (2, .ptr 0 0 0 1), (5, .sl 2 0 2), (6, a.2.1), (7, .int .i64 a.1)], a.2.2)) (0, .nilsl, some (.cells false 4 [p.v]) :: some (.cells false 1 [.int .i64 ((i : Int) - p.w), .int .i64 ((i : Int) - 1), .int .i64 ((i : Int) + 1), .int .i64 ((i : Int) + p.w)]) :: some (.cells false 1 (iv (nearL p i))) :: []) ⟨Nat.zero_le _, .inl ⟨by rw [List.take_zero]; rfl, rfl, rfl⟩⟩ (by simp [go_sem]) (by rw [hx0]; rfl) ?_
  rintro ⟨k, t6, H⟩ ⟨hk, hH⟩ ih
  dsimp only at hk hH ih ⊢
  by_cases h1 : k < 2
  · have h2 : (k : Int) < 2 := by omega
    have h3 := idx_next h1 (by omega)
    have n0 : ¬ (k : Int) < 0 := by omega
    have hg := iv_get (l := nearL p i) (i := k) (by omega)
    have hlen : (nearL p i).length = 2 := hnl
    have hW := weightI_ok hp hi (gt (nearL p i) k)
    have hT : (nearL p i).take (k + 1) = (nearL p i).take k ++ [gt (nearL p i) k] := by rw [List.take_add_one, gt_get (by omega)]; rfl
    have hle : (((nearL p i).take k).filter (fun b => 0 < wgI p i b)).length ≤ 4 := by
      have := List.length_filter_le (fun b => decide (0 < wgI p i b)) ((nearL p i).take k)
      rw [List.length_take] at this; omega
    have ihn := fun t6' H' => ih (k + 1, t6', H') (by dsimp only; omega)
    clear ih hx0 hiv hnear
    simp only [hT, List.filter_append] at ihn
    generalize hz : gt (nearL p i) k = z at *
    generalize (((nearL p i).take k).filter (fun b => 0 < wgI p i b)) = l at *
    by_cases hw0 : 0 < wgI p i z
    · have hf : List.filter (fun b => decide (0 < wgI p i b)) [z] = [z] := by simp [hw0]
      simp only [hf] at ihn
      rcases hH with ⟨rfl, rfl, rfl⟩ | ⟨hne, rfl, g, X, rfl⟩
      · simp only [List.nil_append] at ihn
        simp only [go_sem, Pl.v, Pl.a, Pl.c4, vw, iv_len, hlen, h2, n0, hg]
        refine cP hW ?_
        simp only [go_sem, hw0, h3, iv_len, hlen, h2, n0, hg]
        exact ⟨by decide, ihn _ _ ⟨h1, .inr ⟨by simp, rfl, _, [], rfl⟩⟩ _ (by simp [go_sem])⟩
      · simp only [go_sem, Pl.v, Pl.a, Pl.c4, vw, iv_len, hlen, h2, n0, hg]
        refine cP hW ?_
        simp only [go_sem, hw0, h3, iv_len, hlen, h2, n0, hg, iv_app]
        exact ⟨by omega, ihn _ _ ⟨h1, .inr ⟨by simp, rfl, _, _, rfl⟩⟩ _ (by simp [go_sem])⟩
    · have hf : List.filter (fun b => decide (0 < wgI p i b)) [z] = [] := by simp [hw0]
      simp only [hf, List.append_nil] at ihn
      rcases hH with ⟨rfl, rfl, rfl⟩ | ⟨hne, rfl, g, X, rfl⟩
      · simp only [go_sem, Pl.v, Pl.a, Pl.c4, vw, iv_len, hlen, h2, n0, hg]
        refine cP hW ?_
        simp only [go_sem, hw0, h3]
        exact ihn _ _ ⟨h1, .inl ⟨rfl, rfl, rfl⟩⟩ _ (by simp [go_sem])
      · simp only [go_sem, Pl.v, Pl.a, Pl.c4, vw, iv_len, hlen, h2, n0, hg]
        refine cP hW ?_
        simp only [go_sem, hw0, h3]
        exact ihn _ _ ⟨h1, .inr ⟨hne, rfl, _, _, rfl⟩⟩ _ (by simp [go_sem])
  · have h2 : ¬ (k : Int) < 2 := by omega
    have hall : ((nearL p i).take k).filter (fun b => 0 < wgI p i b) = nrL p i := by rw [List.take_of_length_le (by omega)]; rfl
    rw [hall] at hH
    clear ih hall hx0 hiv
    generalize nrL p i = l at *
    rcases hH with ⟨rfl, rfl, rfl⟩ | ⟨hne, rfl, g, X, rfl⟩
    · simp only [go_sem, iv_len, hnl, h2]
      show ∃ σ, Kept [] [] .nilsl .nilsl _ σ
      exact kept_id rfl (by simp only [go_sem]) (fun i x hx => by simp at hx)
    · have hne' : iv l ≠ [] := fun h => hne (List.map_eq_nil_iff.1 h)
      simp only [go_sem, iv_len, hnl, h2]
      unfold slv slrG
      rw [if_neg hne', if_neg hne']
      exact kept_new (A := []) 0 4 rfl rfl (by omega) (by simp [ren, rens, iv_len]) (fun i x hx => by simp at hx) (iv_row _ _ _) rfl

set_option maxHeartbeats 4000000 in
theorem around_more {p : Pl} (hp : PlOK p) {i : Nat} (hi : i < p.w * p.h) (h1w : p.w ≠ 1) : Ans Try.prog n_ref01_around [p.v, .int .i64 i] [] (slv 0 (iv (nrL p i))) (slrG true 1 (iv (nrL p i))) := by
  have hw := hp.w; have hh := hp.h
  have hN : p.w * p.h ≤ 256 := Nat.mul_le_mul hw.2 hh.2
  have hnear : nearL p i = [(i : Int) - p.w, (i : Int) - 1, (i : Int) + 1, (i : Int) + p.w] := by unfold nearL; rw [if_neg h1w]
  have w1 : IntKind.i64.wrap ((i : Int) - p.w) = (i : Int) - p.w := w64 (by omega)
  have w2 : IntKind.i64.wrap ((i : Int) - 1) = (i : Int) - 1 := w64 (by omega)
  have w3 : IntKind.i64.wrap ((i : Int) + 1) = (i : Int) + 1 := w64 (by omega)
  have w4 : IntKind.i64.wrap ((i : Int) + p.w) = (i : Int) + p.w := w64 (by omega)
  have hww : ((p.w : Int) == 1) = false := by simp; omega
  have hiv : iv (nearL p i) = [.int .i64 ((i : Int) - p.w), .int .i64 ((i : Int) - 1), .int .i64 ((i : Int) + 1), .int .i64 ((i : Int) + p.w)] := by rw [hnear]; rfl
  have hnl : (nearL p i).length = 4 := by rw [hnear]; rfl
  refine Ans.keep (run_fn e_ref01_around fun G => ?_) (by simp) (slv0_bel _) (slr0_ful _)
  simp only [go_sem, Pl.v, Pl.a, Pl.c4, vw, w1, w2, w3, w4, hww]
  have hx0 : some (Row.cells false 1 (iv (nearL p i))) = some (.cells false 1 [.int .i64 ((i : Int) - p.w), .int .i64 ((i : Int) - 1), .int .i64 ((i : Int) + 1), .int .i64 ((i : Int) + p.w)]) := by rw [hiv]
  clear hww w1 w2 w3 w4
  refine loop_ind k_ref01_around_r10.eq_1 (fun a : Nat × AVal × Heap => a.1 ≤ 4 ∧ ((((nearL p i).take a.1).filter (fun b => 0 < wgI p i b) = [] ∧ a.2.1 = .nilsl ∧ a.2.2 = some (.cells false 4 [p.v]) :: some (.cells false 1 (iv (nearL p i))) :: []) ∨ (((nearL p i).take a.1).filter (fun b => 0 < wgI p i b) ≠ [] ∧ a.2.1 = .sl 3 0 (((nearL p i).take a.1).filter (fun b => 0 < wgI p i b)).length ∧ ∃ g X, a.2.2 = some (.cells false 4 [p.v]) :: some (.cells false 1 (iv (nearL p i))) :: g :: some (.cells true 1 (iv (((nearL p i).take a.1).filter (fun b => 0 < wgI p i b)))) :: X))) (fun a => 4 - a.1)
    (fun a => (tsets 51 [(1, .int .i64 i), (2, .ptr 0 0 0 1), (5, .sl 1 0 4), (6, a.2.1), (7, .int .i64 a.1)], a.2.2)) (0, .nilsl, some (.cells false 4 [p.v]) :: some (.cells false 1 (iv (nearL p i))) :: []) ⟨Nat.zero_le _, .inl ⟨by rw [List.take_zero]; rfl, rfl, rfl⟩⟩ (by simp [go_sem]) (by rw [hx0]; rfl) ?_
  rintro ⟨k, t6, H⟩ ⟨hk, hH⟩ ih
  dsimp only at hk hH ih ⊢
  by_cases h1 : k < 4
  · have h2 : (k : Int) < 4 := by omega
    have h3 := idx_next h1 (by omega)
    have n0 : ¬ (k : Int) < 0 := by omega
    have hg := iv_get (l := nearL p i) (i := k) (by omega)
    have hlen : (nearL p i).length = 4 := hnl
    have hW := weightI_ok hp hi (gt (nearL p i) k)
    have hT : (nearL p i).take (k + 1) = (nearL p i).take k ++ [gt (nearL p i) k] := by rw [List.take_add_one, gt_get (by omega)]; rfl
    have hle : (((nearL p i).take k).filter (fun b => 0 < wgI p i b)).length ≤ 4 := by
      have := List.length_filter_le (fun b => decide (0 < wgI p i b)) ((nearL p i).take k)
      rw [List.length_take] at this; omega
    have ihn := fun t6' H' => ih (k + 1, t6', H') (by dsimp only; omega)
    clear ih hx0 hiv hnear
    simp only [hT, List.filter_append] at ihn
    generalize hz : gt (nearL p i) k = z at *
    generalize (((nearL p i).take k).filter (fun b => 0 < wgI p i b)) = l at *
    by_cases hw0 : 0 < wgI p i z
    · have hf : List.filter (fun b => decide (0 < wgI p i b)) [z] = [z] := by simp [hw0]
      simp only [hf] at ihn
      rcases hH with ⟨rfl, rfl, rfl⟩ | ⟨hne, rfl, g, X, rfl⟩
      · simp only [List.nil_append] at ihn
        simp only [go_sem, Pl.v, Pl.a, Pl.c4, vw, iv_len, hlen, h2, n0, hg]
        refine cP hW ?_
        simp only [go_sem, hw0, h3, iv_len, hlen, h2, n0, hg]
        exact ⟨by decide, ihn _ _ ⟨h1, .inr ⟨by simp, rfl, _, [], rfl⟩⟩ _ (by simp [go_sem])⟩
      · simp only [go_sem, Pl.v, Pl.a, Pl.c4, vw, iv_len, hlen, h2, n0, hg]
        refine cP hW ?_
        simp only [go_sem, hw0, h3, iv_len, hlen, h2, n0, hg, iv_app]
        exact ⟨by omega, ihn _ _ ⟨h1, .inr ⟨by simp, rfl, _, _, rfl⟩⟩ _ (by simp [go_sem])⟩
    · have hf : List.filter (fun b => decide (0 < wgI p i b)) [z] = [] := by simp [hw0]
      simp only [hf, List.append_nil] at ihn
      rcases hH with ⟨rfl, rfl, rfl⟩ | ⟨hne, rfl, g, X, rfl⟩
      · simp only [go_sem, Pl.v, Pl.a, Pl.c4, vw, iv_len, hlen, h2, n0, hg]
        refine cP hW ?_
        simp only [go_sem, hw0, h3]
        exact ihn _ _ ⟨h1, .inl ⟨rfl, rfl, rfl⟩⟩ _ (by simp [go_sem])
      · simp only [go_sem, Pl.v, Pl.a, Pl.c4, vw, iv_len, hlen, h2, n0, hg]
        refine cP hW ?_
        simp only [go_sem, hw0, h3]
        exact ihn _ _ ⟨h1, .inr ⟨hne, rfl, _, _, rfl⟩⟩ _ (by simp [go_sem])
  · have h2 : ¬ (k : Int) < 4 := by omega
    have hall : ((nearL p i).take k).filter (fun b => 0 < wgI p i b) = nrL p i := by rw [List.take_of_length_le (by omega)]; rfl
    rw [hall] at hH
    clear ih hall hx0 hiv
    generalize nrL p i = l at *
    rcases hH with ⟨rfl, rfl, rfl⟩ | ⟨hne, rfl, g, X, rfl⟩
    · simp only [go_sem, iv_len, hnl, h2]
      show ∃ σ, Kept [] [] .nilsl .nilsl _ σ
      exact kept_id rfl (by simp only [go_sem]) (fun i x hx => by simp at hx)
    · have hne' : iv l ≠ [] := fun h => hne (List.map_eq_nil_iff.1 h)
      simp only [go_sem, iv_len, hnl, h2]
      unfold slv slrG
      rw [if_neg hne', if_neg hne']
      exact kept_new (A := []) 0 3 rfl rfl (by omega) (by simp [ren, rens, iv_len]) (fun i x hx => by simp at hx) (iv_row _ _ _) rfl
end Go.Proofs

namespace Go.Proofs
open Go Go.Sx
attribute [local irreducible] Run

theorem wgt_nonneg (p : Pl) (i j : Nat) : 0 ≤ wgt p i j := by
  unfold wgt besW abvW
  split
  · split <;> omega
  · split
    · split <;> omega
    · omega
theorem wgI_nonneg (p : Pl) (i : Nat) (b : Int) : 0 ≤ wgI p i b := by
  unfold wgI; split
  · exact wgt_nonneg _ _ _
  · omega
def lsum (p : Pl) (i : Nat) (f : Nat → Int) : List Int → Int
  | [] => 0
  | b :: l => wgI p i b * f b.toNat + lsum p i f l
theorem lsum_filter (p : Pl) (i : Nat) (f : Nat → Int) : ∀ l, lsum p i f (l.filter fun b => 0 < wgI p i b) = lsum p i f l
  | [] => rfl
  | b :: l => by
    rw [List.filter_cons]
    split
    · rw [lsum, lsum, lsum_filter p i f l]
    · rename_i h
      have h1 := wgI_nonneg p i b
      have h2 : wgI p i b = 0 := by
        have : ¬ 0 < wgI p i b := by simpa using h
        omega
      rw [lsum, lsum_filter p i f l, h2, Int.zero_mul, Int.zero_add]
theorem wgI_nat {p : Pl} (i : Nat) {j : Nat} (hj : j < p.w * p.h) : wgI p i (j : Int) = wgt p i j := by
  unfold wgI
  rw [if_pos ⟨by omega, by omega⟩]; rfl
theorem wgI_out {p : Pl} (i : Nat) {b : Int} (h : b < 0 ∨ (p.w * p.h : Nat) ≤ b) : wgI p i b = 0 := by
  unfold wgI
  rw [if_neg (by omega)]

section
variable {p : Pl} (hp : PlOK p) {x y : Nat} (hx : x < p.w) (hy : y < p.h)
include hp hx hy
omit hp in
theorem wgI_left (f : Nat → Int) (h1 : p.w ≠ 1) : wgI p (y * p.w + x) (((y * p.w + x : Nat) : Int) - 1) * f (((y * p.w + x : Nat) : Int) - 1).toNat = if 0 < x then besW p.rd (x - 1) * f (y * p.w + (x - 1)) else 0 := by
  have hi := cell_in hx hy
  by_cases h : 0 < x
  · have e : ((y * p.w + x : Nat) : Int) - 1 = ((y * p.w + (x - 1) : Nat) : Int) := by omega
    rw [e, wgI_nat _ (by omega), if_pos h]
    obtain ⟨m1, _⟩ := cell_at (w := p.w) (x := x) (y := y) hx
    obtain ⟨m2, _⟩ := cell_at (w := p.w) (x := x - 1) (y := y) (by omega)
    unfold wgt
    rw [show max (y * p.w + x) (y * p.w + (x - 1)) = y * p.w + x by omega, show min (y * p.w + x) (y * p.w + (x - 1)) = y * p.w + (x - 1) by omega, m1, m2, if_pos ⟨by omega, h⟩]
    rfl
  · have hx0 : x = 0 := by omega
    subst hx0
    rw [if_neg h, Nat.add_zero]
    by_cases hy0 : y = 0
    · subst hy0
      rw [Nat.zero_mul, wgI_out _ (.inl (by omega)), Int.zero_mul]
    · have hyw : p.w ≤ y * p.w := Nat.le_mul_of_pos_left _ (by omega)
      have e : ((y * p.w : Nat) : Int) - 1 = ((y * p.w - 1 : Nat) : Int) := by omega
      rw [e, wgI_nat _ (by omega)]
      obtain ⟨m1, _⟩ := cell_at (w := p.w) (x := 0) (y := y) hx
      rw [Nat.add_zero] at m1
      unfold wgt
      rw [show max (y * p.w) (y * p.w - 1) = y * p.w by omega, show min (y * p.w) (y * p.w - 1) = y * p.w - 1 by omega, m1, if_neg (by omega), if_neg (by omega), Int.zero_mul]
omit hp in
theorem wgI_right (f : Nat → Int) (h1 : p.w ≠ 1) : wgI p (y * p.w + x) (((y * p.w + x : Nat) : Int) + 1) * f (((y * p.w + x : Nat) : Int) + 1).toNat = if x + 1 < p.w then besW p.rd x * f (y * p.w + (x + 1)) else 0 := by
  have hi := cell_in hx hy
  have e : ((y * p.w + x : Nat) : Int) + 1 = ((y * p.w + (x + 1) : Nat) : Int) := by omega
  rw [e]
  obtain ⟨m1, _⟩ := cell_at (w := p.w) (x := x) (y := y) hx
  by_cases h : x + 1 < p.w
  · have hj := cell_in h hy
    obtain ⟨m2, _⟩ := cell_at (w := p.w) (x := x + 1) (y := y) h
    rw [wgI_nat _ hj, if_pos h]
    unfold wgt
    rw [show max (y * p.w + x) (y * p.w + (x + 1)) = y * p.w + (x + 1) by omega, show min (y * p.w + x) (y * p.w + (x + 1)) = y * p.w + x by omega, m1, m2, if_pos ⟨by omega, by omega⟩]
    rfl
  · rw [if_neg h]
    have e2 : y * p.w + (x + 1) = (y + 1) * p.w := by rw [Nat.add_mul]; omega
    rw [e2]
    by_cases hy1 : y + 1 < p.h
    · have hj : (y + 1) * p.w < p.w * p.h := by have := cell_in (w := p.w) (h := p.h) (x := 0) (y := y + 1) (by omega) hy1; rwa [Nat.add_zero] at this
      rw [wgI_nat _ hj]
      unfold wgt
      rw [show max (y * p.w + x) ((y + 1) * p.w) = (y + 1) * p.w by omega, show min (y * p.w + x) ((y + 1) * p.w) = y * p.w + x by omega, Nat.mul_mod_left, if_neg (by omega), if_neg (by omega), Int.zero_mul]
    · have hyh : y + 1 = p.h := by omega
      have : (y + 1) * p.w = p.w * p.h := by rw [hyh, Nat.mul_comm]
      rw [wgI_out _ (.inr (by omega)), Int.zero_mul]
theorem wgI_up (f : Nat → Int) (b : Int) (hb : b = ((y * p.w + x : Nat) : Int) - p.w) : wgI p (y * p.w + x) b * f b.toNat = if 0 < y then abvW p.rd x * f ((y - 1) * p.w + x) else 0 := by
  have hi := cell_in hx hy
  have hw := hp.w
  by_cases h : 0 < y
  · have e2 : y * p.w = (y - 1) * p.w + p.w := by
      have : y = y - 1 + 1 := by omega
      conv => lhs; rw [this, Nat.add_mul, Nat.one_mul]
    have e : b = (((y - 1) * p.w + x : Nat) : Int) := by omega
    rw [e, wgI_nat _ (by omega), if_pos h]
    obtain ⟨m1, _⟩ := cell_at (w := p.w) (x := x) (y := y) hx
    obtain ⟨m2, _⟩ := cell_at (w := p.w) (x := x) (y := y - 1) hx
    unfold wgt
    rw [show max (y * p.w + x) ((y - 1) * p.w + x) = y * p.w + x by omega, show min (y * p.w + x) ((y - 1) * p.w + x) = (y - 1) * p.w + x by omega, m1, m2, if_neg (by omega), if_pos (by omega)]
    rfl
  · have hy0 : y = 0 := by omega
    subst hy0
    rw [if_neg h, wgI_out _ (.inl (by omega)), Int.zero_mul]
theorem wgI_down (f : Nat → Int) (b : Int) (hb : b = ((y * p.w + x : Nat) : Int) + p.w) : wgI p (y * p.w + x) b * f b.toNat = if y + 1 < p.h then abvW p.rd x * f ((y + 1) * p.w + x) else 0 := by
  have hi := cell_in hx hy
  have hw := hp.w
  have e2 : (y + 1) * p.w = y * p.w + p.w := by rw [Nat.add_mul, Nat.one_mul]
  have e : b = (((y + 1) * p.w + x : Nat) : Int) := by omega
  rw [e]
  obtain ⟨m1, _⟩ := cell_at (w := p.w) (x := x) (y := y) hx
  obtain ⟨m2, _⟩ := cell_at (w := p.w) (x := x) (y := y + 1) hx
  by_cases h : y + 1 < p.h
  · have hj := cell_in hx h
    rw [wgI_nat _ hj, if_pos h]
    unfold wgt
    rw [show max (y * p.w + x) ((y + 1) * p.w + x) = (y + 1) * p.w + x by omega, show min (y * p.w + x) ((y + 1) * p.w + x) = y * p.w + x by omega, m1, m2, if_neg (by omega), if_pos (by omega)]
    rfl
  · have hyh : y + 1 = p.h := by omega
    have : (y + 1) * p.w = p.w * p.h := by rw [hyh, Nat.mul_comm]
    rw [if_neg h, wgI_out _ (.inr (by omega)), Int.zero_mul]
end

theorem nr_sum {p : Pl} (hp : PlOK p) {i : Nat} (hi : i < p.w * p.h) (f : Nat → Int) : lsum p i f (nrL p i) = wsum (nbs p i) f := by
  obtain ⟨c1, c2, c3⟩ := cell_lt hi
  unfold nrL
  rw [lsum_filter, ← c3, wsum_nbs p c1]
  generalize i % p.w = x at *
  generalize i / p.w = y at *
  unfold nearL
  by_cases h1 : p.w = 1
  · rw [if_pos h1]
    simp only [lsum]
    rw [wgI_up hp c1 c2 f (((y * p.w + x : Nat) : Int) - 1) (by omega), wgI_down hp c1 c2 f (((y * p.w + x : Nat) : Int) + 1) (by omega), if_neg (show ¬ 0 < x by omega), if_neg (show ¬ x + 1 < p.w by omega)]
    omega
  · rw [if_neg h1]
    simp only [lsum]
    rw [wgI_up hp c1 c2 f (((y * p.w + x : Nat) : Int) - p.w) rfl, wgI_down hp c1 c2 f (((y * p.w + x : Nat) : Int) + p.w) rfl, wgI_left c1 c2 f h1, wgI_right c1 c2 f h1]
    omega

theorem around_ok' {p : Pl} (hp : PlOK p) {i : Nat} (hi : i < p.w * p.h) : Ans Try.prog n_ref01_around [p.v, .int .i64 i] [] (slv 0 (iv (nrL p i))) (slrG true 1 (iv (nrL p i))) := by
  by_cases h : p.w = 1
  · exact around_one hp hi h
  · exact around_more hp hi h
theorem nr_in {p : Pl} {i : Nat} {b : Int} (h : b ∈ nrL p i) : 0 ≤ b ∧ b < (p.w * p.h : Nat) ∧ 1 ≤ wgI p i b := by
  unfold nrL at h
  have h1 := (List.mem_filter.1 h).2
  have h2 : 0 < wgI p i b := by simpa using h1
  by_cases h3 : 0 ≤ b ∧ b < (p.w * p.h : Nat)
  · exact ⟨h3.1, h3.2, by omega⟩
  · unfold wgI at h2; rw [if_neg h3] at h2; omega
theorem nr_len (p : Pl) (i : Nat) : (nrL p i).length ≤ 4 := by
  unfold nrL
  refine Nat.le_trans (List.length_filter_le _ _) ?_
  unfold nearL
  split <;> simp
end Go.Proofs

namespace Go.Proofs
open Go Go.Sx
attribute [local irreducible] Run

theorem wgt_symm (p : Pl) (i j : Nat) : wgt p i j = wgt p j i := by
  unfold wgt; rw [Nat.max_comm, Nat.min_comm]
theorem lsum_ind (p : Pl) (i j : Nat) : ∀ l : List Int, 0 < lsum p i (fun n => if n = j then 1 else 0) l → ∃ b ∈ l, b.toNat = j ∧ 0 < wgI p i b
  | [], h => by simp [lsum] at h
  | b :: l, h => by
    rw [lsum] at h
    by_cases hb : b.toNat = j ∧ 0 < wgI p i b
    · exact ⟨b, by simp, hb⟩
    · have h0 : wgI p i b * (if b.toNat = j then 1 else 0) = 0 := by
        by_cases h1 : b.toNat = j
        · have := wgI_nonneg p i b
          have h2 : wgI p i b = 0 := by
            have : ¬ 0 < wgI p i b := fun h3 => hb ⟨h1, h3⟩
            omega
          rw [h2, Int.zero_mul]
        · rw [if_neg h1, Int.mul_zero]
      obtain ⟨c, hc, hc2⟩ := lsum_ind p i j l (by omega)
      exact ⟨c, by simp [hc], hc2⟩
theorem wsum_ind {l : List (Nat × Int)} (h : ∀ q ∈ l, 1 ≤ q.2) {q : Nat × Int} (hq : q ∈ l) : 0 < wsum l fun n => if n = q.1 then 1 else 0 := by
  induction l with
  | nil => simp at hq
  | cons r l ih =>
    have h1 := h r (by simp)
    have nn : 0 ≤ wsum l fun n => if n = q.1 then 1 else 0 := by
      have := wsum_mono (l := l) (f := fun _ => 0) (g := fun n => if n = q.1 then 1 else 0) fun s hs => ⟨by have := h s (by simp [hs]); omega, by split <;> omega⟩
      rw [wsum_const, Int.mul_zero] at this; exact this
    have nr : 0 ≤ r.2 * (if r.1 = q.1 then 1 else 0) := Int.mul_nonneg (by omega) (by split <;> omega)
    simp only [wsum]
    rcases List.mem_cons.1 hq with rfl | hq
    · rw [if_pos rfl, Int.mul_one]; omega
    · have := ih (fun s hs => h s (by simp [hs])) hq
      omega
theorem nr_back {p : Pl} (hp : PlOK p) {i : Nat} (hi : i < p.w * p.h) {q : Nat × Int} (hq : q ∈ nbs p i) : (i : Int) ∈ nrL p q.1 := by
  have hN := nbs_in p hp.w.2 hi
  obtain ⟨k1, k2, _⟩ := hN q hq
  have h1 := wsum_ind (fun r hr => (hN r hr).2.1) hq
  rw [← nr_sum hp hi] at h1
  obtain ⟨b, hb, hbj, hbw⟩ := lsum_ind p i q.1 _ h1
  obtain ⟨m1, m2, _⟩ := nr_in hb
  have e : b = (q.1 : Int) := by omega
  subst e
  rw [wgI_nat _ k1, wgt_symm] at hbw
  unfold nrL
  rw [List.mem_filter]
  refine ⟨?_, by rw [wgI_nat _ hi]; simpa using hbw⟩
  unfold nrL at hb
  have hb1 := (List.mem_filter.1 hb).1
  unfold nearL at hb1 ⊢
  split at hb1
  · rename_i hw1
    rw [if_pos hw1]
    simp only [List.mem_cons, List.not_mem_nil, or_false] at hb1 ⊢
    omega
  · rename_i hw1
    rw [if_neg hw1]
    simp only [List.mem_cons, List.not_mem_nil, or_false] at hb1 ⊢
    omega

structure HeOK (p : Pl) (bs : List Bool) : Prop where
  len : bs.length = p.w * p.h
  el : ∀ i, i < p.w * p.h → p.el i → bs.getD i false = true
def nf (bs : List Bool) : Nat := bs.count false
def HeCl (p : Pl) (bs : List Bool) (i : Nat) : Prop := ∀ b ∈ nrL p i, bs.getD b.toNat false = true → bs.getD i false = true
theorem held_all {p : Pl} (hp : PlOK p) {bs : List Bool} (h : HeOK p bs) (hc : ∀ i, i < p.w * p.h → HeCl p bs i) : bs = List.replicate (p.w * p.h) true := by
  have hall := grid_conn p (fun i => bs.getD i false = true) (by
    obtain ⟨i, hi, hE⟩ := hp.some
    exact ⟨i, hi, h.el i hi hE⟩) (fun i hi hS q hq => by
    obtain ⟨k1, _⟩ := nbs_in p hp.w.2 hi q hq
    exact hc q.1 k1 i (nr_back hp hi hq) (by rw [Int.toNat_natCast]; exact hS))
  refine List.ext_getElem (by rw [h.len, List.length_replicate]) fun i h1 h2 => ?_
  have := hall i (by rw [← h.len]; exact h1)
  rw [List.getD_eq_getElem?_getD, List.getElem?_eq_getElem h1] at this
  rw [List.getElem_replicate]
  exact this
theorem nf_set {bs : List Bool} {i : Nat} (hi : i < bs.length) (h : bs.getD i false = false) : nf (bs.set i true) + 1 = nf bs := by
  have hg : bs[i] = false := by rw [List.getD_eq_getElem?_getD, List.getElem?_eq_getElem hi] at h; exact h
  have h1 : 0 < bs.count false := List.count_pos_iff.2 (by rw [← hg]; exact List.getElem_mem hi)
  unfold nf
  rw [List.count_set hi, hg]
  simp
  omega
theorem HeOK.set {p : Pl} {bs : List Bool} (h : HeOK p bs) {i : Nat} (hi : i < p.w * p.h) : HeOK p (bs.set i true) := by
  refine ⟨by rw [List.length_set]; exact h.len, fun j hj hE => ?_⟩
  rw [getD_set _ _ _ (by rw [h.len]; exact hi)]
  split
  · rfl
  · exact h.el j hj hE

def elT (p : Pl) (i : Nat) : List Bool := (List.range (p.w * p.h)).map fun j => decide (j < i) && decide (0 < gt p.cs j)
theorem elT_len (p : Pl) (i : Nat) : (elT p i).length = p.w * p.h := by simp [elT]
theorem elT_get (p : Pl) (i : Nat) {j : Nat} (hj : j < p.w * p.h) : (elT p i).getD j false = (decide (j < i) && decide (0 < gt p.cs j)) := by
  unfold elT
  rw [List.getD_eq_getElem?_getD, List.getElem?_map, List.getElem?_range hj]; rfl
theorem bl_ext {a b : List Bool} (hl : a.length = b.length) (h : ∀ i, i < a.length → a.getD i false = b.getD i false) : a = b := by
  refine List.ext_getElem hl fun i h1 h2 => ?_
  have := h i h1
  rw [List.getD_eq_getElem?_getD, List.getD_eq_getElem?_getD, List.getElem?_eq_getElem h1, List.getElem?_eq_getElem h2] at this
  exact this
theorem elT_set (p : Pl) {i : Nat} (hi : i < p.w * p.h) : (elT p i).set i (decide (0 < gt p.cs i)) = elT p (i + 1) := bl_ext (by rw [List.length_set, elT_len, elT_len]) fun j hj => by
  rw [List.length_set, elT_len] at hj
  rw [elT_get _ _ hj, List.getD_eq_getElem?_getD]
  by_cases e : j = i
  · subst e
    rw [List.getElem?_set_self (by rw [elT_len]; exact hj)]
    simp
  · rw [List.getElem?_set_ne (by omega), ← List.getD_eq_getElem?_getD, elT_get _ _ hj]
    by_cases h1 : j < i
    · rw [decide_eq_true h1, decide_eq_true (show j < i + 1 by omega)]
    · rw [decide_eq_false h1, decide_eq_false (show ¬ j < i + 1 by omega)]
theorem elT_ok {p : Pl} (hp : PlOK p) : HeOK p (elT p (p.w * p.h)) := ⟨elT_len _ _, fun i hi hE => by
  have h1 := hp.cell _ (hp.mem hi)
  have h2 : gt p.cs i ≠ 0 := hE
  rw [elT_get _ _ hi, decide_eq_true hi, decide_eq_true (by omega)]; rfl⟩
theorem bv_set1 {bs : List Bool} {i : Nat} (x : Bool) : (bv bs).set i (.bool x) = bv (bs.set i x) := by simp [bv, List.map_set]

set_option maxHeartbeats 8000000 in
set_option maxRecDepth 4000 in
theorem held_ok {p : Pl} (hp : PlOK p) : Ans Try.prog n_ref01_held [p.v] [] (.sl 0 0 p.cs.length) [some (.cells false 1 (bv (List.replicate (p.w * p.h) true)))] := by
  have hw := hp.w; have hh := hp.h
  have hN : p.w * p.h ≤ 256 := Nat.mul_le_mul hw.2 hh.2
  have hlen := hp.len
  refine Ans.keep (run_fn e_ref01_held fun G => ?_) (by simp) (by simp [go_sem]) ⟨by rw [row_bel_cells]; unfold bv; simp only [go_sem], trivial⟩
  have q1 : (0 : Int) ≤ p.cs.length := by omega
  have q2 : (p.cs.length : Int) ≤ 2 ^ 44 := by omega
  have q3 : (p.cs.length : Int) * 1 ≤ 2 ^ 44 := by omega
  simp only [go_sem, Pl.v, Pl.a, Pl.c4, vw, List.length_map, q1, q2, q3, Int.toNat_natCast]
  refine ⟨Int.le_refl _, ?_⟩
  have h0 : List.replicate p.cs.length (AVal.bool false) = bv (elT p 0) := by
    have : elT p 0 = List.replicate (p.w * p.h) false := bl_ext (by simp [elT]) fun j hj => by
      rw [elT_len] at hj
      rw [elT_get _ _ hj, List.getD_eq_getElem?_getD, List.getElem?_replicate, if_pos hj]; simp
    rw [this, hlen]; simp [bv]
  rw [h0]
  refine loop_ind k_ref01_held_r6.eq_1 (fun i : Nat => i ≤ p.cs.length) (fun i => p.cs.length - i)
    (fun i => (tsets 64 [(1, .ptr 0 0 0 1), (3, .sl 1 0 p.cs.length), (4, .int .i64 i)], [some (.cells false 4 [p.v]), some (.cells false 1 (bv (elT p i)))])) 0 (Nat.zero_le _) (by simp [go_sem]) rfl ?_
  intro i hi ih
  dsimp only at hi ih ⊢
  by_cases h1 : i < p.cs.length
  · have h2 : (i : Int) < p.cs.length := by omega
    have h3 := idx_next h1 (by omega)
    have n0 : ¬ (i : Int) < 0 := by omega
    have hx := gt_get h1
    have hb := bv_get (bs := elT p i) (c := i) (by rw [elT_len]; omega)
    have s1 := elT_set p (i := i) (by omega)
    have hEl : (elT p i).length = p.cs.length := by rw [elT_len, hlen]
    have ihn := ih (i + 1) (by omega) h1
    rw [← s1] at ihn
    clear ih s1
    generalize gt p.cs i = z at *
    by_cases hz : 0 < z
    · rw [decide_eq_true hz] at ihn
      simp only [go_sem, Pl.v, Pl.a, Pl.c4, vw, List.length_map, h2, n0, hx, hz, bv_len, hEl, hb, bv_set1, h3]
      exact ihn _ (by simp [go_sem])
    · rw [decide_eq_false hz] at ihn
      simp only [go_sem, Pl.v, Pl.a, Pl.c4, vw, List.length_map, h2, n0, hx, hz, bv_len, hEl, hb, bv_set1, h3]
      exact ihn _ (by simp [go_sem])
  · have h2 : ¬ (i : Int) < p.cs.length := by omega
    have hie : i = p.w * p.h := by omega
    subst hie
    clear ih
    simp only [go_sem, Pl.v, Pl.a, Pl.c4, vw, List.length_map, h2]
    have e0 := elT_ok hp
    generalize elT p (p.w * p.h) = bs0 at *
    clear h0
    refine loop_ind k_ref01_held_r21.eq_1 (fun a : List Bool × Bool × Heap => HeOK p a.1 ∧ (a.2.1 = false → ∀ i, i < p.w * p.h → HeCl p a.1 i)) (fun a => if a.2.1 then nf a.1 + 1 else 0)
      (fun a => (tsets 64 [(1, .ptr 0 0 0 1), (3, .sl 1 0 p.cs.length), (5, .bool a.2.1)], some (.cells false 4 [p.v]) :: some (.cells false 1 (bv a.1)) :: a.2.2)) (bs0, true, []) ⟨e0, fun h => by cases h⟩ (by simp [go_sem]) rfl ?_
    clear e0 bs0
    rintro ⟨bs, more, X⟩ ⟨hb, hcl⟩ ih
    dsimp only at hb hcl ih ⊢
    cases more with
    | false =>
      simp only [go_sem]
      rw [← held_all hp hb (hcl rfl)]
      exact kept_new (A := []) 0 1 rfl rfl (by omega) (by simp [ren, rens]) (fun i x hx => by simp at hx) (by rw [row_bel_cells]; unfold bv; simp only [go_sem]) rfl
    | true =>
      clear hcl
      simp only [if_true] at ih
      simp only [go_sem]
      refine loop_ind k_ref01_held_r20.eq_1 (fun a : Nat × List Bool × Bool × Heap => a.1 ≤ p.cs.length ∧ HeOK p a.2.1 ∧ (a.2.2.1 = true → nf a.2.1 < nf bs) ∧ (a.2.2.1 = false → a.2.1 = bs ∧ ∀ j, j < a.1 → HeCl p bs j)) (fun a => p.cs.length - a.1)
        (fun a => (tsets 64 [(1, .ptr 0 0 0 1), (3, .sl 1 0 p.cs.length), (5, .bool a.2.2.1), (6, .int .i64 a.1)], some (.cells false 4 [p.v]) :: some (.cells false 1 (bv a.2.1)) :: a.2.2.2)) (0, bs, false, X) ⟨Nat.zero_le _, hb, (fun h => by cases h), fun _ => ⟨rfl, fun j hj => absurd hj (Nat.not_lt_zero _)⟩⟩ (by simp [go_sem]) rfl ?_
      clear X
      rintro ⟨i, cs, m, X⟩ ⟨hi, hc, hm1, hm2⟩ ihi
      dsimp only at hi hc hm1 hm2 ihi ⊢
      by_cases h4 : i < p.cs.length
      · have h5 : (i : Int) < p.cs.length := by omega
        have h6 := idx_next h4 (by omega)
        have hiN : i < p.w * p.h := by omega
        clear ih
        have hA := around_ok' hp hiN
        have ihn := fun cs' m' X' => ihi (i + 1, cs', m', X') (by dsimp only; omega)
        clear ihi
        simp only [go_sem, Pl.v, Pl.a, Pl.c4, vw, List.length_map, h5]
        by_cases hne : iv (nrL p i) = []
        · have hl : nrL p i = [] := List.map_eq_nil_iff.1 hne
          unfold slv slrG at hA
          rw [if_pos hne, if_pos hne] at hA
          refine cP hA ?_
          simp only [go_sem]
          refine loop_body 3000 k_ref01_held_r18.eq_1 ?_
          simp only [go_sem, h6]
          exact ihn cs m X ⟨h4, hc, hm1, fun h => ⟨(hm2 h).1, fun j hj => by
            by_cases e1 : j = i
            · subst e1
              intro b hbm; rw [hl] at hbm; simp at hbm
            · exact (hm2 h).2 j (by omega)⟩⟩ _ (by simp [go_sem])
        · have hmem := fun b (hb : b ∈ nrL p i) => nr_in hb
          have hnl := nr_len p i
          unfold slv slrG at hA
          rw [if_neg hne, if_neg hne] at hA
          refine cN1 hA ?_ (hr := by simp [go_sem]) (hx := iv_row _ _ _)
          simp only [go_sem, ren, rens, iv_len]
          have hnr : ∀ (r0 r1 : Option Row), (r0 :: r1 :: (X ++ [some (Row.cells true 1 (iv (nrL p i)))]))[X.length + 2]? = some (some (Row.cells true 1 (iv (nrL p i)))) := fun r0 r1 => by simp
          unfold HeCl at hm2 ihn
          have hcell : ∀ b ∈ nrL p i, ∃ j : Nat, (j : Int) = b ∧ j < p.w * p.h := fun b hb => by have := hmem b hb; exact ⟨b.toNat, by omega, by omega⟩
          clear hmem
          generalize hll : nrL p i = l at *
          refine loop_ind k_ref01_held_r18.eq_1 (fun a : Nat × List Bool × Bool => a.1 ≤ l.length ∧ HeOK p a.2.1 ∧ (a.2.2 = true → nf a.2.1 < nf bs) ∧ (a.2.2 = false → a.2.1 = bs ∧ (∀ j, j < i → ∀ b ∈ nrL p j, bs.getD b.toNat false = true → bs.getD j false = true) ∧ ∀ b ∈ l.take a.1, bs.getD b.toNat false = true → bs.getD i false = true)) (fun a => l.length - a.1)
            (fun a => (tsets 64 [(1, .ptr 0 0 0 1), (3, .sl 1 0 p.cs.length), (5, .bool a.2.2), (6, .int .i64 i), (7, .sl (X.length + 2) 0 l.length), (8, .int .i64 a.1)], some (.cells false 4 [p.v]) :: some (.cells false 1 (bv a.2.1)) :: (X ++ [some (.cells true 1 (iv l))]))) (0, cs, m) ⟨Nat.zero_le _, hc, hm1, fun h => ⟨(hm2 h).1, (hm2 h).2, fun b hb => by simp at hb⟩⟩ (by simp [go_sem]) rfl ?_
          clear hc hm1 hm2 cs m
          rintro ⟨k, cs, m⟩ ⟨hk, hc, hm1, hm2⟩ ihk
          dsimp only at hk hc hm1 hm2 ihk ⊢
          by_cases h7 : k < l.length
          · have h8 : (k : Int) < l.length := by omega
            have h9 := idx_next h7 (by omega)
            have n0 : ¬ (k : Int) < 0 := by omega
            have hg := iv_get h7
            have hT : l.take (k + 1) = l.take k ++ [gt l k] := by rw [List.take_add_one, gt_get h7]; rfl
            obtain ⟨j, hj, hjN⟩ := hcell _ (gt_mem h7)
            have ihm := fun cs' m' => ihk (k + 1, cs', m') (by dsimp only; omega)
            clear ihk
            simp only [hT] at ihm
            rw [← hj] at ihm hg
            clear hj hT
            have gj := bv_get (bs := cs) (c := j) (by rw [hc.len]; exact hjN)
            have gi := bv_get (bs := cs) (c := i) (by rw [hc.len]; exact hiN)
            have nj : ¬ (j : Int) < 0 := by omega
            have ni : ¬ (i : Int) < 0 := by omega
            have hjl : (j : Int) < p.cs.length := by omega
            have hcl := hc.len
            rw [← hlen] at hcl
            have hca := cells_at (hnr (some (.cells false 4 [p.v])) (some (.cells false 1 (bv cs))))
            simp only [Pl.v, Pl.a, Pl.c4, vw] at hca
            cases hbj : cs.getD j false with
            | false =>
              rw [hbj] at gj
              simp only [go_sem, Pl.v, Pl.a, Pl.c4, vw, iv_len, hca, h8, n0, hg, nj, hjl, bv_len, hcl, gj, h9]
              exact ihm cs m ⟨h7, hc, hm1, fun h => ⟨(hm2 h).1, (hm2 h).2.1, fun b hb hbt => by
                rcases List.mem_append.1 hb with h1 | h1
                · exact (hm2 h).2.2 b h1 hbt
                · simp only [List.mem_singleton] at h1
                  subst h1
                  rw [Int.toNat_natCast, ← (hm2 h).1, hbj] at hbt
                  cases hbt⟩⟩ _ (by simp [go_sem])
            | true =>
              rw [hbj] at gj
              cases hbi : cs.getD i false with
              | true =>
                rw [hbi] at gi
                simp only [go_sem, Pl.v, Pl.a, Pl.c4, vw, iv_len, hca, h8, n0, hg, nj, hjl, bv_len, hcl, gj, ni, h5, gi, h9]
                exact ihm cs m ⟨h7, hc, hm1, fun h => ⟨(hm2 h).1, (hm2 h).2.1, fun b hb hbt => by
                  rw [← (hm2 h).1]; exact hbi⟩⟩ _ (by simp [go_sem])
              | false =>
                rw [hbi] at gi
                have hs := nf_set (bs := cs) (i := i) (by rw [hc.len]; exact hiN) hbi
                simp only [go_sem, Pl.v, Pl.a, Pl.c4, vw, iv_len, hca, h8, n0, hg, nj, hjl, bv_len, hcl, gj, ni, h5, gi, bv_set1, h9]
                exact ihm (cs.set i true) true ⟨h7, hc.set hiN, fun _ => by
                  cases m with
                  | true => have := hm1 rfl; omega
                  | false => have := (hm2 rfl).1; rw [this] at hs ⊢; omega, fun h => by cases h⟩ _ (by simp [go_sem])
          · have h8 : ¬ (k : Int) < l.length := by omega
            rw [List.take_of_length_le (by omega)] at hm2
            have hca := cells_at (hnr (some (.cells false 4 [p.v])) (some (.cells false 1 (bv cs))))
            simp only [Pl.v, Pl.a, Pl.c4, vw] at hca
            simp only [go_sem, Pl.v, Pl.a, Pl.c4, vw, iv_len, hca, h8, h6]
            exact ihn cs m _ ⟨h4, hc, hm1, fun h => ⟨(hm2 h).1, fun j hj => by
              by_cases e1 : j = i
              · subst e1
                rw [hll]; exact (hm2 h).2.2
              · exact (hm2 h).2.1 j (by dsimp only at hj; omega)⟩⟩ _ (by simp [go_sem])
      · have h5 : ¬ (i : Int) < p.cs.length := by omega
        have hle : i = p.w * p.h := by omega
        simp only [go_sem, Pl.v, Pl.a, Pl.c4, vw, List.length_map, h5]
        exact ih (cs, m, X) (by
          dsimp only
          cases m with
          | true => have := hm1 rfl; simp only [if_true]; omega
          | false => simp) ⟨hc, fun h => by
            obtain ⟨e1, e2⟩ := hm2 h
            dsimp only
            rw [e1, ← hle]; exact e2⟩ _ (by simp [go_sem])
end Go.Proofs

namespace Go.Proofs
open Go Go.Sx
attribute [local irreducible] Run

theorem gmax_pos {l : List Int} (h : ∀ c ∈ l, 0 ≤ c) : gmax l = 0 ↔ ¬ ∃ c ∈ l, 0 < c := by
  have h1 := (mxL_ge l 0).2
  constructor
  · rintro h0 ⟨c, hc, hp⟩
    have : c ≤ gmax l := h1 c hc
    omega
  · intro hn
    rcases mxL_or l 0 with h2 | h2
    · exact h2
    · have h3 : mxL 0 l = gmax l := rfl
      rw [h3] at h2
      have := h _ h2
      have h4 : ¬ 0 < gmax l := fun h5 => hn ⟨_, h2, h5⟩
      omega

set_option maxHeartbeats 4000000 in
theorem rCheck_raw (p : Rp) (hlen : p.cs.length ≤ 1000000) : Ans Try.prog n_ref01_Check [p.v] [] (.int .i64 p.err) [] := by
  have herr := @Rp.ok p
  unfold Rp.err at herr ⊢
  refine spec_run e_ref01_Check fun G => ?_
  simp only [go_sem, Rp.v, vw]
  by_cases hw : 1 ≤ p.w ∧ p.w ≤ 16
  · refine cP (beyond_no hw) ?_
    simp only [go_sem]
    by_cases hh : 1 ≤ p.h ∧ p.h ≤ 16
    · rw [if_neg (fun h => h ⟨hw, hh⟩)] at herr ⊢
      refine cP (beyond_no hh) ?_
      obtain ⟨w, hw'⟩ : ∃ w : Nat, (w : Int) = p.w := ⟨p.w.toNat, by omega⟩
      obtain ⟨h, hh'⟩ : ∃ h : Nat, (h : Int) = p.h := ⟨p.h.toNat, by omega⟩
      have hN : w * h ≤ 256 := Nat.mul_le_mul (show w ≤ 16 by omega) (show h ≤ 16 by omega)
      have em : IntKind.i64.wrap (p.w * p.h) = p.w * p.h := by rw [← hw', ← hh', w64 (by push_cast at *; omega)]
      by_cases hl : (p.cs.length : Int) = p.w * p.h
      · rw [if_neg (fun h => h hl)] at herr ⊢
        have hl' : ((p.cs.length : Int) != p.w * p.h) = false := by simp [hl]
        simp only [go_sem, List.length_map, em, hl']
        refine loop_ind k_ref01_Check_r12.eq_1 (fun a : Nat × Bool × Heap => a.1 ≤ p.cs.length ∧ (∀ c ∈ p.cs.take a.1, 0 ≤ c ∧ c ≤ 6) ∧ (a.2.1 = true ↔ ∃ c ∈ p.cs.take a.1, 0 < c)) (fun a => p.cs.length - a.1)
          (fun a => (tsets 61 [(1, .ptr 0 0 0 1), (2, .int .i64 0), (3, .bool a.2.1), (4, .int .i64 a.1)], some (.cells false 4 [p.v]) :: a.2.2)) (0, false, []) ⟨Nat.zero_le _, by simp, by simp⟩ (by simp [go_sem]) rfl ?_
        rintro ⟨i, s, X⟩ ⟨hi, hm, hs⟩ ih
        dsimp only at hi hm hs ih ⊢
        by_cases h1 : i < p.cs.length
        · have h2 : (i : Int) < p.cs.length := by omega
          have h3 := idx_next h1 (by omega)
          have n0 : ¬ (i : Int) < 0 := by omega
          have hx := gt_get h1
          have hT : p.cs.take (i + 1) = p.cs.take i ++ [gt p.cs i] := by rw [List.take_add_one, gt_get h1]; rfl
          have hmem := gt_mem h1
          have ihn := fun s' X => ih (i + 1, s', X) (by dsimp only; omega)
          clear ih
          simp only [hT] at ihn
          generalize gt p.cs i = z at *
          simp only [go_sem, Rp.v, vw, List.length_map, h2, n0, hx]
          by_cases hz : 0 ≤ z ∧ z ≤ 6
          · have hmn : ∀ x ∈ p.cs.take i ++ [z], 0 ≤ x ∧ x ≤ 6 := fun x hx' => by
              rcases List.mem_append.1 hx' with h | h
              · exact hm x h
              · simp only [List.mem_singleton] at h
                rw [h]; exact hz
            refine cP (beyond_no hz) ?_
            cases s with
            | true =>
              obtain ⟨c, hc, hc0⟩ := hs.1 rfl
              simp only [go_sem, h3]
              exact ihn true _ ⟨h1, hmn, fun _ => ⟨c, List.mem_append_left _ hc, hc0⟩, fun _ => rfl⟩ _ (by simp [go_sem])
            | false =>
              have hno : ¬ ∃ c ∈ p.cs.take i, 0 < c := fun h => by have := hs.2 h; cases this
              by_cases hz0 : 0 < z
              · simp only [go_sem, Rp.v, vw, List.length_map, h2, n0, hx, hz0, h3]
                exact ihn true _ ⟨h1, hmn, fun _ => ⟨z, by simp, hz0⟩, fun _ => rfl⟩ _ (by simp [go_sem])
              · simp only [go_sem, Rp.v, vw, List.length_map, h2, n0, hx, hz0, h3]
                have hno2 : ¬ ∃ c ∈ p.cs.take i ++ [z], 0 < c := by
                  rintro ⟨c, hc, hc0⟩
                  rcases List.mem_append.1 hc with h | h
                  · exact hno ⟨c, h, hc0⟩
                  · simp only [List.mem_singleton] at h
                    omega
                exact ihn false _ ⟨h1, hmn, (fun h => by cases h), fun h => absurd h hno2⟩ _ (by simp [go_sem])
          · rw [if_pos fun h => hz (h z hmem)]
            refine cP (beyond_yes hz) ?_
            simp only [go_sem]
        · have h2 : ¬ (i : Int) < p.cs.length := by omega
          rw [List.take_of_length_le (by omega)] at hm hs
          rw [if_neg (fun h => h hm)] at herr ⊢
          have hg := gmax_pos fun c hc => (hm c hc).1
          clear ih
          cases s with
          | false =>
            have hno : ¬ ∃ c ∈ p.cs, 0 < c := fun h => by have := hs.2 h; cases this
            rw [if_pos (hg.2 hno)]
            simp only [go_sem, Rp.v, vw, List.length_map, h2]
          | true =>
            have hne : gmax p.cs ≠ 0 := fun h => hg.1 h (hs.1 rfl)
            rw [if_neg hne] at herr ⊢
            obtain ⟨hp, hv⟩ := herr rfl
            have hE := held_ok hp
            have hpn : p.pl.w * p.pl.h = p.cs.length := hp.len.symm
            rw [← hv, hpn] at hE
            have hE' : Ans Try.prog n_ref01_held [p.v] [] (.sl 0 0 p.cs.length) [some (.cells false 1 (bv (List.replicate p.cs.length true)))] := hE
            simp only [go_sem, Rp.v, vw, List.length_map, h2]
            refine cN1 hE' ?_ (hr := by simp [go_sem]) (hx := by rw [row_bel_cells]; unfold bv; simp only [go_sem])
            simp only [go_sem, ren, rens]
            have hnr : ∀ r0 : Option Row, (r0 :: (X ++ [some (Row.cells false 1 (bv (List.replicate p.cs.length true)))]))[X.length + 1]? = some (some (Row.cells false 1 (bv (List.replicate p.cs.length true)))) := fun r0 => by simp
            refine loop_ind k_ref01_Check_r21.eq_1 (fun j : Nat => j ≤ p.cs.length) (fun j => p.cs.length - j)
              (fun j => (tsets 61 [(2, .int .i64 0), (5, .sl (X.length + 1) 0 p.cs.length), (6, .int .i64 j)], some (.cells false 4 [p.v]) :: (X ++ [some (Row.cells false 1 (bv (List.replicate p.cs.length true)))]))) 0 (Nat.zero_le _) (by simp [go_sem]) rfl ?_
            intro j hj ih
            dsimp only at hj ih ⊢
            have hca := cells_at (hnr (some (.cells false 4 [p.v])))
            simp only [Rp.v, vw] at hca
            have hbl : (bv (List.replicate p.cs.length true)).length = p.cs.length := by simp [bv]
            by_cases h4 : j < p.cs.length
            · have h5 : (j : Int) < p.cs.length := by omega
              have h6 := idx_next h4 (by omega)
              have n0 : ¬ (j : Int) < 0 := by omega
              have gj := bv_get (bs := List.replicate p.cs.length true) (c := j) (by simpa using h4)
              have g1 : (List.replicate p.cs.length true).getD j false = true := by rw [List.getD_eq_getElem?_getD, List.getElem?_replicate, if_pos h4]; rfl
              rw [g1] at gj
              simp only [go_sem, Rp.v, vw, hca, hbl, h5, n0, gj, h6]
              exact ih (j + 1) (by omega) h4 _ (by simp [go_sem])
            · have h5 : ¬ (j : Int) < p.cs.length := by omega
              simp only [go_sem, Rp.v, vw, hca, hbl, h5]
      · rw [if_pos hl]
        have hl' : ((p.cs.length : Int) != p.w * p.h) = true := by simp [hl]
        simp only [go_sem, List.length_map, em, hl']
    · rw [if_pos (fun h => hh h.2)]
      refine cP (beyond_yes hh) ?_
      simp only [go_sem]
  · rw [if_pos (fun h => hw h.1)]
    refine cP (beyond_yes hw) ?_
    simp only [go_sem]

end Go.Proofs

namespace Go.Proofs
open Go Go.Sx
attribute [local irreducible] Run

end Go.Proofs

namespace Go.Proofs
open Go Go.Sx
attribute [local irreducible] Run

end Go.Proofs

namespace Go.Proofs
open Go Go.Sx
attribute [local irreducible] Run

end Go.Proofs

namespace Go.Proofs
open Go Go.Sx
attribute [local irreducible] Run

end Go.Proofs

namespace Go.Proofs
open Go Go.Sx
attribute [local irreducible] Run

end Go.Proofs

namespace Go.Proofs
open Go Go.Sx

attribute [local irreducible] AT
set_option maxRecDepth 100000
end Go.Proofs

namespace Go.Proofs
open Go Go.Sx
attribute [local irreducible] Run

def Pl.rp (p : Pl) : Rp := ⟨p.w, p.h, p.rd, p.cs⟩
theorem Pl.rp_pl (p : Pl) : p.rp.pl = p := by
  show (⟨((p.w : Int)).toNat, ((p.h : Int)).toNat, p.rd, p.cs⟩ : Pl) = p
  rw [Int.toNat_natCast, Int.toNat_natCast]
theorem PlOK.err {p : Pl} (hp : PlOK p) : p.rp.err = 0 := by
  have hw := hp.w; have hh := hp.h
  have hm := hp.max
  unfold Rp.err Pl.rp
  dsimp only
  rw [if_neg (by omega), if_neg (by rw [hp.len]; push_cast; omega), if_neg (by intro h; exact h hp.cell), if_neg (by omega)]
end Go.Proofs

namespace Go.Proofs
open Go Go.Sx
attribute [local irreducible] Run

def Bnd (p : Pl) (l : List Int) : Prop := l.length = p.cs.length ∧ ∀ x ∈ l, -1000000 ≤ x ∧ x ≤ 1000000
theorem Bnd.at {p : Pl} (hp : PlOK p) {l : List Int} (h : Bnd p l) : AtOK p l := ⟨by rw [h.1, hp.len], fun i hi => h.2 _ (gt_mem (by rw [h.1, hp.len]; exact hi))⟩
end Go.Proofs

namespace Go.Proofs
open Go Go.Sx
attribute [local irreducible] Run

end Go.Proofs

namespace Go.Proofs
open Go Go.Sx
attribute [local irreducible] Run

end Go.Proofs

namespace Go.Proofs
open Go Go.Sx
attribute [local irreducible] Run

end Go.Proofs

namespace Go.Proofs
open Go Go.Sx
attribute [local irreducible] Run

end Go.Proofs

namespace Go.Proofs
open Go Go.Sx
attribute [local irreducible] Run

end Go.Proofs

namespace Go.Proofs
open Go Go.Sx
attribute [local irreducible] Run

section
variable {G : Ctx} {k : Nat} {p : Pl} (hlen : p.cs.length = p.w * p.h) (hn : p.cs.length ≤ 1000000) {g : Bool} {bs : List Bool} (hb : bs.length = p.cs.length) {i : Nat} (hi : i < p.cs.length) {rd : Int} {K : St → Prop} {R : List AOper}
include hlen hn hb hi

omit hn in
theorem oq_0 (h : ∀ b, ((bs.getD i false = true ∨ 0 < gt p.cs i) → b = true) → Areg Try.prog G k none (opA1 ++ R) ⟨opC p.cs.length i (i % p.w) rd 43 b, opH p g bs, []⟩ K) :
    Areg Try.prog G k none (opA0 ++ (opA1 ++ R)) ⟨tsets 121 (opB p.cs.length i (i % p.w) rd), opH p g bs, []⟩ K := by
  refine areg_cut 200 ?_
  have h2 : (i : Int) < p.cs.length := by omega
  have n0 : ¬ (i : Int) < 0 := by omega
  have hg := bv_get (bs := bs) (c := i) (by omega)
  have hc := iv_get (l := p.cs) hi
  have fin : ∀ b ρ', Wk ρ' (opC p.cs.length i (i % p.w) rd 43 b) → ((bs.getD i false = true ∨ 0 < gt p.cs i) → b = true) → Areg Try.prog G k none (opA1 ++ R) ⟨ρ', opH p g bs, []⟩ K := fun b ρ' hw hq => areg_wk' (List.cons_ne_nil _ _) hw (h b hq)
  clear h
  generalize bs.getD i false = b0 at *
  generalize gt p.cs i = z at *
  generalize opA1 ++ R = L at *
  cases b0 with
  | true =>
    simp only [opA0, k_kit_Opened_r7, List.take_succ_cons, List.take_zero, opB, opH, go_sem, h2, n0, hg]
    refine fin _ _ (by simp [opC, opB, go_sem] <;> rfl) ?_
    first | exact fun _ => rfl | (intro h; simpa using h)
  | false =>
    simp only [opA0, k_kit_Opened_r7, List.take_succ_cons, List.take_zero, opB, opH, go_sem, h2, n0, hg, hc, Pl.a, Pl.c4, iv_len]
    refine fin _ _ (by simp [opC, opB, go_sem] <;> rfl) ?_
    first | exact fun _ => rfl | (intro h; simpa using h)

theorem oq_1 {b : Bool} (h : ∀ b', ((b = true ∨ (0 < i % p.w ∧ bs.getD (i - 1) false = true)) → b' = true) → Areg Try.prog G k none (opA2 ++ R) ⟨opC p.cs.length i (i % p.w) rd 54 b', opH p g bs, []⟩ K) :
    Areg Try.prog G k none (opA1 ++ (opA2 ++ R)) ⟨opC p.cs.length i (i % p.w) rd 43 b, opH p g bs, []⟩ K := by
  refine areg_cut 200 ?_
  have fin : ∀ b' ρ', Wk ρ' (opC p.cs.length i (i % p.w) rd 54 b') → ((b = true ∨ (0 < i % p.w ∧ bs.getD (i - 1) false = true)) → b' = true) → Areg Try.prog G k none (opA2 ++ R) ⟨ρ', opH p g bs, []⟩ K := fun b' ρ' hw hq => areg_wk' (List.cons_ne_nil _ _) hw (h b' hq)
  clear h
  generalize opA2 ++ R = L at *
  cases b with
  | true =>
    simp only [opA1, k_kit_Opened_r7, List.take_succ_cons, List.take_zero, List.drop_succ_cons, List.drop_zero, opC, List.cons_append, List.nil_append, opB, opH, go_sem]
    refine fin _ _ (by simp [opC, opB, go_sem] <;> rfl) ?_
    first | exact fun _ => rfl | exact fun h => h.elim (fun h => by cases h) (fun h => by first | exact h.2 | exact absurd h.1 hc)
  | false =>
    by_cases hc : 0 < i % p.w
    · have h1 : (0 : Int) < ((i % p.w : Nat) : Int) := by omega
      have hle := Nat.mod_le i p.w
      have e1 : IntKind.i64.wrap ((i : Int) - 1) = ((i - 1 : Nat) : Int) := by rw [w64 (by omega)]; omega
      have n0 : ¬ ((i - 1 : Nat) : Int) < 0 := by omega
      have h2 : ((i - 1 : Nat) : Int) < p.cs.length := by omega
      have hg := bv_get (bs := bs) (c := i - 1) (by omega)
      simp only [opA1, k_kit_Opened_r7, List.take_succ_cons, List.take_zero, List.drop_succ_cons, List.drop_zero, opC, List.cons_append, List.nil_append, opB, opH, go_sem, Pl.a, Pl.c4, iv_len, h1, e1, n0, h2, hg]
      refine fin _ _ (by simp [opC, opB, go_sem] <;> rfl) ?_
      first | exact fun _ => rfl | exact fun h => h.elim (fun h => by cases h) (fun h => by first | exact h.2 | exact absurd h.1 hc)
    · have h1 : ¬ (0 : Int) < ((i % p.w : Nat) : Int) := by omega
      simp only [opA1, k_kit_Opened_r7, List.take_succ_cons, List.take_zero, List.drop_succ_cons, List.drop_zero, opC, List.cons_append, List.nil_append, opB, opH, go_sem, Pl.a, Pl.c4, iv_len, h1]
      refine fin _ _ (by simp [opC, opB, go_sem] <;> rfl) ?_
      first | exact fun _ => rfl | exact fun h => h.elim (fun h => by cases h) (fun h => by first | exact h.2 | exact absurd h.1 hc)

theorem oq_2 {b : Bool} (h : ∀ b', ((b = true) → b' = true) → Areg Try.prog G k none (opA3 ++ R) ⟨opC p.cs.length i (i % p.w) rd 68 b', opH p g bs, []⟩ K) :
    Areg Try.prog G k none (opA2 ++ (opA3 ++ R)) ⟨opC p.cs.length i (i % p.w) rd 54 b, opH p g bs, []⟩ K := by
  refine areg_cut 200 ?_
  have fin : ∀ b' ρ', Wk ρ' (opC p.cs.length i (i % p.w) rd 68 b') → ((b = true) → b' = true) → Areg Try.prog G k none (opA3 ++ R) ⟨ρ', opH p g bs, []⟩ K := fun b' ρ' hw hq => areg_wk' (List.cons_ne_nil _ _) hw (h b' hq)
  clear h
  generalize opA3 ++ R = L at *
  have hw0 : 0 < p.w := by
    rcases Nat.eq_zero_or_pos p.w with h0 | h0
    · rw [h0, Nat.zero_mul] at hlen; omega
    · exact h0
  have hwn : p.w ≤ 1000000 := by
    have h1 : p.w * 1 ≤ p.w * p.h := Nat.mul_le_mul_left _ (by
      rcases Nat.eq_zero_or_pos p.h with h0 | h0
      · rw [h0, Nat.mul_zero] at hlen; omega
      · exact h0)
    omega
  have e0 : IntKind.i64.wrap ((p.w : Int) - 1) = ((p.w - 1 : Nat) : Int) := by rw [w64 (by omega)]; omega
  cases b with
  | true =>
    simp only [opA2, k_kit_Opened_r7, List.take_succ_cons, List.take_zero, List.drop_succ_cons, List.drop_zero, opC, List.cons_append, List.nil_append, opB, opH, go_sem]
    refine fin _ _ (by simp [opC, opB, go_sem] <;> rfl) ?_
    first | exact fun _ => rfl | (intro h; cases h)
  | false =>
    by_cases hc : i % p.w + 1 < p.w
    · have h1 : ((i % p.w : Nat) : Int) < ((p.w - 1 : Nat) : Int) := by omega
      have hi1 : i + 1 < p.cs.length := by
        rw [hlen]
        obtain ⟨k1, k2, k3⟩ := cell_lt (w := p.w) (h := p.h) (i := i) (by omega)
        have := cell_in (w := p.w) (h := p.h) hc k2
        omega
      have e1 : IntKind.i64.wrap ((i : Int) + 1) = ((i + 1 : Nat) : Int) := by rw [w64 (by omega)]; rfl
      have n0 : ¬ ((i + 1 : Nat) : Int) < 0 := by omega
      have h2 : ((i + 1 : Nat) : Int) < p.cs.length := by omega
      have hg := bv_get (bs := bs) (c := i + 1) (by omega)
      simp only [opA2, k_kit_Opened_r7, List.take_succ_cons, List.take_zero, List.drop_succ_cons, List.drop_zero, opC, List.cons_append, List.nil_append, opB, opH, go_sem, Pl.a, Pl.c4, iv_len, h1, e0, e1, n0, h2, hg]
      refine fin _ _ (by simp [opC, opB, go_sem] <;> rfl) ?_
      first | exact fun _ => rfl | (intro h; cases h)
    · have h1 : ¬ ((i % p.w : Nat) : Int) < ((p.w - 1 : Nat) : Int) := by omega
      simp only [opA2, k_kit_Opened_r7, List.take_succ_cons, List.take_zero, List.drop_succ_cons, List.drop_zero, opC, List.cons_append, List.nil_append, opB, opH, go_sem, Pl.a, Pl.c4, iv_len, h1, e0]
      refine fin _ _ (by simp [opC, opB, go_sem] <;> rfl) ?_
      first | exact fun _ => rfl | (intro h; cases h)

theorem oq_3 {b : Bool} (h : ∀ b', ((b = true ∨ (p.w ≤ i ∧ bs.getD (i - p.w) false = true)) → b' = true) → Areg Try.prog G k none (opA4 ++ R) ⟨opC p.cs.length i (i % p.w) rd 83 b', opH p g bs, []⟩ K) :
    Areg Try.prog G k none (opA3 ++ (opA4 ++ R)) ⟨opC p.cs.length i (i % p.w) rd 68 b, opH p g bs, []⟩ K := by
  refine areg_cut 200 ?_
  have fin : ∀ b' ρ', Wk ρ' (opC p.cs.length i (i % p.w) rd 83 b') → ((b = true ∨ (p.w ≤ i ∧ bs.getD (i - p.w) false = true)) → b' = true) → Areg Try.prog G k none (opA4 ++ R) ⟨ρ', opH p g bs, []⟩ K := fun b' ρ' hw hq => areg_wk' (List.cons_ne_nil _ _) hw (h b' hq)
  clear h
  generalize opA4 ++ R = L at *
  cases b with
  | true =>
    simp only [opA3, k_kit_Opened_r7, List.take_succ_cons, List.take_zero, List.drop_succ_cons, List.drop_zero, opC, List.cons_append, List.nil_append, opB, opH, go_sem]
    refine fin _ _ (by simp [opC, opB, go_sem] <;> rfl) ?_
    first | exact fun _ => rfl | exact fun h => h.elim (fun h => by cases h) (fun h => by first | exact h.2 | exact absurd h.1 hc)
  | false =>
    by_cases hc : p.w ≤ i
    · have h1 : (p.w : Int) ≤ i := by omega
      have e1 : IntKind.i64.wrap ((i : Int) - p.w) = ((i - p.w : Nat) : Int) := by rw [w64 (by omega)]; omega
      have n0 : ¬ ((i - p.w : Nat) : Int) < 0 := by omega
      have h2 : ((i - p.w : Nat) : Int) < p.cs.length := by omega
      have hg := bv_get (bs := bs) (c := i - p.w) (by omega)
      simp only [opA3, k_kit_Opened_r7, List.take_succ_cons, List.take_zero, List.drop_succ_cons, List.drop_zero, opC, List.cons_append, List.nil_append, opB, opH, go_sem, Pl.a, Pl.c4, iv_len, h1, e1, n0, h2, hg]
      refine fin _ _ (by simp [opC, opB, go_sem] <;> rfl) ?_
      first | exact fun _ => rfl | exact fun h => h.elim (fun h => by cases h) (fun h => by first | exact h.2 | exact absurd h.1 hc)
    · have h1 : ¬ (p.w : Int) ≤ i := by omega
      simp only [opA3, k_kit_Opened_r7, List.take_succ_cons, List.take_zero, List.drop_succ_cons, List.drop_zero, opC, List.cons_append, List.nil_append, opB, opH, go_sem, Pl.a, Pl.c4, iv_len, h1]
      refine fin _ _ (by simp [opC, opB, go_sem] <;> rfl) ?_
      first | exact fun _ => rfl | exact fun h => h.elim (fun h => by cases h) (fun h => by first | exact h.2 | exact absurd h.1 hc)

theorem oq_4 {b : Bool} (h : ∀ b', ((b = true) → b' = true) → Areg Try.prog G k none (opA5 ++ R) ⟨opC p.cs.length i (i % p.w) rd 102 b', opH p g bs, []⟩ K) :
    Areg Try.prog G k none (opA4 ++ (opA5 ++ R)) ⟨opC p.cs.length i (i % p.w) rd 83 b, opH p g bs, []⟩ K := by
  refine areg_cut 200 ?_
  have fin : ∀ b' ρ', Wk ρ' (opC p.cs.length i (i % p.w) rd 102 b') → ((b = true) → b' = true) → Areg Try.prog G k none (opA5 ++ R) ⟨ρ', opH p g bs, []⟩ K := fun b' ρ' hw hq => areg_wk' (List.cons_ne_nil _ _) hw (h b' hq)
  clear h
  generalize opA5 ++ R = L at *
  have hwn : p.w ≤ 1000000 := by
    have h1 : p.w * 1 ≤ p.w * p.h := Nat.mul_le_mul_left _ (by
      rcases Nat.eq_zero_or_pos p.h with h0 | h0
      · rw [h0, Nat.mul_zero] at hlen; omega
      · exact h0)
    omega
  have e1 : IntKind.i64.wrap ((i : Int) + p.w) = ((i + p.w : Nat) : Int) := by rw [w64 (by omega)]; omega
  cases b with
  | true =>
    simp only [opA4, k_kit_Opened_r7, List.take_succ_cons, List.take_zero, List.drop_succ_cons, List.drop_zero, opC, List.cons_append, List.nil_append, opB, opH, go_sem]
    refine fin _ _ (by simp [opC, opB, go_sem] <;> rfl) ?_
    first | exact fun _ => rfl | (intro h; cases h)
  | false =>
    by_cases hc : i + p.w < p.cs.length
    · have h1 : ((i + p.w : Nat) : Int) < p.cs.length := by omega
      have n0 : ¬ ((i + p.w : Nat) : Int) < 0 := by omega
      have hg := bv_get (bs := bs) (c := i + p.w) (by omega)
      simp only [opA4, k_kit_Opened_r7, List.take_succ_cons, List.take_zero, List.drop_succ_cons, List.drop_zero, opC, List.cons_append, List.nil_append, opB, opH, go_sem, Pl.a, Pl.c4, iv_len, h1, e1, n0, hg]
      refine fin _ _ (by simp [opC, opB, go_sem] <;> rfl) ?_
      first | exact fun _ => rfl | (intro h; cases h)
    · have h1 : ¬ ((i + p.w : Nat) : Int) < p.cs.length := by omega
      simp only [opA4, k_kit_Opened_r7, List.take_succ_cons, List.take_zero, List.drop_succ_cons, List.drop_zero, opC, List.cons_append, List.nil_append, opB, opH, go_sem, Pl.a, Pl.c4, iv_len, h1, e1]
      refine fin _ _ (by simp [opC, opB, go_sem] <;> rfl) ?_
      first | exact fun _ => rfl | (intro h; cases h)


end

end Go.Proofs

namespace Go.Proofs
open Go Go.Sx
attribute [local irreducible] Run

end Go.Proofs

namespace Go.Proofs
open Go Go.Sx
attribute [local irreducible] Run

end Go.Proofs

namespace Go.Proofs
open Go Go.Sx
attribute [local irreducible] Run

section
variable {P : Program} {g : FuncId} {args largs : List AVal} {H : Heap} {R : Runner} {l : List AOper} {fs : List Sx.Frame} {ρ : List AVal} {ms : List Nat} {Q : Sx.Goal} {ao : AOper} {lo hi : Nat} {tr : List (List Nat × List Nat)} {ss : List (List AOper)}
end

end Go.Proofs

namespace Go.Proofs
open Go Go.Sx
attribute [local irreducible] Run

end Go.Proofs

namespace Go.Proofs
open Go Go.Sx
attribute [local irreducible] Run

end Go.Proofs

namespace Go.Proofs
open Go Go.Sx
attribute [local irreducible] Run

end Go.Proofs

namespace Go.Proofs
open Go Go.Sx
attribute [local irreducible] Run

def fnd (b : Int) : List (Nat × Int) → Int
  | [] => 0
  | q :: l => if (q.1 : Int) = b then q.2 else fnd b l
theorem fnd_in (b : Int) : ∀ l : List (Nat × Int), (fnd b l = 0 ∧ ∀ q ∈ l, (q.1 : Int) ≠ b) ∨ ∃ q ∈ l, (q.1 : Int) = b ∧ fnd b l = q.2
  | [] => .inl ⟨rfl, fun q hq => by simp at hq⟩
  | q :: l => by
    rw [fnd]
    by_cases h : (q.1 : Int) = b
    · exact .inr ⟨q, by simp, h, by rw [if_pos h]⟩
    · rw [if_neg h]
      rcases fnd_in b l with ⟨h1, h2⟩ | ⟨r, h1, h2, h3⟩
      · refine .inl ⟨h1, fun r hr => ?_⟩
        rcases List.mem_cons.1 hr with rfl | hr
        · exact h
        · exact h2 r hr
      · exact .inr ⟨r, by simp [h1], h2, h3⟩

theorem nb_wgt {p : Pl} (hp : PlOK p) {x y x' y' : Nat} {wt : Int} (hx : x < p.w) (hy : y < p.h) (h : Nb p x y x' y' wt) : wgt p (y * p.w + x) (y' * p.w + x') = wt := by
  have hw := hp.w
  obtain ⟨hx', hy'⟩ := h.in hx hy
  obtain ⟨m1, _⟩ := cell_at (w := p.w) (x := x) (y := y) hx
  obtain ⟨m2, _⟩ := cell_at (w := p.w) (x := x') (y := y') hx'
  unfold wgt
  cases h with
  | left a b h =>
    rw [show max (y * p.w + (x' + 1)) (y * p.w + x') = y * p.w + (x' + 1) by omega, show min (y * p.w + (x' + 1)) (y * p.w + x') = y * p.w + x' by omega, m1, m2, if_pos ⟨by omega, by omega⟩]
  | right a b h =>
    rw [show max (y * p.w + x) (y * p.w + (x + 1)) = y * p.w + (x + 1) by omega, show min (y * p.w + x) (y * p.w + (x + 1)) = y * p.w + x by omega, m1, m2, if_pos ⟨by omega, by omega⟩]
  | up a b h =>
    have e2 : (y' + 1) * p.w = y' * p.w + p.w := by rw [Nat.add_mul, Nat.one_mul]
    rw [show max ((y' + 1) * p.w + x) (y' * p.w + x) = (y' + 1) * p.w + x by omega, show min ((y' + 1) * p.w + x) (y' * p.w + x) = y' * p.w + x by omega, m1, m2]
    by_cases h1 : p.w = 1
    · rw [if_neg (by omega), if_pos (by omega)]
    · rw [if_neg (by omega), if_pos (by omega)]
  | down a b h =>
    have e2 : (y + 1) * p.w = y * p.w + p.w := by rw [Nat.add_mul, Nat.one_mul]
    rw [show max (y * p.w + x) ((y + 1) * p.w + x) = (y + 1) * p.w + x by omega, show min (y * p.w + x) ((y + 1) * p.w + x) = y * p.w + x by omega, m1, m2]
    by_cases h1 : p.w = 1
    · rw [if_neg (by omega), if_pos (by omega)]
    · rw [if_neg (by omega), if_pos (by omega)]

theorem wgt_nb {p : Pl} (hp : PlOK p) {i j : Nat} (hi : i < p.w * p.h) (hj : j < p.w * p.h) (h : wgt p i j ≠ 0) : ∃ wt, (j, wt) ∈ nbs p i := by
  have hw := hp.w
  obtain ⟨a1, a2, a3⟩ := cell_lt hi
  obtain ⟨b1, b2, b3⟩ := cell_lt hj
  have fin : ∀ x' y' wt, Nb p (i % p.w) (i / p.w) x' y' wt → j = y' * p.w + x' → ∃ wt, (j, wt) ∈ nbs p i := fun x' y' wt h1 h2 => ⟨wt, by
    have h3 := (nbs_mem p a1 a2 (j, wt)).2 ⟨x', y', h1, h2⟩
    rwa [a3] at h3⟩
  unfold wgt at h
  by_cases c1 : max i j = min i j + 1 ∧ 0 < max i j % p.w
  · rcases Nat.lt_or_ge i j with hij | hij
    · have e1 : j = i + 1 := by omega
      have hm : max i j = j := by omega
      rw [hm] at c1
      have hx : i % p.w + 1 < p.w := by
        by_cases hx : i % p.w + 1 < p.w
        · exact hx
        · have h2 : i % p.w + 1 = p.w := by omega
          have h3 : j = (i / p.w + 1) * p.w := by rw [Nat.add_mul]; omega
          rw [h3, Nat.mul_mod_left] at c1
          omega
      exact fin _ _ _ (.right _ _ hx) (by omega)
    · have e1 : i = j + 1 := by omega
      have hm : max i j = i := by omega
      rw [hm] at c1
      obtain ⟨z, hz⟩ : ∃ z, i % p.w = z + 1 := ⟨i % p.w - 1, by omega⟩
      rw [hz] at fin
      exact fin _ _ _ (.left z _ (by omega)) (by omega)
  · rw [if_neg c1] at h
    by_cases c2 : max i j = min i j + p.w
    · rcases Nat.lt_or_ge i j with hij | hij
      · have e1 : j = i + p.w := by omega
        have hy : i / p.w + 1 < p.h := by
          by_cases hy : i / p.w + 1 < p.h
          · exact hy
          · have h2 : i / p.w + 1 = p.h := by omega
            have h3 : p.h * p.w = (i / p.w) * p.w + p.w := by rw [← h2, Nat.add_mul, Nat.one_mul]
            have h4 : p.h * p.w = p.w * p.h := Nat.mul_comm _ _
            omega
        exact fin _ _ _ (.down _ _ hy) (by rw [Nat.add_mul]; omega)
      · have e1 : i = j + p.w := by omega
        have hy0 : 0 < i / p.w := Nat.div_pos (by omega) (by omega)
        obtain ⟨z, hz⟩ : ∃ z, i / p.w = z + 1 := ⟨i / p.w - 1, by omega⟩
        have h3 : (z + 1) * p.w = z * p.w + p.w := by rw [Nat.add_mul, Nat.one_mul]
        rw [hz] at fin a3
        exact fin _ _ _ (.up _ z (by omega)) (by omega)
    · rw [if_neg c2] at h; exact absurd rfl h

theorem fnd_wgI {p : Pl} (hp : PlOK p) {i : Nat} (hi : i < p.w * p.h) (b : Int) : fnd b (nbs p i) = wgI p i b := by
  obtain ⟨a1, a2, a3⟩ := cell_lt hi
  rcases fnd_in b (nbs p i) with ⟨h1, h2⟩ | ⟨q, h1, h2, h3⟩
  · rw [h1]
    unfold wgI
    by_cases hb : 0 ≤ b ∧ b < (p.w * p.h : Nat)
    · rw [if_pos hb]
      by_cases h4 : wgt p i b.toNat = 0
      · exact h4.symm
      · obtain ⟨wt, h5⟩ := wgt_nb hp hi (j := b.toNat) (by omega) h4
        exact absurd (by show ((b.toNat : Nat) : Int) = b; omega) (h2 _ h5)
    · rw [if_neg hb]
  · rw [h3, ← h2]
    have hin := nbs_in p hp.w.2 hi q h1
    rw [wgI_nat _ hin.1]
    rw [← a3] at h1 ⊢
    obtain ⟨x', y', h4, h5⟩ := (nbs_mem p a1 a2 q).1 h1
    rw [h5]
    exact (nb_wgt hp a1 a2 h4).symm

def wgR (p : Rp) (a b : Int) : Int := if p.err = 0 ∧ 0 ≤ a ∧ a < (p.pl.w * p.pl.h : Nat) then wgI p.pl a.toNat b else 0
theorem weight_bad {p : Pl} (hp : PlOK p) {a : Int} (ha : ¬ (0 ≤ a ∧ a < (p.w * p.h : Nat))) (b : Int) : Ans Try.prog n_ref01_weight [p.v, .int .i64 a, .int .i64 b] [] (.int .i64 0) [] := by
  have hw := hp.w; have hh := hp.h
  have hN : p.w * p.h ≤ 256 := Nat.mul_le_mul hw.2 hh.2
  have em : IntKind.i64.wrap ((p.w : Int) * p.h) = ((p.w * p.h : Nat) : Int) := by rw [w64 (by push_cast at *; omega)]; push_cast; rfl
  have em1 : IntKind.i64.wrap (((p.w * p.h : Nat) : Int) - 1) = ((p.w * p.h : Nat) : Int) - 1 := w64 (by omega)
  refine spec_run e_ref01_weight fun G => ?_
  simp only [go_sem, Pl.v, Pl.a, Pl.c4, vw, em, em1]
  refine cP (beyond_yes (by omega)) ?_
  simp only [go_sem]
theorem rWeight_raw (p : Rp) (a b : Int) (hlen : p.cs.length ≤ 1000000) : Ans Try.prog n_ref01_Weight [p.v, .int .i64 a, .int .i64 b] [] (.int .i64 (wgR p a b)) [] := by
  have c1 := rCheck_raw p hlen
  unfold wgR
  by_cases h1 : p.err = 0
  · obtain ⟨hp, hpv⟩ := Rp.ok h1
    rw [h1] at c1
    by_cases h2 : 0 ≤ a ∧ a < (p.pl.w * p.pl.h : Nat)
    · rw [if_pos ⟨h1, h2⟩]
      have c2 := weightI_ok hp (i := a.toNat) (by omega) b
      rw [show ((a.toNat : Nat) : Int) = a by omega, ← hpv] at c2
      refine spec_run e_ref01_Weight fun G => ?_
      simp only [go_sem, Rp.v, vw]
      refine cP c1 ?_
      simp only [go_sem, Rp.v, vw]
      refine cP c2 ?_
      simp only [go_sem]
    · rw [if_neg fun h => h2 h.2]
      have c2 := weight_bad hp h2 b
      rw [← hpv] at c2
      refine spec_run e_ref01_Weight fun G => ?_
      simp only [go_sem, Rp.v, vw]
      refine cP c1 ?_
      simp only [go_sem, Rp.v, vw]
      refine cP c2 ?_
      simp only [go_sem]
  · rw [if_neg fun h => h1 h.1]
    have h1' : (p.err != 0) = true := by simp [h1]
    refine spec_run e_ref01_Weight fun G => ?_
    simp only [go_sem, Rp.v, vw]
    refine cP c1 ?_
    simp only [go_sem, h1']
end Go.Proofs

namespace Go.Proofs
open Go Go.Sx
attribute [local irreducible] Run

theorem wsum_fnd {x : Nat} : ∀ {l : List (Nat × Int)}, l.Pairwise (fun a b => a.1 ≠ b.1) → wsum l (fun y => if y = x then 1 else 0) = fnd x l
  | [], _ => rfl
  | q :: l, h => by
    rw [List.pairwise_cons] at h
    rw [wsum, fnd]
    by_cases e : q.1 = x
    · have h0 : wsum l (fun y => if y = x then 1 else 0) = wsum l fun _ => 0 := wsum_congr fun r hr => if_neg fun e2 => h.1 r hr (e.trans e2.symm)
      rw [if_pos e, if_pos (by omega), h0, wsum_const]; omega
    · rw [if_neg e, if_neg (by omega), wsum_fnd h.2]; omega
theorem nbs_nd {p : Pl} (hp : PlOK p) {i : Nat} (hi : i < p.w * p.h) : (nbs p i).Pairwise fun a b => a.1 ≠ b.1 := by
  obtain ⟨a1, a2, a3⟩ := cell_lt hi
  have h1 : i % p.w ≤ i := Nat.mod_le _ _
  have h2 : 0 < i / p.w → p.w ≤ i := fun h => by
    have h3 : 1 * p.w ≤ i / p.w * p.w := Nat.mul_le_mul_right _ h
    omega
  have hw := hp.w
  unfold nbs
  by_cases c1 : 0 < i % p.w <;> by_cases c2 : i % p.w + 1 < p.w <;> by_cases c3 : 0 < i / p.w <;> by_cases c4 : i / p.w + 1 < p.h <;> simp [c1, c2, c3, c4, List.pairwise_cons] <;> (try (have := h2 c3)) <;> omega
theorem pw_wgI {p : Pl} (hp : PlOK p) {i : Nat} (hi : i < p.w * p.h) (x : Nat) : pw p i x = wgI p i x := by
  unfold pw
  rw [wsum_fnd (nbs_nd hp hi), fnd_wgI hp hi]
theorem sum_wgI {p : Pl} (hp : PlOK p) {i : Nat} (hi : i < p.w * p.h) (g : Nat → Int) : sumT (fun x => wgI p i x * g x) (p.w * p.h) = wsum (nbs p i) g := by
  have h1 : sumT (fun x => wgI p i x * g x) (p.w * p.h) = sumT (fun x => wsum (nbs p i) fun y => if y = x then g y else 0) (p.w * p.h) := sumT_congr _ fun x _ => by
    rw [← pw_wgI hp hi, Int.mul_comm]
    unfold pw
    rw [← wsum_mul]
    refine wsum_congr fun q _ => ?_
    split
    · rename_i h; rw [h, Int.mul_one]
    · rw [Int.mul_zero]
  rw [h1, ← wsum_sumT]
  refine wsum_congr fun q hq => ?_
  have h2 := sumT_pick (g q.1) (g := fun j => j) (x := q.1) (p.w * p.h) fun _ _ _ _ e => e
  rw [h2, if_pos ⟨q.1, (nbs_in p hp.w.2 hi q hq).1, rfl⟩]
end Go.Proofs

namespace Go.Proofs
open Go Go.Sx
attribute [local irreducible] Run

def pmV (p : Pl) (v : List Int) : Mat := pmat p (vAt p v) (vacF p)
def nV (p : Pl) : Nat := (vacL p).length
def matA (p : Pl) (v : List Int) (i : Nat) : List Int := (List.range (nV p)).map (pmV p v i)
def matB (p : Pl) (v : List Int) : List Int := (List.range (nV p)).map fun i => pmV p v i 4
theorem matA_get {p : Pl} (v : List Int) {i j : Nat} (hi : i < nV p) (hj : j < nV p) (h4 : nV p ≤ 4) : (matA p v i)[j]? = some (if i = j then wtot (nbs p (vacF p i)) else - pw p (vacF p i) (vacF p j)) := by
  unfold matA
  rw [List.getElem?_map, List.getElem?_range hj]
  show some (pmat p _ _ i j) = _
  unfold pmat
  rw [if_neg (by omega)]
theorem matB_get {p : Pl} (v : List Int) {i : Nat} (hi : i < nV p) : (matB p v)[i]? = some (wsum (nbs p (vacF p i)) fun x => if p.el x then vAt p v x else 0) := by
  unfold matB
  rw [List.getElem?_map, List.getElem?_range hi]
  show some (pmat p _ _ i 4) = _
  unfold pmat
  rw [if_pos rfl]
theorem mat_row {p : Pl} (v : List Int) (h4 : nV p ≤ 4) {i : Nat} (hi : i < nV p) : (matA p v i).length = nV p ∧ matA p v i ++ [gt (matB p v) i] = rowL (nV p) (fuM (pmV p v) (nV p) 0) i := by
  refine ⟨by simp [matA], ?_⟩
  have hb : gt (matB p v) i = pmV p v i 4 := by
    have hl : i < (matB p v).length := by simp [matB]; exact hi
    have h1 := gt_get hl
    rw [show (matB p v)[i]? = some (pmV p v i 4) by unfold matB; rw [List.getElem?_map, List.getElem?_range hi]; rfl] at h1
    exact (Option.some.inj h1).symm
  unfold rowL
  rw [List.range_succ, List.map_append, hb]
  congr 1
  · unfold matA
    refine List.map_congr_left fun j hj => ?_
    have hj := List.mem_range.1 hj
    unfold fuM
    rw [cm_lt hj, full_late _ (Nat.zero_le _)]; rfl
  · unfold fuM
    simp only [List.map_cons, List.map_nil]
    rw [cm_end, full_late _ (Nat.zero_le _)]; rfl

def detV (p : Pl) (v : List Int) : Int := pv (pmV p v) (nV p)
def numV (p : Pl) (v : List Int) : List Int := solL (pmV p v) (nV p)
theorem pmV_small {p : Pl} (hp : PlOK p) (hw : p.w ≤ 3) {v : List Int} (hv : ∀ x ∈ v, -1000 ≤ x ∧ x ≤ 1000) : Small (pmV p v) :=
  pmat_small ⟨hp.w.1, hw⟩ (fun x _ => by
    unfold vAt vo gt
    rw [List.getD_eq_getElem?_getD]
    rcases h : v[(List.getD p.cs x 0 - 1).toNat]? with _ | y
    · exact ⟨by decide, by decide⟩
    · exact hv y (List.mem_of_getElem? h)) _
theorem solved_plan {p : Pl} (hp : PlOK p) (hw : p.w ≤ 3) {v : List Int} (hv : ∀ x ∈ v, -1000 ≤ x ∧ x ≤ 1000) (h4 : nV p ≤ 4) :
    Ans Try.prog n_law01_solved [.view (vws (nV p) (matA p v)), vw (matB p v)] [] (.tup [.int .i64 (detV p v), .sl 0 0 (nV p)]) [some (.cells false 1 (iv (numV p v)))] :=
  solved_ok (pmV_small hp hw hv) h4 (fun k hk => pmat_piv hp (vac_ok p) h4 _ hk) (by simp [matB]) fun i hi => mat_row v h4 hi
theorem plan_between {p : Pl} (hp : PlOK p) (hw : p.w ≤ 3) {v : List Int} (hv : ∀ x ∈ v, -1000 ≤ x ∧ x ≤ 1000) (h4 : nV p ≤ 4) {lo hi : List Int} (hl : LowOK p v lo) (hh : HighOK p v hi) :
    0 < detV p v ∧ detV p v ≤ 921984 ∧ ∀ i, i < nV p → gt lo (vacF p i) * detV p v ≤ gt (numV p v) i ∧ gt (numV p v) i ≤ gt hi (vacF p i) * detV p v := by
  refine ⟨pmat_piv hp (vac_ok p) h4 _ (Nat.le_refl _), (pv_in (pmV_small hp hw hv) _).2, fun i hi' => ?_⟩
  have h1 := exact_between hp hl hh h4 hi'
  have h2 : gt (numV p v) i = full (pmV p v) (nV p) i 4 := by
    have hl : i < (numV p v).length := by unfold numV; rw [solL_len]; exact hi'
    have h3 := gt_get hl
    rw [show (numV p v)[i]? = some (full (pmV p v) (nV p) i 4) by unfold numV solL; rw [List.getElem?_map, List.getElem?_range hi']; rfl] at h3
    exact (Option.some.inj h3).symm
  rw [h2]; exact h1
end Go.Proofs

namespace Go.Proofs
open Go Go.Sx
attribute [local irreducible] Run

structure LawH (H : Heap) (p : Pl) (jp jc jt : Nat) : Prop where
  box : H[jp]? = some (some (.cells false 4 [p.a (.sl jc 0 p.cs.length)]))
  cells : ∃ g, H[jc]? = some (some (.cells g 1 (iv p.cs)))
  vac : ∃ g, H[jt]? = some (some (.cells g 1 (iv ((vacL p).map fun c : Nat => (c : Int)))))
theorem LawH.set {H : Heap} {p : Pl} {jp jc jt j : Nat} (h : LawH H p jp jc jt) (h1 : j ≠ jp) (h2 : j ≠ jc) (h3 : j ≠ jt) (x : Option Row) : LawH (H.set j x) p jp jc jt :=
  ⟨by rw [List.getElem?_set_ne h1]; exact h.box, by rw [List.getElem?_set_ne h2]; exact h.cells, by rw [List.getElem?_set_ne h3]; exact h.vac⟩
theorem wgI_in {p : Pl} (hp : PlOK p) {i : Nat} (hi : i < p.w * p.h) (x : Nat) : 0 ≤ wgI p i x ∧ wgI p i x ≤ 32 := by
  rw [← fnd_wgI hp hi]
  rcases fnd_in (x : Int) (nbs p i) with ⟨h1, _⟩ | ⟨q, h1, _, h3⟩
  · rw [h1]; omega
  · rw [h3]; have := nbs_in p hp.w.2 hi q h1; omega
theorem rWeight_ok {p : Pl} (hp : PlOK p) {i j : Nat} (hi : i < p.w * p.h) (hj : j < p.w * p.h) : Ans Try.prog n_ref01_Weight [p.v, .int .i64 i, .int .i64 j] [] (.int .i64 (wgI p i j)) [] := by
  have hN : p.w * p.h ≤ 256 := Nat.mul_le_mul hp.w.2 hp.h.2
  have h := rWeight_raw p.rp i j (by show p.cs.length ≤ 1000000; rw [hp.len]; omega)
  have e : wgR p.rp i j = wgI p i j := by
    unfold wgR
    rw [Pl.rp_pl, if_pos ⟨hp.err, by omega, by omega⟩, Int.toNat_natCast]
  rw [e] at h
  exact h
def ofT (jp jt ja m i : Nat) (x9 x11 x14 : AVal) : List (Nat × AVal) := [(6, .ptr jp 0 0 1), (7, .sl jt 0 m), (9, x9), (11, x11), (13, .sl ja 0 m), (14, x14), (15, .int .i64 i)]

set_option maxHeartbeats 4000000 in
set_option maxRecDepth 100000 in
theorem off_loop {G : Ctx} {Q : Goal} {fs : List Sx.Frame} {p : Pl} (hp : PlOK p) {jp jc jt ja qi i : Nat} {ss : List AVal} {x9 x11 x14 : AVal} {l : List Int} {H : Heap} (h4 : nV p ≤ 4) (hi : i < nV p) (hL : LawH H p jp jc jt)
    (ha : H[ja]? = some (some (.cells false 1 ss))) (hss : ss.length = nV p) (hsi : ss[i]? = some (.sl qi 0 (nV p))) (hq : H[qi]? = some (some (.cells false 1 (iv l)))) (hl : l.length = nV p) (hne : qi ≠ jp ∧ qi ≠ jc ∧ qi ≠ jt ∧ qi ≠ ja)
    (hK : ∀ w : List Int, w.length = nV p → (∀ j : Nat, j < nV p → w[j]? = if j ≠ i then some (- wgI p (vacF p i) (vacF p j)) else l[j]?) →
      Run Try.prog G 0 none 2986 (.out .normal) fs ⟨tsets 255 (ofT jp jt ja (nV p) i x9 x11 x14 ++ [(18, .int .i64 (nV p)), (177, .int .i64 (nV p)), (178, .sl jt 0 (nV p)), (179, .int .i64 (nV p)), (180, .bool false)]), H.set qi (some (.cells false 1 (iv w))), []⟩ Q)
    {ρ : List AVal} (hw : Wk ρ (tsets 255 (ofT jp jt ja (nV p) i x9 x11 x14 ++ [(18, .int .i64 0)]))) : Sx.Loop Try.prog G 0 none k_law01_FieldExact_r38 (.blk 8 :: fs) ⟨ρ, H, []⟩ Q := by
  have hlq : qi < H.length := (List.getElem?_eq_some_iff.1 hq).1
  refine loop_ind k_law01_FieldExact_r38.eq_1 (fun s : Nat × List Int => s.1 ≤ nV p ∧ s.2.length = nV p ∧ ∀ j : Nat, j < nV p → s.2[j]? = if j < s.1 ∧ j ≠ i then some (- wgI p (vacF p i) (vacF p j)) else l[j]?) (fun s => nV p - s.1)
    (fun s => (tsets 255 (ofT jp jt ja (nV p) i x9 x11 x14 ++ [(18, .int .i64 s.1)]), H.set qi (some (.cells false 1 (iv s.2))))) (0, l) ⟨Nat.zero_le _, hl, fun j hj => by rw [if_neg (by dsimp only; omega)]⟩ (by simpa using hw) (set_same hq).symm ?_
  rintro ⟨k, w⟩ ⟨hk, hwl, hI⟩ ih
  dsimp only at hk hwl hI ih ⊢
  have hM := hL.set hne.1 hne.2.1 hne.2.2.1 (some (.cells false 1 (iv w)))
  have cq : Heap.cellsAt (H.set qi (some (.cells false 1 (iv w)))) qi = some (false, 1, iv w) := cells_at (List.getElem?_set_self hlq)
  have ca : Heap.cellsAt (H.set qi (some (.cells false 1 (iv w)))) ja = some (false, 1, ss) := cells_at (by rw [List.getElem?_set_ne hne.2.2.2]; exact ha)
  have hput := fun x => put_lt (H := H.set qi (some (.cells false 1 (iv w)))) (j := qi) (x := x) (by rw [List.length_set]; exact hlq)
  have hput2 : ∀ x, List.set (H.set qi (some (.cells false 1 (iv w)))) qi x = H.set qi x := fun x => List.set_set ..
  generalize hJ : H.set qi (some (.cells false 1 (iv w))) = J at hM cq ca hput hput2 ⊢
  have cp := cells_at hM.box
  obtain ⟨gc, hcc⟩ := hM.cells
  obtain ⟨gv, hvv⟩ := hM.vac
  have ct := cells_at hvv
  have l1 : (iv ((vacL p).map fun c : Nat => (c : Int))).length = nV p := by simp [iv, nV]
  have l2 : (iv w).length = nV p := by rw [iv_len, hwl]
  by_cases hlt : k < nV p
  · have i1 : (k : Int) < nV p := by omega
    have i2 : (i : Int) < nV p := by omega
    have w1 : IntKind.i64.wrap ((k : Int) + 1) = (k : Int) + 1 := w64 ⟨by omega, by omega⟩
    have w3 : IntKind.i64.wrap (0 - wgI p (vacF p i) (vacF p k)) = - wgI p (vacF p i) (vacF p k) := by
      have := wgI_in hp (vac_ok p |>.inn i hi).1 (vacF p k)
      rw [w64 ⟨by omega, by omega⟩]; omega
    have hv : ∀ j, j < nV p → (iv ((vacL p).map fun c : Nat => (c : Int)))[j]? = some (.int .i64 (vacF p j)) := fun j hj => by
      unfold iv; rw [List.getElem?_map, List.getElem?_map, vacF_get hj]; rfl
    have v1 := hv k hlt
    have v2 := hv i hi
    by_cases hki : k = i
    · subst hki
      have hih := ih (k + 1, w) (by dsimp only; omega) ⟨by dsimp only; omega, hwl, fun j hj => by
        rw [hI j hj]
        by_cases e : j < k ∧ j ≠ k
        · rw [if_pos e, if_pos ⟨by dsimp only; omega, e.2⟩]
        · rw [if_neg e, if_neg (by dsimp only; omega)]⟩
      clear ih
      dsimp only at hih
      rw [hJ] at hih
      simp only [go_sem, ofT] at hih
      simp only [go_sem, ofT, ct, l1, i1, w1]
      exact hih _ (by simp [go_sem, ofT])
    · have hki' : ¬ (k : Int) = i := by omega
      have v3 : (iv w)[k]? = some (.int .i64 (gt w k)) := iv_get (by omega)
      have hih := ih (k + 1, w.set k (- wgI p (vacF p i) (vacF p k))) (by dsimp only; omega) ⟨by dsimp only; omega, by dsimp only; rw [List.length_set]; exact hwl, fun j hj => by
        dsimp only
        by_cases e : k = j
        · subst e; rw [List.getElem?_set_self (by omega), if_pos ⟨by omega, hki⟩]
        · rw [List.getElem?_set_ne e, hI j hj]
          by_cases e2 : j < k ∧ j ≠ i
          · rw [if_pos e2, if_pos ⟨by omega, e2.2⟩]
          · rw [if_neg e2, if_neg (by omega)]⟩
      clear ih
      dsimp only at hih
      simp only [go_sem, ofT] at hih
      simp only [go_sem, ofT, ct, ca, cq, cp, l1, l2, hss, hsi, i1, i2, v1, v2, w1, hki', Pl.a, Pl.c4]
      refine dF (rWeight_ok hp (vac_ok p |>.inn i hi).1 (vac_ok p |>.inn k hlt).1) 6 [jc] ⟨.inl (pla_frz 3 (j := jc) (g := gc) (onlyR_row hcc (by simp)) rfl), .inl rfl, .inl rfl, trivial⟩ ?_
      simp only [go_sem, ct, ca, cq, cp, l1, l2, hss, hsi, i1, i2, v1, v2, v3, w1, w3, hput, hput2, iv_set]
      refine hih _ ?_
      simp [go_sem, ofT]
  · obtain rfl : k = nV p := by omega
    have i1 : ¬ (nV p : Int) < nV p := by omega
    have := hK w hwl fun j hj => by
      rw [hI j hj]
      by_cases e : j ≠ i
      · rw [if_pos ⟨hj, e⟩, if_pos e]
      · rw [if_neg (fun h => e h.2), if_neg e]
    rw [hJ] at this
    simp only [go_sem, ofT] at this
    simp only [go_sem, ofT, ct, l1, i1]
    exact this
end Go.Proofs

