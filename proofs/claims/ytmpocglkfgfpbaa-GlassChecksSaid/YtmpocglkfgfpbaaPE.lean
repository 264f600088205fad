/- A part of the proof. -/
import Derived.Test.YtmpocglkfgfpbaaPD
set_option linter.unusedSimpArgs false
set_option linter.unusedVariables false
namespace Go.Proofs
open Go Go.Sx
attribute [local irreducible] Run

def lgE (l : Lg) : Int := if 1 ≤ l.tk ∧ l.tk ≤ 2000 then (if 0 ≤ l.ht ∧ l.ht ≤ 2000 then 0 else 2) else 2
def lgEs (ls : List Lg) (i : Nat) : Int := lgE (ls.getD i default)
def ovE (f : Int) (ls : List Lg) : Int := if 0 ≤ f ∧ f ≤ 2000 then (if ls.length > 20 then 8 else fstE (lgEs ls) ls.length 0) else 2
set_option maxHeartbeats 8000000 in
set_option maxRecDepth 10000 in
theorem CheckOven_raw (f : Int) (ls : List Lg) : Ans Try.prog n_glass_CheckOven [ovV f ls] [] (.int .i64 (ovE f ls)) [] := by
  unfold ovE
  refine spec_run e_glass_CheckOven fun G => ?_
  by_cases hf : 0 ≤ f ∧ f ≤ 2000
  rotate_left
  · rw [if_neg hf]
    simp only [go_sem, ovV]
    refine cP (isHeat_no hf) ?_
    simp only [go_sem]
  rw [if_pos hf]
  simp only [go_sem, ovV]
  refine cP (isHeat_yes hf) ?_
  by_cases c2 : ls.length > 20
  · have n2 : (ls.length : Int) > 20 := by omega
    rw [if_pos c2]
    simp only [go_sem, n2, List.length_map]
  have n2 : ¬ (ls.length : Int) > 20 := by omega
  rw [if_neg c2]
  simp only [go_sem, n2, List.length_map]
  obtain ⟨RES, hRES⟩ : ∃ R, fstE (lgEs ls) ls.length 0 = R := ⟨_, rfl⟩
  rw [hRES]
  refine loop_ind k_glass_CheckOven_r11.eq_1 (fun s : Nat × Heap => s.1 ≤ ls.length ∧ fstE (lgEs ls) (ls.length - s.1) s.1 = RES) (fun s => ls.length - s.1)
    (fun s => (tsets 31 [(1, .ptr 0 0 0 1), (2, .int .i64 0), (14, .view (ls.map Lg.v)), (15, .int .i64 ls.length), (16, .int .i64 s.1)], some (.cells false 2 [.agg [.int .i64 f, .view (ls.map Lg.v)]]) :: s.2)) (0, []) ⟨Nat.zero_le _, hRES⟩ (by simp [go_sem]) rfl ?_
  clear hRES
  rintro ⟨i, X⟩ ⟨hi, hR⟩ ih
  dsimp only at hi hR ih ⊢
  by_cases h1 : i < ls.length
  · have h2 : (i : Int) < ls.length := by omega
    have n0 : ¬ (i : Int) < 0 := by omega
    have h3 : IntKind.i64.wrap ((i : Int) + 1) = ((i + 1 : Nat) : Int) := by rw [w64 (by omega)]; rfl
    obtain ⟨z, hzi⟩ : ∃ z, ls[i]? = some z := ⟨_, List.getElem?_eq_getElem h1⟩
    have ez : ls.getD i default = z := by rw [List.getD_eq_getElem?_getD, hzi]; rfl
    have ihn := fun (h0 : lgEs ls i = 0) Y => ih (i + 1, Y) (by dsimp only; omega) ⟨h1, by dsimp only; rw [← fstE_go h1 h0]; exact hR⟩
    have hst := fun (h0 : lgEs ls i ≠ 0) => (fstE_stop h1 h0).symm.trans hR
    clear ih hR
    unfold lgEs lgE at ihn hst
    rw [ez] at ihn hst
    simp only [go_sem, h2, n0, hzi, Lg.v]
    by_cases c1 : 1 ≤ z.tk ∧ z.tk ≤ 2000
    · rw [if_pos c1] at ihn hst
      refine cP (gwithin_yes c1) ?_
      simp only [go_sem]
      by_cases c3 : 0 ≤ z.ht ∧ z.ht ≤ 2000
      · rw [if_pos c3] at ihn hst
        refine cP (isHeat_yes c3) ?_
        simp only [go_sem, h3]
        exact ihn rfl _ _ (by simp [go_sem])
      · rw [if_neg c3] at hst
        have hst := hst (by decide)
        subst hst
        refine cP (isHeat_no c3) ?_
        simp only [go_sem]
    · rw [if_neg c1] at hst
      have hst := hst (by decide)
      subst hst
      refine cP (gwithin_no c1) ?_
      simp only [go_sem]
  · have h2 : ¬ (i : Int) < ls.length := by omega
    obtain rfl : i = ls.length := by omega
    rw [fstE_end] at hR
    subst hR
    simp only [go_sem, h2]
set_option maxHeartbeats 8000000 in
set_option maxRecDepth 10000 in
theorem rCheckOven_raw (f : Int) (ls : List Lg) : Ans Try.prog n_ref05_CheckOven [ovV f ls] [] (.int .i64 (ovE f ls)) [] := by
  unfold ovE
  refine spec_run e_ref05_CheckOven fun G => ?_
  by_cases hf : 0 ≤ f ∧ f ≤ 2000
  rotate_left
  · rw [if_neg hf]
    simp only [go_sem, ovV]
    refine cP (rbeyond_yes hf) ?_
    simp only [go_sem]
  rw [if_pos hf]
  simp only [go_sem, ovV]
  refine cP (rbeyond_no hf) ?_
  by_cases c2 : ls.length > 20
  · have n2 : (ls.length : Int) > 20 := by omega
    rw [if_pos c2]
    simp only [go_sem, n2, List.length_map]
  have n2 : ¬ (ls.length : Int) > 20 := by omega
  rw [if_neg c2]
  simp only [go_sem, n2, List.length_map]
  obtain ⟨RES, hRES⟩ : ∃ R, fstE (lgEs ls) ls.length 0 = R := ⟨_, rfl⟩
  rw [hRES]
  refine loop_ind k_ref05_CheckOven_r10.eq_1 (fun s : Nat × Heap => s.1 ≤ ls.length ∧ fstE (lgEs ls) (ls.length - s.1) s.1 = RES) (fun s => ls.length - s.1)
    (fun s => (tsets 34 [(1, .ptr 0 0 0 1), (2, .int .i64 0), (3, .int .i64 s.1)], some (.cells false 2 [.agg [.int .i64 f, .view (ls.map Lg.v)]]) :: s.2)) (0, []) ⟨Nat.zero_le _, hRES⟩ (by simp [go_sem]) rfl ?_
  clear hRES
  rintro ⟨i, X⟩ ⟨hi, hR⟩ ih
  dsimp only at hi hR ih ⊢
  by_cases h1 : i < ls.length
  · have h2 : (i : Int) < ls.length := by omega
    have n0 : ¬ (i : Int) < 0 := by omega
    have h3 : IntKind.i64.wrap ((i : Int) + 1) = ((i + 1 : Nat) : Int) := by rw [w64 (by omega)]; rfl
    obtain ⟨z, hzi⟩ : ∃ z, ls[i]? = some z := ⟨_, List.getElem?_eq_getElem h1⟩
    have ez : ls.getD i default = z := by rw [List.getD_eq_getElem?_getD, hzi]; rfl
    have ihn := fun (h0 : lgEs ls i = 0) Y => ih (i + 1, Y) (by dsimp only; omega) ⟨h1, by dsimp only; rw [← fstE_go h1 h0]; exact hR⟩
    have hst := fun (h0 : lgEs ls i ≠ 0) => (fstE_stop h1 h0).symm.trans hR
    clear ih hR
    unfold lgEs lgE at ihn hst
    rw [ez] at ihn hst
    simp only [go_sem, h2, n0, hzi, Lg.v]
    by_cases c1 : 1 ≤ z.tk ∧ z.tk ≤ 2000
    · rw [if_pos c1] at ihn hst
      refine cP (rbeyond_no c1) ?_
      simp only [go_sem, h2, n0, hzi, Lg.v]
      by_cases c3 : 0 ≤ z.ht ∧ z.ht ≤ 2000
      · rw [if_pos c3] at ihn hst
        refine cP (rbeyond_no c3) ?_
        simp only [go_sem, h3]
        exact ihn rfl _ _ (by simp [go_sem])
      · rw [if_neg c3] at hst
        have hst := hst (by decide)
        subst hst
        refine cP (rbeyond_yes c3) ?_
        simp only [go_sem]
    · rw [if_neg c1] at hst
      have hst := hst (by decide)
      subst hst
      refine cP (rbeyond_yes c1) ?_
      simp only [go_sem]
  · have h2 : ¬ (i : Int) < ls.length := by omega
    obtain rfl : i = ls.length := by omega
    rw [fstE_end] at hR
    subst hR
    simp only [go_sem, h2]
section
variable (brk : Int) (zs : List Zn) (hl : zs.length ≤ 1000) (th f : Int) (ls : List Lg)
include hl
end
end Go.Proofs

namespace Go.Proofs
open Go Go.Sx

end Go.Proofs

namespace Go.Proofs
open Go Go.Sx
attribute [local irreducible] Run

section
variable (brk : Int) (zs : List Zn) (hl : zs.length ≤ 1000) (th f : Int) (ls : List Lg)
include hl
variable (left : Int)
def i3 (p : Int × Int × Int) : AVal := .tup [.int .i64 p.1, .int .i64 p.2.1, .int .i64 p.2.2]
end
end Go.Proofs

namespace Go.Proofs
open Go Go.Sx
attribute [local irreducible] Run

end Go.Proofs

namespace Go.Proofs
open Go Go.Sx
attribute [local irreducible] Run

section
variable (brk : Int) (zs : List Zn) (hl : zs.length ≤ 1000) (lo hi t lim : Int)
include hl
end
end Go.Proofs

namespace Go.Proofs
open Go Go.Sx
attribute [local irreducible] Run

end Go.Proofs

namespace Go.Proofs
open Go Go.Sx

end Go.Proofs

namespace Go.Proofs
open Go Go.Sx
attribute [local irreducible] Run

section
variable (z1 z2 : List Zn) (sE lim : Int)
end
section
variable (b1 : Int) (z1 : List Zn) (hl1 : z1.length ≤ 1000) (b2 : Int) (z2 : List Zn) (hl2 : z2.length ≤ 1000) (s f : Int)
end
end Go.Proofs

namespace Go.Proofs
open Go Go.Sx
attribute [local irreducible] Run

abbrev SL := List (Int × List Zn)
def sv (p : Int × List Zn) : AVal := stV p.1 p.2
theorem il_ne {P : List Int} (h : P ≠ []) : il P ≠ [] := fun e => h (by unfold il at e; exact List.map_eq_nil_iff.1 e)
section
variable (l : SL) (b : Int) (z : List Zn) (s f : Int)
end
theorem svs_bel (l : SL) (F : Nat → Prop) : Bels F (l.map sv) := bels_map _ _ fun p => by simp only [go_sem, sv, stV]
end Go.Proofs

namespace Go.Proofs
open Go Go.Sx
attribute [local irreducible] Run

theorem wk_refl : ∀ ρ : List AVal, Wk ρ ρ
  | [] => trivial
  | _ :: ρ => ⟨.inr rfl, wk_refl ρ⟩
end Go.Proofs

namespace Go.Proofs
open Go Go.Sx
attribute [local irreducible] Run

end Go.Proofs

namespace Go.Proofs
open Go Go.Sx
attribute [local irreducible] Run

@[go_sem] theorem svs_belT (l : SL) (F : Nat → Prop) : Bels F (l.map sv) = True := eq_true (svs_bel l F)
theorem il_bel (P : List Int) (F : Nat → Prop) : Bels F (il P) := by unfold il; exact bels_map _ _ fun z => by simp only [go_sem]
end Go.Proofs

namespace Go.Proofs
open Go Go.Sx

def k_law05_GlassChecks_r0 : List AOper := [
  ⟨some 6, .box (.tmp 0), none, []⟩,
 ⟨some 7, .box (.tmp 1), none, []⟩,
 ⟨some 10, .box (.tmp 4), none, []⟩,
 ⟨some 11, .box (.tmp 5), none, []⟩,
 ⟨some 12, .move (.const (.bool false)), none, []⟩]
def k_law05_GlassChecks_r1 : List AOper := [
  ⟨some 20, .fieldAddr 1 (.tmp 6), none, []⟩,
 ⟨some 21, .load none (.tmp 20), none, []⟩,
 ⟨some 22, .len false (.tmp 21), none, []⟩,
 ⟨some 23, .bin .plain .gtr (.tmp 22) (.const (.int .i64 30)), none, []⟩,
 ⟨some 24, .move (.tmp 23), none, []⟩,
 ⟨some 25, .fieldAddr 1 (.tmp 7), (some (24, false)), []⟩,
 ⟨some 26, .load none (.tmp 25), (some (24, false)), []⟩,
 ⟨some 27, .len false (.tmp 26), (some (24, false)), []⟩,
 ⟨some 28, .bin .plain .gtr (.tmp 27) (.const (.int .i64 30)), (some (24, false)), []⟩,
 ⟨some 29, .pick (.tmp 24) (.const (.bool true)) (.tmp 28), none, []⟩,
 ⟨some 30, .move (.tmp 29), none, []⟩,
 ⟨some 31, .move (.tmp 2), (some (30, false)), []⟩,
 ⟨some 32, .call (.const (.fn (.func 19) [] [])) [.tmp 31], (some (30, false)), []⟩,
 ⟨some 33, .pick (.tmp 30) (.const (.bool true)) (.tmp 32), none, []⟩]
def k_law05_GlassChecks_r2 : List AOper := [
  ⟨some 34, .call (.const (.fn (.func 20) [] [])) [], none, []⟩,
 ⟨some 12, .move (.tmp 34), none, []⟩]
def k_law05_GlassChecks_r3 : List AOper := [
  ⟨some 35, .move (.tmp 3), none, []⟩,
 ⟨some 36, .call (.const (.fn (.func 21) [] [])) [.tmp 35], none, []⟩,
 ⟨some 13, .move (.tmp 36), none, []⟩]
def k_law05_GlassChecks_r4 : List AOper := [
  ⟨some 37, .move (.tmp 13), none, []⟩,
 ⟨some 38, .call (.const (.fn (.func 22) [] [])) [.tmp 37], none, []⟩,
 ⟨some 39, .move (.tmp 13), none, []⟩,
 ⟨some 40, .call (.const (.fn (.func 23) [] [])) [.tmp 39, .const (.int .i64 22), .const (.int .i64 50)], none, []⟩,
 ⟨some 41, .move (.tmp 13), none, []⟩,
 ⟨some 42, .call (.const (.fn (.func 24) [] [])) [.tmp 41, .const (.int .i64 9)], none, []⟩,
 ⟨some 14, .box (.const (.agg [.int .i64 0, .nilsl])), none, []⟩,
 ⟨some 15, .box (.const (.agg [.int .i64 0, .nilsl])), none, []⟩,
 ⟨none, .store 2 (.tmp 14) (.tmp 38), none, []⟩,
 ⟨none, .store 2 (.tmp 15) (.tmp 40), none, []⟩,
 ⟨some 16, .move (.tmp 42), none, []⟩]
def k_law05_GlassChecks_r5 : List AOper := [
  ⟨some 43, .move (.tmp 13), none, []⟩,
 ⟨some 44, .call (.const (.fn (.func 25) [] [])) [.tmp 43, .const (.int .i64 2)], none, []⟩]
def k_law05_GlassChecks_r6 : List AOper := [
  ⟨some 45, .fieldAddr 1 (.tmp 14), none, []⟩,
 ⟨some 46, .load none (.tmp 45), none, []⟩,
 ⟨some 47, .move (.tmp 13), none, [0, 1]⟩,
 ⟨some 48, .fieldAddr 1 (.tmp 14), none, [0, 1, 2]⟩,
 ⟨some 49, .load none (.tmp 48), none, [0, 1, 2]⟩,
 ⟨some 50, .len false (.tmp 49), none, [0, 1, 2]⟩,
 ⟨some 51, .call (.const (.fn (.func 26) [] [])) [.tmp 47, .tmp 50], none, [0, 1]⟩,
 ⟨some 52, .load (some (5)) (.tmp 10), none, [0, 1, 2, 3, 4, 5, 6]⟩,
 ⟨some 53, .indexAddr 5 (.tmp 46) (.tmp 51), none, []⟩,
 ⟨none, .store 5 (.tmp 53) (.tmp 52), none, []⟩]
def k_law05_GlassChecks_r6s : List (List AOper) := [
  [
  ⟨some 45, .fieldAddr 1 (.tmp 14), none, []⟩,
 ⟨some 46, .load none (.tmp 45), none, []⟩,
 ⟨some 47, .move (.tmp 13), none, [0, 1]⟩,
 ⟨some 48, .fieldAddr 1 (.tmp 14), none, [0, 1, 2]⟩,
 ⟨some 49, .load none (.tmp 48), none, [0, 1, 2]⟩,
 ⟨some 50, .len false (.tmp 49), none, [0, 1, 2]⟩,
 ⟨some 51, .call (.const (.fn (.func 26) [] [])) [.tmp 47, .tmp 50], none, [0, 1]⟩,
 ⟨some 52, .load (some (5)) (.tmp 10), none, [0, 1, 2, 3, 4, 5, 6]⟩], 
  [
  ⟨some 53, .indexAddr 5 (.tmp 46) (.tmp 51), none, []⟩], 
  [
  ⟨none, .store 5 (.tmp 53) (.tmp 52), none, []⟩]]
theorem k_law05_GlassChecks_r6_sg : segs k_law05_GlassChecks_r6 = k_law05_GlassChecks_r6s := by kernel_rfl
theorem k_law05_GlassChecks_r6_st : statOK k_law05_GlassChecks_r6 = true := by kernel_rfl
def k_law05_GlassChecks_r7 : List AOper := [
  ⟨some 54, .fieldAddr 1 (.tmp 15), none, []⟩,
 ⟨some 55, .load none (.tmp 54), none, []⟩,
 ⟨some 56, .len false (.tmp 55), none, []⟩,
 ⟨some 57, .bin .plain .gtr (.tmp 56) (.const (.int .i64 0)), none, []⟩,
 ⟨some 58, .move (.tmp 57), none, []⟩,
 ⟨some 59, .move (.tmp 13), (some (58, true)), []⟩,
 ⟨some 60, .call (.const (.fn (.func 25) [] [])) [.tmp 59, .const (.int .i64 2)], (some (58, true)), []⟩,
 ⟨some 61, .pick (.tmp 58) (.tmp 60) (.const (.bool false)), none, []⟩]
def k_law05_GlassChecks_r8 : List AOper := [
  ⟨some 62, .fieldAddr 1 (.tmp 15), none, []⟩,
 ⟨some 63, .load none (.tmp 62), none, []⟩,
 ⟨some 64, .move (.tmp 13), none, [0, 1]⟩,
 ⟨some 65, .fieldAddr 1 (.tmp 15), none, [0, 1, 2]⟩,
 ⟨some 66, .load none (.tmp 65), none, [0, 1, 2]⟩,
 ⟨some 67, .len false (.tmp 66), none, [0, 1, 2]⟩,
 ⟨some 68, .call (.const (.fn (.func 26) [] [])) [.tmp 64, .tmp 67], none, [0, 1]⟩,
 ⟨some 69, .load (some (2)) (.tmp 11), none, [0, 1, 2, 3, 4, 5, 6]⟩,
 ⟨some 70, .indexAddr 2 (.tmp 63) (.tmp 68), none, []⟩,
 ⟨none, .store 2 (.tmp 70) (.tmp 69), none, []⟩]
def k_law05_GlassChecks_r8s : List (List AOper) := [
  [
  ⟨some 62, .fieldAddr 1 (.tmp 15), none, []⟩,
 ⟨some 63, .load none (.tmp 62), none, []⟩,
 ⟨some 64, .move (.tmp 13), none, [0, 1]⟩,
 ⟨some 65, .fieldAddr 1 (.tmp 15), none, [0, 1, 2]⟩,
 ⟨some 66, .load none (.tmp 65), none, [0, 1, 2]⟩,
 ⟨some 67, .len false (.tmp 66), none, [0, 1, 2]⟩,
 ⟨some 68, .call (.const (.fn (.func 26) [] [])) [.tmp 64, .tmp 67], none, [0, 1]⟩,
 ⟨some 69, .load (some (2)) (.tmp 11), none, [0, 1, 2, 3, 4, 5, 6]⟩], 
  [
  ⟨some 70, .indexAddr 2 (.tmp 63) (.tmp 68), none, []⟩], 
  [
  ⟨none, .store 2 (.tmp 70) (.tmp 69), none, []⟩]]
theorem k_law05_GlassChecks_r8_sg : segs k_law05_GlassChecks_r8 = k_law05_GlassChecks_r8s := by kernel_rfl
theorem k_law05_GlassChecks_r8_st : statOK k_law05_GlassChecks_r8 = true := by kernel_rfl
def k_law05_GlassChecks_r9 : List AOper := [
  ⟨some 71, .load (some (2)) (.tmp 6), none, []⟩,
 ⟨some 72, .call (.const (.fn (.func 27) [] [])) [.tmp 71], none, []⟩,
 ⟨some 73, .load (some (2)) (.tmp 7), none, [0, 1]⟩,
 ⟨some 74, .call (.const (.fn (.func 28) [] [])) [.tmp 73], none, []⟩,
 ⟨some 75, .move (.tmp 2), none, [0, 1, 2, 3]⟩,
 ⟨some 76, .call (.const (.fn (.func 29) [] [])) [.tmp 75], none, []⟩,
 ⟨some 17, .box (.const (.agg [.int .i64 0, .nilsl])), none, [0, 1, 2, 3, 4, 5]⟩,
 ⟨some 18, .box (.const (.agg [.int .i64 0, .nilsl])), none, [0, 1, 2, 3, 4, 5, 6]⟩,
 ⟨none, .store 2 (.tmp 17) (.tmp 72), none, []⟩,
 ⟨none, .store 2 (.tmp 18) (.tmp 74), none, []⟩,
 ⟨some 19, .move (.tmp 76), none, []⟩]
def k_law05_GlassChecks_r9s : List (List AOper) := [
  [
  ⟨some 71, .load (some (2)) (.tmp 6), none, []⟩,
 ⟨some 72, .call (.const (.fn (.func 27) [] [])) [.tmp 71], none, []⟩,
 ⟨some 73, .load (some (2)) (.tmp 7), none, [0, 1]⟩,
 ⟨some 74, .call (.const (.fn (.func 28) [] [])) [.tmp 73], none, []⟩,
 ⟨some 75, .move (.tmp 2), none, [0, 1, 2, 3]⟩,
 ⟨some 76, .call (.const (.fn (.func 29) [] [])) [.tmp 75], none, []⟩,
 ⟨some 17, .box (.const (.agg [.int .i64 0, .nilsl])), none, [0, 1, 2, 3, 4, 5]⟩,
 ⟨some 18, .box (.const (.agg [.int .i64 0, .nilsl])), none, [0, 1, 2, 3, 4, 5, 6]⟩], 
  [
  ⟨none, .store 2 (.tmp 17) (.tmp 72), none, []⟩], 
  [
  ⟨none, .store 2 (.tmp 18) (.tmp 74), none, []⟩], 
  [
  ⟨some 19, .move (.tmp 76), none, []⟩]]
theorem k_law05_GlassChecks_r9_sg : segs k_law05_GlassChecks_r9 = k_law05_GlassChecks_r9s := by kernel_rfl
theorem k_law05_GlassChecks_r9_st : statOK k_law05_GlassChecks_r9 = true := by kernel_rfl
def k_law05_GlassChecks_r10 : List AOper := [
  ⟨some 77, .load (some (2)) (.tmp 17), none, []⟩,
 ⟨some 78, .call (.const (.fn (.func 30) [] [])) [.tmp 77], none, []⟩,
 ⟨some 79, .load (some (2)) (.tmp 6), none, [0, 1]⟩,
 ⟨some 80, .call (.const (.fn (.func 31) [] [])) [.tmp 79], none, []⟩,
 ⟨some 81, .bin .plain .neq (.tmp 78) (.tmp 80), none, []⟩,
 ⟨some 82, .move (.tmp 81), none, []⟩,
 ⟨some 83, .load (some (2)) (.tmp 18), (some (82, false)), []⟩,
 ⟨some 84, .call (.const (.fn (.func 32) [] [])) [.tmp 83], (some (82, false)), []⟩,
 ⟨some 85, .load (some (2)) (.tmp 7), (some (82, false)), [6, 7]⟩,
 ⟨some 86, .call (.const (.fn (.func 33) [] [])) [.tmp 85], (some (82, false)), []⟩,
 ⟨some 87, .bin .plain .neq (.tmp 84) (.tmp 86), (some (82, false)), []⟩,
 ⟨some 88, .pick (.tmp 82) (.const (.bool true)) (.tmp 87), none, []⟩,
 ⟨some 89, .move (.tmp 88), none, []⟩,
 ⟨some 90, .move (.tmp 19), (some (89, false)), []⟩,
 ⟨some 91, .call (.const (.fn (.func 34) [] [])) [.tmp 90], (some (89, false)), []⟩,
 ⟨some 92, .move (.tmp 2), (some (89, false)), [13, 14]⟩,
 ⟨some 93, .call (.const (.fn (.func 35) [] [])) [.tmp 92], (some (89, false)), []⟩,
 ⟨some 94, .bin .plain .neq (.tmp 91) (.tmp 93), (some (89, false)), []⟩,
 ⟨some 95, .pick (.tmp 89) (.const (.bool true)) (.tmp 94), none, []⟩]
def k_law05_GlassChecks_r10s : List (List AOper) := [
  [
  ⟨some 77, .load (some (2)) (.tmp 17), none, []⟩,
 ⟨some 78, .call (.const (.fn (.func 30) [] [])) [.tmp 77], none, []⟩,
 ⟨some 79, .load (some (2)) (.tmp 6), none, [0, 1]⟩], 
  [
  ⟨some 80, .call (.const (.fn (.func 31) [] [])) [.tmp 79], none, []⟩], 
  [
  ⟨some 81, .bin .plain .neq (.tmp 78) (.tmp 80), none, []⟩], 
  [
  ⟨some 82, .move (.tmp 81), none, []⟩], 
  [
  ⟨some 83, .load (some (2)) (.tmp 18), (some (82, false)), []⟩,
 ⟨some 84, .call (.const (.fn (.func 32) [] [])) [.tmp 83], (some (82, false)), []⟩,
 ⟨some 85, .load (some (2)) (.tmp 7), (some (82, false)), [6, 7]⟩], 
  [
  ⟨some 86, .call (.const (.fn (.func 33) [] [])) [.tmp 85], (some (82, false)), []⟩], 
  [
  ⟨some 87, .bin .plain .neq (.tmp 84) (.tmp 86), (some (82, false)), []⟩], 
  [
  ⟨some 88, .pick (.tmp 82) (.const (.bool true)) (.tmp 87), none, []⟩], 
  [
  ⟨some 89, .move (.tmp 88), none, []⟩], 
  [
  ⟨some 90, .move (.tmp 19), (some (89, false)), []⟩,
 ⟨some 91, .call (.const (.fn (.func 34) [] [])) [.tmp 90], (some (89, false)), []⟩,
 ⟨some 92, .move (.tmp 2), (some (89, false)), [13, 14]⟩], 
  [
  ⟨some 93, .call (.const (.fn (.func 35) [] [])) [.tmp 92], (some (89, false)), []⟩], 
  [
  ⟨some 94, .bin .plain .neq (.tmp 91) (.tmp 93), (some (89, false)), []⟩], 
  [
  ⟨some 95, .pick (.tmp 89) (.const (.bool true)) (.tmp 94), none, []⟩]]
theorem k_law05_GlassChecks_r10_sg : segs k_law05_GlassChecks_r10 = k_law05_GlassChecks_r10s := by kernel_rfl
theorem k_law05_GlassChecks_r10_st : statOK k_law05_GlassChecks_r10 = true := by kernel_rfl
def k_law05_GlassChecks_r11 : List AOper := [
  ⟨some 12, .move (.const (.bool false)), none, []⟩]
def k_law05_GlassChecks_r12 : List AOper := [
  ⟨some 96, .load (some (2)) (.tmp 14), none, []⟩,
 ⟨some 97, .call (.const (.fn (.func 30) [] [])) [.tmp 96], none, []⟩,
 ⟨some 98, .load (some (2)) (.tmp 14), none, [0, 1]⟩,
 ⟨some 99, .call (.const (.fn (.func 31) [] [])) [.tmp 98], none, []⟩,
 ⟨some 100, .bin .plain .eql (.tmp 97) (.tmp 99), none, []⟩,
 ⟨some 101, .move (.tmp 100), none, []⟩,
 ⟨some 102, .load (some (2)) (.tmp 15), (some (101, true)), []⟩,
 ⟨some 103, .call (.const (.fn (.func 32) [] [])) [.tmp 102], (some (101, true)), []⟩,
 ⟨some 104, .load (some (2)) (.tmp 15), (some (101, true)), [6, 7]⟩,
 ⟨some 105, .call (.const (.fn (.func 33) [] [])) [.tmp 104], (some (101, true)), []⟩,
 ⟨some 106, .bin .plain .eql (.tmp 103) (.tmp 105), (some (101, true)), []⟩,
 ⟨some 107, .pick (.tmp 101) (.tmp 106) (.const (.bool false)), none, []⟩,
 ⟨some 108, .move (.tmp 107), none, []⟩,
 ⟨some 109, .move (.tmp 16), (some (108, true)), []⟩,
 ⟨some 110, .call (.const (.fn (.func 34) [] [])) [.tmp 109], (some (108, true)), []⟩,
 ⟨some 111, .move (.tmp 16), (some (108, true)), [13, 14]⟩,
 ⟨some 112, .call (.const (.fn (.func 35) [] [])) [.tmp 111], (some (108, true)), []⟩,
 ⟨some 113, .bin .plain .eql (.tmp 110) (.tmp 112), (some (108, true)), []⟩,
 ⟨some 114, .pick (.tmp 108) (.tmp 113) (.const (.bool false)), none, []⟩,
 ⟨some 115, .move (.tmp 114), none, []⟩,
 ⟨some 116, .load (some (2)) (.tmp 17), (some (115, true)), []⟩,
 ⟨some 117, .load (some (2)) (.tmp 6), (some (115, true)), [20]⟩,
 ⟨some 118, .call (.const (.fn (.func 36) [] [])) [.tmp 116, .tmp 117], (some (115, true)), []⟩,
 ⟨some 119, .pick (.tmp 115) (.tmp 118) (.const (.bool false)), none, []⟩,
 ⟨some 120, .move (.tmp 119), none, []⟩,
 ⟨some 121, .load (some (2)) (.tmp 18), (some (120, true)), []⟩,
 ⟨some 122, .load (some (2)) (.tmp 7), (some (120, true)), [25]⟩,
 ⟨some 123, .call (.const (.fn (.func 37) [] [])) [.tmp 121, .tmp 122], (some (120, true)), []⟩,
 ⟨some 124, .pick (.tmp 120) (.tmp 123) (.const (.bool false)), none, []⟩,
 ⟨some 125, .move (.tmp 124), none, []⟩,
 ⟨some 126, .move (.tmp 19), (some (125, true)), []⟩,
 ⟨some 127, .move (.tmp 2), (some (125, true)), [30]⟩,
 ⟨some 128, .call (.const (.fn (.func 38) [] [])) [.tmp 126, .tmp 127], (some (125, true)), []⟩,
 ⟨some 129, .pick (.tmp 125) (.tmp 128) (.const (.bool false)), none, []⟩,
 ⟨some 130, .move (.tmp 129), none, []⟩,
 ⟨some 131, .call (.const (.fn (.func 20) [] [])) [], (some (130, true)), []⟩,
 ⟨some 132, .pick (.tmp 130) (.tmp 131) (.const (.bool false)), none, []⟩,
 ⟨some 12, .move (.tmp 132), none, []⟩]
def k_law05_GlassChecks_r12s : List (List AOper) := [
  [
  ⟨some 96, .load (some (2)) (.tmp 14), none, []⟩,
 ⟨some 97, .call (.const (.fn (.func 30) [] [])) [.tmp 96], none, []⟩,
 ⟨some 98, .load (some (2)) (.tmp 14), none, [0, 1]⟩], 
  [
  ⟨some 99, .call (.const (.fn (.func 31) [] [])) [.tmp 98], none, []⟩], 
  [
  ⟨some 100, .bin .plain .eql (.tmp 97) (.tmp 99), none, []⟩], 
  [
  ⟨some 101, .move (.tmp 100), none, []⟩], 
  [
  ⟨some 102, .load (some (2)) (.tmp 15), (some (101, true)), []⟩,
 ⟨some 103, .call (.const (.fn (.func 32) [] [])) [.tmp 102], (some (101, true)), []⟩,
 ⟨some 104, .load (some (2)) (.tmp 15), (some (101, true)), [6, 7]⟩], 
  [
  ⟨some 105, .call (.const (.fn (.func 33) [] [])) [.tmp 104], (some (101, true)), []⟩], 
  [
  ⟨some 106, .bin .plain .eql (.tmp 103) (.tmp 105), (some (101, true)), []⟩], 
  [
  ⟨some 107, .pick (.tmp 101) (.tmp 106) (.const (.bool false)), none, []⟩], 
  [
  ⟨some 108, .move (.tmp 107), none, []⟩], 
  [
  ⟨some 109, .move (.tmp 16), (some (108, true)), []⟩,
 ⟨some 110, .call (.const (.fn (.func 34) [] [])) [.tmp 109], (some (108, true)), []⟩,
 ⟨some 111, .move (.tmp 16), (some (108, true)), [13, 14]⟩], 
  [
  ⟨some 112, .call (.const (.fn (.func 35) [] [])) [.tmp 111], (some (108, true)), []⟩], 
  [
  ⟨some 113, .bin .plain .eql (.tmp 110) (.tmp 112), (some (108, true)), []⟩], 
  [
  ⟨some 114, .pick (.tmp 108) (.tmp 113) (.const (.bool false)), none, []⟩], 
  [
  ⟨some 115, .move (.tmp 114), none, []⟩], 
  [
  ⟨some 116, .load (some (2)) (.tmp 17), (some (115, true)), []⟩,
 ⟨some 117, .load (some (2)) (.tmp 6), (some (115, true)), [20]⟩], 
  [
  ⟨some 118, .call (.const (.fn (.func 36) [] [])) [.tmp 116, .tmp 117], (some (115, true)), []⟩], 
  [
  ⟨some 119, .pick (.tmp 115) (.tmp 118) (.const (.bool false)), none, []⟩], 
  [
  ⟨some 120, .move (.tmp 119), none, []⟩], 
  [
  ⟨some 121, .load (some (2)) (.tmp 18), (some (120, true)), []⟩,
 ⟨some 122, .load (some (2)) (.tmp 7), (some (120, true)), [25]⟩], 
  [
  ⟨some 123, .call (.const (.fn (.func 37) [] [])) [.tmp 121, .tmp 122], (some (120, true)), []⟩], 
  [
  ⟨some 124, .pick (.tmp 120) (.tmp 123) (.const (.bool false)), none, []⟩], 
  [
  ⟨some 125, .move (.tmp 124), none, []⟩], 
  [
  ⟨some 126, .move (.tmp 19), (some (125, true)), []⟩,
 ⟨some 127, .move (.tmp 2), (some (125, true)), [30]⟩], 
  [
  ⟨some 128, .call (.const (.fn (.func 38) [] [])) [.tmp 126, .tmp 127], (some (125, true)), []⟩], 
  [
  ⟨some 129, .pick (.tmp 125) (.tmp 128) (.const (.bool false)), none, []⟩], 
  [
  ⟨some 130, .move (.tmp 129), none, []⟩], 
  [
  ⟨some 131, .call (.const (.fn (.func 20) [] [])) [], (some (130, true)), []⟩], 
  [
  ⟨some 132, .pick (.tmp 130) (.tmp 131) (.const (.bool false)), none, []⟩], 
  [
  ⟨some 12, .move (.tmp 132), none, []⟩]]
theorem k_law05_GlassChecks_r12_sg : segs k_law05_GlassChecks_r12 = k_law05_GlassChecks_r12s := by kernel_rfl
theorem k_law05_GlassChecks_r12_st : statOK k_law05_GlassChecks_r12 = true := by kernel_rfl
def k_law05_GlassChecks : AFun := { params := 6, ntmps := 133, body := (.seq (.reg k_law05_GlassChecks_r0 false) (.seq (.seq (.reg k_law05_GlassChecks_r1 false) (.cond (.tmp 33) (.seq (.reg k_law05_GlassChecks_r2 false) .ret) .skip)) (.seq (.reg k_law05_GlassChecks_r3 false) (.seq (.reg k_law05_GlassChecks_r4 false) (.seq (.seq (.reg k_law05_GlassChecks_r5 false) (.cond (.tmp 44) (.reg k_law05_GlassChecks_r6 true) .skip)) (.seq (.seq (.reg k_law05_GlassChecks_r7 false) (.cond (.tmp 61) (.reg k_law05_GlassChecks_r8 true) .skip)) (.seq (.reg k_law05_GlassChecks_r9 true) (.seq (.seq (.reg k_law05_GlassChecks_r10 true) (.cond (.tmp 95) (.seq (.reg k_law05_GlassChecks_r11 false) .ret) .skip)) (.seq (.reg k_law05_GlassChecks_r12 true) .ret))))))))), res := [.tmp 12] }
theorem k_law05_GlassChecks_ok : cfun Try.prog Try.f3 = k_law05_GlassChecks := by kernel_rfl

def k_law05_long_r0 : List AOper := [
  ⟨some 2, .move (.const (.bool false)), none, []⟩]
def k_law05_long_r1 : List AOper := [
  ⟨some 3, .move (.const (.int .i64 0)), none, []⟩]
def k_law05_long_r2 : List AOper := [
  ⟨some 4, .move (.tmp 3), none, []⟩,
 ⟨some 5, .move (.tmp 0), none, []⟩,
 ⟨some 6, .len false (.tmp 5), none, []⟩,
 ⟨some 7, .bin .plain .lss (.tmp 4) (.tmp 6), none, []⟩]
def k_law05_long_r3 : List AOper := [
  ⟨some 10, .move (.tmp 0), none, []⟩,
 ⟨some 11, .move (.tmp 3), none, []⟩,
 ⟨some 12, .indexAddr 3 (.tmp 10) (.tmp 11), none, []⟩,
 ⟨some 13, .fieldAddr 2 (.tmp 12), none, []⟩,
 ⟨some 14, .load none (.tmp 13), none, []⟩,
 ⟨some 15, .len false (.tmp 14), none, []⟩,
 ⟨some 16, .bin .plain .gtr (.tmp 15) (.const (.int .i64 20)), none, []⟩]
def k_law05_long_r4 : List AOper := [
  ⟨some 2, .move (.const (.bool true)), none, []⟩]
def k_law05_long_r5 : List AOper := [
  ⟨some 8, .move (.tmp 3), none, []⟩,
 ⟨some 9, .bin .plain .add (.tmp 8) (.const (.int .i64 1)), none, []⟩,
 ⟨some 3, .move (.tmp 9), none, []⟩]
def k_law05_long_r6 : ACode := (.seq (.seq (.reg k_law05_long_r2 false) (.cond (.tmp 7) .skip (.exit 0))) (.seq (.block 1 (.seq (.reg k_law05_long_r3 false) (.cond (.tmp 16) (.seq (.reg k_law05_long_r4 false) .ret) .skip))) (.reg k_law05_long_r5 false)))
def k_law05_long_r7 : List AOper := [
  ⟨some 17, .move (.tmp 0), none, []⟩,
 ⟨some 18, .len false (.tmp 17), none, []⟩,
 ⟨some 19, .bin .plain .gtr (.tmp 18) (.const (.int .i64 12)), none, []⟩,
 ⟨some 2, .move (.tmp 19), none, []⟩]
def k_law05_long : AFun := { params := 1, ntmps := 20, body := (.seq (.reg k_law05_long_r0 false) (.seq (.seq (.reg k_law05_long_r1 false) (.block 0 (.loop k_law05_long_r6))) (.seq (.reg k_law05_long_r7 false) .ret))), res := [.tmp 2] }
theorem k_law05_long_ok : cfun Try.prog Try.f19 = k_law05_long := by kernel_rfl

def k_kit_FiresOf_r0 : List AOper := [
  ⟨some 4, .move (.const (.nilsl)), none, []⟩]
def k_kit_FiresOf_r1 : List AOper := [
  ⟨some 5, .move (.const (.nilsl)), none, []⟩]
def k_kit_FiresOf_r2 : List AOper := [
  ⟨some 10, .move (.tmp 0), none, []⟩,
 ⟨some 11, .move (.tmp 1), none, []⟩,
 ⟨some 12, .bin .plain .add (.tmp 11) (.const (.int .i64 1)), none, []⟩,
 ⟨some 13, .call (.const (.fn (.func 26) [] [])) [.tmp 10, .tmp 12], none, []⟩,
 ⟨some 6, .move (.tmp 13), none, []⟩]
def k_kit_FiresOf_r3 : List AOper := [
  ⟨some 7, .move (.const (.int .i64 0)), none, []⟩]
def k_kit_FiresOf_r4 : List AOper := [
  ⟨some 14, .move (.tmp 7), none, []⟩,
 ⟨some 15, .move (.tmp 6), none, []⟩,
 ⟨some 16, .bin .plain .lss (.tmp 14) (.tmp 15), none, []⟩]
def k_kit_FiresOf_r5 : List AOper := [
  ⟨some 19, .move (.tmp 0), none, []⟩,
 ⟨some 20, .call (.const (.fn (.func 26) [] [])) [.tmp 19, .const (.int .i64 9)], none, []⟩,
 ⟨some 21, .bin .plain .mul (.const (.int .i64 10)) (.tmp 20), none, []⟩,
 ⟨some 22, .bin .plain .add (.const (.int .i64 900)) (.tmp 21), none, []⟩,
 ⟨some 23, .move (.tmp 0), none, []⟩,
 ⟨some 24, .call (.const (.fn (.func 26) [] [])) [.tmp 23, .const (.int .i64 14)], none, []⟩,
 ⟨some 25, .bin .plain .mul (.const (.int .i64 10)) (.tmp 24), none, []⟩,
 ⟨some 26, .bin .plain .add (.const (.int .i64 900)) (.tmp 25), none, []⟩,
 ⟨some 27, .build [.int .i64 0, .int .i64 0, .nilsl] [(0, 1, .tmp 22), (1, 1, .tmp 26)], none, []⟩,
 ⟨some 8, .box (.const (.agg [.int .i64 0, .int .i64 0, .nilsl])), none, []⟩,
 ⟨none, .store 3 (.tmp 8) (.tmp 27), none, []⟩]
def k_kit_FiresOf_r6 : List AOper := [
  ⟨some 9, .move (.const (.int .i64 0)), none, []⟩]
def k_kit_FiresOf_r7 : List AOper := [
  ⟨some 28, .move (.tmp 9), none, []⟩,
 ⟨some 29, .move (.tmp 7), none, []⟩,
 ⟨some 30, .bin .plain .lss (.tmp 28) (.tmp 29), none, []⟩]
def k_kit_FiresOf_r8 : List AOper := [
  ⟨some 33, .move (.tmp 0), none, []⟩,
 ⟨some 34, .call (.const (.fn (.func 25) [] [])) [.tmp 33, .const (.int .i64 6)], none, []⟩]
def k_kit_FiresOf_r9 : List AOper := [
  ⟨some 35, .fieldAddr 2 (.tmp 8), none, []⟩,
 ⟨some 36, .load none (.tmp 35), none, []⟩,
 ⟨some 37, .move (.tmp 9), none, []⟩,
 ⟨some 38, .buildSlice 1 [.tmp 37], none, []⟩,
 ⟨some 39, .append 1 8 false (.tmp 36) (.tmp 38), none, []⟩,
 ⟨some 40, .fieldAddr 2 (.tmp 8), none, []⟩,
 ⟨none, .store 1 (.tmp 40) (.tmp 39), none, []⟩]
def k_kit_FiresOf_r10 : List AOper := [
  ⟨some 31, .move (.tmp 9), none, []⟩,
 ⟨some 32, .bin .plain .add (.tmp 31) (.const (.int .i64 1)), none, []⟩,
 ⟨some 9, .move (.tmp 32), none, []⟩]
def k_kit_FiresOf_r11 : ACode := (.seq (.seq (.reg k_kit_FiresOf_r7 false) (.cond (.tmp 30) .skip (.exit 2))) (.seq (.block 3 (.seq (.reg k_kit_FiresOf_r8 false) (.cond (.tmp 34) (.reg k_kit_FiresOf_r9 false) .skip))) (.reg k_kit_FiresOf_r10 false)))
def k_kit_FiresOf_r12 : List AOper := [
  ⟨some 41, .move (.tmp 5), none, []⟩,
 ⟨some 42, .load (some (3)) (.tmp 8), none, []⟩,
 ⟨some 43, .buildSlice 3 [.tmp 42], none, []⟩,
 ⟨some 44, .append 3 40 true (.tmp 41) (.tmp 43), none, []⟩,
 ⟨some 5, .move (.tmp 44), none, []⟩]
def k_kit_FiresOf_r13 : List AOper := [
  ⟨some 17, .move (.tmp 7), none, []⟩,
 ⟨some 18, .bin .plain .add (.tmp 17) (.const (.int .i64 1)), none, []⟩,
 ⟨some 7, .move (.tmp 18), none, []⟩]
def k_kit_FiresOf_r14 : ACode := (.seq (.seq (.reg k_kit_FiresOf_r4 false) (.cond (.tmp 16) .skip (.exit 0))) (.seq (.block 1 (.seq (.reg k_kit_FiresOf_r5 false) (.seq (.seq (.reg k_kit_FiresOf_r6 false) (.block 2 (.loop k_kit_FiresOf_r11))) (.reg k_kit_FiresOf_r12 false)))) (.reg k_kit_FiresOf_r13 false)))
def k_kit_FiresOf_r15 : List AOper := [
  ⟨some 45, .move (.tmp 6), none, []⟩,
 ⟨some 46, .bin .plain .gtr (.tmp 45) (.const (.int .i64 1)), none, []⟩,
 ⟨some 47, .move (.tmp 46), none, []⟩,
 ⟨some 48, .move (.tmp 0), (some (47, true)), []⟩,
 ⟨some 49, .call (.const (.fn (.func 25) [] [])) [.tmp 48, .const (.int .i64 9)], (some (47, true)), []⟩,
 ⟨some 50, .pick (.tmp 47) (.tmp 49) (.const (.bool false)), none, []⟩]
def k_kit_FiresOf_r16 : List AOper := [
  ⟨some 51, .move (.tmp 5), none, []⟩,
 ⟨some 52, .move (.tmp 6), none, []⟩,
 ⟨some 53, .bin .plain .sub (.tmp 52) (.const (.int .i64 1)), none, []⟩,
 ⟨some 54, .buildSlice 1 [.tmp 53], none, []⟩,
 ⟨some 55, .indexAddr 3 (.tmp 51) (.const (.int .i64 0)), none, []⟩,
 ⟨some 56, .fieldAddr 2 (.tmp 55), none, []⟩,
 ⟨none, .store 1 (.tmp 56) (.tmp 54), none, []⟩]
def k_kit_FiresOf_r17 : List AOper := [
  ⟨some 57, .move (.tmp 5), none, []⟩,
 ⟨some 4, .move (.tmp 57), none, []⟩]
def k_kit_FiresOf : AFun := { params := 2, ntmps := 58, body := (.seq (.reg k_kit_FiresOf_r0 false) (.seq (.reg k_kit_FiresOf_r1 false) (.seq (.reg k_kit_FiresOf_r2 false) (.seq (.seq (.reg k_kit_FiresOf_r3 false) (.block 0 (.loop k_kit_FiresOf_r14))) (.seq (.seq (.reg k_kit_FiresOf_r15 false) (.cond (.tmp 50) (.reg k_kit_FiresOf_r16 false) .skip)) (.seq (.reg k_kit_FiresOf_r17 false) .ret)))))), res := [.tmp 4] }
theorem k_kit_FiresOf_ok : cfun Try.prog Try.f24 = k_kit_FiresOf := by kernel_rfl

def k_kit_OwnOven_r0 : List AOper := [
  ⟨some 1, .box (.tmp 0), none, []⟩,
 ⟨some 2, .box (.const (.agg [.int .i64 0, .nilsl])), none, []⟩]
def k_kit_OwnOven_r1 : List AOper := [
  ⟨some 3, .buildSlice 2 [], none, []⟩,
 ⟨some 4, .fieldAddr 1 (.tmp 1), none, []⟩,
 ⟨some 5, .load none (.tmp 4), none, []⟩,
 ⟨some 6, .append 2 16 true (.tmp 3) (.tmp 5), none, []⟩,
 ⟨some 7, .fieldAddr 1 (.tmp 1), none, []⟩,
 ⟨none, .store 1 (.tmp 7) (.tmp 6), none, []⟩]
def k_kit_OwnOven_r2 : List AOper := [
  ⟨some 8, .load (some (2)) (.tmp 1), none, []⟩,
 ⟨none, .store 2 (.tmp 2) (.tmp 8), none, []⟩]
def k_kit_OwnOven : AFun := { params := 1, ntmps := 9, body := (.seq (.reg k_kit_OwnOven_r0 false) (.seq (.reg k_kit_OwnOven_r1 false) (.seq (.reg k_kit_OwnOven_r2 false) .ret))), res := [.cell 2 (some ((some (2))))] }
theorem k_kit_OwnOven_ok : cfun Try.prog Try.f28 = k_kit_OwnOven := by kernel_rfl

def k_kit_OwnFires_r0 : List AOper := [
  ⟨some 2, .move (.const (.nilsl)), none, []⟩]
def k_kit_OwnFires_r1 : List AOper := [
  ⟨some 5, .buildSlice 3 [], none, []⟩,
 ⟨some 6, .move (.tmp 0), none, []⟩,
 ⟨some 7, .append 3 40 true (.tmp 5) (.tmp 6), none, []⟩,
 ⟨some 3, .move (.tmp 7), none, []⟩]
def k_kit_OwnFires_r2 : List AOper := [
  ⟨some 4, .move (.const (.int .i64 0)), none, []⟩]
def k_kit_OwnFires_r3 : List AOper := [
  ⟨some 8, .move (.tmp 4), none, []⟩,
 ⟨some 9, .move (.tmp 3), none, []⟩,
 ⟨some 10, .len false (.tmp 9), none, []⟩,
 ⟨some 11, .bin .plain .lss (.tmp 8) (.tmp 10), none, []⟩]
def k_kit_OwnFires_r4 : List AOper := [
  ⟨some 14, .move (.tmp 3), none, []⟩,
 ⟨some 15, .move (.tmp 4), none, []⟩,
 ⟨some 16, .move (.tmp 3), none, []⟩,
 ⟨some 17, .move (.tmp 4), none, []⟩,
 ⟨some 18, .indexAddr 3 (.tmp 16) (.tmp 17), none, []⟩,
 ⟨some 19, .fieldAddr 2 (.tmp 18), none, []⟩,
 ⟨some 20, .load none (.tmp 19), none, []⟩,
 ⟨some 21, .call (.const (.fn (.func 84) [] [])) [.tmp 20], none, []⟩,
 ⟨some 22, .indexAddr 3 (.tmp 14) (.tmp 15), none, []⟩,
 ⟨some 23, .fieldAddr 2 (.tmp 22), none, []⟩,
 ⟨none, .store 1 (.tmp 23) (.tmp 21), none, []⟩]
def k_kit_OwnFires_r5 : List AOper := [
  ⟨some 12, .move (.tmp 4), none, []⟩,
 ⟨some 13, .bin .plain .add (.tmp 12) (.const (.int .i64 1)), none, []⟩,
 ⟨some 4, .move (.tmp 13), none, []⟩]
def k_kit_OwnFires_r6 : ACode := (.seq (.seq (.reg k_kit_OwnFires_r3 false) (.cond (.tmp 11) .skip (.exit 0))) (.seq (.block 1 (.reg k_kit_OwnFires_r4 false)) (.reg k_kit_OwnFires_r5 false)))
def k_kit_OwnFires_r7 : List AOper := [
  ⟨some 24, .move (.tmp 3), none, []⟩,
 ⟨some 2, .move (.tmp 24), none, []⟩]
def k_kit_OwnFires : AFun := { params := 1, ntmps := 25, body := (.seq (.reg k_kit_OwnFires_r0 false) (.seq (.reg k_kit_OwnFires_r1 false) (.seq (.seq (.reg k_kit_OwnFires_r2 false) (.block 0 (.loop k_kit_OwnFires_r6))) (.seq (.reg k_kit_OwnFires_r7 false) .ret)))), res := [.tmp 2] }
theorem k_kit_OwnFires_ok : cfun Try.prog Try.f29 = k_kit_OwnFires := by kernel_rfl

def k_ref05_CheckFires_r0 : List AOper := [
  ⟨some 2, .move (.const (.int .i64 0)), none, []⟩]
def k_ref05_CheckFires_r1 : List AOper := [
  ⟨some 6, .move (.tmp 0), none, []⟩,
 ⟨some 7, .len false (.tmp 6), none, []⟩,
 ⟨some 8, .bin .plain .gtr (.tmp 7) (.const (.int .i64 8)), none, []⟩]
def k_ref05_CheckFires_r2 : List AOper := [
  ⟨some 2, .move (.const (.int .i64 8)), none, []⟩]
def k_ref05_CheckFires_r3 : List AOper := [
  ⟨some 3, .move (.const (.int .i64 0)), none, []⟩]
def k_ref05_CheckFires_r4 : List AOper := [
  ⟨some 9, .move (.tmp 3), none, []⟩,
 ⟨some 10, .move (.tmp 0), none, []⟩,
 ⟨some 11, .len false (.tmp 10), none, []⟩,
 ⟨some 12, .bin .plain .lss (.tmp 9) (.tmp 11), none, []⟩]
def k_ref05_CheckFires_r5 : List AOper := [
  ⟨some 15, .move (.tmp 0), none, []⟩,
 ⟨some 16, .move (.tmp 3), none, []⟩,
 ⟨some 17, .indexAddr 3 (.tmp 15) (.tmp 16), none, []⟩,
 ⟨some 18, .fieldAddr 0 (.tmp 17), none, []⟩,
 ⟨some 19, .load none (.tmp 18), none, []⟩,
 ⟨some 20, .call (.const (.fn (.func 88) [] [])) [.tmp 19, .const (.int .i64 0), .const (.int .i64 2000)], none, []⟩,
 ⟨some 21, .move (.tmp 20), none, []⟩,
 ⟨some 22, .move (.tmp 0), (some (21, false)), []⟩,
 ⟨some 23, .move (.tmp 3), (some (21, false)), []⟩,
 ⟨some 24, .indexAddr 3 (.tmp 22) (.tmp 23), (some (21, false)), []⟩,
 ⟨some 25, .fieldAddr 1 (.tmp 24), (some (21, false)), []⟩,
 ⟨some 26, .load none (.tmp 25), (some (21, false)), []⟩,
 ⟨some 27, .call (.const (.fn (.func 88) [] [])) [.tmp 26, .const (.int .i64 0), .const (.int .i64 2000)], (some (21, false)), []⟩,
 ⟨some 28, .pick (.tmp 21) (.const (.bool true)) (.tmp 27), none, []⟩]
def k_ref05_CheckFires_r6 : List AOper := [
  ⟨some 2, .move (.const (.int .i64 2)), none, []⟩]
def k_ref05_CheckFires_r7 : List AOper := [
  ⟨some 4, .move (.const (.int .i64 0)), none, []⟩]
def k_ref05_CheckFires_r8 : List AOper := [
  ⟨some 29, .move (.tmp 4), none, []⟩,
 ⟨some 30, .move (.tmp 0), none, []⟩,
 ⟨some 31, .move (.tmp 3), none, []⟩,
 ⟨some 32, .indexAddr 3 (.tmp 30) (.tmp 31), none, []⟩,
 ⟨some 33, .fieldAddr 2 (.tmp 32), none, []⟩,
 ⟨some 34, .load none (.tmp 33), none, []⟩,
 ⟨some 35, .len false (.tmp 34), none, []⟩,
 ⟨some 36, .bin .plain .lss (.tmp 29) (.tmp 35), none, []⟩]
def k_ref05_CheckFires_r9 : List AOper := [
  ⟨some 39, .move (.tmp 0), none, []⟩,
 ⟨some 40, .move (.tmp 3), none, []⟩,
 ⟨some 41, .indexAddr 3 (.tmp 39) (.tmp 40), none, []⟩,
 ⟨some 42, .fieldAddr 2 (.tmp 41), none, []⟩,
 ⟨some 43, .load none (.tmp 42), none, []⟩,
 ⟨some 44, .move (.tmp 4), none, []⟩,
 ⟨some 45, .indexAddr 1 (.tmp 43) (.tmp 44), none, []⟩,
 ⟨some 46, .load none (.tmp 45), none, []⟩,
 ⟨some 5, .move (.tmp 46), none, []⟩]
def k_ref05_CheckFires_r10 : List AOper := [
  ⟨some 48, .move (.tmp 5), none, []⟩,
 ⟨some 49, .move (.tmp 0), none, []⟩,
 ⟨some 50, .len false (.tmp 49), none, []⟩,
 ⟨some 51, .bin .plain .sub (.tmp 50) (.const (.int .i64 1)), none, []⟩,
 ⟨some 52, .call (.const (.fn (.func 88) [] [])) [.tmp 48, .const (.int .i64 0), .tmp 51], none, []⟩,
 ⟨some 47, .move (.tmp 52), none, []⟩]
def k_ref05_CheckFires_r11 : List AOper := [
  ⟨some 2, .move (.const (.int .i64 2)), none, []⟩]
def k_ref05_CheckFires_r12 : List AOper := [
  ⟨some 54, .move (.tmp 5), none, []⟩,
 ⟨some 55, .move (.tmp 3), none, []⟩,
 ⟨some 56, .bin .plain .eql (.tmp 54) (.tmp 55), none, []⟩,
 ⟨some 53, .move (.tmp 56), none, []⟩]
def k_ref05_CheckFires_r13 : List AOper := [
  ⟨some 2, .move (.const (.int .i64 12)), none, []⟩]
def k_ref05_CheckFires_r14 : List AOper := [
  ⟨some 58, .move (.tmp 4), none, []⟩,
 ⟨some 59, .bin .plain .gtr (.tmp 58) (.const (.int .i64 0)), none, []⟩,
 ⟨some 60, .move (.tmp 59), none, []⟩,
 ⟨some 61, .move (.tmp 5), (some (60, true)), []⟩,
 ⟨some 62, .move (.tmp 0), (some (60, true)), []⟩,
 ⟨some 63, .move (.tmp 3), (some (60, true)), []⟩,
 ⟨some 64, .indexAddr 3 (.tmp 62) (.tmp 63), (some (60, true)), []⟩,
 ⟨some 65, .fieldAddr 2 (.tmp 64), (some (60, true)), []⟩,
 ⟨some 66, .load none (.tmp 65), (some (60, true)), []⟩,
 ⟨some 67, .move (.tmp 4), (some (60, true)), []⟩,
 ⟨some 68, .bin .plain .sub (.tmp 67) (.const (.int .i64 1)), (some (60, true)), []⟩,
 ⟨some 69, .indexAddr 1 (.tmp 66) (.tmp 68), (some (60, true)), []⟩,
 ⟨some 70, .load none (.tmp 69), (some (60, true)), []⟩,
 ⟨some 71, .bin .plain .leq (.tmp 61) (.tmp 70), (some (60, true)), []⟩,
 ⟨some 72, .pick (.tmp 60) (.tmp 71) (.const (.bool false)), none, []⟩,
 ⟨some 57, .move (.tmp 72), none, []⟩]
def k_ref05_CheckFires_r15 : List AOper := [
  ⟨some 2, .move (.const (.int .i64 11)), none, []⟩]
def k_ref05_CheckFires_r16 : List AOper := [
  ⟨some 37, .move (.tmp 4), none, []⟩,
 ⟨some 38, .bin .plain .add (.tmp 37) (.const (.int .i64 1)), none, []⟩,
 ⟨some 4, .move (.tmp 38), none, []⟩]
def k_ref05_CheckFires_r17 : ACode := (.seq (.seq (.reg k_ref05_CheckFires_r8 false) (.cond (.tmp 36) .skip (.exit 2))) (.seq (.block 3 (.seq (.reg k_ref05_CheckFires_r9 false) (.block 4 (.seq (.reg k_ref05_CheckFires_r10 false) (.cond (.tmp 47) (.seq (.reg k_ref05_CheckFires_r11 false) .ret) (.seq (.reg k_ref05_CheckFires_r12 false) (.cond (.tmp 53) (.seq (.reg k_ref05_CheckFires_r13 false) .ret) (.seq (.reg k_ref05_CheckFires_r14 false) (.cond (.tmp 57) (.seq (.reg k_ref05_CheckFires_r15 false) .ret) .skip))))))))) (.reg k_ref05_CheckFires_r16 false)))
def k_ref05_CheckFires_r18 : List AOper := [
  ⟨some 13, .move (.tmp 3), none, []⟩,
 ⟨some 14, .bin .plain .add (.tmp 13) (.const (.int .i64 1)), none, []⟩,
 ⟨some 3, .move (.tmp 14), none, []⟩]
def k_ref05_CheckFires_r19 : ACode := (.seq (.seq (.reg k_ref05_CheckFires_r4 false) (.cond (.tmp 12) .skip (.exit 0))) (.seq (.block 1 (.seq (.seq (.reg k_ref05_CheckFires_r5 false) (.cond (.tmp 28) (.seq (.reg k_ref05_CheckFires_r6 false) .ret) .skip)) (.seq (.reg k_ref05_CheckFires_r7 false) (.block 2 (.loop k_ref05_CheckFires_r17))))) (.reg k_ref05_CheckFires_r18 false)))
def k_ref05_CheckFires_r20 : List AOper := [
  ⟨some 2, .move (.const (.int .i64 0)), none, []⟩]
def k_ref05_CheckFires : AFun := { params := 1, ntmps := 73, body := (.seq (.reg k_ref05_CheckFires_r0 false) (.seq (.seq (.reg k_ref05_CheckFires_r1 false) (.cond (.tmp 8) (.seq (.reg k_ref05_CheckFires_r2 false) .ret) .skip)) (.seq (.seq (.reg k_ref05_CheckFires_r3 false) (.block 0 (.loop k_ref05_CheckFires_r19))) (.seq (.reg k_ref05_CheckFires_r20 false) .ret)))), res := [.tmp 2] }
theorem k_ref05_CheckFires_ok : cfun Try.prog Try.f35 = k_ref05_CheckFires := by kernel_rfl

def k_kit_SameStuffs_r0 : List AOper := [
  ⟨some 2, .box (.tmp 0), none, []⟩,
 ⟨some 3, .box (.tmp 1), none, []⟩,
 ⟨some 4, .move (.const (.bool false)), none, []⟩]
def k_kit_SameStuffs_r1 : List AOper := [
  ⟨some 6, .fieldAddr 0 (.tmp 2), none, []⟩,
 ⟨some 7, .load none (.tmp 6), none, []⟩,
 ⟨some 8, .fieldAddr 0 (.tmp 3), none, []⟩,
 ⟨some 9, .load none (.tmp 8), none, []⟩,
 ⟨some 10, .bin .plain .neq (.tmp 7) (.tmp 9), none, []⟩,
 ⟨some 11, .move (.tmp 10), none, []⟩,
 ⟨some 12, .fieldAddr 1 (.tmp 2), (some (11, false)), []⟩,
 ⟨some 13, .load none (.tmp 12), (some (11, false)), []⟩,
 ⟨some 14, .len false (.tmp 13), (some (11, false)), []⟩,
 ⟨some 15, .fieldAddr 1 (.tmp 3), (some (11, false)), []⟩,
 ⟨some 16, .load none (.tmp 15), (some (11, false)), []⟩,
 ⟨some 17, .len false (.tmp 16), (some (11, false)), []⟩,
 ⟨some 18, .bin .plain .neq (.tmp 14) (.tmp 17), (some (11, false)), []⟩,
 ⟨some 19, .pick (.tmp 11) (.const (.bool true)) (.tmp 18), none, []⟩]
def k_kit_SameStuffs_r2 : List AOper := [
  ⟨some 4, .move (.const (.bool false)), none, []⟩]
def k_kit_SameStuffs_r3 : List AOper := [
  ⟨some 5, .move (.const (.int .i64 0)), none, []⟩]
def k_kit_SameStuffs_r4 : List AOper := [
  ⟨some 20, .move (.tmp 5), none, []⟩,
 ⟨some 21, .fieldAddr 1 (.tmp 2), none, []⟩,
 ⟨some 22, .load none (.tmp 21), none, []⟩,
 ⟨some 23, .len false (.tmp 22), none, []⟩,
 ⟨some 24, .bin .plain .lss (.tmp 20) (.tmp 23), none, []⟩]
def k_kit_SameStuffs_r5 : List AOper := [
  ⟨some 27, .fieldAddr 1 (.tmp 2), none, []⟩,
 ⟨some 28, .load none (.tmp 27), none, []⟩,
 ⟨some 29, .move (.tmp 5), none, [0, 1]⟩,
 ⟨some 30, .indexAddr 5 (.tmp 28) (.tmp 29), none, []⟩,
 ⟨some 31, .load (some (5)) (.tmp 30), none, []⟩,
 ⟨some 32, .fieldAddr 1 (.tmp 3), none, [0, 1, 2, 3, 4]⟩,
 ⟨some 33, .load none (.tmp 32), none, [0, 1, 2, 3, 4]⟩,
 ⟨some 34, .move (.tmp 5), none, [0, 1, 2, 3, 4, 5, 6]⟩,
 ⟨some 35, .indexAddr 5 (.tmp 33) (.tmp 34), none, [0, 1, 2, 3, 4]⟩,
 ⟨some 36, .load (some (5)) (.tmp 35), none, [0, 1, 2, 3, 4]⟩,
 ⟨some 37, .eqAgg true [.int, .int, .int, .int, .int] (.tmp 31) (.tmp 36), none, []⟩]
def k_kit_SameStuffs_r5s : List (List AOper) := [
  [
  ⟨some 27, .fieldAddr 1 (.tmp 2), none, []⟩,
 ⟨some 28, .load none (.tmp 27), none, []⟩,
 ⟨some 29, .move (.tmp 5), none, [0, 1]⟩,
 ⟨some 30, .indexAddr 5 (.tmp 28) (.tmp 29), none, []⟩,
 ⟨some 31, .load (some (5)) (.tmp 30), none, []⟩,
 ⟨some 32, .fieldAddr 1 (.tmp 3), none, [0, 1, 2, 3, 4]⟩,
 ⟨some 33, .load none (.tmp 32), none, [0, 1, 2, 3, 4]⟩,
 ⟨some 34, .move (.tmp 5), none, [0, 1, 2, 3, 4, 5, 6]⟩,
 ⟨some 35, .indexAddr 5 (.tmp 33) (.tmp 34), none, [0, 1, 2, 3, 4]⟩,
 ⟨some 36, .load (some (5)) (.tmp 35), none, [0, 1, 2, 3, 4]⟩], 
  [
  ⟨some 37, .eqAgg true [.int, .int, .int, .int, .int] (.tmp 31) (.tmp 36), none, []⟩]]
theorem k_kit_SameStuffs_r5_sg : segs k_kit_SameStuffs_r5 = k_kit_SameStuffs_r5s := by kernel_rfl
theorem k_kit_SameStuffs_r5_st : statOK k_kit_SameStuffs_r5 = true := by kernel_rfl
def k_kit_SameStuffs_r6 : List AOper := [
  ⟨some 4, .move (.const (.bool false)), none, []⟩]
def k_kit_SameStuffs_r7 : List AOper := [
  ⟨some 25, .move (.tmp 5), none, []⟩,
 ⟨some 26, .bin .plain .add (.tmp 25) (.const (.int .i64 1)), none, []⟩,
 ⟨some 5, .move (.tmp 26), none, []⟩]
def k_kit_SameStuffs_r8 : ACode := (.seq (.seq (.reg k_kit_SameStuffs_r4 false) (.cond (.tmp 24) .skip (.exit 0))) (.seq (.block 1 (.seq (.reg k_kit_SameStuffs_r5 true) (.cond (.tmp 37) (.seq (.reg k_kit_SameStuffs_r6 false) .ret) .skip))) (.reg k_kit_SameStuffs_r7 false)))
def k_kit_SameStuffs_r9 : List AOper := [
  ⟨some 4, .move (.const (.bool true)), none, []⟩]
def k_kit_SameStuffs : AFun := { params := 2, ntmps := 38, body := (.seq (.reg k_kit_SameStuffs_r0 false) (.seq (.seq (.reg k_kit_SameStuffs_r1 false) (.cond (.tmp 19) (.seq (.reg k_kit_SameStuffs_r2 false) .ret) .skip)) (.seq (.seq (.reg k_kit_SameStuffs_r3 false) (.block 0 (.loop k_kit_SameStuffs_r8))) (.seq (.reg k_kit_SameStuffs_r9 false) .ret)))), res := [.tmp 4] }
theorem k_kit_SameStuffs_ok : cfun Try.prog Try.f36 = k_kit_SameStuffs := by kernel_rfl

def k_ref05_SameOvens_r0 : List AOper := [
  ⟨some 2, .box (.tmp 0), none, []⟩,
 ⟨some 3, .box (.tmp 1), none, []⟩,
 ⟨some 4, .move (.const (.bool false)), none, []⟩]
def k_ref05_SameOvens_r1 : List AOper := [
  ⟨some 6, .fieldAddr 0 (.tmp 2), none, []⟩,
 ⟨some 7, .load none (.tmp 6), none, []⟩,
 ⟨some 8, .fieldAddr 0 (.tmp 3), none, []⟩,
 ⟨some 9, .load none (.tmp 8), none, []⟩,
 ⟨some 10, .bin .plain .neq (.tmp 7) (.tmp 9), none, []⟩,
 ⟨some 11, .move (.tmp 10), none, []⟩,
 ⟨some 12, .fieldAddr 1 (.tmp 2), (some (11, false)), []⟩,
 ⟨some 13, .load none (.tmp 12), (some (11, false)), []⟩,
 ⟨some 14, .len false (.tmp 13), (some (11, false)), []⟩,
 ⟨some 15, .fieldAddr 1 (.tmp 3), (some (11, false)), []⟩,
 ⟨some 16, .load none (.tmp 15), (some (11, false)), []⟩,
 ⟨some 17, .len false (.tmp 16), (some (11, false)), []⟩,
 ⟨some 18, .bin .plain .neq (.tmp 14) (.tmp 17), (some (11, false)), []⟩,
 ⟨some 19, .pick (.tmp 11) (.const (.bool true)) (.tmp 18), none, []⟩]
def k_ref05_SameOvens_r2 : List AOper := [
  ⟨some 4, .move (.const (.bool false)), none, []⟩]
def k_ref05_SameOvens_r3 : List AOper := [
  ⟨some 5, .move (.const (.int .i64 0)), none, []⟩]
def k_ref05_SameOvens_r4 : List AOper := [
  ⟨some 20, .move (.tmp 5), none, []⟩,
 ⟨some 21, .fieldAddr 1 (.tmp 2), none, []⟩,
 ⟨some 22, .load none (.tmp 21), none, []⟩,
 ⟨some 23, .len false (.tmp 22), none, []⟩,
 ⟨some 24, .bin .plain .lss (.tmp 20) (.tmp 23), none, []⟩]
def k_ref05_SameOvens_r5 : List AOper := [
  ⟨some 27, .fieldAddr 1 (.tmp 2), none, []⟩,
 ⟨some 28, .load none (.tmp 27), none, []⟩,
 ⟨some 29, .move (.tmp 5), none, [0, 1]⟩,
 ⟨some 30, .indexAddr 2 (.tmp 28) (.tmp 29), none, []⟩,
 ⟨some 31, .load (some (2)) (.tmp 30), none, []⟩,
 ⟨some 32, .fieldAddr 1 (.tmp 3), none, [0, 1, 2, 3, 4]⟩,
 ⟨some 33, .load none (.tmp 32), none, [0, 1, 2, 3, 4]⟩,
 ⟨some 34, .move (.tmp 5), none, [0, 1, 2, 3, 4, 5, 6]⟩,
 ⟨some 35, .indexAddr 2 (.tmp 33) (.tmp 34), none, [0, 1, 2, 3, 4]⟩,
 ⟨some 36, .load (some (2)) (.tmp 35), none, [0, 1, 2, 3, 4]⟩,
 ⟨some 37, .eqAgg true [.int, .int] (.tmp 31) (.tmp 36), none, []⟩]
def k_ref05_SameOvens_r5s : List (List AOper) := [
  [
  ⟨some 27, .fieldAddr 1 (.tmp 2), none, []⟩,
 ⟨some 28, .load none (.tmp 27), none, []⟩,
 ⟨some 29, .move (.tmp 5), none, [0, 1]⟩,
 ⟨some 30, .indexAddr 2 (.tmp 28) (.tmp 29), none, []⟩,
 ⟨some 31, .load (some (2)) (.tmp 30), none, []⟩,
 ⟨some 32, .fieldAddr 1 (.tmp 3), none, [0, 1, 2, 3, 4]⟩,
 ⟨some 33, .load none (.tmp 32), none, [0, 1, 2, 3, 4]⟩,
 ⟨some 34, .move (.tmp 5), none, [0, 1, 2, 3, 4, 5, 6]⟩,
 ⟨some 35, .indexAddr 2 (.tmp 33) (.tmp 34), none, [0, 1, 2, 3, 4]⟩,
 ⟨some 36, .load (some (2)) (.tmp 35), none, [0, 1, 2, 3, 4]⟩], 
  [
  ⟨some 37, .eqAgg true [.int, .int] (.tmp 31) (.tmp 36), none, []⟩]]
theorem k_ref05_SameOvens_r5_sg : segs k_ref05_SameOvens_r5 = k_ref05_SameOvens_r5s := by kernel_rfl
theorem k_ref05_SameOvens_r5_st : statOK k_ref05_SameOvens_r5 = true := by kernel_rfl
def k_ref05_SameOvens_r6 : List AOper := [
  ⟨some 4, .move (.const (.bool false)), none, []⟩]
def k_ref05_SameOvens_r7 : List AOper := [
  ⟨some 25, .move (.tmp 5), none, []⟩,
 ⟨some 26, .bin .plain .add (.tmp 25) (.const (.int .i64 1)), none, []⟩,
 ⟨some 5, .move (.tmp 26), none, []⟩]
def k_ref05_SameOvens_r8 : ACode := (.seq (.seq (.reg k_ref05_SameOvens_r4 false) (.cond (.tmp 24) .skip (.exit 0))) (.seq (.block 1 (.seq (.reg k_ref05_SameOvens_r5 true) (.cond (.tmp 37) (.seq (.reg k_ref05_SameOvens_r6 false) .ret) .skip))) (.reg k_ref05_SameOvens_r7 false)))
def k_ref05_SameOvens_r9 : List AOper := [
  ⟨some 4, .move (.const (.bool true)), none, []⟩]
def k_ref05_SameOvens : AFun := { params := 2, ntmps := 38, body := (.seq (.reg k_ref05_SameOvens_r0 false) (.seq (.seq (.reg k_ref05_SameOvens_r1 false) (.cond (.tmp 19) (.seq (.reg k_ref05_SameOvens_r2 false) .ret) .skip)) (.seq (.seq (.reg k_ref05_SameOvens_r3 false) (.block 0 (.loop k_ref05_SameOvens_r8))) (.seq (.reg k_ref05_SameOvens_r9 false) .ret)))), res := [.tmp 4] }
theorem k_ref05_SameOvens_ok : cfun Try.prog Try.f37 = k_ref05_SameOvens := by kernel_rfl

def k_kit_SameFires_r0 : List AOper := [
  ⟨some 4, .move (.const (.bool false)), none, []⟩]
def k_kit_SameFires_r1 : List AOper := [
  ⟨some 6, .move (.tmp 0), none, []⟩,
 ⟨some 7, .len false (.tmp 6), none, []⟩,
 ⟨some 8, .move (.tmp 1), none, []⟩,
 ⟨some 9, .len false (.tmp 8), none, []⟩,
 ⟨some 10, .bin .plain .neq (.tmp 7) (.tmp 9), none, []⟩]
def k_kit_SameFires_r2 : List AOper := [
  ⟨some 4, .move (.const (.bool false)), none, []⟩]
def k_kit_SameFires_r3 : List AOper := [
  ⟨some 5, .move (.const (.int .i64 0)), none, []⟩]
def k_kit_SameFires_r4 : List AOper := [
  ⟨some 11, .move (.tmp 5), none, []⟩,
 ⟨some 12, .move (.tmp 0), none, []⟩,
 ⟨some 13, .len false (.tmp 12), none, []⟩,
 ⟨some 14, .bin .plain .lss (.tmp 11) (.tmp 13), none, []⟩]
def k_kit_SameFires_r5 : List AOper := [
  ⟨some 17, .move (.tmp 0), none, []⟩,
 ⟨some 18, .move (.tmp 5), none, [0]⟩,
 ⟨some 19, .indexAddr 3 (.tmp 17) (.tmp 18), none, []⟩,
 ⟨some 20, .fieldAddr 0 (.tmp 19), none, []⟩,
 ⟨some 21, .load none (.tmp 20), none, []⟩,
 ⟨some 22, .move (.tmp 1), none, [0, 1, 2, 3, 4]⟩,
 ⟨some 23, .move (.tmp 5), none, [0, 1, 2, 3, 4, 5]⟩,
 ⟨some 24, .indexAddr 3 (.tmp 22) (.tmp 23), none, [0, 1, 2, 3, 4]⟩,
 ⟨some 25, .fieldAddr 0 (.tmp 24), none, [0, 1, 2, 3, 4]⟩,
 ⟨some 26, .load none (.tmp 25), none, [0, 1, 2, 3, 4]⟩,
 ⟨some 27, .bin .plain .neq (.tmp 21) (.tmp 26), none, []⟩,
 ⟨some 28, .move (.tmp 27), none, []⟩,
 ⟨some 29, .move (.tmp 0), (some (28, false)), []⟩,
 ⟨some 30, .move (.tmp 5), (some (28, false)), [12]⟩,
 ⟨some 31, .indexAddr 3 (.tmp 29) (.tmp 30), (some (28, false)), []⟩,
 ⟨some 32, .fieldAddr 1 (.tmp 31), (some (28, false)), []⟩,
 ⟨some 33, .load none (.tmp 32), (some (28, false)), []⟩,
 ⟨some 34, .move (.tmp 1), (some (28, false)), [12, 13, 14, 15, 16]⟩,
 ⟨some 35, .move (.tmp 5), (some (28, false)), [12, 13, 14, 15, 16, 17]⟩,
 ⟨some 36, .indexAddr 3 (.tmp 34) (.tmp 35), (some (28, false)), [12, 13, 14, 15, 16]⟩,
 ⟨some 37, .fieldAddr 1 (.tmp 36), (some (28, false)), [12, 13, 14, 15, 16]⟩,
 ⟨some 38, .load none (.tmp 37), (some (28, false)), [12, 13, 14, 15, 16]⟩,
 ⟨some 39, .bin .plain .neq (.tmp 33) (.tmp 38), (some (28, false)), []⟩,
 ⟨some 40, .pick (.tmp 28) (.const (.bool true)) (.tmp 39), none, []⟩,
 ⟨some 41, .move (.tmp 40), none, []⟩,
 ⟨some 42, .move (.tmp 0), (some (41, false)), []⟩,
 ⟨some 43, .move (.tmp 5), (some (41, false)), [25]⟩,
 ⟨some 44, .indexAddr 3 (.tmp 42) (.tmp 43), (some (41, false)), []⟩,
 ⟨some 45, .fieldAddr 2 (.tmp 44), (some (41, false)), []⟩,
 ⟨some 46, .load none (.tmp 45), (some (41, false)), []⟩,
 ⟨some 47, .move (.tmp 1), (some (41, false)), [25, 26, 27, 28, 29]⟩,
 ⟨some 48, .move (.tmp 5), (some (41, false)), [25, 26, 27, 28, 29, 30]⟩,
 ⟨some 49, .indexAddr 3 (.tmp 47) (.tmp 48), (some (41, false)), [25, 26, 27, 28, 29]⟩,
 ⟨some 50, .fieldAddr 2 (.tmp 49), (some (41, false)), [25, 26, 27, 28, 29]⟩,
 ⟨some 51, .load none (.tmp 50), (some (41, false)), [25, 26, 27, 28, 29]⟩,
 ⟨some 52, .call (.const (.fn (.func 49) [] [])) [.tmp 46, .tmp 51], (some (41, false)), []⟩,
 ⟨some 53, .not (.tmp 52), (some (41, false)), []⟩,
 ⟨some 54, .pick (.tmp 41) (.const (.bool true)) (.tmp 53), none, []⟩]
def k_kit_SameFires_r5s : List (List AOper) := [
  [
  ⟨some 17, .move (.tmp 0), none, []⟩,
 ⟨some 18, .move (.tmp 5), none, [0]⟩,
 ⟨some 19, .indexAddr 3 (.tmp 17) (.tmp 18), none, []⟩,
 ⟨some 20, .fieldAddr 0 (.tmp 19), none, []⟩,
 ⟨some 21, .load none (.tmp 20), none, []⟩,
 ⟨some 22, .move (.tmp 1), none, [0, 1, 2, 3, 4]⟩,
 ⟨some 23, .move (.tmp 5), none, [0, 1, 2, 3, 4, 5]⟩,
 ⟨some 24, .indexAddr 3 (.tmp 22) (.tmp 23), none, [0, 1, 2, 3, 4]⟩,
 ⟨some 25, .fieldAddr 0 (.tmp 24), none, [0, 1, 2, 3, 4]⟩,
 ⟨some 26, .load none (.tmp 25), none, [0, 1, 2, 3, 4]⟩], 
  [
  ⟨some 27, .bin .plain .neq (.tmp 21) (.tmp 26), none, []⟩], 
  [
  ⟨some 28, .move (.tmp 27), none, []⟩], 
  [
  ⟨some 29, .move (.tmp 0), (some (28, false)), []⟩,
 ⟨some 30, .move (.tmp 5), (some (28, false)), [12]⟩,
 ⟨some 31, .indexAddr 3 (.tmp 29) (.tmp 30), (some (28, false)), []⟩,
 ⟨some 32, .fieldAddr 1 (.tmp 31), (some (28, false)), []⟩,
 ⟨some 33, .load none (.tmp 32), (some (28, false)), []⟩,
 ⟨some 34, .move (.tmp 1), (some (28, false)), [12, 13, 14, 15, 16]⟩,
 ⟨some 35, .move (.tmp 5), (some (28, false)), [12, 13, 14, 15, 16, 17]⟩,
 ⟨some 36, .indexAddr 3 (.tmp 34) (.tmp 35), (some (28, false)), [12, 13, 14, 15, 16]⟩,
 ⟨some 37, .fieldAddr 1 (.tmp 36), (some (28, false)), [12, 13, 14, 15, 16]⟩,
 ⟨some 38, .load none (.tmp 37), (some (28, false)), [12, 13, 14, 15, 16]⟩], 
  [
  ⟨some 39, .bin .plain .neq (.tmp 33) (.tmp 38), (some (28, false)), []⟩], 
  [
  ⟨some 40, .pick (.tmp 28) (.const (.bool true)) (.tmp 39), none, []⟩], 
  [
  ⟨some 41, .move (.tmp 40), none, []⟩], 
  [
  ⟨some 42, .move (.tmp 0), (some (41, false)), []⟩,
 ⟨some 43, .move (.tmp 5), (some (41, false)), [25]⟩,
 ⟨some 44, .indexAddr 3 (.tmp 42) (.tmp 43), (some (41, false)), []⟩,
 ⟨some 45, .fieldAddr 2 (.tmp 44), (some (41, false)), []⟩,
 ⟨some 46, .load none (.tmp 45), (some (41, false)), []⟩,
 ⟨some 47, .move (.tmp 1), (some (41, false)), [25, 26, 27, 28, 29]⟩,
 ⟨some 48, .move (.tmp 5), (some (41, false)), [25, 26, 27, 28, 29, 30]⟩,
 ⟨some 49, .indexAddr 3 (.tmp 47) (.tmp 48), (some (41, false)), [25, 26, 27, 28, 29]⟩,
 ⟨some 50, .fieldAddr 2 (.tmp 49), (some (41, false)), [25, 26, 27, 28, 29]⟩,
 ⟨some 51, .load none (.tmp 50), (some (41, false)), [25, 26, 27, 28, 29]⟩], 
  [
  ⟨some 52, .call (.const (.fn (.func 49) [] [])) [.tmp 46, .tmp 51], (some (41, false)), []⟩], 
  [
  ⟨some 53, .not (.tmp 52), (some (41, false)), []⟩], 
  [
  ⟨some 54, .pick (.tmp 41) (.const (.bool true)) (.tmp 53), none, []⟩]]
theorem k_kit_SameFires_r5_sg : segs k_kit_SameFires_r5 = k_kit_SameFires_r5s := by kernel_rfl
theorem k_kit_SameFires_r5_st : statOK k_kit_SameFires_r5 = true := by kernel_rfl
def k_kit_SameFires_r6 : List AOper := [
  ⟨some 4, .move (.const (.bool false)), none, []⟩]
def k_kit_SameFires_r7 : List AOper := [
  ⟨some 15, .move (.tmp 5), none, []⟩,
 ⟨some 16, .bin .plain .add (.tmp 15) (.const (.int .i64 1)), none, []⟩,
 ⟨some 5, .move (.tmp 16), none, []⟩]
def k_kit_SameFires_r8 : ACode := (.seq (.seq (.reg k_kit_SameFires_r4 false) (.cond (.tmp 14) .skip (.exit 0))) (.seq (.block 1 (.seq (.reg k_kit_SameFires_r5 true) (.cond (.tmp 54) (.seq (.reg k_kit_SameFires_r6 false) .ret) .skip))) (.reg k_kit_SameFires_r7 false)))
def k_kit_SameFires_r9 : List AOper := [
  ⟨some 4, .move (.const (.bool true)), none, []⟩]
def k_kit_SameFires : AFun := { params := 2, ntmps := 55, body := (.seq (.reg k_kit_SameFires_r0 false) (.seq (.seq (.reg k_kit_SameFires_r1 false) (.cond (.tmp 10) (.seq (.reg k_kit_SameFires_r2 false) .ret) .skip)) (.seq (.seq (.reg k_kit_SameFires_r3 false) (.block 0 (.loop k_kit_SameFires_r8))) (.seq (.reg k_kit_SameFires_r9 false) .ret)))), res := [.tmp 4] }
theorem k_kit_SameFires_ok : cfun Try.prog Try.f38 = k_kit_SameFires := by kernel_rfl

def k_kit_Own_r0 : List AOper := [
  ⟨some 2, .move (.const (.nilsl)), none, []⟩]
def k_kit_Own_r1 : List AOper := [
  ⟨some 3, .buildSlice 1 [], none, []⟩,
 ⟨some 4, .move (.tmp 0), none, []⟩,
 ⟨some 5, .append 1 8 false (.tmp 3) (.tmp 4), none, []⟩,
 ⟨some 2, .move (.tmp 5), none, []⟩]
def k_kit_Own : AFun := { params := 1, ntmps := 6, body := (.seq (.reg k_kit_Own_r0 false) (.seq (.reg k_kit_Own_r1 false) .ret)), res := [.tmp 2] }
theorem k_kit_Own_ok : cfun Try.prog Try.f84 = k_kit_Own := by kernel_rfl


abbrev n_law05_GlassChecks : Nat := 3
theorem e_law05_GlassChecks : EntryOK Try.prog n_law05_GlassChecks k_law05_GlassChecks := ⟨Try.f3, Try.func3, k_law05_GlassChecks_ok, by kernel_rfl⟩
abbrev n_law05_long : Nat := 19
theorem e_law05_long : EntryOK Try.prog n_law05_long k_law05_long := ⟨Try.f19, Try.func19, k_law05_long_ok, by kernel_rfl⟩
abbrev n_kit_FiresOf : Nat := 24
theorem e_kit_FiresOf : EntryOK Try.prog n_kit_FiresOf k_kit_FiresOf := ⟨Try.f24, Try.func24, k_kit_FiresOf_ok, by kernel_rfl⟩
abbrev n_kit_OwnOven : Nat := 28
theorem e_kit_OwnOven : EntryOK Try.prog n_kit_OwnOven k_kit_OwnOven := ⟨Try.f28, Try.func28, k_kit_OwnOven_ok, by kernel_rfl⟩
abbrev n_kit_OwnFires : Nat := 29
theorem e_kit_OwnFires : EntryOK Try.prog n_kit_OwnFires k_kit_OwnFires := ⟨Try.f29, Try.func29, k_kit_OwnFires_ok, by kernel_rfl⟩
abbrev n_ref05_CheckFires : Nat := 35
theorem e_ref05_CheckFires : EntryOK Try.prog n_ref05_CheckFires k_ref05_CheckFires := ⟨Try.f35, Try.func35, k_ref05_CheckFires_ok, by kernel_rfl⟩
abbrev n_kit_SameStuffs : Nat := 36
theorem e_kit_SameStuffs : EntryOK Try.prog n_kit_SameStuffs k_kit_SameStuffs := ⟨Try.f36, Try.func36, k_kit_SameStuffs_ok, by kernel_rfl⟩
abbrev n_ref05_SameOvens : Nat := 37
theorem e_ref05_SameOvens : EntryOK Try.prog n_ref05_SameOvens k_ref05_SameOvens := ⟨Try.f37, Try.func37, k_ref05_SameOvens_ok, by kernel_rfl⟩
abbrev n_kit_SameFires : Nat := 38
theorem e_kit_SameFires : EntryOK Try.prog n_kit_SameFires k_kit_SameFires := ⟨Try.f38, Try.func38, k_kit_SameFires_ok, by kernel_rfl⟩
abbrev n_kit_Own : Nat := 84
theorem e_kit_Own : EntryOK Try.prog n_kit_Own k_kit_Own := ⟨Try.f84, Try.func84, k_kit_Own_ok, by kernel_rfl⟩

attribute [go_sem] k_law05_GlassChecks_r0 k_law05_GlassChecks_r1 k_law05_GlassChecks_r2 k_law05_GlassChecks_r3 k_law05_GlassChecks_r4 k_law05_GlassChecks_r5 k_law05_GlassChecks_r6s k_law05_GlassChecks_r7 k_law05_GlassChecks_r8s k_law05_GlassChecks_r9s k_law05_GlassChecks_r10s k_law05_GlassChecks_r11
attribute [go_sem] k_law05_GlassChecks_r12s k_law05_long_r0 k_law05_long_r1 k_law05_long_r2 k_law05_long_r3 k_law05_long_r4 k_law05_long_r5 k_law05_long_r7 k_kit_FiresOf_r0 k_kit_FiresOf_r1 k_kit_FiresOf_r2 k_kit_FiresOf_r3
attribute [go_sem] k_kit_FiresOf_r4 k_kit_FiresOf_r5 k_kit_FiresOf_r6 k_kit_FiresOf_r7 k_kit_FiresOf_r8 k_kit_FiresOf_r9 k_kit_FiresOf_r10 k_kit_FiresOf_r12 k_kit_FiresOf_r13 k_kit_FiresOf_r15 k_kit_FiresOf_r16 k_kit_FiresOf_r17
attribute [go_sem] k_kit_OwnOven_r0 k_kit_OwnOven_r1 k_kit_OwnOven_r2 k_kit_OwnFires_r0 k_kit_OwnFires_r1 k_kit_OwnFires_r2 k_kit_OwnFires_r3 k_kit_OwnFires_r4 k_kit_OwnFires_r5 k_kit_OwnFires_r7 k_ref05_CheckFires_r0 k_ref05_CheckFires_r1
attribute [go_sem] k_ref05_CheckFires_r2 k_ref05_CheckFires_r3 k_ref05_CheckFires_r4 k_ref05_CheckFires_r5 k_ref05_CheckFires_r6 k_ref05_CheckFires_r7 k_ref05_CheckFires_r8 k_ref05_CheckFires_r9 k_ref05_CheckFires_r10 k_ref05_CheckFires_r11 k_ref05_CheckFires_r12 k_ref05_CheckFires_r13
attribute [go_sem] k_ref05_CheckFires_r14 k_ref05_CheckFires_r15 k_ref05_CheckFires_r16 k_ref05_CheckFires_r18 k_ref05_CheckFires_r20 k_kit_SameStuffs_r0 k_kit_SameStuffs_r1 k_kit_SameStuffs_r2 k_kit_SameStuffs_r3 k_kit_SameStuffs_r4 k_kit_SameStuffs_r5s k_kit_SameStuffs_r6
attribute [go_sem] k_kit_SameStuffs_r7 k_kit_SameStuffs_r9 k_ref05_SameOvens_r0 k_ref05_SameOvens_r1 k_ref05_SameOvens_r2 k_ref05_SameOvens_r3 k_ref05_SameOvens_r4 k_ref05_SameOvens_r5s k_ref05_SameOvens_r6 k_ref05_SameOvens_r7 k_ref05_SameOvens_r9 k_kit_SameFires_r0
attribute [go_sem] k_kit_SameFires_r1 k_kit_SameFires_r2 k_kit_SameFires_r3 k_kit_SameFires_r4 k_kit_SameFires_r5s k_kit_SameFires_r6 k_kit_SameFires_r7 k_kit_SameFires_r9 k_kit_Own_r0 k_kit_Own_r1 k_law05_GlassChecks_r10_sg k_law05_GlassChecks_r6_sg
attribute [go_sem] k_law05_GlassChecks_r8_sg k_kit_SameFires_r5_sg k_kit_SameStuffs_r5_sg k_law05_GlassChecks_r12_sg k_law05_GlassChecks_r9_sg k_ref05_SameOvens_r5_sg k_law05_GlassChecks_r10_st k_law05_GlassChecks_r6_st k_law05_GlassChecks_r8_st k_kit_SameFires_r5_st k_kit_SameStuffs_r5_st k_law05_GlassChecks_r12_st
attribute [go_sem] k_law05_GlassChecks_r9_st k_ref05_SameOvens_r5_st k_law05_GlassChecks k_law05_long k_kit_FiresOf k_kit_OwnOven k_kit_OwnFires k_ref05_CheckFires k_kit_SameStuffs k_ref05_SameOvens k_kit_SameFires k_kit_Own
end Go.Proofs

namespace Go.Proofs
open Go Go.Sx
attribute [local irreducible] Run

structure Fr where
  a : Int
  b : Int
  bf : List Int
  deriving Inhabited
def Fr.v (r : Fr) : AVal := .agg [.int .i64 r.a, .int .i64 r.b, .view (il r.bf)]
@[go_sem] theorem frs_bel (l : List Fr) (S : Nat → Prop) : Bels S (l.map Fr.v) = True := eq_true (bels_map _ _ fun z => by
  have := il_bel z.bf S
  simp [go_sem, Fr.v, this])
def bfE (n i : Nat) (bf : List Int) (k : Nat) : Int := if 0 ≤ bf.getD k 0 ∧ bf.getD k 0 ≤ (n : Int) - 1 then (if bf.getD k 0 = i then 12 else (if 0 < k ∧ bf.getD k 0 ≤ bf.getD (k - 1) 0 then 11 else 0)) else 2
def frE (n i : Nat) (r : Fr) : Int := if 0 ≤ r.a ∧ r.a ≤ 2000 then (if 0 ≤ r.b ∧ r.b ≤ 2000 then fstE (bfE n i r.bf) r.bf.length 0 else 2) else 2
def fiE (l : List Fr) : Int := if l.length > 8 then 8 else fstE (fun i => frE l.length i (l.getD i default)) l.length 0
theorem il_get {P : List Int} {k : Nat} (h : k < P.length) : (il P)[k]? = some (.int .i64 (P.getD k 0)) := by
  unfold il; rw [List.getElem?_map, List.getD_eq_getElem?_getD, List.getElem?_eq_getElem h]; rfl
set_option maxHeartbeats 8000000 in
set_option maxRecDepth 20000 in
theorem CheckFires_raw (l : List Fr) (hb : ∀ r ∈ l, r.bf.length ≤ 1000000) : Ans Try.prog n_glass_CheckFires [.view (l.map Fr.v)] [] (.int .i64 (fiE l)) [] := by
  unfold fiE
  refine spec_run e_glass_CheckFires fun G => ?_
  by_cases hn : l.length > 8
  · have c1 : (l.length : Int) > 8 := by omega
    rw [if_pos hn]
    simp only [go_sem, c1, List.length_map]
  have c1 : ¬ (l.length : Int) > 8 := by omega
  rw [if_neg hn]
  simp only [go_sem, c1, List.length_map]
  obtain ⟨er, her⟩ : ∃ e, (fun i => frE l.length i (l.getD i default)) = e := ⟨_, rfl⟩
  have herE : ∀ i, er i = frE l.length i (l.getD i default) := fun i => by rw [← her]
  rw [her]
  clear her
  obtain ⟨RES, hRES⟩ : ∃ R, fstE er l.length 0 = R := ⟨_, rfl⟩
  rw [hRES]
  refine loop_ind k_glass_CheckFires_r20.eq_1 (fun s : Nat × Heap => s.1 ≤ l.length ∧ fstE er (l.length - s.1) s.1 = RES) (fun s => l.length - s.1)
    (fun s => (tsets 61 [(0, .view (l.map Fr.v)), (2, .int .i64 0), (10, .view (l.map Fr.v)), (11, .int .i64 l.length), (12, .int .i64 s.1)], s.2)) (0, []) ⟨Nat.zero_le _, hRES⟩ (by simp [go_sem]) rfl ?_
  clear hRES
  rintro ⟨i, X⟩ ⟨hi, hR⟩ ih
  dsimp only at hi hR ih ⊢
  by_cases h1 : i < l.length
  · have h2 : (i : Int) < l.length := by omega
    have n0 : ¬ (i : Int) < 0 := by omega
    have h3 : IntKind.i64.wrap ((i : Int) + 1) = ((i + 1 : Nat) : Int) := by rw [w64 (by omega)]; rfl
    obtain ⟨r, hzi⟩ : ∃ p, l[i]? = some p := ⟨_, List.getElem?_eq_getElem h1⟩
    have ez : l.getD i default = r := by rw [List.getD_eq_getElem?_getD, hzi]; rfl
    have hbl := hb r (List.mem_of_getElem? hzi)
    have ihn := fun (h0 : er i = 0) Y => ih (i + 1, Y) (by dsimp only; omega) ⟨h1, by dsimp only; rw [← fstE_go h1 h0]; exact hR⟩
    have hst := fun (h0 : er i ≠ 0) => (fstE_stop h1 h0).symm.trans hR
    have eri := herE i
    rw [ez] at eri
    unfold frE at eri
    clear ih hR herE
    have ilb : ∀ S : Nat → Prop, Bels S (il r.bf) := il_bel _
    by_cases ca : 0 ≤ r.a ∧ r.a ≤ 2000
    rotate_left
    · rw [if_neg ca] at eri
      have hst := hst (by rw [eri]; decide)
      rw [eri] at hst
      subst hst
      simp only [go_sem, h2, n0, hzi, Fr.v]
      refine cP (isHeat_no ca) ?_
      simp only [go_sem]
    rw [if_pos ca] at eri
    by_cases cb : 0 ≤ r.b ∧ r.b ≤ 2000
    rotate_left
    · rw [if_neg cb] at eri
      have hst := hst (by rw [eri]; decide)
      rw [eri] at hst
      subst hst
      simp only [go_sem, h2, n0, hzi, Fr.v]
      refine cP (isHeat_yes ca) ?_
      simp only [go_sem]
      refine cP (isHeat_no cb) ?_
      simp only [go_sem]
    rw [if_pos cb] at eri
    simp only [go_sem, h2, n0, hzi, Fr.v]
    refine cP (isHeat_yes ca) ?_
    simp only [go_sem]
    refine cP (isHeat_yes cb) ?_
    simp only [go_sem, il_len]
    refine loop_indH k_glass_CheckFires_r18.eq_1 (fun k : Nat => k ≤ r.bf.length ∧ fstE (bfE l.length i r.bf) (r.bf.length - k) k = er i) (fun k => r.bf.length - k)
      (fun k => tsets 61 [(0, .view (l.map Fr.v)), (2, .int .i64 0), (3, .int .i64 i), (4, .ptr X.length 0 0 1), (10, .view (l.map Fr.v)), (11, .int .i64 l.length), (12, .int .i64 i), (28, .view (il r.bf)), (29, .int .i64 r.bf.length), (30, .int .i64 k)]) 0 ⟨Nat.zero_le _, eri.symm⟩ (by simp [go_sem]) ?_
    rintro k ⟨hk, hRk⟩ ihk
    by_cases k1 : k < r.bf.length
    · have k2 : (k : Int) < r.bf.length := by omega
      have k0 : ¬ (k : Int) < 0 := by omega
      have k3 : IntKind.i64.wrap ((k : Int) + 1) = ((k + 1 : Nat) : Int) := by rw [w64 (by omega)]; rfl
      have wn : IntKind.i64.wrap ((l.length : Int) - 1) = (l.length : Int) - 1 := w64 (by omega)
      have hg := il_get k1
      have ihm := fun (h0 : bfE l.length i r.bf k = 0) => ihk (k + 1) (by omega) ⟨k1, by rw [← fstE_go k1 h0]; exact hRk⟩
      have hsk := fun (h0 : bfE l.length i r.bf k ≠ 0) => (fstE_stop k1 h0).symm.trans hRk
      clear ihk hRk
      have hbf : bfE l.length i r.bf k = if 0 ≤ r.bf.getD k 0 ∧ r.bf.getD k 0 ≤ (l.length : Int) - 1 then (if r.bf.getD k 0 = i then 12 else (if 0 < k ∧ r.bf.getD k 0 ≤ r.bf.getD (k - 1) 0 then 11 else 0)) else 2 := rfl
      obtain ⟨x, hx⟩ : ∃ x, r.bf.getD k 0 = x := ⟨_, rfl⟩
      rw [hx] at hg hbf
      obtain ⟨e, he⟩ : ∃ e, bfE l.length i r.bf k = e := ⟨_, rfl⟩
      rw [he] at hbf hsk ihm
      by_cases cx : 0 ≤ x ∧ x ≤ (l.length : Int) - 1
      rotate_left
      · rw [if_neg cx] at hbf
        have hs2 := hsk (by rw [hbf]; decide)
        have hst := hst (by rw [← hs2, hbf]; decide)
        rw [← hst, ← hs2, hbf]
        simp only [go_sem, k2, k0, hg, wn, List.length_map]
        refine cP (gwithin_no cx) ?_
        simp only [go_sem]
      rw [if_pos cx] at hbf
      by_cases ci : x = i
      · rw [if_pos ci] at hbf
        have hs2 := hsk (by rw [hbf]; decide)
        have hst := hst (by rw [← hs2, hbf]; decide)
        rw [← hst, ← hs2, hbf]
        have q1 : (x == (i : Int)) = true := by rw [ci]; simp
        simp only [go_sem, k2, k0, hg, wn, List.length_map]
        refine cP (gwithin_yes cx) ?_
        simp only [go_sem, q1]
      rw [if_neg ci] at hbf
      have q1 : (x == (i : Int)) = false := beq_eq_false_iff_ne.2 ci
      by_cases ck : k = 0
      · rw [if_neg (by omega)] at hbf
        have ihm := ihm hbf
        have q2 : ¬ (k : Int) > 0 := by omega
        simp only [go_sem, k2, k0, hg, wn, List.length_map]
        refine cP (gwithin_yes cx) ?_
        simp only [go_sem, q1, q2, k3]
        exact ihm _ (by simp [go_sem])
      · have q2 : (k : Int) > 0 := by omega
        have wk1 : IntKind.i64.wrap ((k : Int) - 1) = ((k - 1 : Nat) : Int) := by rw [w64 (by omega)]; omega
        have k0' : ¬ ((k - 1 : Nat) : Int) < 0 := by omega
        have hg2 := il_get (P := r.bf) (k := k - 1) (by omega)
        obtain ⟨y, hy⟩ : ∃ x, r.bf.getD (k - 1) 0 = x := ⟨_, rfl⟩
        rw [hy] at hg2 hbf
        by_cases cy : x ≤ y
        · rw [if_pos ⟨by omega, cy⟩] at hbf
          have hs2 := hsk (by rw [hbf]; decide)
          have hst := hst (by rw [← hs2, hbf]; decide)
          rw [← hst, ← hs2, hbf]
          simp only [go_sem, k2, k0, hg, wn, List.length_map]
          refine cP (gwithin_yes cx) ?_
          simp only [go_sem, q1, q2, wk1, k0', hg2, Int.toNat_natCast, cy]
        · rw [if_neg fun h => cy h.2] at hbf
          have ihm := ihm hbf
          simp only [go_sem, k2, k0, hg, wn, List.length_map]
          refine cP (gwithin_yes cx) ?_
          simp only [go_sem, q1, q2, wk1, k0', hg2, Int.toNat_natCast, cy, k3]
          exact ihm _ (by simp [go_sem])
    · have k2 : ¬ (k : Int) < r.bf.length := by omega
      obtain rfl : k = r.bf.length := by omega
      rw [fstE_end] at hRk
      have ihn := ihn hRk.symm
      clear ihk
      simp only [go_sem, k2, h3]
      exact ihn _ _ (by simp [go_sem])
  · have h2 : ¬ (i : Int) < l.length := by omega
    obtain rfl : i = l.length := by omega
    rw [fstE_end] at hR
    subst hR
    simp only [go_sem, h2]
end Go.Proofs

namespace Go.Proofs
open Go Go.Sx
attribute [local irreducible] Run

set_option maxHeartbeats 8000000 in
set_option maxRecDepth 20000 in
theorem rCheckFires_raw (l : List Fr) (hb : ∀ r ∈ l, r.bf.length ≤ 1000000) : Ans Try.prog n_ref05_CheckFires [.view (l.map Fr.v)] [] (.int .i64 (fiE l)) [] := by
  unfold fiE
  refine spec_run e_ref05_CheckFires fun G => ?_
  by_cases hn : l.length > 8
  · have c1 : (l.length : Int) > 8 := by omega
    rw [if_pos hn]
    simp only [go_sem, c1, List.length_map]
  have c1 : ¬ (l.length : Int) > 8 := by omega
  rw [if_neg hn]
  simp only [go_sem, c1, List.length_map]
  obtain ⟨er, her⟩ : ∃ e, (fun i => frE l.length i (l.getD i default)) = e := ⟨_, rfl⟩
  have herE : ∀ i, er i = frE l.length i (l.getD i default) := fun i => by rw [← her]
  rw [her]
  clear her
  obtain ⟨RES, hRES⟩ : ∃ R, fstE er l.length 0 = R := ⟨_, rfl⟩
  rw [hRES]
  refine loop_indH k_ref05_CheckFires_r19.eq_1 (fun i : Nat => i ≤ l.length ∧ fstE er (l.length - i) i = RES) (fun i => l.length - i)
    (fun i => tsets 73 [(0, .view (l.map Fr.v)), (2, .int .i64 0), (3, .int .i64 i)]) 0 ⟨Nat.zero_le _, hRES⟩ (by simp [go_sem]) ?_
  clear hRES
  rintro i ⟨hi, hR⟩ ih
  by_cases h1 : i < l.length
  · have h2 : (i : Int) < l.length := by omega
    have n0 : ¬ (i : Int) < 0 := by omega
    have h3 : IntKind.i64.wrap ((i : Int) + 1) = ((i + 1 : Nat) : Int) := by rw [w64 (by omega)]; rfl
    obtain ⟨r, hzi⟩ : ∃ p, l[i]? = some p := ⟨_, List.getElem?_eq_getElem h1⟩
    have ez : l.getD i default = r := by rw [List.getD_eq_getElem?_getD, hzi]; rfl
    have hbl := hb r (List.mem_of_getElem? hzi)
    have ihn := fun (h0 : er i = 0) => ih (i + 1) (by omega) ⟨h1, by rw [← fstE_go h1 h0]; exact hR⟩
    have hst := fun (h0 : er i ≠ 0) => (fstE_stop h1 h0).symm.trans hR
    have eri := herE i
    rw [ez] at eri
    unfold frE at eri
    clear ih hR herE
    have ilb : ∀ S : Nat → Prop, Bels S (il r.bf) := il_bel _
    by_cases ca : 0 ≤ r.a ∧ r.a ≤ 2000
    rotate_left
    · rw [if_neg ca] at eri
      have hst := hst (by rw [eri]; decide)
      rw [eri] at hst
      subst hst
      simp only [go_sem, h2, n0, hzi, Fr.v, List.length_map]
      refine cP (rbeyond_yes ca) ?_
      simp only [go_sem]
    rw [if_pos ca] at eri
    by_cases cb : 0 ≤ r.b ∧ r.b ≤ 2000
    rotate_left
    · rw [if_neg cb] at eri
      have hst := hst (by rw [eri]; decide)
      rw [eri] at hst
      subst hst
      simp only [go_sem, h2, n0, hzi, Fr.v, List.length_map]
      refine cP (rbeyond_no ca) ?_
      simp only [go_sem, h2, n0, hzi, Fr.v, List.length_map]
      refine cP (rbeyond_yes cb) ?_
      simp only [go_sem]
    rw [if_pos cb] at eri
    simp only [go_sem, h2, n0, hzi, Fr.v, List.length_map]
    refine cP (rbeyond_no ca) ?_
    simp only [go_sem, h2, n0, hzi, Fr.v, List.length_map]
    refine cP (rbeyond_no cb) ?_
    simp only [go_sem]
    refine loop_indH k_ref05_CheckFires_r17.eq_1 (fun k : Nat => k ≤ r.bf.length ∧ fstE (bfE l.length i r.bf) (r.bf.length - k) k = er i) (fun k => r.bf.length - k)
      (fun k => tsets 73 [(0, .view (l.map Fr.v)), (2, .int .i64 0), (3, .int .i64 i), (4, .int .i64 k)]) 0 ⟨Nat.zero_le _, eri.symm⟩ (by simp [go_sem]) ?_
    rintro k ⟨hk, hRk⟩ ihk
    by_cases k1 : k < r.bf.length
    · have k2 : (k : Int) < r.bf.length := by omega
      have k0 : ¬ (k : Int) < 0 := by omega
      have k3 : IntKind.i64.wrap ((k : Int) + 1) = ((k + 1 : Nat) : Int) := by rw [w64 (by omega)]; rfl
      have wn : IntKind.i64.wrap ((l.length : Int) - 1) = (l.length : Int) - 1 := w64 (by omega)
      have hg := il_get k1
      have ihm := fun (h0 : bfE l.length i r.bf k = 0) => ihk (k + 1) (by omega) ⟨k1, by rw [← fstE_go k1 h0]; exact hRk⟩
      have hsk := fun (h0 : bfE l.length i r.bf k ≠ 0) => (fstE_stop k1 h0).symm.trans hRk
      clear ihk hRk
      have hbf : bfE l.length i r.bf k = if 0 ≤ r.bf.getD k 0 ∧ r.bf.getD k 0 ≤ (l.length : Int) - 1 then (if r.bf.getD k 0 = i then 12 else (if 0 < k ∧ r.bf.getD k 0 ≤ r.bf.getD (k - 1) 0 then 11 else 0)) else 2 := rfl
      obtain ⟨x, hx⟩ : ∃ x, r.bf.getD k 0 = x := ⟨_, rfl⟩
      rw [hx] at hg hbf
      obtain ⟨e, he⟩ : ∃ e, bfE l.length i r.bf k = e := ⟨_, rfl⟩
      rw [he] at hbf hsk ihm
      by_cases cx : 0 ≤ x ∧ x ≤ (l.length : Int) - 1
      rotate_left
      · rw [if_neg cx] at hbf
        have hs2 := hsk (by rw [hbf]; decide)
        have hst := hst (by rw [← hs2, hbf]; decide)
        rw [← hst, ← hs2, hbf]
        simp only [go_sem, k2, k0, hg, wn, List.length_map, il_len, h2, n0, hzi, Fr.v]
        refine cP (rbeyond_yes cx) ?_
        simp only [go_sem]
      rw [if_pos cx] at hbf
      by_cases ci : x = i
      · rw [if_pos ci] at hbf
        have hs2 := hsk (by rw [hbf]; decide)
        have hst := hst (by rw [← hs2, hbf]; decide)
        rw [← hst, ← hs2, hbf]
        have q1 : (x == (i : Int)) = true := by rw [ci]; simp
        simp only [go_sem, k2, k0, hg, wn, List.length_map, il_len, h2, n0, hzi, Fr.v]
        refine cP (rbeyond_no cx) ?_
        simp only [go_sem, q1]
      rw [if_neg ci] at hbf
      have q1 : (x == (i : Int)) = false := beq_eq_false_iff_ne.2 ci
      by_cases ck : k = 0
      · rw [if_neg (by omega)] at hbf
        have ihm := ihm hbf
        have q2 : ¬ (k : Int) > 0 := by omega
        simp only [go_sem, k2, k0, hg, wn, List.length_map, il_len, h2, n0, hzi, Fr.v]
        refine cP (rbeyond_no cx) ?_
        simp only [go_sem, q1, q2, k3]
        exact ihm _ (by simp [go_sem])
      · have q2 : (k : Int) > 0 := by omega
        have wk1 : IntKind.i64.wrap ((k : Int) - 1) = ((k - 1 : Nat) : Int) := by rw [w64 (by omega)]; omega
        have k0' : ¬ ((k - 1 : Nat) : Int) < 0 := by omega
        have hg2 := il_get (P := r.bf) (k := k - 1) (by omega)
        obtain ⟨y, hy⟩ : ∃ x, r.bf.getD (k - 1) 0 = x := ⟨_, rfl⟩
        rw [hy] at hg2 hbf
        by_cases cy : x ≤ y
        · rw [if_pos ⟨by omega, cy⟩] at hbf
          have hs2 := hsk (by rw [hbf]; decide)
          have hst := hst (by rw [← hs2, hbf]; decide)
          rw [← hst, ← hs2, hbf]
          simp only [go_sem, k2, k0, hg, wn, List.length_map, il_len, h2, n0, hzi, Fr.v]
          refine cP (rbeyond_no cx) ?_
          simp only [go_sem, h2, n0, hzi, Fr.v, il_len, q1, q2, wk1, k0', hg2, Int.toNat_natCast, cy]
        · rw [if_neg fun h => cy h.2] at hbf
          have ihm := ihm hbf
          simp only [go_sem, k2, k0, hg, wn, List.length_map, il_len, h2, n0, hzi, Fr.v]
          refine cP (rbeyond_no cx) ?_
          simp only [go_sem, h2, n0, hzi, Fr.v, il_len, q1, q2, wk1, k0', hg2, Int.toNat_natCast, cy, k3]
          exact ihm _ (by simp [go_sem])
    · have k2 : ¬ (k : Int) < r.bf.length := by omega
      obtain rfl : k = r.bf.length := by omega
      rw [fstE_end] at hRk
      have ihn := ihn hRk.symm
      clear ihk
      simp only [go_sem, h2, n0, hzi, Fr.v, il_len, k2, h3]
      exact ihn _ (by simp [go_sem])
  · have h2 : ¬ (i : Int) < l.length := by omega
    obtain rfl : i = l.length := by omega
    rw [fstE_end] at hR
    subst hR
    simp only [go_sem, h2, List.length_map]
end Go.Proofs

