/- A part of the proof. -/
import Derived.Test.YtmpocglkfgfpbaaPD
set_option linter.unusedSimpArgs false
set_option linter.unusedVariables false
namespace Go.Proofs
open Go Go.Sx
attribute [local irreducible] Run

structure LiH (brk : Int) (zs : List Zn) (th f : Int) (ls : List Lg) (n N : Nat) (r m : Nat) (lr : Row) (J : Heap) : Prop where
  len : m + 7 ≤ J.length
  y : J[m]? = some (some (.cells false 1 [.yfn r]))
  n : J[m + 1]? = some (some (.cells false 1 [.int .i64 n]))
  t : J[m + 2]? = some (some (.cells false 1 [.int .i64 N]))
  w : J[m + 3]? = some (some (.cells false 3 [wlV brk zs th]))
  o : J[m + 4]? = some (some (.cells false 2 [ovV f ls]))
  d : J[m + 5]? = some (some .dfr)
  l : J[m + 6]? = some (some lr)
section
variable {brk : Int} {zs : List Zn} {th f : Int} {ls : List Lg} {n N r m : Nat} {lr : Row} {J K : Heap}
theorem LiH.mono (h : LiH brk zs th f ls n N r m lr J) (hl : J.length ≤ K.length) (hk : ∀ q, m ≤ q → q < J.length → K[q]? = J[q]?) : LiH brk zs th f ls n N r m lr K :=
  have h1 := h.len
  ⟨by omega, by rw [hk _ (by omega) (by omega)]; exact h.y, by rw [hk _ (by omega) (by omega)]; exact h.n, by rw [hk _ (by omega) (by omega)]; exact h.t, by rw [hk _ (by omega) (by omega)]; exact h.w, by rw [hk _ (by omega) (by omega)]; exact h.o,
    by rw [hk _ (by omega) (by omega)]; exact h.d, by rw [hk _ (by omega) (by omega)]; exact h.l⟩
theorem LiH.off (h : LiH brk zs th f ls n N r m lr J) {q : Nat} (hq : m + 7 ≤ q) (x : Option Row) : LiH brk zs th f ls n N r m lr (J.set q x) :=
  ⟨by rw [List.length_set]; exact h.len, by rw [List.getElem?_set_ne (by omega)]; exact h.y, by rw [List.getElem?_set_ne (by omega)]; exact h.n, by rw [List.getElem?_set_ne (by omega)]; exact h.t, by rw [List.getElem?_set_ne (by omega)]; exact h.w, by rw [List.getElem?_set_ne (by omega)]; exact h.o,
    by rw [List.getElem?_set_ne (by omega)]; exact h.d, by rw [List.getElem?_set_ne (by omega)]; exact h.l⟩
theorem LiH.setL (h : LiH brk zs th f ls n N r m lr J) (x : Row) : LiH brk zs th f ls n N r m x (J.set (m + 6) (some x)) :=
  have h1 := h.len
  ⟨by rw [List.length_set]; exact h.len, by rw [List.getElem?_set_ne (by omega)]; exact h.y, by rw [List.getElem?_set_ne (by omega)]; exact h.n, by rw [List.getElem?_set_ne (by omega)]; exact h.t, by rw [List.getElem?_set_ne (by omega)]; exact h.w, by rw [List.getElem?_set_ne (by omega)]; exact h.o,
    by rw [List.getElem?_set_ne (by omega)]; exact h.d, List.getElem?_set_self (by omega)⟩
end

end Go.Proofs

namespace Go.Proofs
open Go Go.Sx

end Go.Proofs

namespace Go.Proofs
open Go Go.Sx
attribute [local irreducible] Run

section
variable {brk hol : Nat → Bool} {num : Nat → Int}
end
section
variable {P : Program} {G : Ctx} {g : FuncId} {args largs : List AVal} {H : Heap} {r : AVal} {k : Nat} {R : Runner} {l : List AOper} {fs : List Sx.Frame} {ρ : List AVal} {ms : List Nat} {Q : Sx.Goal} {dst : Option Nat}
end
end Go.Proofs

namespace Go.Proofs
open Go Go.Sx
attribute [local irreducible] Run

end Go.Proofs

namespace Go.Proofs
open Go Go.Sx
attribute [local irreducible] Run

end Go.Proofs

namespace Go.Proofs
open Go Go.Sx
attribute [local irreducible] Run

def fstE (e : Nat → Int) : Nat → Nat → Int
  | 0, _ => 0
  | n + 1, i => if e i = 0 then fstE e n (i + 1) else e i
theorem fstE_go {e : Nat → Int} {n i : Nat} (h : i < n) (h0 : e i = 0) : fstE e (n - i) i = fstE e (n - (i + 1)) (i + 1) := by
  rw [show n - i = (n - (i + 1)) + 1 by omega, fstE, if_pos h0]
theorem fstE_stop {e : Nat → Int} {n i : Nat} (h : i < n) (h0 : e i ≠ 0) : fstE e (n - i) i = e i := by
  rw [show n - i = (n - (i + 1)) + 1 by omega, fstE, if_neg h0]
theorem fstE_end (e : Nat → Int) (n : Nat) : fstE e (n - n) n = 0 := by rw [Nat.sub_self]; rfl
theorem fstE_zero {e : Nat → Int} : ∀ {n i : Nat}, fstE e n i = 0 → ∀ j, i ≤ j → j < i + n → e j = 0
  | 0, i, _, j, h1, h2 => by omega
  | n + 1, i, h, j, h1, h2 => by
    rw [fstE] at h
    by_cases c : e i = 0
    · rw [if_pos c] at h
      by_cases hj : j = i
      · rw [hj]; exact c
      · exact fstE_zero h j (by omega) (by omega)
    · rw [if_neg c] at h; exact absurd h c

def rgE5 (a b m : Int) : Int := if 0 ≤ a ∧ a ≤ m then (if 0 ≤ b ∧ b ≤ m then (if a > b then 11 else 0) else 2) else 2
theorem rgE5_ok {a b m : Int} (h : rgE5 a b m = 0) : 0 ≤ a ∧ a ≤ b ∧ b ≤ m := by
  unfold rgE5 at h
  split at h
  · split at h
    · split at h
      · simp at h
      · omega
    · simp at h
  · simp at h
theorem gwithin_no {n a b : Int} (h : ¬ (a ≤ n ∧ n ≤ b)) : Ans Try.prog n_glass_within [.int .i64 n, .int .i64 a, .int .i64 b] [] (.bool false) [] := by
  have := gwithin n a b
  rwa [show (decide (a ≤ n) && decide (n ≤ b)) = false by rw [Bool.and_eq_false_iff, decide_eq_false_iff_not, decide_eq_false_iff_not]; omega] at this
theorem isHeat_no {n : Int} (h : ¬ (0 ≤ n ∧ n ≤ 2000)) : Ans Try.prog n_glass_isHeat [.int .i64 n] [] (.bool false) [] := by
  refine spec_run e_glass_isHeat fun G => ?_
  simp only [go_sem]
  refine cP (gwithin_no h) ?_
  simp only [go_sem]
theorem checkRange_raw (a b m : Int) : Ans Try.prog n_glass_checkRange [r2 a b, .int .i64 m] [] (.int .i64 (rgE5 a b m)) [] := by
  unfold rgE5
  refine spec_run e_glass_checkRange fun G => ?_
  by_cases h1 : 0 ≤ a ∧ a ≤ m
  · rw [if_pos h1]
    by_cases h2 : 0 ≤ b ∧ b ≤ m
    · rw [if_pos h2]
      by_cases h3 : a > b
      · simp only [go_sem, r2]
        refine cP (gwithin_yes h1) ?_
        simp only [go_sem]
        refine cP (gwithin_yes h2) ?_
        simp only [go_sem, h3]
      · simp only [go_sem, r2]
        refine cP (gwithin_yes h1) ?_
        simp only [go_sem]
        refine cP (gwithin_yes h2) ?_
        simp only [go_sem, h3]
    · rw [if_neg h2]
      simp only [go_sem, r2]
      refine cP (gwithin_yes h1) ?_
      simp only [go_sem]
      refine cP (gwithin_no h2) ?_
      simp only [go_sem]
  · rw [if_neg h1]
    simp only [go_sem, r2]
    refine cP (gwithin_no h1) ?_
    simp only [go_sem]
theorem rbeyond_yes {n a b : Int} (h : ¬ (a ≤ n ∧ n ≤ b)) : Ans Try.prog n_ref05_beyond [.int .i64 n, .int .i64 a, .int .i64 b] [] (.bool true) [] := by
  refine spec_run e_ref05_beyond fun G => ?_
  by_cases h1 : n < a
  · simp only [go_sem, h1]
  · have h2 : n > b := by omega
    simp only [go_sem, h1, h2]
theorem rcheckRange_raw (a b m : Int) : Ans Try.prog n_ref05_checkRange [r2 a b, .int .i64 m] [] (.int .i64 (rgE5 a b m)) [] := by
  unfold rgE5
  refine spec_run e_ref05_checkRange fun G => ?_
  by_cases h1 : 0 ≤ a ∧ a ≤ m
  · rw [if_pos h1]
    by_cases h2 : 0 ≤ b ∧ b ≤ m
    · rw [if_pos h2]
      by_cases h3 : a > b
      · simp only [go_sem, r2]
        refine cP (rbeyond_no h1) ?_
        simp only [go_sem]
        refine cP (rbeyond_no h2) ?_
        simp only [go_sem, h3]
      · simp only [go_sem, r2]
        refine cP (rbeyond_no h1) ?_
        simp only [go_sem]
        refine cP (rbeyond_no h2) ?_
        simp only [go_sem, h3]
    · rw [if_neg h2]
      simp only [go_sem, r2]
      refine cP (rbeyond_no h1) ?_
      simp only [go_sem]
      refine cP (rbeyond_yes h2) ?_
      simp only [go_sem]
  · rw [if_neg h1]
    simp only [go_sem, r2]
    refine cP (rbeyond_yes h1) ?_
    simp only [go_sem]
def znE (zs : List Zn) (i : Nat) : Int :=
  if 0 ≤ (zs.getD i default).f ∧ (zs.getD i default).f ≤ 2000 then
    (if (i = 0 ∧ (zs.getD i default).f ≠ 0) ∨ (0 < i ∧ (zs.getD i default).f ≤ (zs.getD (i - 1) default).f) then 11 else
      (if rgE5 (zs.getD i default).glo (zs.getD i default).ghi 100000 = 0 then rgE5 (zs.getD i default).rlo (zs.getD i default).rhi 1000000 else rgE5 (zs.getD i default).glo (zs.getD i default).ghi 100000))
  else 2
def stE (brk : Int) (zs : List Zn) : Int := if 1 ≤ brk ∧ brk ≤ 1000000000 then (if zs.length = 0 then 6 else if zs.length > 16 then 8 else fstE (znE zs) zs.length 0) else 2
theorem znE_ok {zs : List Zn} {i : Nat} {z : Zn} (hz : zs[i]? = some z) (h : znE zs i = 0) : ZnOK z ∧ (i = 0 → z.f = 0) ∧ (∀ j y, i = j + 1 → zs[j]? = some y → y.f < z.f) := by
  have e : zs.getD i default = z := by rw [List.getD_eq_getElem?_getD, hz]; rfl
  unfold znE at h
  rw [e] at h
  split at h
  · rename_i h1
    split at h
    · simp at h
    · rename_i h2
      split at h
      · rename_i h3
        refine ⟨⟨h1, rgE5_ok h3, rgE5_ok h⟩, fun hi => by omega, fun j y hj hy => ?_⟩
        subst hj
        rw [Nat.add_sub_cancel, List.getD_eq_getElem?_getD, hy] at h2
        simp only [Option.getD_some] at h2
        omega
      · rename_i h3; exact absurd h h3
  · simp at h
theorem stE_ok {brk : Int} {zs : List Zn} (h : stE brk zs = 0) : StOK brk zs := by
  unfold stE at h
  split at h
  · rename_i h1
    split at h
    · simp at h
    · split at h
      · simp at h
      · rename_i h2 h3
        have hz := fun i (z : Zn) (hz : zs[i]? = some z) => znE_ok hz (fstE_zero h i (Nat.zero_le _) (by have := (List.getElem?_eq_some_iff.1 hz).1; omega))
        refine ⟨h1, ⟨by omega, fun z hm => ?_, fun z h0 => (hz 0 z h0).2.1 rfl, fun i y z hy hz' => (hz (i + 1) z hz').2.2 i y rfl hy⟩⟩
        obtain ⟨i, hi⟩ := List.getElem?_of_mem hm
        exact (hz i z hi).1
  · simp at h
set_option maxHeartbeats 8000000 in
set_option maxRecDepth 10000 in
theorem Check_raw5 (brk : Int) (zs : List Zn) (hl : zs.length ≤ 1000) : Ans Try.prog n_glass_Check [stV brk zs] [] (.int .i64 (stE brk zs)) [] := by
  unfold stE
  refine spec_run e_glass_Check fun G => ?_
  by_cases hb : 1 ≤ brk ∧ brk ≤ 1000000000
  rotate_left
  · rw [if_neg hb]
    simp only [go_sem, stV]
    refine cP (gwithin_no hb) ?_
    simp only [go_sem]
  rw [if_pos hb]
  simp only [go_sem, stV]
  refine cP (gwithin_yes hb) ?_
  by_cases n1 : zs.length = 0
  · have e1 : ((zs.length : Int) == 0) = true := by rw [n1]; rfl
    rw [if_pos n1]
    simp only [go_sem, e1, List.length_map]
  have e1 : ((zs.length : Int) == 0) = false := beq_eq_false_iff_ne.2 (by omega)
  rw [if_neg n1]
  by_cases n2 : zs.length > 16
  · have e2 : (zs.length : Int) > 16 := by omega
    rw [if_pos n2]
    simp only [go_sem, e1, e2, List.length_map]
  have e2 : ¬ (zs.length : Int) > 16 := by omega
  rw [if_neg n2]
  simp only [go_sem, e1, e2, List.length_map]
  obtain ⟨RES, hRES⟩ : ∃ R, fstE (znE zs) zs.length 0 = R := ⟨_, rfl⟩
  rw [hRES]
  refine loop_ind k_glass_Check_r21.eq_1 (fun s : Nat × Heap => s.1 ≤ zs.length ∧ fstE (znE zs) (zs.length - s.1) s.1 = RES) (fun s => zs.length - s.1)
    (fun s => (tsets 67 [(1, .ptr 0 0 0 1), (2, .int .i64 0), (20, .view (zs.map Zn.v)), (21, .int .i64 zs.length), (22, .int .i64 s.1)], some (.cells false 2 [.agg [.int .i64 brk, .view (zs.map Zn.v)]]) :: s.2)) (0, []) ⟨Nat.zero_le _, hRES⟩ (by simp [go_sem]) rfl ?_
  clear hRES
  rintro ⟨i, X⟩ ⟨hi, hR⟩ ih
  dsimp only at hi hR ih ⊢
  by_cases h1 : i < zs.length
  · have h2 : (i : Int) < zs.length := by omega
    have n0 : ¬ (i : Int) < 0 := by omega
    have h3 : IntKind.i64.wrap ((i : Int) + 1) = ((i + 1 : Nat) : Int) := by rw [w64 (by omega)]; rfl
    obtain ⟨z, hzi⟩ : ∃ z, zs[i]? = some z := ⟨_, List.getElem?_eq_getElem h1⟩
    have ez : zs.getD i default = z := by rw [List.getD_eq_getElem?_getD, hzi]; rfl
    have ihn := fun (h0 : znE zs i = 0) Y => ih (i + 1, Y) (by dsimp only; omega) ⟨h1, by dsimp only; rw [← fstE_go h1 h0]; exact hR⟩
    have hst := fun (h0 : znE zs i ≠ 0) => (fstE_stop h1 h0).symm.trans hR
    clear ih hR
    have k1 := checkRange_raw z.glo z.ghi 100000
    have k2 := checkRange_raw z.rlo z.rhi 1000000
    simp only [r2] at k1 k2
    unfold znE at ihn hst
    rw [ez] at ihn hst
    by_cases c1 : 0 ≤ z.f ∧ z.f ≤ 2000
    rotate_left
    · rw [if_neg c1] at hst
      have hst := hst (by decide)
      subst hst
      simp only [go_sem, h2, n0, hzi, Zn.v, Zn.cs]
      refine cP (isHeat_no c1) ?_
      simp only [go_sem]
    rw [if_pos c1] at hst ihn
    obtain ⟨g, hg⟩ : ∃ g, rgE5 z.glo z.ghi 100000 = g := ⟨_, rfl⟩
    obtain ⟨r, hr⟩ : ∃ g, rgE5 z.rlo z.rhi 1000000 = g := ⟨_, rfl⟩
    rw [hg] at k1 hst ihn
    rw [hr] at k2 hst ihn
    simp only [go_sem, h2, n0, hzi, Zn.v, Zn.cs]
    refine cP (isHeat_yes c1) ?_
    by_cases h0 : i = 0
    · subst h0
      have e0 : (((0 : Nat) : Int) == 0) = true := rfl
      have e3 : ¬ (0 : Int) < ((0 : Nat) : Int) := by omega
      by_cases c2 : z.f = 0
      · have e4 : (z.f != 0) = false := by rw [c2]; rfl
        rw [if_neg (by omega)] at hst ihn
        simp only [go_sem, e0, e3, e4]
        refine cP k1 ?_
        by_cases c3 : g = 0
        · have e5 : (g != 0) = false := by rw [c3]; rfl
          rw [if_pos c3] at hst ihn
          simp only [go_sem, e5]
          refine cP k2 ?_
          by_cases c4 : r = 0
          · have e6 : (r != 0) = false := by rw [c4]; rfl
            simp only [go_sem, e6, h3]
            exact ihn c4 _ _ (by simp [go_sem]; rfl)
          · have e6 : (r != 0) = true := by simpa using c4
            have hst := hst c4
            subst hst
            simp only [go_sem, e6]
        · have e5 : (g != 0) = true := by simpa using c3
          rw [if_neg c3] at hst
          have hst := hst c3
          subst hst
          simp only [go_sem, e5]
      · have e4 : (z.f != 0) = true := by simpa using c2
        rw [if_pos (by omega)] at hst
        have hst := hst (by decide)
        subst hst
        simp only [go_sem, e0, e3, e4]
    · have e0 : ((i : Int) == 0) = false := beq_eq_false_iff_ne.2 (by omega)
      have e3 : (0 : Int) < (i : Int) := by omega
      obtain ⟨j, rfl⟩ : ∃ j, i = j + 1 := ⟨i - 1, by omega⟩
      obtain ⟨y, hy⟩ : ∃ y, zs[j]? = some y := ⟨_, List.getElem?_eq_getElem (by omega)⟩
      have ey : zs.getD (j + 1 - 1) default = y := by rw [Nat.add_sub_cancel, List.getD_eq_getElem?_getD, hy]; rfl
      have e7 : IntKind.i64.wrap (((j + 1 : Nat) : Int) - 1) = j := by rw [w64 (by omega)]; omega
      have e8 : ¬ (j : Int) < 0 := by omega
      rw [ey] at hst ihn
      by_cases c2 : y.f < z.f
      · have e4 : ¬ z.f ≤ y.f := by omega
        rw [if_neg (by omega)] at hst ihn
        simp only [go_sem, e0, e3, e4, e7, e8, hy, Int.toNat_natCast, Zn.v, Zn.cs]
        refine cP k1 ?_
        by_cases c3 : g = 0
        · have e5 : (g != 0) = false := by rw [c3]; rfl
          rw [if_pos c3] at hst ihn
          simp only [go_sem, e5]
          refine cP k2 ?_
          by_cases c4 : r = 0
          · have e6 : (r != 0) = false := by rw [c4]; rfl
            simp only [go_sem, e6, h3]
            exact ihn c4 _ _ (by simp [go_sem])
          · have e6 : (r != 0) = true := by simpa using c4
            have hst := hst c4
            subst hst
            simp only [go_sem, e6]
        · have e5 : (g != 0) = true := by simpa using c3
          rw [if_neg c3] at hst
          have hst := hst c3
          subst hst
          simp only [go_sem, e5]
      · have e4 : z.f ≤ y.f := by omega
        rw [if_pos (by omega)] at hst
        have hst := hst (by decide)
        subst hst
        simp only [go_sem, e0, e3, e4, e7, e8, hy, Int.toNat_natCast, Zn.v, Zn.cs]
  · have h2 : ¬ (i : Int) < zs.length := by omega
    obtain rfl : i = zs.length := by omega
    rw [fstE_end] at hR
    subst hR
    simp only [go_sem, h2]
set_option maxHeartbeats 8000000 in
set_option maxRecDepth 10000 in
theorem rCheck_raw5 (brk : Int) (zs : List Zn) (hl : zs.length ≤ 1000) : Ans Try.prog n_ref05_Check [stV brk zs] [] (.int .i64 (stE brk zs)) [] := by
  unfold stE
  refine spec_run e_ref05_Check fun G => ?_
  by_cases hb : 1 ≤ brk ∧ brk ≤ 1000000000
  rotate_left
  · rw [if_neg hb]
    simp only [go_sem, stV]
    refine cP (rbeyond_yes hb) ?_
    simp only [go_sem]
  rw [if_pos hb]
  simp only [go_sem, stV]
  refine cP (rbeyond_no hb) ?_
  by_cases n1 : zs.length = 0
  · have e1 : ((zs.length : Int) == 0) = true := by rw [n1]; rfl
    rw [if_pos n1]
    simp only [go_sem, e1, List.length_map]
  have e1 : ((zs.length : Int) == 0) = false := beq_eq_false_iff_ne.2 (by omega)
  rw [if_neg n1]
  by_cases n2 : zs.length > 16
  · have e2 : (zs.length : Int) > 16 := by omega
    rw [if_pos n2]
    simp only [go_sem, e1, e2, List.length_map]
  have e2 : ¬ (zs.length : Int) > 16 := by omega
  rw [if_neg n2]
  simp only [go_sem, e1, e2, List.length_map]
  obtain ⟨RES, hRES⟩ : ∃ R, fstE (znE zs) zs.length 0 = R := ⟨_, rfl⟩
  rw [hRES]
  refine loop_ind k_ref05_Check_r23.eq_1 (fun s : Nat × Int × Heap => s.1 ≤ zs.length ∧ fstE (znE zs) (zs.length - s.1) s.1 = RES ∧ (s.1 = 0 → s.2.1 = -1) ∧ (0 < s.1 → s.2.1 = (zs.getD (s.1 - 1) default).f)) (fun s => zs.length - s.1)
    (fun s => (tsets 61 [(1, .ptr 0 0 0 1), (2, .int .i64 0), (3, .int .i64 s.2.1), (4, .int .i64 s.1)], some (.cells false 2 [.agg [.int .i64 brk, .view (zs.map Zn.v)]]) :: s.2.2)) (0, -1, []) ⟨Nat.zero_le _, hRES, fun _ => rfl, fun h => absurd h (by simp)⟩ (by simp [go_sem]) rfl ?_
  clear hRES
  rintro ⟨i, last, X⟩ ⟨hi, hR, hl0, hl1⟩ ih
  dsimp only at hi hR hl0 hl1 ih ⊢
  by_cases h1 : i < zs.length
  · have h2 : (i : Int) < zs.length := by omega
    have n0 : ¬ (i : Int) < 0 := by omega
    have h3 : IntKind.i64.wrap ((i : Int) + 1) = ((i + 1 : Nat) : Int) := by rw [w64 (by omega)]; rfl
    obtain ⟨z, hzi⟩ : ∃ z, zs[i]? = some z := ⟨_, List.getElem?_eq_getElem h1⟩
    have ez : zs.getD i default = z := by rw [List.getD_eq_getElem?_getD, hzi]; rfl
    have ihn := fun (h0 : znE zs i = 0) Y => ih (i + 1, z.f, Y) (by dsimp only; omega) ⟨h1, by dsimp only; rw [← fstE_go h1 h0]; exact hR, fun h => absurd h (by dsimp only; omega), fun _ => by dsimp only; rw [Nat.add_sub_cancel, ez]⟩
    have hst := fun (h0 : znE zs i ≠ 0) => (fstE_stop h1 h0).symm.trans hR
    clear ih hR
    have k1 := rcheckRange_raw z.glo z.ghi 100000
    have k2 := rcheckRange_raw z.rlo z.rhi 1000000
    simp only [r2] at k1 k2
    unfold znE at ihn hst
    rw [ez] at ihn hst
    by_cases c1 : 0 ≤ z.f ∧ z.f ≤ 2000
    rotate_left
    · rw [if_neg c1] at hst
      have hst := hst (by decide)
      subst hst
      simp only [go_sem, h2, n0, hzi, Zn.v, Zn.cs]
      refine cP (rbeyond_yes c1) ?_
      simp only [go_sem]
    rw [if_pos c1] at hst ihn
    obtain ⟨g, hg⟩ : ∃ g, rgE5 z.glo z.ghi 100000 = g := ⟨_, rfl⟩
    obtain ⟨r, hr⟩ : ∃ g, rgE5 z.rlo z.rhi 1000000 = g := ⟨_, rfl⟩
    rw [hg] at k1 hst ihn
    rw [hr] at k2 hst ihn
    obtain ⟨bd, hbd⟩ : ∃ b : Bool, b = (decide (i = 0 ∧ z.f ≠ 0) || decide (0 < i ∧ z.f ≤ (zs.getD (i - 1) default).f)) := ⟨_, rfl⟩
    simp only [go_sem, h2, n0, hzi, Zn.v, Zn.cs]
    refine cP (rbeyond_no c1) ?_
    by_cases c2 : (i = 0 ∧ z.f ≠ 0) ∨ (0 < i ∧ z.f ≤ (zs.getD (i - 1) default).f)
    · rw [if_pos c2] at hst
      have hst := hst (by decide)
      subst hst
      by_cases h0 : i = 0
      · have q1 : 0 < z.f := by omega
        subst h0
        have e0 : (((0 : Nat) : Int) == 0) = true := rfl
        simp only [go_sem, e0, q1]
      · have e0 : ((i : Int) == 0) = false := beq_eq_false_iff_ne.2 (by omega)
        have q1 : z.f ≤ last := by have := hl1 (by omega); omega
        simp only [go_sem, e0, q1]
    · rw [if_neg c2] at hst ihn
      by_cases h0 : i = 0
      · have q2 : z.f = 0 := by omega
        have q1 : ¬ z.f ≤ last := by have := hl0 h0; omega
        subst h0
        have e0 : (((0 : Nat) : Int) == 0) = true := rfl
        rw [q2] at ihn q1
        simp only [go_sem, e0, q1, q2]
        refine cP k1 ?_
        by_cases c3 : g = 0
        · have e5 : (g != 0) = false := by rw [c3]; rfl
          rw [if_pos c3] at hst ihn
          simp only [go_sem, e5]
          refine cP k2 ?_
          by_cases c4 : r = 0
          · have e6 : (r != 0) = false := by rw [c4]; rfl
            simp only [go_sem, e6, h3]
            exact ihn c4 _ _ (by simp [go_sem]; rfl)
          · have e6 : (r != 0) = true := by simpa using c4
            have hst := hst c4
            subst hst
            simp only [go_sem, e6]
        · have e5 : (g != 0) = true := by simpa using c3
          rw [if_neg c3] at hst
          have hst := hst c3
          subst hst
          simp only [go_sem, e5]
      · have e0 : ((i : Int) == 0) = false := beq_eq_false_iff_ne.2 (by omega)
        have q1 : ¬ z.f ≤ last := by have := hl1 (by omega); omega
        simp only [go_sem, e0, q1]
        refine cP k1 ?_
        by_cases c3 : g = 0
        · have e5 : (g != 0) = false := by rw [c3]; rfl
          rw [if_pos c3] at hst ihn
          simp only [go_sem, e5]
          refine cP k2 ?_
          by_cases c4 : r = 0
          · have e6 : (r != 0) = false := by rw [c4]; rfl
            simp only [go_sem, e6, h3]
            exact ihn c4 _ _ (by simp [go_sem])
          · have e6 : (r != 0) = true := by simpa using c4
            have hst := hst c4
            subst hst
            simp only [go_sem, e6]
        · have e5 : (g != 0) = true := by simpa using c3
          rw [if_neg c3] at hst
          have hst := hst c3
          subst hst
          simp only [go_sem, e5]
  · have h2 : ¬ (i : Int) < zs.length := by omega
    obtain rfl : i = zs.length := by omega
    rw [fstE_end] at hR
    subst hR
    simp only [go_sem, h2]
end Go.Proofs

namespace Go.Proofs
open Go Go.Sx
attribute [local irreducible] Run

section
variable {P : Program} {G : Ctx} {g : FuncId} {largs args : List AVal} {H : Heap} {α : Type} {Φ : α → Prop} {r : α → AVal} {k : Nat} {R : Runner} {l : List AOper} {fs : List Sx.Frame} {ρ : List AVal} {ms : List Nat} {Q : Sx.Goal} {dst : Option Nat}
end
end Go.Proofs

namespace Go.Proofs
open Go Go.Sx
attribute [local irreducible] Run

structure TsOK (zs : List Zn) (th : Int) (ts : List Tk) (k : Nat) (l : List Int) : Prop where
  len : l.length = k + 1
  bd : ∀ j, j ≤ k → (stAt zs th ts j).1 ≤ l.getD j 0 ∧ l.getD j 0 ≤ (stAt zs th ts j).2
theorem TsOK.snoc {zs : List Zn} {th : Int} {ts : List Tk} {k : Nat} {l : List Int} (h : TsOK zs th ts k l) {v : Int} (hv : (stAt zs th ts (k + 1)).1 ≤ v ∧ v ≤ (stAt zs th ts (k + 1)).2) : TsOK zs th ts (k + 1) (l ++ [v]) := ⟨by rw [List.length_append, h.len]; rfl, fun j hj => by
  have hl := h.len
  rw [List.getD_eq_getElem?_getD]
  by_cases e : j = k + 1
  · subst e
    rw [List.getElem?_append_right (by omega), hl, Nat.sub_self]; exact hv
  · rw [List.getElem?_append_left (by omega), ← List.getD_eq_getElem?_getD]; exact h.bd j (by omega)⟩
section
variable {P : Program} {G : Ctx} {g : FuncId} {largs args : List AVal} {H : Heap} {α : Type} {Φ : α → Prop} {r : α → AVal} {k : Nat} {R : Runner} {l : List AOper} {fs : List Sx.Frame} {ρ : List AVal} {ms : List Nat} {Q : Sx.Goal} {dst : Option Nat}
end
end Go.Proofs

namespace Go.Proofs
open Go Go.Sx
attribute [local irreducible] Run

structure NarZ (y z : Zn) : Prop where
  f : y.f = z.f
  g : z.glo ≤ y.glo ∧ y.glo ≤ y.ghi ∧ y.ghi ≤ z.ghi
  r : z.rlo ≤ y.rlo ∧ y.rlo ≤ y.rhi ∧ y.rhi ≤ z.rhi
def NarL : List Zn → List Zn → Prop
  | [], [] => True
  | y :: a, z :: b => NarZ y z ∧ NarL a b
  | _, _ => False
theorem NarL.zAt : ∀ {a b : List Zn}, NarL a b → b ≠ [] → ∀ t, NarZ (Go.Proofs.zAt a t) (Go.Proofs.zAt b t)
  | [], [], _, h, _ => absurd rfl h
  | [y], [z], h, _, t => h.1
  | y :: y2 :: a, z :: z2 :: b, h, _, t => by
    show NarZ (if y2.f ≤ t then Go.Proofs.zAt (y2 :: a) t else y) (if z2.f ≤ t then Go.Proofs.zAt (z2 :: b) t else z)
    rw [h.2.1.f]
    split
    · exact NarL.zAt h.2 (by simp) t
    · exact h.1
  | [], _ :: _, h, _, _ => h.elim
  | _ :: _, [], h, _, _ => h.elim
  | [_], _ :: _ :: _, h, _, _ => h.2.elim
  | _ :: _ :: _, [_], h, _, _ => h.2.elim
theorem NarL.get : ∀ {a b : List Zn}, NarL a b → a.length = b.length ∧ ∀ (i : Nat) (y : Zn), a[i]? = some y → ∃ z, b[i]? = some z ∧ NarZ y z
  | [], [], _ => ⟨rfl, fun i y h => by simp at h⟩
  | y :: a, z :: b, h => by
    obtain ⟨h1, h2⟩ := NarL.get h.2
    refine ⟨by simp [h1], fun i x hx => ?_⟩
    cases i with
    | zero => simp at hx; subst hx; exact ⟨z, rfl, h.1⟩
    | succ i => simpa using h2 i x (by simpa using hx)
  | [], _ :: _, h => h.elim
  | _ :: _, [], h => h.elim
theorem NarL.ok {a b : List Zn} (h : NarL a b) (hb : ZsOK b) : ZsOK a := by
  obtain ⟨h1, h2⟩ := h.get
  refine ⟨by rw [h1]; exact hb.len, fun y hy => ?_, fun y hy => ?_, fun i y x hy hx => ?_⟩
  · obtain ⟨i, hi⟩ := List.getElem?_of_mem hy
    obtain ⟨z, hz, hn⟩ := h2 i y hi
    have ho := hb.all z (List.mem_of_getElem? hz)
    have hg := hn.g
    have hr := hn.r
    exact ⟨by rw [hn.f]; exact ho.f, by have := ho.g; omega, by have := ho.r; omega⟩
  · obtain ⟨z, hz, hn⟩ := h2 0 y hy
    rw [hn.f]; exact hb.zero z hz
  · obtain ⟨z, hz, hn⟩ := h2 i y hy
    obtain ⟨u, hu, hn2⟩ := h2 (i + 1) x hx
    rw [hn.f, hn2.f]; exact hb.asc i z u hz hu
section
variable {a b : List Zn} (h : NarL a b) (hb : ZsOK b)
include h hb
end
end Go.Proofs

namespace Go.Proofs
open Go Go.Sx

def k_law05_GlassGrows_r0 : List AOper := [
  ⟨some 5, .box (.tmp 0), none, []⟩,
 ⟨some 6, .box (.tmp 1), none, []⟩,
 ⟨some 10, .move (.const (.bool false)), none, []⟩]
def k_law05_GlassGrows_r1 : List AOper := [
  ⟨some 22, .fieldAddr 1 (.tmp 5), none, []⟩,
 ⟨some 23, .load none (.tmp 22), none, []⟩,
 ⟨some 24, .len false (.tmp 23), none, []⟩,
 ⟨some 25, .bin .plain .gtr (.tmp 24) (.const (.int .i64 30)), none, []⟩,
 ⟨some 26, .move (.tmp 25), none, []⟩,
 ⟨some 27, .fieldAddr 1 (.tmp 6), (some (26, false)), []⟩,
 ⟨some 28, .load none (.tmp 27), (some (26, false)), []⟩,
 ⟨some 29, .len false (.tmp 28), (some (26, false)), []⟩,
 ⟨some 30, .bin .plain .gtr (.tmp 29) (.const (.int .i64 30)), (some (26, false)), []⟩,
 ⟨some 31, .pick (.tmp 26) (.const (.bool true)) (.tmp 30), none, []⟩]
def k_law05_GlassGrows_r2 : List AOper := [
  ⟨some 32, .call (.const (.fn (.func 20) [] [])) [], none, []⟩,
 ⟨some 10, .move (.tmp 32), none, []⟩]
def k_law05_GlassGrows_r3 : List AOper := [
  ⟨some 33, .move (.tmp 4), none, []⟩,
 ⟨some 34, .call (.const (.fn (.func 21) [] [])) [.tmp 33], none, []⟩,
 ⟨some 11, .move (.tmp 34), none, []⟩]
def k_law05_GlassGrows_r4 : List AOper := [
  ⟨some 35, .move (.tmp 11), none, []⟩,
 ⟨some 36, .call (.const (.fn (.func 22) [] [])) [.tmp 35], none, []⟩,
 ⟨some 37, .move (.tmp 11), none, []⟩,
 ⟨some 38, .call (.const (.fn (.func 22) [] [])) [.tmp 37], none, []⟩,
 ⟨some 12, .box (.const (.agg [.int .i64 0, .nilsl])), none, []⟩,
 ⟨some 13, .box (.const (.agg [.int .i64 0, .nilsl])), none, []⟩,
 ⟨none, .store 2 (.tmp 12) (.tmp 36), none, []⟩,
 ⟨none, .store 2 (.tmp 13) (.tmp 38), none, []⟩]
def k_law05_GlassGrows_r5 : List AOper := [
  ⟨some 40, .load (some (2)) (.tmp 5), none, []⟩,
 ⟨some 41, .move (.tmp 2), none, []⟩,
 ⟨some 42, .move (.tmp 3), none, []⟩,
 ⟨some 43, .call (.const (.fn (.func 39) [] [])) [.tmp 40, .tmp 41, .tmp 42], none, []⟩,
 ⟨some 39, .move (.tmp 43), none, []⟩,
 ⟨some 44, .extract (.tmp 39) 0, none, []⟩,
 ⟨some 45, .extract (.tmp 39) 1, none, []⟩,
 ⟨some 14, .box (.const (.agg [.int .i64 0, .int .i64 0])), none, []⟩,
 ⟨none, .store 2 (.tmp 14) (.tmp 44), none, []⟩,
 ⟨some 15, .move (.tmp 45), none, []⟩]
def k_law05_GlassGrows_r6 : List AOper := [
  ⟨some 47, .load (some (2)) (.tmp 5), none, []⟩,
 ⟨some 48, .move (.tmp 2), none, []⟩,
 ⟨some 49, .move (.tmp 3), none, []⟩,
 ⟨some 50, .call (.const (.fn (.func 40) [] [])) [.tmp 47, .tmp 48, .tmp 49], none, []⟩,
 ⟨some 46, .move (.tmp 50), none, []⟩,
 ⟨some 51, .extract (.tmp 46) 0, none, []⟩,
 ⟨some 52, .extract (.tmp 46) 1, none, []⟩,
 ⟨some 16, .box (.const (.agg [.int .i64 0, .int .i64 0])), none, []⟩,
 ⟨none, .store 2 (.tmp 16) (.tmp 51), none, []⟩,
 ⟨some 17, .move (.tmp 52), none, []⟩]
def k_law05_GlassGrows_r7 : List AOper := [
  ⟨some 54, .load (some (2)) (.tmp 5), none, []⟩,
 ⟨some 55, .load (some (2)) (.tmp 6), none, []⟩,
 ⟨some 56, .move (.tmp 2), none, []⟩,
 ⟨some 57, .move (.tmp 3), none, []⟩,
 ⟨some 58, .call (.const (.fn (.func 41) [] [])) [.tmp 54, .tmp 55, .tmp 56, .tmp 57], none, []⟩,
 ⟨some 53, .move (.tmp 58), none, []⟩,
 ⟨some 59, .extract (.tmp 53) 0, none, []⟩,
 ⟨some 60, .extract (.tmp 53) 1, none, []⟩,
 ⟨some 18, .box (.const (.agg [.int .i64 0, .int .i64 0])), none, []⟩,
 ⟨none, .store 2 (.tmp 18) (.tmp 59), none, []⟩,
 ⟨some 19, .move (.tmp 60), none, []⟩]
def k_law05_GlassGrows_r8 : List AOper := [
  ⟨some 62, .load (some (2)) (.tmp 5), none, []⟩,
 ⟨some 63, .load (some (2)) (.tmp 6), none, []⟩,
 ⟨some 64, .move (.tmp 2), none, []⟩,
 ⟨some 65, .move (.tmp 3), none, []⟩,
 ⟨some 66, .call (.const (.fn (.func 42) [] [])) [.tmp 62, .tmp 63, .tmp 64, .tmp 65], none, []⟩,
 ⟨some 61, .move (.tmp 66), none, []⟩,
 ⟨some 67, .extract (.tmp 61) 0, none, []⟩,
 ⟨some 68, .extract (.tmp 61) 1, none, []⟩,
 ⟨some 20, .box (.const (.agg [.int .i64 0, .int .i64 0])), none, []⟩,
 ⟨none, .store 2 (.tmp 20) (.tmp 67), none, []⟩,
 ⟨some 21, .move (.tmp 68), none, []⟩]
def k_law05_GlassGrows_r9 : List AOper := [
  ⟨some 69, .load (some (2)) (.tmp 14), none, []⟩,
 ⟨some 70, .load (some (2)) (.tmp 16), none, []⟩,
 ⟨some 71, .eqAgg true [.int, .int] (.tmp 69) (.tmp 70), none, []⟩,
 ⟨some 72, .move (.tmp 71), none, []⟩,
 ⟨some 73, .move (.tmp 15), (some (72, false)), []⟩,
 ⟨some 74, .move (.tmp 17), (some (72, false)), []⟩,
 ⟨some 75, .bin .plain .neq (.tmp 73) (.tmp 74), (some (72, false)), []⟩,
 ⟨some 76, .pick (.tmp 72) (.const (.bool true)) (.tmp 75), none, []⟩,
 ⟨some 77, .move (.tmp 76), none, []⟩,
 ⟨some 78, .load (some (2)) (.tmp 18), (some (77, false)), []⟩,
 ⟨some 79, .load (some (2)) (.tmp 20), (some (77, false)), []⟩,
 ⟨some 80, .eqAgg true [.int, .int] (.tmp 78) (.tmp 79), (some (77, false)), []⟩,
 ⟨some 81, .pick (.tmp 77) (.const (.bool true)) (.tmp 80), none, []⟩,
 ⟨some 82, .move (.tmp 81), none, []⟩,
 ⟨some 83, .move (.tmp 19), (some (82, false)), []⟩,
 ⟨some 84, .move (.tmp 21), (some (82, false)), []⟩,
 ⟨some 85, .bin .plain .neq (.tmp 83) (.tmp 84), (some (82, false)), []⟩,
 ⟨some 86, .pick (.tmp 82) (.const (.bool true)) (.tmp 85), none, []⟩]
def k_law05_GlassGrows_r10 : List AOper := [
  ⟨some 10, .move (.const (.bool false)), none, []⟩]
def k_law05_GlassGrows_r11 : List AOper := [
  ⟨some 87, .move (.tmp 2), none, []⟩,
 ⟨some 88, .call (.const (.fn (.func 43) [] [])) [.tmp 87, .const (.int .i64 2001)], none, []⟩,
 ⟨some 89, .move (.tmp 3), none, []⟩,
 ⟨some 90, .call (.const (.fn (.func 43) [] [])) [.tmp 89, .const (.int .i64 2001)], none, []⟩,
 ⟨some 2, .move (.tmp 88), none, []⟩,
 ⟨some 3, .move (.tmp 90), none, []⟩]
def k_law05_GlassGrows_r12 : List AOper := [
  ⟨some 92, .load (some (2)) (.tmp 12), none, []⟩,
 ⟨some 93, .move (.tmp 2), none, []⟩,
 ⟨some 94, .move (.tmp 3), none, []⟩,
 ⟨some 95, .call (.const (.fn (.func 39) [] [])) [.tmp 92, .tmp 93, .tmp 94], none, []⟩,
 ⟨some 91, .move (.tmp 95), none, []⟩,
 ⟨some 96, .extract (.tmp 91) 0, none, []⟩,
 ⟨some 97, .extract (.tmp 91) 1, none, []⟩,
 ⟨none, .store 2 (.tmp 14) (.tmp 96), none, []⟩,
 ⟨some 15, .move (.tmp 97), none, []⟩]
def k_law05_GlassGrows_r13 : List AOper := [
  ⟨some 99, .load (some (2)) (.tmp 12), none, []⟩,
 ⟨some 100, .move (.tmp 2), none, []⟩,
 ⟨some 101, .move (.tmp 3), none, []⟩,
 ⟨some 102, .call (.const (.fn (.func 40) [] [])) [.tmp 99, .tmp 100, .tmp 101], none, []⟩,
 ⟨some 98, .move (.tmp 102), none, []⟩,
 ⟨some 103, .extract (.tmp 98) 0, none, []⟩,
 ⟨some 104, .extract (.tmp 98) 1, none, []⟩,
 ⟨none, .store 2 (.tmp 16) (.tmp 103), none, []⟩,
 ⟨some 17, .move (.tmp 104), none, []⟩]
def k_law05_GlassGrows_r14 : List AOper := [
  ⟨some 106, .load (some (2)) (.tmp 12), none, []⟩,
 ⟨some 107, .load (some (2)) (.tmp 13), none, []⟩,
 ⟨some 108, .move (.tmp 2), none, []⟩,
 ⟨some 109, .move (.tmp 3), none, []⟩,
 ⟨some 110, .call (.const (.fn (.func 41) [] [])) [.tmp 106, .tmp 107, .tmp 108, .tmp 109], none, []⟩,
 ⟨some 105, .move (.tmp 110), none, []⟩,
 ⟨some 111, .extract (.tmp 105) 0, none, []⟩,
 ⟨some 112, .extract (.tmp 105) 1, none, []⟩,
 ⟨none, .store 2 (.tmp 18) (.tmp 111), none, []⟩,
 ⟨some 19, .move (.tmp 112), none, []⟩]
def k_law05_GlassGrows_r15 : List AOper := [
  ⟨some 114, .load (some (2)) (.tmp 12), none, []⟩,
 ⟨some 115, .load (some (2)) (.tmp 13), none, []⟩,
 ⟨some 116, .move (.tmp 2), none, []⟩,
 ⟨some 117, .move (.tmp 3), none, []⟩,
 ⟨some 118, .call (.const (.fn (.func 42) [] [])) [.tmp 114, .tmp 115, .tmp 116, .tmp 117], none, []⟩,
 ⟨some 113, .move (.tmp 118), none, []⟩,
 ⟨some 119, .extract (.tmp 113) 0, none, []⟩,
 ⟨some 120, .extract (.tmp 113) 1, none, []⟩,
 ⟨none, .store 2 (.tmp 20) (.tmp 119), none, []⟩,
 ⟨some 21, .move (.tmp 120), none, []⟩]
def k_law05_GlassGrows_r16 : List AOper := [
  ⟨some 121, .load (some (2)) (.tmp 14), none, []⟩,
 ⟨some 122, .load (some (2)) (.tmp 16), none, []⟩,
 ⟨some 123, .eqAgg false [.int, .int] (.tmp 121) (.tmp 122), none, []⟩,
 ⟨some 124, .move (.tmp 123), none, []⟩,
 ⟨some 125, .move (.tmp 15), (some (124, true)), []⟩,
 ⟨some 126, .move (.tmp 17), (some (124, true)), []⟩,
 ⟨some 127, .bin .plain .eql (.tmp 125) (.tmp 126), (some (124, true)), []⟩,
 ⟨some 128, .pick (.tmp 124) (.tmp 127) (.const (.bool false)), none, []⟩,
 ⟨some 129, .move (.tmp 128), none, []⟩,
 ⟨some 130, .load (some (2)) (.tmp 18), (some (129, true)), []⟩,
 ⟨some 131, .load (some (2)) (.tmp 20), (some (129, true)), []⟩,
 ⟨some 132, .eqAgg false [.int, .int] (.tmp 130) (.tmp 131), (some (129, true)), []⟩,
 ⟨some 133, .pick (.tmp 129) (.tmp 132) (.const (.bool false)), none, []⟩,
 ⟨some 134, .move (.tmp 133), none, []⟩,
 ⟨some 135, .move (.tmp 19), (some (134, true)), []⟩,
 ⟨some 136, .move (.tmp 21), (some (134, true)), []⟩,
 ⟨some 137, .bin .plain .eql (.tmp 135) (.tmp 136), (some (134, true)), []⟩,
 ⟨some 138, .pick (.tmp 134) (.tmp 137) (.const (.bool false)), none, []⟩,
 ⟨some 139, .move (.tmp 138), none, []⟩,
 ⟨some 140, .call (.const (.fn (.func 20) [] [])) [], (some (139, true)), []⟩,
 ⟨some 141, .pick (.tmp 139) (.tmp 140) (.const (.bool false)), none, []⟩,
 ⟨some 10, .move (.tmp 141), none, []⟩]
def k_law05_GlassGrows : AFun := { params := 5, ntmps := 142, body := (.seq (.reg k_law05_GlassGrows_r0 false) (.seq (.seq (.reg k_law05_GlassGrows_r1 false) (.cond (.tmp 31) (.seq (.reg k_law05_GlassGrows_r2 false) .ret) .skip)) (.seq (.reg k_law05_GlassGrows_r3 false) (.seq (.reg k_law05_GlassGrows_r4 false) (.seq (.reg k_law05_GlassGrows_r5 false) (.seq (.reg k_law05_GlassGrows_r6 false) (.seq (.reg k_law05_GlassGrows_r7 false) (.seq (.reg k_law05_GlassGrows_r8 false) (.seq (.seq (.reg k_law05_GlassGrows_r9 false) (.cond (.tmp 86) (.seq (.reg k_law05_GlassGrows_r10 false) .ret) .skip)) (.seq (.reg k_law05_GlassGrows_r11 false) (.seq (.reg k_law05_GlassGrows_r12 false) (.seq (.reg k_law05_GlassGrows_r13 false) (.seq (.reg k_law05_GlassGrows_r14 false) (.seq (.reg k_law05_GlassGrows_r15 false) (.seq (.reg k_law05_GlassGrows_r16 false) .ret))))))))))))))), res := [.tmp 10] }
theorem k_law05_GlassGrows_ok : cfun Try.prog Try.f4 = k_law05_GlassGrows := by kernel_rfl

def k_ref05_Growth_r0 : List AOper := [
  ⟨some 3, .box (.tmp 0), none, []⟩,
 ⟨some 6, .box (.const (.agg [.int .i64 0, .int .i64 0])), none, []⟩,
 ⟨some 7, .move (.const (.int .i64 0)), none, []⟩]
def k_ref05_Growth_r1 : List AOper := [
  ⟨some 9, .load (some (2)) (.tmp 3), none, []⟩,
 ⟨some 10, .call (.const (.fn (.func 31) [] [])) [.tmp 9], none, []⟩,
 ⟨some 8, .move (.tmp 10), none, []⟩]
def k_ref05_Growth_r2 : List AOper := [
  ⟨some 11, .move (.tmp 8), none, []⟩,
 ⟨some 12, .bin .plain .neq (.tmp 11) (.const (.int .i64 0)), none, []⟩]
def k_ref05_Growth_r3 : List AOper := [
  ⟨some 13, .build [.int .i64 0, .int .i64 0] [], none, []⟩,
 ⟨some 14, .move (.tmp 8), none, []⟩,
 ⟨none, .store 2 (.tmp 6) (.tmp 13), none, []⟩,
 ⟨some 7, .move (.tmp 14), none, []⟩]
def k_ref05_Growth_r4 : List AOper := [
  ⟨some 15, .move (.tmp 1), none, []⟩,
 ⟨some 16, .call (.const (.fn (.func 88) [] [])) [.tmp 15, .const (.int .i64 0), .const (.int .i64 2000)], none, []⟩,
 ⟨some 17, .move (.tmp 16), none, []⟩,
 ⟨some 18, .move (.tmp 2), (some (17, false)), []⟩,
 ⟨some 19, .call (.const (.fn (.func 88) [] [])) [.tmp 18, .const (.int .i64 0), .const (.int .i64 2000)], (some (17, false)), []⟩,
 ⟨some 20, .pick (.tmp 17) (.const (.bool true)) (.tmp 19), none, []⟩]
def k_ref05_Growth_r5 : List AOper := [
  ⟨some 21, .build [.int .i64 0, .int .i64 0] [], none, []⟩,
 ⟨none, .store 2 (.tmp 6) (.tmp 21), none, []⟩,
 ⟨some 7, .move (.const (.int .i64 2)), none, []⟩]
def k_ref05_Growth_r6 : List AOper := [
  ⟨some 22, .load (some (2)) (.tmp 3), none, []⟩,
 ⟨some 23, .move (.tmp 1), none, []⟩,
 ⟨some 24, .move (.tmp 2), none, []⟩,
 ⟨some 25, .call (.const (.fn (.func 91) [] [])) [.tmp 22, .tmp 23, .tmp 24], none, []⟩,
 ⟨none, .store 2 (.tmp 6) (.tmp 25), none, []⟩,
 ⟨some 7, .move (.const (.int .i64 0)), none, []⟩]
def k_ref05_Growth : AFun := { params := 3, ntmps := 26, body := (.seq (.reg k_ref05_Growth_r0 false) (.seq (.seq (.reg k_ref05_Growth_r1 false) (.seq (.reg k_ref05_Growth_r2 false) (.cond (.tmp 12) (.seq (.reg k_ref05_Growth_r3 false) .ret) .skip))) (.seq (.seq (.reg k_ref05_Growth_r4 false) (.cond (.tmp 20) (.seq (.reg k_ref05_Growth_r5 false) .ret) .skip)) (.seq (.reg k_ref05_Growth_r6 false) .ret)))), res := [.cell 6 (some ((some (2)))), .tmp 7] }
theorem k_ref05_Growth_ok : cfun Try.prog Try.f40 = k_ref05_Growth := by kernel_rfl


abbrev n_law05_GlassGrows : Nat := 4
theorem e_law05_GlassGrows : EntryOK Try.prog n_law05_GlassGrows k_law05_GlassGrows := ⟨Try.f4, Try.func4, k_law05_GlassGrows_ok, by kernel_rfl⟩
abbrev n_ref05_Growth : Nat := 40
theorem e_ref05_Growth : EntryOK Try.prog n_ref05_Growth k_ref05_Growth := ⟨Try.f40, Try.func40, k_ref05_Growth_ok, by kernel_rfl⟩

attribute [go_sem] k_law05_GlassGrows_r0 k_law05_GlassGrows_r1 k_law05_GlassGrows_r2 k_law05_GlassGrows_r3 k_law05_GlassGrows_r4 k_law05_GlassGrows_r5 k_law05_GlassGrows_r6 k_law05_GlassGrows_r7 k_law05_GlassGrows_r8 k_law05_GlassGrows_r9 k_law05_GlassGrows_r10 k_law05_GlassGrows_r11
attribute [go_sem] k_law05_GlassGrows_r12 k_law05_GlassGrows_r13 k_law05_GlassGrows_r14 k_law05_GlassGrows_r15 k_law05_GlassGrows_r16 k_ref05_Growth_r0 k_ref05_Growth_r1 k_ref05_Growth_r2 k_ref05_Growth_r3 k_ref05_Growth_r4 k_ref05_Growth_r5 k_ref05_Growth_r6
attribute [go_sem] k_law05_GlassGrows k_ref05_Growth
end Go.Proofs

namespace Go.Proofs
open Go Go.Sx
attribute [local irreducible] Run

def growT5 (b : Int) (z : List Zn) (f t : Int) : Int × Int × Int := if stE b z = 0 then (if (0 ≤ f ∧ f ≤ 2000) ∧ (0 ≤ t ∧ t ≤ 2000) then ((groR z f t).1, (groR z f t).2, 0) else (0, 0, 2)) else (0, 0, stE b z)
def seE (b1 : Int) (z1 : List Zn) (b2 : Int) (z2 : List Zn) (s t : Int) : Int := if stE b1 z1 = 0 then (if stE b2 z2 = 0 then (if (0 ≤ s ∧ s ≤ 2000) ∧ (0 ≤ t ∧ t ≤ 2000) then 0 else 2) else stE b2 z2) else stE b1 z1
def miT5 (b1 : Int) (z1 : List Zn) (b2 : Int) (z2 : List Zn) (s t : Int) : Int × Int × Int := if seE b1 z1 b2 z2 s t = 0 then ((misR z1 z2 s t).1, (misR z1 z2 s t).2, 0) else (0, 0, seE b1 z1 b2 z2 s t)
def t3 (p : Int × Int × Int) : AVal := .tup [r2 p.1 p.2.1, .int .i64 p.2.2]
theorem seE_ok {b1 : Int} {z1 : List Zn} {b2 : Int} {z2 : List Zn} {s t : Int} (h : seE b1 z1 b2 z2 s t = 0) : StOK b1 z1 ∧ StOK b2 z2 ∧ (0 ≤ s ∧ s ≤ 2000) ∧ (0 ≤ t ∧ t ≤ 2000) := by
  unfold seE at h
  split at h
  · rename_i h1
    split at h
    · rename_i h2
      split at h
      · rename_i h3; exact ⟨stE_ok h1, stE_ok h2, h3⟩
      · simp at h
    · rename_i h2; exact absurd h h2
  · rename_i h1; exact absurd h h1
theorem Growth_raw5 (b : Int) (z : List Zn) (hl : z.length ≤ 1000) (f t : Int) : Ans Try.prog n_glass_Growth [stV b z, .int .i64 f, .int .i64 t] [] (t3 (growT5 b z f t)) [] := by
  have k1 := Check_raw5 b z hl
  unfold growT5
  by_cases h : stE b z = 0
  · rw [if_pos h]
    by_cases hh : (0 ≤ f ∧ f ≤ 2000) ∧ (0 ≤ t ∧ t ≤ 2000)
    · rw [if_pos hh]
      exact Growth_run (stE_ok h) hh.1 hh.2
    · rw [if_neg hh]
      rw [h] at k1
      refine spec_run e_glass_Growth fun G => ?_
      simp only [stV] at k1
      simp only [go_sem, stV, t3, r2]
      refine cP k1 ?_
      simp only [go_sem]
      by_cases hf : 0 ≤ f ∧ f ≤ 2000
      · refine cP (isHeat_yes hf) ?_
        simp only [go_sem]
        refine cP (isHeat_no fun ht => hh ⟨hf, ht⟩) ?_
        simp only [go_sem]
      · refine cP (isHeat_no hf) ?_
        simp only [go_sem]
  · rw [if_neg h]
    have e : (stE b z != 0) = true := by simpa using h
    generalize stE b z = E at *
    refine spec_run e_glass_Growth fun G => ?_
    simp only [stV] at k1
    simp only [go_sem, stV, t3, r2]
    refine cP k1 ?_
    simp only [go_sem, e]
theorem rGrowth_raw5 (b : Int) (z : List Zn) (hl : z.length ≤ 1000) (f t : Int) : Ans Try.prog n_ref05_Growth [stV b z, .int .i64 f, .int .i64 t] [] (t3 (growT5 b z f t)) [] := by
  have k1 := rCheck_raw5 b z hl
  unfold growT5
  by_cases h : stE b z = 0
  · rw [if_pos h]
    rw [h] at k1
    refine spec_run e_ref05_Growth fun G => ?_
    simp only [stV] at k1
    simp only [go_sem, stV, t3]
    refine cP k1 ?_
    simp only [go_sem]
    by_cases hf : 0 ≤ f ∧ f ≤ 2000
    · refine cP (rbeyond_no hf) ?_
      simp only [go_sem]
      by_cases ht : 0 ≤ t ∧ t ≤ 2000
      · have k2 := rgrowth_run b (stE_ok h).zs hf ht
        rw [if_pos ⟨hf, ht⟩]
        simp only [stV, r2] at k2
        refine cP (rbeyond_no ht) ?_
        simp only [go_sem]
        refine cP k2 ?_
        simp only [go_sem, r2]
      · rw [if_neg fun hh => ht hh.2]
        refine cP (rbeyond_yes ht) ?_
        simp only [go_sem, r2]
    · rw [if_neg fun hh => hf hh.1]
      refine cP (rbeyond_yes hf) ?_
      simp only [go_sem, r2]
  · rw [if_neg h]
    have e : (stE b z != 0) = true := by simpa using h
    generalize stE b z = E at *
    refine spec_run e_ref05_Growth fun G => ?_
    simp only [stV] at k1
    simp only [go_sem, stV, t3, r2]
    refine cP k1 ?_
    simp only [go_sem, e]
section
variable (b1 : Int) (z1 : List Zn) (hl1 : z1.length ≤ 1000) (b2 : Int) (z2 : List Zn) (hl2 : z2.length ≤ 1000) (s t : Int)
include hl1 hl2
theorem checkSeal_raw5 : Ans Try.prog n_glass_checkSeal [stV b1 z1, stV b2 z2, .int .i64 s, .int .i64 t] [] (.int .i64 (seE b1 z1 b2 z2 s t)) [] := by
  have k1 := Check_raw5 b1 z1 hl1
  have k2 := Check_raw5 b2 z2 hl2
  unfold seE
  generalize stE b1 z1 = E1 at *
  generalize stE b2 z2 = E2 at *
  refine spec_run e_glass_checkSeal fun G => ?_
  simp only [stV] at k1 k2
  simp only [go_sem, stV]
  refine cP k1 ?_
  by_cases h1 : E1 = 0
  · have e1 : (E1 != 0) = false := by rw [h1]; rfl
    rw [if_pos h1]
    simp only [go_sem, e1]
    refine cP k2 ?_
    by_cases h2 : E2 = 0
    · have e2 : (E2 != 0) = false := by rw [h2]; rfl
      rw [if_pos h2]
      simp only [go_sem, e2]
      by_cases hf : 0 ≤ s ∧ s ≤ 2000
      · refine cP (isHeat_yes hf) ?_
        simp only [go_sem]
        by_cases ht : 0 ≤ t ∧ t ≤ 2000
        · rw [if_pos ⟨hf, ht⟩]
          refine cP (isHeat_yes ht) ?_
          simp only [go_sem]
        · rw [if_neg fun hh => ht hh.2]
          refine cP (isHeat_no ht) ?_
          simp only [go_sem]
      · rw [if_neg fun hh => hf hh.1]
        refine cP (isHeat_no hf) ?_
        simp only [go_sem]
    · have e2 : (E2 != 0) = true := by simpa using h2
      rw [if_neg h2]
      simp only [go_sem, e2]
  · have e1 : (E1 != 0) = true := by simpa using h1
    rw [if_neg h1]
    simp only [go_sem, e1]
theorem rcheckSeal_raw5 : Ans Try.prog n_ref05_checkSeal [stV b1 z1, stV b2 z2, .int .i64 s, .int .i64 t] [] (.int .i64 (seE b1 z1 b2 z2 s t)) [] := by
  have k1 := rCheck_raw5 b1 z1 hl1
  have k2 := rCheck_raw5 b2 z2 hl2
  unfold seE
  generalize stE b1 z1 = E1 at *
  generalize stE b2 z2 = E2 at *
  refine spec_run e_ref05_checkSeal fun G => ?_
  simp only [stV] at k1 k2
  simp only [go_sem, stV]
  refine cP k1 ?_
  by_cases h1 : E1 = 0
  · have e1 : (E1 != 0) = false := by rw [h1]; rfl
    rw [if_pos h1]
    simp only [go_sem, e1]
    refine cP k2 ?_
    by_cases h2 : E2 = 0
    · have e2 : (E2 != 0) = false := by rw [h2]; rfl
      rw [if_pos h2]
      simp only [go_sem, e2]
      by_cases hf : 0 ≤ s ∧ s ≤ 2000
      · refine cP (rbeyond_no hf) ?_
        simp only [go_sem]
        by_cases ht : 0 ≤ t ∧ t ≤ 2000
        · rw [if_pos ⟨hf, ht⟩]
          refine cP (rbeyond_no ht) ?_
          simp only [go_sem]
        · rw [if_neg fun hh => ht hh.2]
          refine cP (rbeyond_yes ht) ?_
          simp only [go_sem]
      · rw [if_neg fun hh => hf hh.1]
        refine cP (rbeyond_yes hf) ?_
        simp only [go_sem]
    · have e2 : (E2 != 0) = true := by simpa using h2
      rw [if_neg h2]
      simp only [go_sem, e2]
  · have e1 : (E1 != 0) = true := by simpa using h1
    rw [if_neg h1]
    simp only [go_sem, e1]
theorem Mismatch_raw5 : Ans Try.prog n_glass_Mismatch [stV b1 z1, stV b2 z2, .int .i64 s, .int .i64 t] [] (t3 (miT5 b1 z1 b2 z2 s t)) [] := by
  have k1 := checkSeal_raw5 b1 z1 hl1 b2 z2 hl2 s t
  unfold miT5
  by_cases h : seE b1 z1 b2 z2 s t = 0
  · rw [if_pos h]
    obtain ⟨o1, o2, hs, ht⟩ := seE_ok h
    exact Mismatch_run o1 o2 hs ht
  · rw [if_neg h]
    have e : (seE b1 z1 b2 z2 s t != 0) = true := by simpa using h
    generalize seE b1 z1 b2 z2 s t = E at *
    refine spec_run e_glass_Mismatch fun G => ?_
    simp only [stV] at k1
    simp only [go_sem, stV, t3, r2]
    refine cP k1 ?_
    simp only [go_sem, e]
theorem rMismatch_raw5 : Ans Try.prog n_ref05_Mismatch [stV b1 z1, stV b2 z2, .int .i64 s, .int .i64 t] [] (t3 (miT5 b1 z1 b2 z2 s t)) [] := by
  have k1 := rcheckSeal_raw5 b1 z1 hl1 b2 z2 hl2 s t
  unfold miT5
  by_cases h : seE b1 z1 b2 z2 s t = 0
  · rw [if_pos h]
    obtain ⟨o1, o2, hs, ht⟩ := seE_ok h
    exact rMismatch_run o1 o2 hs ht
  · rw [if_neg h]
    have e : (seE b1 z1 b2 z2 s t != 0) = true := by simpa using h
    generalize seE b1 z1 b2 z2 s t = E at *
    refine spec_run e_ref05_Mismatch fun G => ?_
    simp only [stV] at k1
    simp only [go_sem, stV, t3, r2]
    refine cP k1 ?_
    simp only [go_sem, e]
end
set_option maxHeartbeats 8000000 in
set_option maxRecDepth 20000 in
theorem grows_law (b1 : Int) (z1 : List Zn) (b2 : Int) (z2 : List Zn) (a1 a2 : Int) (ns : List Int) (hl : ns.length ≤ 9223372036854775807) (hz1 : z1.length ≤ 9223372036854775807) (hz2 : z2.length ≤ 9223372036854775807) :
    Ans Try.prog n_law05_GlassGrows [stV b1 z1, stV b2 z2, .int .i64 a1, .int .i64 a2, .view (ns.map (.int .i64))] [] (.bool true) [] := by
  refine spec_run e_law05_GlassGrows fun G => ?_
  by_cases c1 : (z1.length : Int) > 30
  · simp only [go_sem, stV, c1, List.length_map]
    refine cP awake_ok ?_
    simp only [go_sem]
  by_cases c2 : (z2.length : Int) > 30
  · simp only [go_sem, stV, c1, c2, List.length_map]
    refine cP awake_ok ?_
    simp only [go_sem]
  have k1 := Growth_raw5 b1 z1 (by omega) a1 a2
  have k2 := rGrowth_raw5 b1 z1 (by omega) a1 a2
  have k3 := Mismatch_raw5 b1 z1 (by omega) b2 z2 (by omega) a1 a2
  have k4 := rMismatch_raw5 b1 z1 (by omega) b2 z2 (by omega) a1 a2
  obtain ⟨p, hp⟩ : ∃ p, growT5 b1 z1 a1 a2 = p := ⟨_, rfl⟩
  obtain ⟨q, hq⟩ : ∃ p, miT5 b1 z1 b2 z2 a1 a2 = p := ⟨_, rfl⟩
  rw [hp] at k1 k2
  rw [hq] at k3 k4
  simp only [stV, t3, r2] at k1 k2 k3 k4
  have m1 := mod_in a1 2001 (by omega)
  have e1 := mod_pos a1 2001 (by omega)
  have m2 := mod_in a2 2001 (by omega)
  have e2 := mod_pos a2 2001 (by omega)
  obtain ⟨f, hf⟩ : ∃ t, a1 % 2001 = t := ⟨_, rfl⟩
  obtain ⟨t, ht⟩ : ∃ t, a2 % 2001 = t := ⟨_, rfl⟩
  rw [hf] at m1 e1
  rw [ht] at m2 e2
  simp only [go_sem, stV, c1, c2, List.length_map]
  refine callN1 (newdice_ok ns hl) (by simp only [go_sem]) (dr_bel _ _) (by simp) (by simp) ?_
  generalize seedW ns = w
  simp only [go_sem]
  refine callDN (stuffOf_run w) rfl (by simp only [go_sem]) (dr_bel _ _) (fun a ha => ⟨by simp [go_sem], dr_bel _ _, by rw [row_bel_cells]; simp only [go_sem]⟩) (by simp) (by simp) ?_
  rintro ⟨b3, z3, w3⟩ h3
  dsimp only at h3 ⊢
  simp only [go_sem, ren, rens]
  refine callDN (stuffOf_run w3) rfl (by simp only [go_sem]) (dr_bel _ _) (fun a ha => ⟨by simp [go_sem], dr_bel _ _, by rw [row_bel_cells]; simp only [go_sem]⟩) (by simp) (by simp) ?_
  rintro ⟨b4, z4, w4⟩ h4
  dsimp only at h4 ⊢
  have l3 := h3.zs.len
  have l4 := h4.zs.len
  have k5 := Growth_raw5 b3 z3 (by omega) f t
  have k6 := rGrowth_raw5 b3 z3 (by omega) f t
  have k7 := Mismatch_raw5 b3 z3 (by omega) b4 z4 (by omega) f t
  have k8 := rMismatch_raw5 b3 z3 (by omega) b4 z4 (by omega) f t
  obtain ⟨p', hp'⟩ : ∃ p, growT5 b3 z3 f t = p := ⟨_, rfl⟩
  obtain ⟨q', hq'⟩ : ∃ p, miT5 b3 z3 b4 z4 f t = p := ⟨_, rfl⟩
  rw [hp'] at k5 k6
  rw [hq'] at k7 k8
  simp only [t3, r2] at k5 k6 k7 k8
  simp only [go_sem, ren, rens]
  refine cP k1 ?_
  simp only [go_sem]
  refine cP k2 ?_
  simp only [go_sem]
  refine cP k3 ?_
  simp only [go_sem]
  refine cP k4 ?_
  simp only [go_sem, Bool.not_true, bne_self_eq_false]
  refine cP e1 ?_
  simp only [go_sem]
  refine cP e2 ?_
  simp only [go_sem]
  refine cF k5 6 ⟨.inl (st_frz (g := true) rfl rfl), .inl rfl, .inl rfl, trivial⟩ ?_
  simp only [go_sem]
  refine cF k6 6 ⟨.inl (st_frz (g := true) rfl rfl), .inl rfl, .inl rfl, trivial⟩ ?_
  simp only [go_sem]
  refine cF k7 6 ⟨.inl (st_frz (g := true) rfl rfl), .inl (st_frz (g := true) rfl rfl), .inl rfl, .inl rfl, trivial⟩ ?_
  simp only [go_sem]
  refine cF k8 6 ⟨.inl (st_frz (g := true) rfl rfl), .inl (st_frz (g := true) rfl rfl), .inl rfl, .inl rfl, trivial⟩ ?_
  simp only [go_sem]
  refine cP awake_ok ?_
  simp only [go_sem]
end Go.Proofs

namespace Go.Proofs
open Go Go.Sx

theorem at_struct {P : Program} {n : Nat} {t : TypeId} {fs : Array Field} (hu : P.underlying t = some (.struct fs)) {vs : List AVal} (h : AT P (n + 1) t vs) : ATs (AT P n) fs.toList vs := by
  unfold AT at h; rw [hu] at h; exact h
theorem at_int {P : Program} {n : Nat} {t : TypeId} {k : IntKind} (hu : P.underlying t = some (.int k)) {vs : List AVal} (h : AT P (n + 1) t vs) : ∃ m, vs = [.int k m] ∧ (Lit.int k m).wf = true := by
  unfold AT at h; rw [hu] at h; exact h
theorem at_slice {P : Program} {n : Nat} {t e : TypeId} (hu : P.underlying t = some (.slice e)) {vs : List AVal} (h : AT P (n + 1) t vs) : ∃ es, vs = [.view es] ∧ es.length ≤ maxLen ∧ ∀ x ∈ es, if aggT P e = true then ∃ ws, x = .agg ws ∧ AT P n e ws else AT P n e [x] := by
  unfold AT at h; rw [hu] at h; exact h
theorem list_mapQ {α β : Type} {f : α → β} {Q : α → Prop} : ∀ l : List β, (∀ x ∈ l, ∃ a, x = f a ∧ Q a) → ∃ l' : List α, l = l'.map f ∧ ∀ a ∈ l', Q a
  | [], _ => ⟨[], rfl, fun a ha => by simp at ha⟩
  | x :: l, h => by
    obtain ⟨a, rfl, ha⟩ := h x (by simp)
    obtain ⟨l', rfl, h'⟩ := list_mapQ l fun y hy => h y (by simp [hy])
    exact ⟨a :: l', rfl, fun b hb => by
      rcases List.mem_cons.1 hb with rfl | hb
      · exact ha
      · exact h' b hb⟩

attribute [local irreducible] AT
set_option maxRecDepth 100000
theorem atn_int {n : Nat} {vs : List AVal} (h : AT Try.prog (n + 1) 3 vs) : ∃ m, vs = [.int .i64 m] ∧ (Lit.int .i64 m).wf = true := at_int Try.underlying3 h
theorem at_ints {n : Nat} {x : AVal} (h : AT Try.prog (n + 2) 29 [x]) : ∃ l : List Int, x = .view (l.map (.int .i64)) ∧ l.length ≤ 9223372036854775807 := by
  obtain ⟨es, h1, hl, he⟩ := at_slice Try.underlying29 h
  obtain rfl : x = .view es := by simpa using h1
  have hg : ¬ aggT Try.prog 3 = true := by unfold aggT; rw [Try.underlying3]; decide
  obtain ⟨l, rfl, -⟩ := list_mapQ (f := AVal.int .i64) (Q := fun _ => True) es fun x hx => by
    have := he x hx
    rw [if_neg hg] at this
    obtain ⟨m, hm, -⟩ := atn_int this
    exact ⟨m, by simpa using hm, trivial⟩
  have hm : maxLen = 9223372036854775807 := rfl
  rw [hm] at hl
  exact ⟨l, rfl, by simpa using hl⟩
theorem at_rng {n : Nat} {ws : List AVal} (h : AT Try.prog (n + 2) 31 ws) : ∃ a b : Int, ws = [.int .i64 a, .int .i64 b] ∧ (Lit.int .i64 a).wf = true ∧ (Lit.int .i64 b).wf = true := by
  obtain ⟨a, _, rfl, ha, b, _, rfl, hb, rfl⟩ := at_struct Try.underlying31 h
  obtain ⟨x, rfl, hx⟩ := atn_int ha
  obtain ⟨y, rfl, hy⟩ := atn_int hb
  exact ⟨x, y, rfl, hx, hy⟩
theorem at_zone {n : Nat} {ws : List AVal} (h : AT Try.prog (n + 3) 33 ws) : ∃ z : Zn, ws = z.cs := by
  obtain ⟨a, _, rfl, ha, b, _, rfl, hb, c, _, rfl, hc, rfl⟩ := at_struct Try.underlying33 h
  obtain ⟨x, rfl, -⟩ := atn_int ha
  obtain ⟨b1, b2, rfl, -, -⟩ := at_rng hb
  obtain ⟨c1, c2, rfl, -, -⟩ := at_rng hc
  exact ⟨⟨x, b1, b2, c1, c2⟩, rfl⟩
theorem at_zones {n : Nat} {ws : List AVal} (h : AT Try.prog (n + 4) 22 ws) : ∃ zs : List Zn, ws = [.view (zs.map Zn.v)] ∧ zs.length ≤ 9223372036854775807 := by
  obtain ⟨es, rfl, hl, he⟩ := at_slice Try.underlying22 h
  have hg : aggT Try.prog 33 = true := by unfold aggT; rw [Try.underlying33]
  obtain ⟨zs, rfl, -⟩ := list_mapQ (f := Zn.v) (Q := fun _ => True) es fun x hx => by
    have := he x hx
    rw [if_pos hg] at this
    obtain ⟨ws, rfl, hw⟩ := this
    obtain ⟨z, rfl⟩ := at_zone hw
    exact ⟨z, rfl, trivial⟩
  have hm : maxLen = 9223372036854775807 := rfl
  rw [hm] at hl
  exact ⟨zs, rfl, by simpa using hl⟩
theorem at_stuff {n : Nat} {ws : List AVal} (h : AT Try.prog (n + 5) 24 ws) : ∃ (b : Int) (zs : List Zn), .agg ws = stV b zs ∧ zs.length ≤ 9223372036854775807 ∧ (Lit.int .i64 b).wf = true := by
  obtain ⟨a, _, rfl, ha, b, _, rfl, hb, rfl⟩ := at_struct Try.underlying24 h
  obtain ⟨x, rfl, hx⟩ := atn_int ha
  obtain ⟨zs, rfl, hz⟩ := at_zones hb
  exact ⟨x, zs, rfl, hz, hx⟩
end Go.Proofs


