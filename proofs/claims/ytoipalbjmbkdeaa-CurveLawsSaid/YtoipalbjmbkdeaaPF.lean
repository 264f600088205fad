/- A part of the proof. -/
import Derived.Test.YtoipalbjmbkdeaaPE
set_option linter.unusedSimpArgs false
set_option linter.unusedVariables false
namespace Go.Proofs
open Go Go.Sx Go.Fam
attribute [local irreducible] Run

def chkR : List (Rg × Int × Int) → Int
  | [] => 0
  | (r, a, b) :: t => if r.hi < r.lo then 11 else if r.lo < a ∨ b < r.hi then 2 else chkR t
theorem chkR_order {r : Rg} {a b : Int} {t : List (Rg × Int × Int)} (h : r.hi < r.lo) : chkR ((r, a, b) :: t) = 11 := by unfold chkR; rw [if_pos h]
theorem chkR_range {r : Rg} {a b : Int} {t : List (Rg × Int × Int)} (h : ¬ r.hi < r.lo) (h2 : r.lo < a ∨ b < r.hi) : chkR ((r, a, b) :: t) = 2 := by unfold chkR; rw [if_neg h, if_pos h2]
theorem chkR_next {r : Rg} {a b : Int} {t : List (Rg × Int × Int)} (h : ¬ r.hi < r.lo) (h1 : ¬ r.lo < a) (h2 : ¬ b < r.hi) : chkR ((r, a, b) :: t) = chkR t := by
  show (if r.hi < r.lo then 11 else if r.lo < a ∨ b < r.hi then 2 else chkR t) = chkR t
  rw [if_neg h, if_neg (by omega)]
theorem chkR_zero {r : Rg} {a b : Int} {t : List (Rg × Int × Int)} (h : chkR ((r, a, b) :: t) = 0) : (a ≤ r.lo ∧ r.lo ≤ r.hi ∧ r.hi ≤ b) ∧ chkR t = 0 := by
  have h : (if r.hi < r.lo then 11 else if r.lo < a ∨ b < r.hi then 2 else chkR t) = 0 := h
  by_cases h1 : r.hi < r.lo
  · rw [if_pos h1] at h; cases h
  · rw [if_neg h1] at h
    by_cases h2 : r.lo < a ∨ b < r.hi
    · rw [if_pos h2] at h; cases h
    · rw [if_neg h2] at h
      exact ⟨by omega, h⟩
def lawE (l : Lw) : Int := chkR [(l.perv, 0, 1000000), (l.gain, 1, 1000000), (l.shift, -1000000, 1000000), (l.full, 0, 1000000), (l.part, 0, 1000000)]
theorem lawE_ok {l : Lw} (h : lawE l = 0) : LwOK l := by
  obtain ⟨a0, h⟩ := chkR_zero h
  obtain ⟨a1, h⟩ := chkR_zero h
  obtain ⟨a2, h⟩ := chkR_zero h
  obtain ⟨a3, h⟩ := chkR_zero h
  obtain ⟨a4, h⟩ := chkR_zero h
  exact ⟨a0, a1, a2, a3, a4⟩
theorem lawE_of {l : Lw} (h : LwOK l) : lawE l = 0 := by
  obtain ⟨a0, a1, a2, a3, a4⟩ := h
  unfold lawE
  rw [chkR_next (by omega) (by omega) (by omega), chkR_next (by omega) (by omega) (by omega), chkR_next (by omega) (by omega) (by omega), chkR_next (by omega) (by omega) (by omega), chkR_next (by omega) (by omega) (by omega)]
  rfl

theorem rcheckRange_run (r : Rg) (a b : Int) : Ans Try.prog n_ref02_checkRange [.agg [.int .i64 r.lo, .int .i64 r.hi], .int .i64 a, .int .i64 b] [] (.int .i64 (chkR [(r, a, b)])) [] := by
  obtain ⟨R, hR⟩ : ∃ R, chkR [(r, a, b)] = R := ⟨_, rfl⟩
  rw [hR]
  refine spec_run e_ref02_checkRange fun G => ?_
  by_cases o : r.hi < r.lo
  · rw [chkR_order o] at hR; subst hR
    have o' : r.lo > r.hi := o
    simp only [go_sem, o, o']
  · by_cases u : r.lo < a
    · rw [chkR_range o (.inl u)] at hR; subst hR
      simp only [go_sem, o, u]
    · by_cases v : b < r.hi
      · rw [chkR_range o (.inr v)] at hR; subst hR
        simp only [go_sem, o, u, v]
      · rw [chkR_next o u v] at hR; subst hR
        simp only [go_sem, o, u, v, chkR]

set_option maxRecDepth 20000 in
theorem checkLaw_raw (l : Lw) : Ans Try.prog n_curve_CheckLaw [l.v] [] (.int .i64 (lawE l)) [] := by
  obtain ⟨R, hR⟩ : ∃ R, lawE l = R := ⟨_, rfl⟩
  rw [hR]
  unfold lawE at hR
  have u1 : IntKind.i64.wrap 1 = 1 := rfl
  have u2 : IntKind.i64.wrap 2 = 2 := rfl
  have u3 : IntKind.i64.wrap 3 = 3 := rfl
  have u4 : IntKind.i64.wrap 4 = 4 := rfl
  have u5 : IntKind.i64.wrap 5 = 5 := rfl
  refine spec_run e_curve_CheckLaw fun G => ?_
  simp only [go_sem, Lw.v, Lw.cs]
  refine loop_body 200 k_curve_CheckLaw_r10.eq_1 ?_
  by_cases o0 : l.perv.hi < l.perv.lo
  · rw [chkR_order o0] at hR; subst hR
    simp only [go_sem, o0]
  by_cases p0 : l.perv.lo < 0
  · rw [chkR_range o0 (.inl p0)] at hR; subst hR
    simp only [go_sem, o0, p0]
  by_cases q0 : 1000000 < l.perv.hi
  · rw [chkR_range o0 (.inr q0)] at hR; subst hR
    simp only [go_sem, o0, p0, q0]
  rw [chkR_next o0 p0 q0] at hR
  simp only [go_sem, o0, p0, q0, u1]
  refine loop_body 200 k_curve_CheckLaw_r10.eq_1 ?_
  by_cases o1 : l.gain.hi < l.gain.lo
  · rw [chkR_order o1] at hR; subst hR
    simp only [go_sem, o1]
  by_cases p1 : l.gain.lo < 1
  · rw [chkR_range o1 (.inl p1)] at hR; subst hR
    simp only [go_sem, o1, p1]
  by_cases q1 : 1000000 < l.gain.hi
  · rw [chkR_range o1 (.inr q1)] at hR; subst hR
    simp only [go_sem, o1, p1, q1]
  rw [chkR_next o1 p1 q1] at hR
  simp only [go_sem, o1, p1, q1, u2]
  refine loop_body 200 k_curve_CheckLaw_r10.eq_1 ?_
  by_cases o2 : l.shift.hi < l.shift.lo
  · rw [chkR_order o2] at hR; subst hR
    simp only [go_sem, o2]
  by_cases p2 : l.shift.lo < -1000000
  · rw [chkR_range o2 (.inl p2)] at hR; subst hR
    simp only [go_sem, o2, p2]
  by_cases q2 : 1000000 < l.shift.hi
  · rw [chkR_range o2 (.inr q2)] at hR; subst hR
    simp only [go_sem, o2, p2, q2]
  rw [chkR_next o2 p2 q2] at hR
  simp only [go_sem, o2, p2, q2, u3]
  refine loop_body 200 k_curve_CheckLaw_r10.eq_1 ?_
  by_cases o3 : l.full.hi < l.full.lo
  · rw [chkR_order o3] at hR; subst hR
    simp only [go_sem, o3]
  by_cases p3 : l.full.lo < 0
  · rw [chkR_range o3 (.inl p3)] at hR; subst hR
    simp only [go_sem, o3, p3]
  by_cases q3 : 1000000 < l.full.hi
  · rw [chkR_range o3 (.inr q3)] at hR; subst hR
    simp only [go_sem, o3, p3, q3]
  rw [chkR_next o3 p3 q3] at hR
  simp only [go_sem, o3, p3, q3, u4]
  refine loop_body 200 k_curve_CheckLaw_r10.eq_1 ?_
  by_cases o4 : l.part.hi < l.part.lo
  · rw [chkR_order o4] at hR; subst hR
    simp only [go_sem, o4]
  by_cases p4 : l.part.lo < 0
  · rw [chkR_range o4 (.inl p4)] at hR; subst hR
    simp only [go_sem, o4, p4]
  by_cases q4 : 1000000 < l.part.hi
  · rw [chkR_range o4 (.inr q4)] at hR; subst hR
    simp only [go_sem, o4, p4, q4]
  rw [chkR_next o4 p4 q4] at hR
  simp only [go_sem, o4, p4, q4, u5]
  refine loop_body 200 k_curve_CheckLaw_r10.eq_1 ?_
  subst hR
  simp only [go_sem, chkR]

theorem chkR_one {r : Rg} {a b : Int} {t : List (Rg × Int × Int)} (h : chkR [(r, a, b)] ≠ 0) : chkR ((r, a, b) :: t) = chkR [(r, a, b)] := by
  by_cases o : r.hi < r.lo
  · rw [chkR_order o, chkR_order o]
  · by_cases u : r.lo < a ∨ b < r.hi
    · rw [chkR_range o u, chkR_range o u]
    · exact absurd (by rw [chkR_next o (by omega) (by omega)]; rfl) h
theorem chkR_none {r : Rg} {a b : Int} {t : List (Rg × Int × Int)} (h : chkR [(r, a, b)] = 0) : chkR ((r, a, b) :: t) = chkR t := by
  obtain ⟨h1, _⟩ := chkR_zero h
  exact chkR_next (by omega) (by omega) (by omega)
set_option maxRecDepth 20000 in
theorem rcheckLaw_raw (l : Lw) : Ans Try.prog n_ref02_CheckLaw [l.v] [] (.int .i64 (lawE l)) [] := by
  obtain ⟨R, hR⟩ : ∃ R, lawE l = R := ⟨_, rfl⟩
  rw [hR]
  unfold lawE at hR
  have u1 : IntKind.i64.wrap 1 = 1 := rfl
  have u2 : IntKind.i64.wrap 2 = 2 := rfl
  have u3 : IntKind.i64.wrap 3 = 3 := rfl
  have u4 : IntKind.i64.wrap 4 = 4 := rfl
  have u5 : IntKind.i64.wrap 5 = 5 := rfl
  have k0 := rcheckRange_run l.perv (0) 1000000
  have k1 := rcheckRange_run l.gain (1) 1000000
  have k2 := rcheckRange_run l.shift (-1000000) 1000000
  have k3 := rcheckRange_run l.full (0) 1000000
  have k4 := rcheckRange_run l.part (0) 1000000
  refine spec_run e_ref02_CheckLaw fun G => ?_
  simp only [go_sem, Lw.v, Lw.cs]
  refine loop_body 200 k_ref02_CheckLaw_r10.eq_1 ?_
  simp only [go_sem]
  refine cP k0 ?_
  by_cases o0 : chkR [(l.perv, 0, 1000000)] = 0
  rotate_left
  · rw [chkR_one o0] at hR
    rw [hR] at o0
    rw [hR]
    simp only [go_sem, o0]
  rw [chkR_none o0] at hR
  simp only [go_sem, o0, u1]
  refine loop_body 200 k_ref02_CheckLaw_r10.eq_1 ?_
  simp only [go_sem]
  refine cP k1 ?_
  by_cases o1 : chkR [(l.gain, 1, 1000000)] = 0
  rotate_left
  · rw [chkR_one o1] at hR
    rw [hR] at o1
    rw [hR]
    simp only [go_sem, o1]
  rw [chkR_none o1] at hR
  simp only [go_sem, o1, u2]
  refine loop_body 200 k_ref02_CheckLaw_r10.eq_1 ?_
  simp only [go_sem]
  refine cP k2 ?_
  by_cases o2 : chkR [(l.shift, -1000000, 1000000)] = 0
  rotate_left
  · rw [chkR_one o2] at hR
    rw [hR] at o2
    rw [hR]
    simp only [go_sem, o2]
  rw [chkR_none o2] at hR
  simp only [go_sem, o2, u3]
  refine loop_body 200 k_ref02_CheckLaw_r10.eq_1 ?_
  simp only [go_sem]
  refine cP k3 ?_
  by_cases o3 : chkR [(l.full, 0, 1000000)] = 0
  rotate_left
  · rw [chkR_one o3] at hR
    rw [hR] at o3
    rw [hR]
    simp only [go_sem, o3]
  rw [chkR_none o3] at hR
  simp only [go_sem, o3, u4]
  refine loop_body 200 k_ref02_CheckLaw_r10.eq_1 ?_
  simp only [go_sem]
  refine cP k4 ?_
  by_cases o4 : chkR [(l.part, 0, 1000000)] = 0
  rotate_left
  · rw [chkR_one o4] at hR
    rw [hR] at o4
    rw [hR]
    simp only [go_sem, o4]
  rw [chkR_none o4] at hR
  simp only [go_sem, o4, u5]
  refine loop_body 200 k_ref02_CheckLaw_r10.eq_1 ?_
  subst hR
  simp only [go_sem, chkR]
end Go.Proofs

namespace Go.Proofs
open Go Go.Sx Go.Fam
attribute [local irreducible] Run

def inV (g p : Int) : Prop := (-1000000 ≤ g ∧ g ≤ 1000000) ∧ 0 ≤ p ∧ p ≤ 1000000
instance (g p : Int) : Decidable (inV g p) := by unfold inV; infer_instance
def volE (l : Lw) (g p : Int) : Int := if lawE l = 0 then (if inV g p then 0 else 2) else lawE l
def rgIf (e : Int) (r : Rg) : Rg := if e = 0 then r else ⟨0, 0⟩
def rgA (e : Int) (r : Rg) : AVal := .tup [(rgIf e r).v, .int .i64 e]
theorem rgA_eq (e : Int) (r : Rg) : rgA e r = .tup [.agg [.int .i64 (rgIf e r).lo, .int .i64 (rgIf e r).hi], .int .i64 e] := rfl
theorem rgA_no {e : Int} (r : Rg) (h : e ≠ 0) : rgA e r = .tup [.agg [.int .i64 0, .int .i64 0], .int .i64 e] := by rw [rgA_eq]; unfold rgIf; rw [if_neg h]
theorem rgA_yes {e : Int} (r : Rg) (h : e = 0) : rgA e r = .tup [r.v, .int .i64 0] := by subst h; rw [rgA_eq]; unfold rgIf; rw [if_pos rfl]; rfl

theorem checkVolts_raw (l : Lw) (g p : Int) : Ans Try.prog n_curve_checkVolts [l.v, .int .i64 g, .int .i64 p] [] (.int .i64 (volE l g p)) [] := by
  obtain ⟨R, hR⟩ : ∃ R, volE l g p = R := ⟨_, rfl⟩
  rw [hR]
  unfold volE at hR
  refine spec_run e_curve_checkVolts fun G => ?_
  simp only [go_sem, Lw.v, Lw.cs]
  refine callP (checkLaw_raw l) ⟨lw_bel _ _, trivial⟩ (.int _ _) (by simp) (by simp) ?_
  by_cases c : lawE l = 0
  · rw [if_pos c] at hR
    simp only [go_sem, c]
    refine callP (rightGrid_ok g) ⟨.int _ _, trivial⟩ (.bool _) (by simp) (by simp) ?_
    by_cases hg : -1000000 ≤ g ∧ g ≤ 1000000
    · have e1 : (decide (-1000000 ≤ g) && decide (g ≤ 1000000)) = true := by simp [hg]
      simp only [go_sem, e1]
      refine callP (rightPlate_ok p) ⟨.int _ _, trivial⟩ (.bool _) (by simp) (by simp) ?_
      by_cases hp : 0 ≤ p ∧ p ≤ 1000000
      · have e2 : (decide (0 ≤ p) && decide (p ≤ 1000000)) = true := by simp [hp]
        rw [if_pos ⟨hg, hp⟩] at hR; subst hR
        simp only [go_sem, e2]
      · have e2 : (decide (0 ≤ p) && decide (p ≤ 1000000)) = false := by simp; omega
        rw [if_neg (by unfold inV; omega)] at hR; subst hR
        simp only [go_sem, e2]
    · have e1 : (decide (-1000000 ≤ g) && decide (g ≤ 1000000)) = false := by simp; omega
      rw [if_neg (by unfold inV; omega)] at hR; subst hR
      simp only [go_sem, e1]
  · rw [if_neg c] at hR; subst hR
    simp only [go_sem, c]
theorem volE_ok {l : Lw} {g p : Int} (h : volE l g p = 0) : LwOK l ∧ inV g p := by
  unfold volE at h
  by_cases c : lawE l = 0
  · rw [if_pos c] at h
    by_cases d : inV g p
    · exact ⟨lawE_ok c, d⟩
    · rw [if_neg d] at h; cases h
  · rw [if_neg c] at h; exact absurd h c
theorem Current_raw (l : Lw) (g p : Int) : Ans Try.prog n_curve_Current [l.v, .int .i64 g, .int .i64 p] [] (rgA (volE l g p) (curOf l g p)) [] := by
  by_cases c : volE l g p = 0
  · obtain ⟨h, h1, h2⟩ := volE_ok c
    rw [rgA_yes _ c]
    exact Current_ok l h g p h1 h2
  · rw [rgA_no _ c]
    have k := checkVolts_raw l g p
    generalize volE l g p = e at *
    refine spec_run e_curve_Current fun G => ?_
    simp only [go_sem, Lw.v, Lw.cs]
    refine callP k ⟨lw_bel _ _, .int _ _, .int _ _, trivial⟩ (.int _ _) (by simp) (by simp) ?_
    simp only [go_sem, c]
theorem Drive_raw (l : Lw) (g p : Int) : Ans Try.prog n_curve_Drive [l.v, .int .i64 g, .int .i64 p] [] (rgA (volE l g p) (driveOf l g p)) [] := by
  by_cases c : volE l g p = 0
  · obtain ⟨h, h1, h2⟩ := volE_ok c
    rw [rgA_yes _ c]
    exact Drive_ok l h g p h1 h2
  · rw [rgA_no _ c]
    have k := checkVolts_raw l g p
    generalize volE l g p = e at *
    refine spec_run e_curve_Drive fun G => ?_
    simp only [go_sem, Lw.v, Lw.cs]
    refine callP k ⟨lw_bel _ _, .int _ _, .int _ _, trivial⟩ (.int _ _) (by simp) (by simp) ?_
    simp only [go_sem, c]
theorem rright_raw (g p : Int) : Ans Try.prog n_ref02_right [.int .i64 g, .int .i64 p] [] (.bool (decide (inV g p))) [] := rright_run g p
theorem rCurrent_raw (l : Lw) (g p : Int) : Ans Try.prog n_ref02_Current [l.v, .int .i64 g, .int .i64 p] [] (rgA (volE l g p) (curOf l g p)) [] := by
  have k1 := rcheckLaw_raw l
  have k2 := rright_raw g p
  refine spec_run e_ref02_Current fun G => ?_
  simp only [go_sem, Lw.v, Lw.cs]
  refine callP k1 ⟨lw_bel _ _, trivial⟩ (.int _ _) (by simp) (by simp) ?_
  by_cases c : lawE l = 0
  · simp only [go_sem, c]
    refine cP k2 ?_
    by_cases d : inV g p
    · have e0 : volE l g p = 0 := by unfold volE; rw [if_pos c, if_pos d]
      have k3 := rcurrent_run l (lawE_ok c) g p d.1 d.2
      rw [rgA_yes _ e0]
      simp only [go_sem, d]
      refine callP k3 ⟨lw_bel _ _, .int _ _, .int _ _, trivial⟩ (by unfold Rg.v; simp only [go_sem]) (by simp) (by simp) ?_
      simp only [go_sem, Rg.v]
    · have e0 : volE l g p = 2 := by unfold volE; rw [if_pos c, if_neg d]
      rw [rgA_no _ (by rw [e0]; decide), e0]
      simp only [go_sem, d]
  · have e0 : volE l g p = lawE l := by unfold volE; rw [if_neg c]
    rw [rgA_no _ (by rw [e0]; exact c), e0]
    simp only [go_sem, c]
theorem rDrive_raw (l : Lw) (g p : Int) : Ans Try.prog n_ref02_Drive [l.v, .int .i64 g, .int .i64 p] [] (rgA (volE l g p) (driveOf l g p)) [] := by
  have k1 := rcheckLaw_raw l
  have k2 := rright_raw g p
  refine spec_run e_ref02_Drive fun G => ?_
  simp only [go_sem, Lw.v, Lw.cs]
  refine callP k1 ⟨lw_bel _ _, trivial⟩ (.int _ _) (by simp) (by simp) ?_
  by_cases c : lawE l = 0
  · simp only [go_sem, c]
    refine cP k2 ?_
    by_cases d : inV g p
    · have e0 : volE l g p = 0 := by unfold volE; rw [if_pos c, if_pos d]
      have k3 := rdrive_run l (lawE_ok c) g p d.1 d.2
      rw [rgA_yes _ e0]
      simp only [go_sem, d]
      refine callP k3 ⟨lw_bel _ _, .int _ _, .int _ _, trivial⟩ (by unfold Rg.v; simp only [go_sem]) (by simp) (by simp) ?_
      simp only [go_sem, Rg.v]
    · have e0 : volE l g p = 2 := by unfold volE; rw [if_pos c, if_neg d]
      rw [rgA_no _ (by rw [e0]; decide), e0]
      simp only [go_sem, d]
  · have e0 : volE l g p = lawE l := by unfold volE; rw [if_neg c]
    rw [rgA_no _ (by rw [e0]; exact c), e0]
    simp only [go_sem, c]
end Go.Proofs

namespace Go.Proofs
open Go Go.Sx Go.Fam

def lsC (l : List Int) : AVal := if l = [] then .nilsl else vw l
def tbC (t : List (List Int)) : AVal := if t = [] then .nilsl else tw t
abbrev ivL (l : List Int) : List AVal := l.map (.int .i64)

theorem all3_ints {d : Nat} {H : Heap} : ∀ {ι : List Nat} {vs : List AVal} {l : List Int}, All3 (Dat d H) ι vs (l.map (.int .i64)) → vs = l.map (.int .i64) ∧ ι = []
  | ι, [], [], h => ⟨rfl, h⟩
  | ι, v :: vs, x :: l, h => by
    obtain ⟨κ, κ', rfl, h1, h2⟩ := h
    obtain ⟨rfl, rfl⟩ := all3_ints h2
    cases d with
    | zero => exact h1.elim
    | succ d =>
      obtain ⟨rfl, rfl, _⟩ := h1
      exact ⟨rfl, rfl⟩
  | _, [], _ :: _, h => h.elim
  | _, _ :: _, [], h => h.elim
theorem vw_get {d : Nat} {J : Heap} {κ : List Nat} {v : AVal} {l : List Int} (h : Dat (d + 1) J κ v (vw l)) : l ≠ [] ∧ ∃ r, v = .sl r 0 l.length ∧ κ = [r] ∧ J[r]? = some (some (.cells true 1 (ivL l))) := by
  obtain ⟨h0, r, vs, κ', rfl, rfl, h2, h3⟩ := h
  obtain ⟨rfl, rfl⟩ := all3_ints h3
  have hl : l ≠ [] := by rintro rfl; exact h0 rfl
  refine ⟨hl, r, by simp, rfl, ?_⟩
  cases l with
  | nil => exact absurd rfl hl
  | cons x l => exact h2
theorem vw_put {d : Nat} {J : Heap} {r n : Nat} {l : List Int} (h0 : l ≠ []) (hn : n = l.length) (h : J[r]? = some (some (.cells true 1 (ivL l)))) : Dat (d + 2) J [r] (.sl r 0 n) (vw l) := by
  have : l.map (AVal.int .i64) ≠ [] := by simpa using h0
  refine Dat.list (κ := []) this (by simpa using hn) ?_ h (Dat.ints _ _)
  cases l with
  | nil => exact absurd rfl h0
  | cons x l => rfl
theorem ls_get {d : Nat} {J : Heap} {κ : List Nat} {v : AVal} {l : List Int} (h : Dat (d + 1) J κ v (lsC l)) (h0 : l ≠ []) : ∃ r, v = .sl r 0 l.length ∧ κ = [r] ∧ J[r]? = some (some (.cells true 1 (ivL l))) := by
  unfold lsC at h; rw [if_neg h0] at h; exact (vw_get h).2
theorem ls_put {d : Nat} {J : Heap} {r n : Nat} {l : List Int} (h0 : l ≠ []) (hn : n = l.length) (h : J[r]? = some (some (.cells true 1 (ivL l)))) : Dat (d + 2) J [r] (.sl r 0 n) (lsC l) := by
  unfold lsC; rw [if_neg h0]; exact vw_put h0 hn h
theorem nil_get {d : Nat} {J : Heap} {κ : List Nat} {v : AVal} (h : Dat (d + 1) J κ v .nilsl) : v = .nilsl ∧ κ = [] := ⟨h.1, h.2.1⟩
theorem tb_get {d : Nat} {J : Heap} {κ : List Nat} {v : AVal} {t : List (List Int)} (h : Dat (d + 1) J κ v (tbC t)) (h0 : t ≠ []) : ∃ r vs κ', v = .sl r 0 t.length ∧ κ = κ' ++ [r] ∧ J[r]? = some (some (.cells true 1 vs)) ∧ All3 (Dat d J) κ' vs (t.map vw) := by
  unfold tbC at h; rw [if_neg h0] at h
  obtain ⟨_, r, vs, κ', rfl, rfl, h2, h3⟩ := h
  refine ⟨r, vs, κ', by simp, rfl, ?_, h3⟩
  cases t with
  | nil => exact absurd rfl h0
  | cons x l => exact h2
theorem tb_put {d : Nat} {J : Heap} {r n : Nat} {κ : List Nat} {vs : List AVal} {t : List (List Int)} (h0 : t ≠ []) (hn : n = t.length) (h : J[r]? = some (some (.cells true 1 vs))) (h3 : All3 (Dat d J) κ vs (t.map vw)) : Dat (d + 1) J (κ ++ [r]) (.sl r 0 n) (tbC t) := by
  unfold tbC; rw [if_neg h0]
  refine Dat.list (by simpa using h0) (by simpa using hn) ?_ h h3
  cases t with
  | nil => exact absurd rfl h0
  | cons x l => rfl

structure FS (F : Nat → Prop) (J : Heap) (g p : List Int) (L U : List (List Int)) (lo hi : List Int) (v0 v1 v2 v3 v4 v5 : AVal) (κ0 κ1 κ2 κ3 κ4 κ5 : List Nat) : Prop where
  len : ∀ a, F a → a < J.length
  d0 : Dat 5 J κ0 v0 (vw g)
  d1 : Dat 5 J κ1 v1 (vw p)
  d2 : Dat 5 J κ2 v2 (tbC L)
  d3 : Dat 5 J κ3 v3 (tbC U)
  d4 : Dat 5 J κ4 v4 (lsC lo)
  d5 : Dat 5 J κ5 v5 (lsC hi)
  nd : ∀ a, κ0.count a + κ1.count a + κ2.count a + κ3.count a + κ4.count a + κ5.count a ≤ 1
  ge : ∀ a, F a → κ0.count a + κ1.count a + κ2.count a + κ3.count a + κ4.count a + κ5.count a = 0

section
variable {F : Nat → Prop} {J J' : Heap} {g p : List Int} {L U : List (List Int)} {lo hi : List Int} {v0 v1 v2 v3 v4 v5 : AVal} {κ0 κ1 κ2 κ3 κ4 κ5 : List Nat}
theorem cnt_mem {κ : List Nat} {r : Nat} : r ∈ κ ↔ 0 < κ.count r := List.count_pos_iff.symm
theorem FS.up (h : FS F J g p L U lo hi v0 v1 v2 v3 v4 v5 κ0 κ1 κ2 κ3 κ4 κ5) : (∀ r ∈ κ0, ¬ F r) ∧ (∀ r ∈ κ1, ¬ F r) ∧ (∀ r ∈ κ2, ¬ F r) ∧ (∀ r ∈ κ3, ¬ F r) ∧ (∀ r ∈ κ4, ¬ F r) ∧ ∀ r ∈ κ5, ¬ F r := by
  have := h.ge
  refine ⟨?_, ?_, ?_, ?_, ?_, ?_⟩ <;>
  · intro r hr
    rw [cnt_mem] at hr
    intro hn
    have := h.ge r hn; omega
theorem FS.lt0 (h : FS F J g p L U lo hi v0 v1 v2 v3 v4 v5 κ0 κ1 κ2 κ3 κ4 κ5) {r : Nat} (hr : J.length ≤ r) : κ0.count r + κ1.count r + κ2.count r + κ3.count r + κ4.count r + κ5.count r = 0 := by
  have z : ∀ {κ : List Nat} {v c : AVal}, Dat 5 J κ v c → κ.count r = 0 := fun hd => List.count_eq_zero.2 fun hm => by have := hd.lt r hm; omega
  have := z h.d0; have := z h.d1; have := z h.d2; have := z h.d3; have := z h.d4; have := z h.d5; omega

theorem FS.first (h : FS F J g p L U [] [] v0 v1 v2 v3 v4 v5 κ0 κ1 κ2 κ3 κ4 κ5) : v4 = .nilsl ∧ v5 = .nilsl ∧ ∀ (J' : Heap) (r s : Nat) (x y : Int), r ≠ s → J.length ≤ r → J.length ≤ s → (∀ q, ¬ F q → q < J.length → J'[q]? = J[q]?) →
    J'[r]? = some (some (.cells true 1 [.int .i64 x])) → J'[s]? = some (some (.cells true 1 [.int .i64 y])) → FS F J' g p L U [x] [y] v0 v1 v2 v3 (.sl r 0 1) (.sl s 0 1) κ0 κ1 κ2 κ3 [r] [s] := by
  obtain ⟨e4, k4⟩ := nil_get (J := J) (d := 4) (κ := κ4) (v := v4) (by simpa [lsC] using h.d4)
  obtain ⟨e5, k5⟩ := nil_get (J := J) (d := 4) (κ := κ5) (v := v5) (by simpa [lsC] using h.d5)
  subst e4; subst e5; subst k4; subst k5
  refine ⟨rfl, rfl, fun J' r s x y hrs hr hs hJ h1 h2 => ?_⟩
  obtain ⟨u0, u1, u2, u3, _, _⟩ := h.up
  have l0 := h.len
  have m := fun {κ : List Nat} {v c : AVal} (hd : Dat 5 J κ v c) (hu : ∀ r ∈ κ, ¬ F r) => hd.congr fun q hq => hJ q (hu q hq) (hd.lt q hq)
  have hlt := (List.getElem?_eq_some_iff.1 h1).1
  refine ⟨fun a ha => by have := l0 a ha; omega, m h.d0 u0, m h.d1 u1, m h.d2 u2, m h.d3 u3, ls_put (by simp) rfl h1, ls_put (by simp) rfl h2, fun a => ?_, fun a ha => ?_⟩
  · have h3 := h.nd a
    have h4 := h.lt0 hr
    have h5 := h.lt0 hs
    simp only [List.count_nil, Nat.add_zero, List.count_cons, beq_iff_eq, Nat.zero_add] at *
    by_cases c1 : r = a
    · subst c1
      have c2 : ¬ s = r := fun e => hrs e.symm
      simp only [c2, if_true, if_false]; omega
    · by_cases c2 : s = a
      · subst c2
        simp only [c1, if_true, if_false]; omega
      · simp only [c1, c2, if_false]; omega
  · have h3 := h.ge a ha
    simp only [List.count_nil, Nat.add_zero, List.count_cons, beq_iff_eq, Nat.zero_add] at *
    have c1 : ¬ r = a := by have := l0 a ha; omega
    have c2 : ¬ s = a := by have := l0 a ha; omega
    simp only [c1, c2, if_false]; omega
theorem FS.next (h : FS F J g p L U lo hi v0 v1 v2 v3 v4 v5 κ0 κ1 κ2 κ3 κ4 κ5) (hlo : lo ≠ []) (hhi : hi ≠ []) : ∃ r s, v4 = .sl r 0 lo.length ∧ v5 = .sl s 0 hi.length ∧ r ≠ s ∧ ¬ F r ∧ ¬ F s ∧ J[r]? = some (some (.cells true 1 (ivL lo))) ∧ J[s]? = some (some (.cells true 1 (ivL hi))) ∧
    ∀ (J' : Heap) (x y : Int), (∀ q, ¬ F q → q < J.length → q ≠ r → q ≠ s → J'[q]? = J[q]?) → J'[r]? = some (some (.cells true 1 (ivL lo ++ [.int .i64 x]))) → J'[s]? = some (some (.cells true 1 (ivL hi ++ [.int .i64 y]))) → (∀ a, F a → a < J'.length) →
    FS F J' g p L U (lo ++ [x]) (hi ++ [y]) v0 v1 v2 v3 (.sl r 0 (lo.length + 1)) (.sl s 0 (hi.length + 1)) κ0 κ1 κ2 κ3 κ4 κ5 := by
  obtain ⟨r, e4, k4, g4⟩ := ls_get h.d4 hlo
  obtain ⟨s, e5, k5, g5⟩ := ls_get h.d5 hhi
  obtain ⟨u0, u1, u2, u3, u4, u5⟩ := h.up
  subst e4; subst e5; subst k4; subst k5
  have nr := h.nd r
  have ns := h.nd s
  have hrs : r ≠ s := by
    rintro rfl
    simp [List.count_cons] at nr
  refine ⟨r, s, rfl, rfl, hrs, u4 r (by simp), u5 s (by simp), g4, g5, fun J' x y hJ h1 h2 hn => ?_⟩
  have hsr : ¬ s = r := fun e => hrs e.symm
  simp only [List.count_cons, List.count_nil, beq_iff_eq, hrs, hsr, if_true, if_false] at nr ns
  have m := fun {κ : List Nat} {v c : AVal} (hd : Dat 5 J κ v c) (hu : ∀ r ∈ κ, ¬ F r) (c1 : κ.count r = 0) (c2 : κ.count s = 0) => hd.congr fun q hq => hJ q (hu q hq) (hd.lt q hq) (by rintro rfl; exact List.count_eq_zero.1 c1 hq) (by rintro rfl; exact List.count_eq_zero.1 c2 hq)
  refine ⟨hn, m h.d0 u0 (by omega) (by omega), m h.d1 u1 (by omega) (by omega), m h.d2 u2 (by omega) (by omega), m h.d3 u3 (by omega) (by omega), ls_put (by simp) (by simp) (by simpa using h1), ls_put (by simp) (by simp) (by simpa using h2), h.nd, h.ge⟩

theorem row_one {d : Nat} {J' : Heap} {κ : List Nat} {v : AVal} {lo : List Int} (h : Dat d J' κ v (vw lo)) : All3 (Dat d J') κ [v] ([lo].map vw) := ⟨κ, [], by simp, h, rfl⟩
theorem row_more {d : Nat} {J' : Heap} {κ κ' : List Nat} {v : AVal} {vs : List AVal} {t : List (List Int)} {lo : List Int} (h : All3 (Dat d J') κ vs (t.map vw)) (hv : Dat d J' κ' v (vw lo)) : All3 (Dat d J') (κ ++ κ') (vs ++ [v]) ((t ++ [lo]).map vw) := by
  rw [List.map_append]; exact h.snoc hv

theorem FS.row1 (h : FS F J g p [] [] lo hi v0 v1 v2 v3 v4 v5 κ0 κ1 κ2 κ3 κ4 κ5) (hlo : lo ≠ []) (hhi : hi ≠ []) : v2 = .nilsl ∧ v3 = .nilsl ∧ ∀ (J' : Heap) (r s : Nat), r ≠ s → J.length ≤ r → J.length ≤ s → (∀ q, ¬ F q → q < J.length → J'[q]? = J[q]?) →
    J'[r]? = some (some (.cells true 1 [v4])) → J'[s]? = some (some (.cells true 1 [v5])) → FS F J' g p [lo] [hi] [] [] v0 v1 (.sl r 0 1) (.sl s 0 1) .nilsl .nilsl κ0 κ1 (κ4 ++ [r]) (κ5 ++ [s]) [] [] := by
  obtain ⟨e2, k2⟩ := nil_get (J := J) (d := 4) (κ := κ2) (v := v2) (by simpa [tbC] using h.d2)
  obtain ⟨e3, k3⟩ := nil_get (J := J) (d := 4) (κ := κ3) (v := v3) (by simpa [tbC] using h.d3)
  subst e2; subst e3; subst k2; subst k3
  refine ⟨rfl, rfl, fun J' r s hrs hr hs hJ h1 h2 => ?_⟩
  obtain ⟨u0, u1, _, _, u4, u5⟩ := h.up
  have l0 := h.len
  obtain ⟨r4, e4, k4, g4⟩ := ls_get h.d4 hlo
  obtain ⟨s5, e5, k5, g5⟩ := ls_get h.d5 hhi
  have m := fun {κ : List Nat} {v c : AVal} (hd : Dat 5 J κ v c) (hu : ∀ r ∈ κ, ¬ F r) => hd.congr fun q hq => hJ q (hu q hq) (hd.lt q hq)
  have hlt := (List.getElem?_eq_some_iff.1 h1).1
  have w4 : Dat 4 J' κ4 v4 (vw lo) := by
    subst e4; subst k4
    exact vw_put hlo rfl (by rw [hJ r4 (u4 r4 (by simp)) (List.getElem?_eq_some_iff.1 g4).1]; exact g4)
  have w5 : Dat 4 J' κ5 v5 (vw hi) := by
    subst e5; subst k5
    exact vw_put hhi rfl (by rw [hJ s5 (u5 s5 (by simp)) (List.getElem?_eq_some_iff.1 g5).1]; exact g5)
  refine ⟨fun a ha => by have := l0 a ha; omega, m h.d0 u0, m h.d1 u1, tb_put (by simp) rfl h1 (row_one w4), tb_put (by simp) rfl h2 (row_one w5), ⟨rfl, rfl, rfl⟩, ⟨rfl, rfl, rfl⟩, fun a => ?_, fun a ha => ?_⟩
  · have h3 := h.nd a
    have h4 := h.lt0 hr
    have h5 := h.lt0 hs
    simp only [List.count_nil, Nat.add_zero, List.count_cons, List.count_append, beq_iff_eq, Nat.zero_add] at *
    by_cases c1 : r = a
    · subst c1
      have c2 : ¬ s = r := fun e => hrs e.symm
      simp only [c2, if_true, if_false]; omega
    · by_cases c2 : s = a
      · subst c2
        simp only [c1, if_true, if_false]; omega
      · simp only [c1, c2, if_false]; omega
  · have h3 := h.ge a ha
    simp only [List.count_nil, Nat.add_zero, List.count_cons, List.count_append, beq_iff_eq, Nat.zero_add] at *
    have c1 : ¬ r = a := by have := l0 a ha; omega
    have c2 : ¬ s = a := by have := l0 a ha; omega
    simp only [c1, c2, if_false]; omega
theorem FS.rows (h : FS F J g p L U lo hi v0 v1 v2 v3 v4 v5 κ0 κ1 κ2 κ3 κ4 κ5) (hL : L ≠ []) (hU : U ≠ []) (hlo : lo ≠ []) (hhi : hi ≠ []) : ∃ r s vs us κ2' κ3', v2 = .sl r 0 L.length ∧ v3 = .sl s 0 U.length ∧ r ≠ s ∧ ¬ F r ∧ ¬ F s ∧ J[r]? = some (some (.cells true 1 vs)) ∧ J[s]? = some (some (.cells true 1 us)) ∧
    vs.length = L.length ∧ us.length = U.length ∧ ∀ (J' : Heap), (∀ q, ¬ F q → q < J.length → q ≠ r → q ≠ s → J'[q]? = J[q]?) → J'[r]? = some (some (.cells true 1 (vs ++ [v4]))) → J'[s]? = some (some (.cells true 1 (us ++ [v5]))) → (∀ a, F a → a < J'.length) →
    FS F J' g p (L ++ [lo]) (U ++ [hi]) [] [] v0 v1 (.sl r 0 (L.length + 1)) (.sl s 0 (U.length + 1)) .nilsl .nilsl κ0 κ1 κ2' κ3' [] [] := by
  obtain ⟨r, vs, κ2', e2, k2, g2, a2⟩ := tb_get h.d2 hL
  obtain ⟨s, us, κ3', e3, k3, g3, a3⟩ := tb_get h.d3 hU
  obtain ⟨r4, e4, k4, g4⟩ := ls_get h.d4 hlo
  obtain ⟨s5, e5, k5, g5⟩ := ls_get h.d5 hhi
  obtain ⟨u0, u1, u2, u3, u4, u5⟩ := h.up
  subst e2; subst k2; subst e3; subst k3
  have nr := h.nd r
  have ns := h.nd s
  have hrs : r ≠ s := by
    rintro rfl
    simp [List.count_cons, List.count_append] at nr
    omega
  have hsr : ¬ s = r := fun e => hrs e.symm
  have l2 := a2.len
  have l3 := a3.len
  simp only [List.length_map] at l2 l3
  simp only [List.count_cons, List.count_append, List.count_nil, beq_iff_eq, hrs, hsr, if_true, if_false] at nr ns
  refine ⟨r, s, vs, us, κ2' ++ κ4 ++ [r], κ3' ++ κ5 ++ [s], rfl, rfl, hrs, u2 r (by simp), u3 s (by simp), g2, g3, l2, l3, fun J' hJ h1 h2 hn => ?_⟩
  have m := fun {d : Nat} {κ : List Nat} {v c : AVal} (hd : Dat d J κ v c) (hu : ∀ r ∈ κ, ¬ F r) (c1 : κ.count r = 0) (c2 : κ.count s = 0) => hd.congr fun q hq => hJ q (hu q hq) (hd.lt q hq) (by rintro rfl; exact List.count_eq_zero.1 c1 hq) (by rintro rfl; exact List.count_eq_zero.1 c2 hq)
  have ma := fun {κ : List Nat} {xs es : List AVal} (hd : All3 (Dat 4 J) κ xs es) (hu : ∀ r ∈ κ, ¬ F r) (c1 : κ.count r = 0) (c2 : κ.count s = 0) => hd.mono (R' := Dat 4 J') fun κ' v e hs _ he => he.congr fun q hq => hJ q (hu q (hs q hq)) (he.lt q hq) (by rintro rfl; exact List.count_eq_zero.1 c1 (hs _ hq)) (by rintro rfl; exact List.count_eq_zero.1 c2 (hs _ hq))
  have w4 : Dat 4 J' κ4 v4 (vw lo) := by
    have hc : r4 ≠ r ∧ r4 ≠ s := by
      subst k4
      refine ⟨?_, ?_⟩
      · rintro rfl; simp [List.count_cons] at nr; try omega
      · rintro rfl; simp [List.count_cons] at ns; try omega
    subst e4; subst k4
    exact vw_put hlo rfl (by rw [hJ r4 (u4 r4 (by simp)) (List.getElem?_eq_some_iff.1 g4).1 hc.1 hc.2]; exact g4)
  have w5 : Dat 4 J' κ5 v5 (vw hi) := by
    have hc : s5 ≠ r ∧ s5 ≠ s := by
      subst k5
      refine ⟨?_, ?_⟩
      · rintro rfl; simp [List.count_cons] at nr; try omega
      · rintro rfl; simp [List.count_cons] at ns; try omega
    subst e5; subst k5
    exact vw_put hhi rfl (by rw [hJ s5 (u5 s5 (by simp)) (List.getElem?_eq_some_iff.1 g5).1 hc.1 hc.2]; exact g5)
  have q2 := ma a2 (fun r hr => u2 r (by simp [hr])) (by omega) (by omega)
  have q3 := ma a3 (fun r hr => u3 r (by simp [hr])) (by omega) (by omega)
  refine ⟨hn, m h.d0 u0 (by omega) (by omega), m h.d1 u1 (by omega) (by omega), tb_put (by simp) (by simp) h1 (row_more q2 w4), tb_put (by simp) (by simp) h2 (row_more q3 w5), ⟨rfl, rfl, rfl⟩, ⟨rfl, rfl, rfl⟩, fun a => ?_, fun a ha => ?_⟩
  · have h3 := h.nd a
    simp only [List.count_append, List.count_nil, Nat.add_zero] at *
    omega
  · have h3 := h.ge a ha
    simp only [List.count_append, List.count_nil, Nat.add_zero] at *
    omega
theorem FS.all (h : FS F J g p L U [] [] v0 v1 v2 v3 v4 v5 κ0 κ1 κ2 κ3 κ4 κ5) (hL : L ≠ []) (hU : U ≠ []) : ∃ ι, Dat 6 J ι (.agg [v0, v1, v2, v3]) (Fv ⟨g, p, L, U⟩) ∧ ι.Nodup ∧ ∀ r ∈ ι, ¬ F r := by
  have d2 : Dat 5 J κ2 v2 (tw L) := by have := h.d2; unfold tbC at this; rwa [if_neg hL] at this
  have d3 : Dat 5 J κ3 v3 (tw U) := by have := h.d3; unfold tbC at this; rwa [if_neg hU] at this
  refine ⟨κ0 ++ (κ1 ++ (κ2 ++ (κ3 ++ []))), ⟨_, rfl, κ0, _, rfl, h.d0, κ1, _, rfl, h.d1, κ2, _, rfl, d2, κ3, [], rfl, d3, rfl⟩, List.nodup_iff_count.2 fun a => ?_, fun r hr => ?_⟩
  · have := h.nd a
    simp only [List.count_append, List.count_nil]
    omega
  · obtain ⟨u0, u1, u2, u3, _, _⟩ := h.up
    simp only [List.append_nil, List.mem_append] at hr
    rcases hr with hr | hr | hr | hr
    · exact u0 r hr
    · exact u1 r hr
    · exact u2 r hr
    · exact u3 r hr
end
end Go.Proofs

namespace Go.Proofs
open Go Go.Sx Go.Fam
attribute [local irreducible] Run

theorem rints_run (l : List Int) (hl : l.length ≤ 1000000) (h0 : l ≠ []) : Ans Try.prog n_ref02_ints [vw l] [] (.sl 0 0 l.length) [some (.cells true 1 (l.map (.int .i64)))] := by
  have h8 : l.length * 8 ≤ 2 ^ 44 := by omega
  have h1 : ¬ l = [] := h0
  refine spec_run e_ref02_ints fun G => ?_
  simp only [go_sem, vw, List.length_map, h8, h1]
  simp [h1]
theorem cells_more {H : Heap} {j : Nat} {r : Bool × Nat × List AVal} (h : H.cellsAt j = some r) (Y : Heap) : (H ++ Y).cellsAt j = some r := by
  unfold Heap.cellsAt at *
  rcases hj : H[j]? with _ | _ | x
  · rw [hj] at h; simp at h
  · rw [hj] at h; simp at h
  · rw [List.getElem?_append_left (List.getElem?_eq_some_iff.1 hj).1, hj]
    rw [hj] at h
    exact h
theorem put_more {H : Heap} {j : Nat} (h : j < H.length) (Y : Heap) (x : Row) : Heap.put (H ++ Y) j x = H.set j (some x) ++ Y := by
  rw [put_lt (by simp; omega), List.set_append_left _ _ h]

def ofT (f : Rg → Int) (l : Lw) (g p : List Int) : List (List Int) := g.map fun x => p.map fun y => f (curOf l x y)
def ofF (l : Lw) (g p : List Int) : Fa := ⟨g, p, ofT Rg.lo l g p, ofT Rg.hi l g p⟩
def rowT (f : Rg → Int) (l : Lw) (x : Int) (p : List Int) : List Int := p.map fun y => f (curOf l x y)
def oF (a : Nat) : Prop := a = 0 ∨ a = 1 ∨ a = 4
structure OfH (l : Lw) (J : Heap) (v0 v1 v2 v3 : AVal) : Prop where
  r0 : J[0]? = some (some (.cells false 10 [l.v]))
  r1 : J[1]? = some (some (.cells false 4 [.agg [.nilsl, .nilsl, .nilsl, .nilsl]]))
  r4 : J[4]? = some (some (.cells false 4 [.agg [v0, v1, v2, v3]]))
theorem OfH.mono {l : Lw} {J J' : Heap} {v0 v1 v2 v3 : AVal} (h : OfH l J v0 v1 v2 v3) (hJ : ∀ q, oF q → q < J.length → J'[q]? = J[q]?) : OfH l J' v0 v1 v2 v3 :=
  ⟨by rw [hJ 0 (by simp [oF]) (List.getElem?_eq_some_iff.1 h.r0).1]; exact h.r0, by rw [hJ 1 (by simp [oF]) (List.getElem?_eq_some_iff.1 h.r1).1]; exact h.r1, by rw [hJ 4 (by simp [oF]) (List.getElem?_eq_some_iff.1 h.r4).1]; exact h.r4⟩
theorem cells_mid {A : Heap} {n : Nat} (h : A.length = n) (g : Bool) (sz : Nat) (es : List AVal) (Y : Heap) : Heap.cellsAt (A ++ some (.cells g sz es) :: Y) n = some (g, sz, es) :=
  cells_at (by rw [List.getElem?_append_right (by omega), h, Nat.sub_self]; rfl)
theorem get_new {A Y : Heap} {n i : Nat} (h : A.length = n) : (A ++ Y)[n + i]? = Y[i]? := by rw [List.getElem?_append_right (by omega), h, Nat.add_sub_cancel_left]
theorem two_off {J Y : Heap} {r s q : Nat} {A B : Option Row} (h : q < J.length) (h1 : q ≠ r) (h2 : q ≠ s) : ((J.set r A).set s B ++ Y)[q]? = J[q]? := by
  rw [List.getElem?_append_left (by simpa using h), List.getElem?_set_ne (fun e => h2 e.symm), List.getElem?_set_ne (fun e => h1 e.symm)]
theorem two_r {J Y : Heap} {r s : Nat} {A B : Option Row} (h : r < J.length) (h1 : r ≠ s) : ((J.set r A).set s B ++ Y)[r]? = some A := by
  rw [List.getElem?_append_left (by simpa using h), List.getElem?_set_ne (fun e => h1 e.symm), List.getElem?_set_self h]
theorem two_s {J Y : Heap} {r s : Nat} {A B : Option Row} (h : s < J.length) : ((J.set r A).set s B ++ Y)[s]? = some B := by
  rw [List.getElem?_append_left (by simpa using h), List.getElem?_set_self (by simpa using h)]
def OfI (l : Lw) (g p : List Int) (J : Heap) (L U : List (List Int)) (lo hi : List Int) (v0 v1 v2 v3 v4 v5 : AVal) : Prop := OfH l J v0 v1 v2 v3 ∧ ∃ κ0 κ1 κ2 κ3 κ4 κ5, FS oF J g p L U lo hi v0 v1 v2 v3 v4 v5 κ0 κ1 κ2 κ3 κ4 κ5
def oT (g p : List Int) : List (Nat × AVal) := [(1, vw g), (2, vw p), (3, .ptr 0 0 0 1), (6, .ptr 1 0 0 1), (7, .int .i64 0), (10, .ptr 4 0 0 1)]

set_option maxHeartbeats 4000000 in
set_option maxRecDepth 20000 in
theorem rOf_fn (l : Lw) (h : LwOK l) (g p : List Int) (hg : Asc (-1000000) g) (hp : Asc 0 p) : Go.Sx.Fn Try.prog n_ref02_Of [l.v, vw g, vw p] [] fun v H' => ∃ ι, Dat 7 H' ι v (.tup [Fv (ofF l g p), .int .i64 0]) ∧ ι.Nodup := by
  have g0 : g ≠ [] := by have := hg.pos; rintro rfl; simp at this
  have p0 : p ≠ [] := by have := hp.pos; rintro rfl; simp at this
  have gm := hg.most
  have pm := hp.most
  have k1 := rCheckLaw_ok l h
  have k2 := rcheckLines_run g p (by omega) (by omega)
  rw [line_iff.2 ⟨hg, hp⟩] at k2
  have k3 := rints_run g (by omega) g0
  have k4 := rints_run p (by omega) p0
  refine run_fn e_ref02_Of fun G => ?_
  simp only [Lw.v, Lw.cs] at k1
  simp only [go_sem, Lw.v, Lw.cs]
  refine cP k1 ?_
  simp only [go_sem]
  refine cP k2 ?_
  simp only [go_sem]
  refine cN1 k3 ?_
  simp only [go_sem, ren]
  refine cN1 k4 ?_
  simp only [go_sem, ren]
  have hI0 : OfI l g p [some (.cells false 10 [l.v]), some (.cells false 4 [.agg [.nilsl, .nilsl, .nilsl, .nilsl]]), some (.cells true 1 (ivL g)), some (.cells true 1 (ivL p)), some (.cells false 4 [.agg [.sl 2 0 g.length, .sl 3 0 p.length, .nilsl, .nilsl]])] [] [] [] []
      (.sl 2 0 g.length) (.sl 3 0 p.length) .nilsl .nilsl .nilsl .nilsl := by
    refine ⟨⟨rfl, rfl, rfl⟩, [2], [3], [], [], [], [], fun a ha => by unfold oF at ha; simp; omega, vw_put g0 rfl rfl, vw_put p0 rfl rfl, ⟨rfl, rfl, rfl⟩, ⟨rfl, rfl, rfl⟩, ⟨rfl, rfl, rfl⟩, ⟨rfl, rfl, rfl⟩, fun a => ?_, fun a ha => ?_⟩
    · simp only [List.count_cons, List.count_nil, beq_iff_eq]
      split <;> split <;> omega
    · unfold oF at ha
      simp only [List.count_cons, List.count_nil, beq_iff_eq]
      rw [if_neg (by omega), if_neg (by omega)]
  refine loop_ind k_ref02_Of_r19.eq_1 (fun a : Nat × Heap × AVal × AVal × AVal × AVal => a.1 ≤ g.length ∧ OfI l g p a.2.1 (ofT Rg.lo l (g.take a.1) p) (ofT Rg.hi l (g.take a.1) p) [] [] a.2.2.1 a.2.2.2.1 a.2.2.2.2.1 a.2.2.2.2.2 .nilsl .nilsl) (fun a => g.length - a.1)
    (fun a => (tsets 79 (oT g p ++ [(11, .int .i64 a.1)]), a.2.1)) (0, _, .sl 2 0 g.length, .sl 3 0 p.length, .nilsl, .nilsl) ⟨Nat.zero_le _, hI0⟩ (by simp [go_sem, oT]) (by simp [Lw.v, Lw.cs]) ?_
  rintro ⟨i, J, v0, v1, v2, v3⟩ ⟨hi, hI⟩ ih
  dsimp only at hi hI ih ⊢
  by_cases h1 : i < g.length
  · have h2 : (i : Int) < g.length := by omega
    have m0 : ¬ (i : Int) < 0 := by omega
    have h3 := idx_next h1 (by omega)
    have hx := get_at h1
    obtain ⟨x, hxe⟩ : ∃ x, at1 g i = x := ⟨_, rfl⟩
    have hxr := hg.inn i h1
    rw [hxe] at hx hxr
    simp only [go_sem, oT, h2, vw, List.length_map]
    refine loop_ind k_ref02_Of_r16.eq_1 (fun a : Nat × Heap × AVal × AVal => a.1 ≤ p.length ∧ OfI l g p a.2.1 (ofT Rg.lo l (g.take i) p) (ofT Rg.hi l (g.take i) p) (rowT Rg.lo l x (p.take a.1)) (rowT Rg.hi l x (p.take a.1)) v0 v1 v2 v3 a.2.2.1 a.2.2.2) (fun a => p.length - a.1)
      (fun a => (tsets 79 (oT g p ++ [(11, .int .i64 i), (12, a.2.2.1), (13, a.2.2.2), (14, .int .i64 a.1)]), a.2.1)) (0, J, .nilsl, .nilsl) ⟨Nat.zero_le _, hI⟩ (by simp [go_sem, oT, vw]) rfl ?_
    rintro ⟨k, J, v4, v5⟩ ⟨hk, hR⟩ ihk
    dsimp only at hk hR ihk ⊢
    by_cases j1 : k < p.length
    · have j2 : (k : Int) < p.length := by omega
      have m1 : ¬ (k : Int) < 0 := by omega
      have j3 := idx_next j1 (by omega)
      have hy := get_at j1
      obtain ⟨y, hye⟩ : ∃ y, at1 p k = y := ⟨_, rfl⟩
      have hyr := hp.inn k j1
      rw [hye] at hy hyr
      have kc := rcurrent_run l h x y (by omega) (by omega)
      obtain ⟨⟨f0, f1, f4⟩, κ0, κ1, κ2, κ3, κ4, κ5, hF⟩ := hR
      have c0 := cells_at f0
      simp only [Lw.v, Lw.cs, Rg.v] at kc c0
      have hsnoc : ∀ f : Rg → Int, rowT f l x (p.take (k + 1)) = rowT f l x (p.take k) ++ [f (curOf l x y)] := fun f => by unfold rowT; rw [List.take_add_one, hy, List.map_append]; rfl
      have ihn := fun J' v4' v5' hh => ihk (k + 1, J', v4', v5') (by omega) ⟨j1, hh⟩
      clear ihk
      dsimp only at ihn
      rw [hsnoc, hsnoc] at ihn
      have hrl : ∀ f : Rg → Int, (rowT f l x (p.take k)).length = k := fun f => by unfold rowT; simp; omega
      have hl1 := hrl Rg.lo
      have hl2 := hrl Rg.hi
      generalize rowT Rg.lo l x (p.take k) = lo at *
      generalize rowT Rg.hi l x (p.take k) = hi at *
      generalize curOf l x y = c at *
      by_cases k0 : k = 0
      · have : lo = [] := List.length_eq_zero_iff.1 (by omega)
        subst this
        have : hi = [] := List.length_eq_zero_iff.1 (by omega)
        subst this
        obtain ⟨e4, e5, hn⟩ := hF.first
        subst e4; subst e5
        simp only [go_sem, oT, j2, vw, List.length_map, m0, m1, hx, hy, Int.toNat_natCast, c0]
        refine dP kc ?_
        simp only [go_sem, cells_end, j3]
        refine ⟨by have := hF.len 4 (by simp [oF]); omega, by decide, by simp, by simp, by simp, by decide, ?_⟩
        exact ihn _ _ _ ⟨OfH.mono ⟨f0, f1, f4⟩ fun q _ hq => List.getElem?_append_left hq, _, _, _, _, _, _, hn _ (J.length + 2) (J.length + 4) c.lo c.hi (by omega) (by omega) (by omega) (fun q _ hq => List.getElem?_append_left hq) (by rw [get_new rfl]; rfl) (by rw [get_new rfl]; rfl)⟩ _ (by simp [go_sem, oT, vw])
      · have lo0 : lo ≠ [] := by rintro rfl; simp at hl1; omega
        have hi0 : hi ≠ [] := by rintro rfl; simp at hl2; omega
        obtain ⟨r, s, e4, e5, hrs, hr, hs, g4, g5, hn⟩ := hF.next lo0 hi0
        subst e4; subst e5
        have hrl := (List.getElem?_eq_some_iff.1 g4).1
        have hsl := (List.getElem?_eq_some_iff.1 g5).1
        have q1 := fun Y => cells_more (cells_at g4) Y
        have q2 := fun Y x => put_more (H := J) hrl Y x
        have q3 := fun x Y => cells_more (H := J.set r x) (j := s) (cells_at (by rw [List.getElem?_set_ne hrs]; exact g5)) Y
        have q4 := fun z Y x => put_more (H := J.set r z) (j := s) (by simpa using hsl) Y x
        have q5 := fun x g sz es Y => cells_mid (A := J.set r x) (n := J.length) (by simp) g sz es Y
        have z0 := hF.len 4 (by simp [oF])
        have z1 : (lo.length + 1) * 8 ≤ 2 ^ 44 := by omega
        have z2 : (hi.length + 1) * 8 ≤ 2 ^ 44 := by omega
        have z3 : ¬ r = J.length := by omega
        have z4 : ¬ s = J.length := by omega
        simp only [go_sem, oT, j2, vw, List.length_map, m0, m1, hx, hy, Int.toNat_natCast, c0]
        refine dP kc ?_
        simp only [go_sem, cells_end, j3, q1, q2, q3, q4, q5, z1, z2]
        refine ⟨by omega, by simp; omega, by simp; omega, by simp; omega, ?_⟩
        exact ihn _ _ _ ⟨OfH.mono ⟨f0, f1, f4⟩ fun q hq hl => two_off hl (fun e => hr (by rw [← e]; exact hq)) (fun e => hs (by rw [← e]; exact hq)), _, _, _, _, _, _, hn _ c.lo c.hi (fun q _ hl a b => two_off hl a b) (two_r hrl hrs) (two_s hsl) (fun a ha => by have := hF.len a ha; simp; omega)⟩ _ (by simp [go_sem, oT, vw])
    · have j2 : ¬ (k : Int) < p.length := by omega
      obtain rfl : k = p.length := by omega
      rw [List.take_length] at hR
      have hl1 : (rowT Rg.lo l x p).length = p.length := by simp [rowT]
      have hl2 : (rowT Rg.hi l x p).length = p.length := by simp [rowT]
      have lo0 : rowT Rg.lo l x p ≠ [] := by intro e; rw [e] at hl1; exact p0 (List.length_eq_zero_iff.1 hl1.symm)
      have hi0 : rowT Rg.hi l x p ≠ [] := by intro e; rw [e] at hl2; exact p0 (List.length_eq_zero_iff.1 hl2.symm)
      have htn : ∀ f : Rg → Int, ofT f l (g.take (i + 1)) p = ofT f l (g.take i) p ++ [rowT f l x p] := fun f => by unfold ofT rowT; rw [List.take_add_one, hx, List.map_append]; rfl
      have htl : ∀ f : Rg → Int, (ofT f l (g.take i) p).length = i := fun f => by unfold ofT; simp; omega
      have ihn := fun J' v0' v1' v2' v3' hh => ih (i + 1, J', v0', v1', v2', v3') (by omega) ⟨h1, hh⟩
      clear ih ihk
      dsimp only at ihn
      rw [htn, htn] at ihn
      have t1 := htl Rg.lo
      have t2 := htl Rg.hi
      generalize rowT Rg.lo l x p = lo at *
      generalize rowT Rg.hi l x p = hi at *
      generalize ofT Rg.lo l (g.take i) p = L at *
      generalize ofT Rg.hi l (g.take i) p = U at *
      obtain ⟨⟨f0, f1, f4⟩, κ0, κ1, κ2, κ3, κ4, κ5, hF⟩ := hR
      have c4 := cells_at f4
      have z0 := hF.len 4 (by simp [oF])
      obtain ⟨r4, e4, -, -⟩ := ls_get hF.d4 lo0
      obtain ⟨r5, e5, -, -⟩ := ls_get hF.d5 hi0
      subst e4; subst e5
      have hlt4 := (List.getElem?_eq_some_iff.1 f4).1
      have q1 := fun Y => cells_more c4 Y
      by_cases i0 : i = 0
      · have : L = [] := List.length_eq_zero_iff.1 (by omega)
        subst this
        have : U = [] := List.length_eq_zero_iff.1 (by omega)
        subst this
        obtain ⟨e2, e3, hn⟩ := hF.row1 lo0 hi0
        subst e2; subst e3
        have q2 := fun Y x => put_more (H := J) hlt4 Y x
        have q3 := fun g sz es Y => cells_more (H := J.set 4 (some (Row.cells g sz es))) (j := 4) (cells_at (List.getElem?_set_self hlt4)) Y
        have q4 := fun z Y x => put_more (H := J.set 4 z) (j := 4) (by simpa using hlt4) Y x
        simp only [go_sem, oT, j2, vw, List.length_map, c4, h3, q1, q2, q3, q4, List.set_set]
        refine ⟨by simp; omega, by decide, by simp; omega, by simp; omega, by simp; omega, by decide, by simp; omega, ?_⟩
        have off : ∀ (A : Option Row) (Y : Heap) (q : Nat), q < J.length → q ≠ 4 → (J.set 4 A ++ Y)[q]? = J[q]? := fun A Y q hq hn => by rw [List.getElem?_append_left (by simpa using hq), List.getElem?_set_ne (fun e => hn e.symm)]
        have at4 : ∀ (A : Option Row) (Y : Heap), (J.set 4 A ++ Y)[4]? = some A := fun A Y => by rw [List.getElem?_append_left (by simpa using hlt4), List.getElem?_set_self hlt4]
        exact ihn _ _ _ _ _ ⟨⟨by rw [off _ _ 0 (by omega) (by omega)]; exact f0, by rw [off _ _ 1 (by omega) (by omega)]; exact f1, at4 _ _⟩, _, _, _, _, _, _, hn _ (J.length + 1) (J.length + 3) (by omega) (by omega) (by omega) (fun q hnF hq => off _ _ q hq (by rintro rfl; exact hnF (by simp [oF]))) (by rw [get_new (by simp)]; rfl) (by rw [get_new (by simp)]; rfl)⟩ _ (by simp [go_sem, oT, vw])
      · have L0 : L ≠ [] := by rintro rfl; simp at t1; omega
        have U0 : U ≠ [] := by rintro rfl; simp at t2; omega
        obtain ⟨r, s, vs, us, κ2', κ3', e2, e3, hrs, hr, hs, g2, g3, l2, l3, hn⟩ := hF.rows L0 U0 lo0 hi0
        subst e2; subst e3
        have hrl := (List.getElem?_eq_some_iff.1 g2).1
        have hsl := (List.getElem?_eq_some_iff.1 g3).1
        have r4' : r ≠ 4 := by rintro rfl; exact hr (by simp [oF])
        have s4' : s ≠ 4 := by rintro rfl; exact hs (by simp [oF])
        have z1 : (L.length + 1) * 24 ≤ 2 ^ 44 := by omega
        have z2 : (U.length + 1) * 24 ≤ 2 ^ 44 := by omega
        have a1 := fun Y => cells_more (cells_at g2) Y
        have a2 := fun Y x => put_more (H := J) hrl Y x
        have a3 := fun x Y => cells_more (H := J.set r x) (j := 4) (cells_at (by rw [List.getElem?_set_ne r4']; exact f4)) Y
        have a4 := fun x Y => cells_more (H := J.set r x) (j := s) (cells_at (by rw [List.getElem?_set_ne hrs]; exact g3)) Y
        have a5 := fun z Y x => put_more (H := J.set r z) (j := s) (by simpa using hsl) Y x
        have a6 := fun x y Y => cells_more (H := (J.set r x).set s y) (j := 4) (cells_at (by rw [List.getElem?_set_ne s4', List.getElem?_set_ne r4']; exact f4)) Y
        have a7 := fun z y Y x => put_more (H := (J.set r z).set s y) (j := 4) (by simpa using hlt4) Y x
        have a8 := fun x y g sz es Y => cells_more (H := ((J.set r x).set s y).set 4 (some (Row.cells g sz es))) (j := 4) (cells_at (List.getElem?_set_self (by simpa using hlt4))) Y
        have a9 := fun z y w Y x => put_more (H := ((J.set r z).set s y).set 4 w) (j := 4) (by simpa using hlt4) Y x
        simp only [go_sem, oT, j2, vw, List.length_map, c4, h3, q1, a1, a2, a3, a4, a5, a6, a7, a8, a9, List.set_set, z1, z2, l2, l3]
        refine ⟨by simp; omega, by simp; omega, by simp; omega, by simp; omega, by simp; omega, ?_⟩
        have off : ∀ (A B C : Option Row) (Y : Heap) (q : Nat), q < J.length → q ≠ r → q ≠ s → q ≠ 4 → (((J.set r A).set s B).set 4 C ++ Y)[q]? = J[q]? := fun A B C Y q hq n1 n2 n3 => by
          rw [List.getElem?_append_left (by simpa using hq), List.getElem?_set_ne (fun e => n3 e.symm), List.getElem?_set_ne (fun e => n2 e.symm), List.getElem?_set_ne (fun e => n1 e.symm)]
        have at4 : ∀ (A B C : Option Row) (Y : Heap), (((J.set r A).set s B).set 4 C ++ Y)[4]? = some C := fun A B C Y => by rw [List.getElem?_append_left (by simpa using hlt4), List.getElem?_set_self (by simpa using hlt4)]
        have atr : ∀ (A B C : Option Row) (Y : Heap), (((J.set r A).set s B).set 4 C ++ Y)[r]? = some A := fun A B C Y => by
          rw [List.getElem?_append_left (by simpa using hrl), List.getElem?_set_ne (fun e => r4' e.symm), List.getElem?_set_ne (fun e => hrs e.symm), List.getElem?_set_self hrl]
        have ats : ∀ (A B C : Option Row) (Y : Heap), (((J.set r A).set s B).set 4 C ++ Y)[s]? = some B := fun A B C Y => by
          rw [List.getElem?_append_left (by simpa using hsl), List.getElem?_set_ne (fun e => s4' e.symm), List.getElem?_set_self (by simpa using hsl)]
        have nr : ∀ q, oF q → q ≠ r := fun q hq e => hr (by rw [← e]; exact hq)
        have ns : ∀ q, oF q → q ≠ s := fun q hq e => hs (by rw [← e]; exact hq)
        exact ihn _ _ _ _ _ ⟨⟨by rw [off _ _ _ _ 0 (by omega) (nr 0 (by simp [oF])) (ns 0 (by simp [oF])) (by omega)]; exact f0, by rw [off _ _ _ _ 1 (by omega) (nr 1 (by simp [oF])) (ns 1 (by simp [oF])) (by omega)]; exact f1, at4 _ _ _ _⟩, _, _, _, _, _, _,
          hn _ (fun q hnF hq n1 n2 => off _ _ _ _ q hq n1 n2 (by rintro rfl; exact hnF (by simp [oF]))) (atr _ _ _ _) (ats _ _ _ _) (fun a ha => by have := hF.len a ha; simp; omega)⟩ _ (by simp [go_sem, oT, vw])
  · have h2 : ¬ (i : Int) < g.length := by omega
    obtain rfl : i = g.length := by omega
    rw [List.take_length] at hI
    obtain ⟨⟨f0, f1, f4⟩, κ0, κ1, κ2, κ3, κ4, κ5, hF⟩ := hI
    have hne : ∀ f : Rg → Int, ofT f l g p ≠ [] := fun f e => g0 (by unfold ofT at e; simpa using e)
    obtain ⟨ι, hD, hnd, hge⟩ := hF.all (hne _) (hne _)
    obtain ⟨_, b0, e0, -, -⟩ := vw_get hF.d0
    obtain ⟨_, b1, e1, -, -⟩ := vw_get hF.d1
    obtain ⟨b2, _, _, e2, -, -, -⟩ := tb_get hF.d2 (hne _)
    obtain ⟨b3, _, _, e3, -, -, -⟩ := tb_get hF.d3 (hne _)
    subst e0; subst e1; subst e2; subst e3
    have c4 := cells_at f4
    have c1 := cells_at f1
    have hlt1 := (List.getElem?_eq_some_iff.1 f1).1
    have q1 := fun x => put_lt (H := J) (x := x) hlt1
    have q2 := fun g sz es => cells_at (H := J.set 1 (some (Row.cells g sz es))) (j := 1) (List.getElem?_set_self hlt1)
    simp only [go_sem, oT, h2, vw, List.length_map, c4, c1, q1, q2]
    exact ⟨ι, ⟨_, rfl, ι, [], by simp, hD.set _ (fun h => hge 1 h (by simp [oF])), [], [], rfl, .int _ _ _ _, rfl⟩, hnd⟩
theorem fv_pure {f : Fa} (h0 : f.g ≠ []) (h1 : f.p ≠ []) (h2 : f.lo ≠ []) (h3 : f.hi ≠ []) (h4 : ∀ r ∈ f.lo, r ≠ []) (h5 : ∀ r ∈ f.hi, r ≠ []) : Pure 6 (Fv f) := by
  have iv : ∀ (d : Nat) (l : List Int), l ≠ [] → Pure (d + 2) (vw l) := fun d l hl => ⟨by simpa using hl, fun e he => by obtain ⟨x, _, rfl⟩ := List.mem_map.1 he; rfl⟩
  have tv : ∀ (t : List (List Int)), t ≠ [] → (∀ r ∈ t, r ≠ []) → Pure 5 (tw t) := fun t ht hr => ⟨by simpa using ht, fun e he => by obtain ⟨x, hx, rfl⟩ := List.mem_map.1 he; exact iv _ x (hr x hx)⟩
  intro e he
  simp only [Fcs, List.mem_cons, List.not_mem_nil, or_false] at he
  rcases he with rfl | rfl | rfl | rfl
  · exact iv _ _ h0
  · exact iv _ _ h1
  · exact tv _ h2 h4
  · exact tv _ h3 h5
theorem ofF_pure (l : Lw) {g p : List Int} (g0 : g ≠ []) (p0 : p ≠ []) : Pure 6 (Fv (ofF l g p)) := by
  have r0 : ∀ f : Rg → Int, ofT f l g p ≠ [] := fun f e => g0 (by unfold ofT at e; simpa using e)
  have r1 : ∀ f : Rg → Int, ∀ r ∈ ofT f l g p, r ≠ [] := fun f r hr e => by
    obtain ⟨x, _, rfl⟩ := List.mem_map.1 hr
    exact p0 (by simpa using e)
  exact fv_pure g0 p0 (r0 _) (r0 _) (r1 _) (r1 _)
def ofC (l : Lw) (g p : List Int) : AVal := .tup [Fv (ofF l g p), .int .i64 0]
theorem ofC_pure (l : Lw) {g p : List Int} (g0 : g ≠ []) (p0 : p ≠ []) : Pure 7 (ofC l g p) := by
  intro e he
  simp only [List.mem_cons, List.not_mem_nil, or_false] at he
  rcases he with rfl | rfl
  · exact ofF_pure l g0 p0
  · rfl
theorem rOf_run (l : Lw) (h : LwOK l) {g p : List Int} (hg : Asc (-1000000) g) (hp : Asc 0 p) : Ans Try.prog n_ref02_Of [l.v, vw g, vw p] [] (thaw 7 0 (ofC l g p)).1 (thaw 7 0 (ofC l g p)).2 :=
  ans_dat0 (ofC_pure l (by have := hg.pos; rintro rfl; simp at this) (by have := hp.pos; rintro rfl; simp at this)) (rOf_fn l h g p hg hp)
end Go.Proofs

namespace Go.Proofs
open Go Go.Sx Go.Fam
attribute [local irreducible] Run

theorem take_more {α : Type} {a b : List α} {i : Nat} {x y : α} (h : a.take i = b.take i) (ha : a[i]? = some x) (hb : b[i]? = some y) (e : x = y) : a.take (i + 1) = b.take (i + 1) := by
  rw [List.take_add_one, List.take_add_one, h, ha, hb, e]
theorem take_all {α : Type} {a b : List α} {i : Nat} (h : a.take i = b.take i) (hl : a.length = b.length) (hi : ¬ i < a.length) : a = b := by
  rwa [List.take_of_length_le (by omega), List.take_of_length_le (by omega)] at h
theorem ne_at {α : Type} {a b : List α} {i : Nat} {x y : α} (ha : a[i]? = some x) (hb : b[i]? = some y) (e : x ≠ y) : a ≠ b := by
  rintro rfl; rw [ha] at hb; exact e (Option.some.inj hb)
def smT (a b : List AVal) : List (Nat × AVal) := [(0, .view a), (1, .view b), (4, .bool false)]

theorem rsameInts_run (a b : List Int) (hl : a.length ≤ 9223372036854775807) : Ans Try.prog n_ref02_sameInts [vw a, vw b] [] (.bool (decide (a = b))) [] := by
  refine spec_run e_ref02_sameInts fun G => ?_
  by_cases c : a.length = b.length
  · have c' : (a.length : Int) = b.length := by omega
    simp only [go_sem, vw, List.length_map, c', beq_self_eq_true]
    refine loop_ind k_ref02_sameInts_r8.eq_1 (fun i : Nat => i ≤ a.length ∧ a.take i = b.take i) (fun i => a.length - i)
      (fun i => (tsets 26 (smT (a.map (.int .i64)) (b.map (.int .i64)) ++ [(5, .int .i64 i)]), [])) 0 ⟨Nat.zero_le _, rfl⟩ (by simp [go_sem, smT]) rfl ?_
    rintro i ⟨hi, hE⟩ ih
    dsimp only at hi hE ih ⊢
    by_cases h1 : i < a.length
    · have h2 : (i : Int) < a.length := by omega
      have h2' : (i : Int) < b.length := by omega
      have m0 : ¬ (i : Int) < 0 := by omega
      have h3 := idx_next h1 hl
      have x1 := get_at h1
      have x2 := get_at (l := b) (i := i) (by omega)
      by_cases e : at1 a i = at1 b i
      · have e' : (at1 a i == at1 b i) = true := by simp [e]
        simp only [go_sem, smT, h2, h2', List.length_map, m0, x1, x2, Int.toNat_natCast, e, h3, e', c', beq_self_eq_true]
        exact ih (i + 1) (by omega) ⟨h1, take_more hE x1 x2 e⟩ _ (by simp [go_sem, smT])
      · have e' : (at1 a i == at1 b i) = false := by simp [e]
        have : decide (a = b) = false := decide_eq_false (ne_at x1 x2 e)
        rw [this]
        simp only [go_sem, smT, h2, h2', List.length_map, m0, x1, x2, Int.toNat_natCast, e, e', c', beq_self_eq_true]
    · have h2 : ¬ (i : Int) < b.length := by omega
      have : decide (a = b) = true := decide_eq_true (take_all hE c h1)
      rw [this]
      simp only [go_sem, smT, h2, List.length_map, c']
  · have c' : ¬ (a.length : Int) = b.length := by omega
    have c2 : ((a.length : Int) == b.length) = false := by simp; exact c'
    have : decide (a = b) = false := decide_eq_false fun h => c (by rw [h])
    rw [this]
    simp only [go_sem, vw, List.length_map, c', c2]
theorem kSame_run (a b : List Int) (hl : a.length ≤ 9223372036854775807) : Ans Try.prog n_kit_Same [vw a, vw b] [] (.bool (decide (a = b))) [] := by
  refine spec_run e_kit_Same fun G => ?_
  by_cases c : a.length = b.length
  · have c' : (a.length : Int) = b.length := by omega
    simp only [go_sem, vw, List.length_map, c', beq_self_eq_true]
    refine loop_ind k_kit_Same_r8.eq_1 (fun i : Nat => i ≤ a.length ∧ a.take i = b.take i) (fun i => a.length - i)
      (fun i => (tsets 26 (smT (a.map (.int .i64)) (b.map (.int .i64)) ++ [(5, .int .i64 i)]), [])) 0 ⟨Nat.zero_le _, rfl⟩ (by simp [go_sem, smT]) rfl ?_
    rintro i ⟨hi, hE⟩ ih
    dsimp only at hi hE ih ⊢
    by_cases h1 : i < a.length
    · have h2 : (i : Int) < a.length := by omega
      have h2' : (i : Int) < b.length := by omega
      have m0 : ¬ (i : Int) < 0 := by omega
      have h3 := idx_next h1 hl
      have x1 := get_at h1
      have x2 := get_at (l := b) (i := i) (by omega)
      by_cases e : at1 a i = at1 b i
      · have e' : (at1 a i == at1 b i) = true := by simp [e]
        simp only [go_sem, smT, h2, h2', List.length_map, m0, x1, x2, Int.toNat_natCast, e, h3, e', c', beq_self_eq_true]
        exact ih (i + 1) (by omega) ⟨h1, take_more hE x1 x2 e⟩ _ (by simp [go_sem, smT])
      · have e' : (at1 a i == at1 b i) = false := by simp [e]
        have : decide (a = b) = false := decide_eq_false (ne_at x1 x2 e)
        rw [this]
        simp only [go_sem, smT, h2, h2', List.length_map, m0, x1, x2, Int.toNat_natCast, e, e', c', beq_self_eq_true]
    · have h2 : ¬ (i : Int) < b.length := by omega
      have : decide (a = b) = true := decide_eq_true (take_all hE c h1)
      rw [this]
      simp only [go_sem, smT, h2, List.length_map, c']
  · have c' : ¬ (a.length : Int) = b.length := by omega
    have c2 : ((a.length : Int) == b.length) = false := by simp; exact c'
    have : decide (a = b) = false := decide_eq_false fun h => c (by rw [h])
    rw [this]
    simp only [go_sem, vw, List.length_map, c', c2]
theorem rsameTable_run (a b : List (List Int)) (hl : a.length ≤ 1000000) (hr : ∀ r ∈ a, r.length ≤ 9223372036854775807) : Ans Try.prog n_ref02_sameTable [tw a, tw b] [] (.bool (decide (a = b))) [] := by
  refine spec_run e_ref02_sameTable fun G => ?_
  by_cases c : a.length = b.length
  · have c' : (a.length : Int) = b.length := by omega
    simp only [go_sem, tw, List.length_map, c', beq_self_eq_true]
    refine loop_ind k_ref02_sameTable_r8.eq_1 (fun i : Nat => i ≤ a.length ∧ a.take i = b.take i) (fun i => a.length - i)
      (fun i => (tsets 27 (smT (a.map vw) (b.map vw) ++ [(5, .int .i64 i)]), [])) 0 ⟨Nat.zero_le _, rfl⟩ (by simp [go_sem, smT]) rfl ?_
    rintro i ⟨hi, hE⟩ ih
    dsimp only at hi hE ih ⊢
    by_cases h1 : i < a.length
    · have h2 : (i : Int) < a.length := by omega
      have h2' : (i : Int) < b.length := by omega
      have m0 : ¬ (i : Int) < 0 := by omega
      have h3 := idx_next h1 (by omega)
      obtain ⟨r, x1⟩ : ∃ r, a[i]? = some r := ⟨_, List.getElem?_eq_getElem h1⟩
      obtain ⟨s, x2⟩ : ∃ s, b[i]? = some s := ⟨_, List.getElem?_eq_getElem (by omega)⟩
      have k := rsameInts_run r s (hr r (List.mem_of_getElem? x1))
      simp only [vw] at k
      simp only [go_sem, smT, h2, h2', List.length_map, m0, x1, x2, Int.toNat_natCast, vw, c']
      refine cP k ?_
      by_cases e : r = s
      · rw [decide_eq_true e]
        simp only [go_sem, h3]
        exact ih (i + 1) (by omega) ⟨h1, take_more hE x1 x2 e⟩ _ (by simp [go_sem, smT])
      · have : decide (a = b) = false := decide_eq_false (ne_at x1 x2 e)
        rw [this, decide_eq_false e]
        simp only [go_sem]
    · have h2 : ¬ (i : Int) < b.length := by omega
      have : decide (a = b) = true := decide_eq_true (take_all hE c h1)
      rw [this]
      simp only [go_sem, smT, h2, List.length_map, c']
  · have c' : ¬ (a.length : Int) = b.length := by omega
    have c2 : ((a.length : Int) == b.length) = false := by simp; exact c'
    have : decide (a = b) = false := decide_eq_false fun h => c (by rw [h])
    rw [this]
    simp only [go_sem, tw, List.length_map, c', c2]
def FaS (f : Fa) : Prop := f.g.length ≤ 1000000 ∧ f.p.length ≤ 1000000 ∧ (f.lo.length ≤ 1000000 ∧ ∀ r ∈ f.lo, r.length ≤ 9223372036854775807) ∧ f.hi.length ≤ 1000000 ∧ ∀ r ∈ f.hi, r.length ≤ 9223372036854775807
instance : DecidableEq Fa := fun a b => decidable_of_iff (a.g = b.g ∧ a.p = b.p ∧ a.lo = b.lo ∧ a.hi = b.hi) ⟨fun ⟨h1, h2, h3, h4⟩ => by cases a; cases b; simp_all, by rintro rfl; exact ⟨rfl, rfl, rfl, rfl⟩⟩
theorem fa_eq (a b : Fa) : decide (a = b) = (decide (a.g = b.g) && (decide (a.p = b.p) && (decide (a.lo = b.lo) && decide (a.hi = b.hi)))) := by
  rw [Bool.eq_iff_iff]
  simp only [decide_eq_true_eq, Bool.and_eq_true]
  exact ⟨by rintro rfl; exact ⟨rfl, rfl, rfl, rfl⟩, fun ⟨h1, h2, h3, h4⟩ => by cases a; cases b; simp_all⟩
theorem rSame_run (a b : Fa) (h : FaS a) : Ans Try.prog n_ref02_Same [Fv a, Fv b] [] (.bool (decide (a = b))) [] := by
  obtain ⟨l1, l2, l3, l4⟩ := h
  have k1 := rsameInts_run a.g b.g (by omega)
  have k2 := rsameInts_run a.p b.p (by omega)
  have k3 := rsameTable_run a.lo b.lo l3.1 l3.2
  have k4 := rsameTable_run a.hi b.hi l4.1 l4.2
  rw [fa_eq]
  refine spec_run e_ref02_Same fun G => ?_
  simp only [go_sem, Fv, Fcs]
  refine cP k1 ?_
  by_cases c1 : a.g = b.g
  · rw [decide_eq_true c1]
    simp only [go_sem]
    refine cP k2 ?_
    by_cases c2 : a.p = b.p
    · rw [decide_eq_true c2]
      simp only [go_sem]
      refine cP k3 ?_
      by_cases c3 : a.lo = b.lo
      · rw [decide_eq_true c3]
        simp only [go_sem]
        refine cP k4 ?_
        simp only [go_sem]
      · rw [decide_eq_false c3]
        simp only [go_sem]
    · rw [decide_eq_false c2]
      simp only [go_sem]
  · rw [decide_eq_false c1]
    simp only [go_sem]
theorem rSame_none : Ans Try.prog n_ref02_Same [.agg [.nilsl, .nilsl, .nilsl, .nilsl], .agg [.nilsl, .nilsl, .nilsl, .nilsl]] [] (.bool true) [] := by
  have z : Sx.lss [AVal.nilsl, AVal.nilsl] [AVal.view [], AVal.view []] := ⟨.inr ⟨rfl, rfl⟩, .inr ⟨rfl, rfl⟩, trivial⟩
  have k1 := (rsameInts_run [] [] (by simp)).lss z
  have k2 := (rsameTable_run [] [] (by simp) (by simp)).lss z
  rw [decide_eq_true rfl] at k1 k2
  refine spec_run e_ref02_Same fun G => ?_
  simp only [go_sem]
  refine cP k1 ?_
  simp only [go_sem]
  refine cP k1 ?_
  simp only [go_sem]
  refine cP k2 ?_
  simp only [go_sem]
  refine cP k2 ?_
  simp only [go_sem]
end Go.Proofs

namespace Go.Sx
open Go
theorem Less.loosen {P : Program} {G : Ctx} {k : Nat} {ρ : List AVal} {H H' : Heap} (hlen : H'.length = H.length) (hl : Loose H H') : Less P G k ⟨ρ, H, []⟩ ⟨ρ, H', []⟩ := fun μ a w hR => by
  refine ⟨μ, ⟨hR.tr, hR.hr.loosen hl, fun r hr => ?_, ?_, fun r hr => by simp at hr⟩, Mu.leB_refl _ _⟩
  · show r < H'.length
    rw [hlen]; exact hR.dom r hr
  · have := hR.mk'; simpa using this
def looseAll (H : Heap) : Heap := H.map fun o => o.map fun x => match x with | .cells _ sz es => .cells true sz es | x => x
theorem looseAll_len (H : Heap) : (looseAll H).length = H.length := by simp [looseAll]
theorem looseAll_ok (H : Heap) : Loose H (looseAll H) := fun i => by
  unfold looseAll
  rw [List.getElem?_map]
  cases h : H[i]? with
  | none => exact .inl rfl
  | some o => cases o with
    | none => exact .inl rfl
    | some x => cases x with
      | cells g sz es => exact .inr ⟨g, sz, es, rfl, rfl⟩
      | _ => exact .inl rfl
theorem looseAll_c (g : Bool) (sz : Nat) (es : List AVal) (Y : Heap) : looseAll (some (.cells g sz es) :: Y) = some (.cells true sz es) :: looseAll Y := (rfl)
theorem looseAll_n : looseAll [] = [] := (rfl)
theorem loop_loosen {P : Program} {G : Ctx} {k : Nat} {ρ : List AVal} {J Y Y' : Heap} {rd : Option Nat} {c : ACode} {fs : List Frame} {Q : Goal} (hY : looseAll Y = Y') (h : Loop P G k rd c fs ⟨ρ, J ++ Y', []⟩ Q) : Loop P G k rd c fs ⟨ρ, J ++ Y, []⟩ Q := by
  subst hY
  refine loop_less (Less.loosen (by simp [looseAll_len]) fun i => ?_) h
  by_cases hi : i < J.length
  · left; rw [List.getElem?_append_left hi, List.getElem?_append_left hi]
  · rw [List.getElem?_append_right (by omega), List.getElem?_append_right (by omega)]; exact looseAll_ok Y _
end Go.Sx
namespace Go.Proofs
open Go Go.Sx Go.Fam

section
variable {F : Nat → Prop} {J J' : Heap} {g p : List Int} {L U : List (List Int)} {lo hi : List Int} {v0 v1 v2 v3 v4 v5 : AVal} {κ0 κ1 κ2 κ3 κ4 κ5 : List Nat}
theorem FS.add1 (h : FS F J g p [] [] [] [] v0 v1 v2 v3 v4 v5 κ0 κ1 κ2 κ3 κ4 κ5) (hlo : lo ≠ []) (hhi : hi ≠ []) : v2 = .nilsl ∧ v3 = .nilsl ∧ ∀ (J' : Heap) (r s a b : Nat), a < r → r < b → b < s → J.length ≤ a → (∀ q, ¬ F q → q < J.length → J'[q]? = J[q]?) →
    J'[a]? = some (some (.cells true 1 (ivL lo))) → J'[b]? = some (some (.cells true 1 (ivL hi))) → J'[r]? = some (some (.cells true 1 [.sl a 0 lo.length])) → J'[s]? = some (some (.cells true 1 [.sl b 0 hi.length])) →
    FS F J' g p [lo] [hi] [] [] v0 v1 (.sl r 0 1) (.sl s 0 1) .nilsl .nilsl κ0 κ1 ([a] ++ [r]) ([b] ++ [s]) [] [] := by
  obtain ⟨e2, k2⟩ := nil_get (J := J) (d := 4) (κ := κ2) (v := v2) (by simpa [tbC] using h.d2)
  obtain ⟨e3, k3⟩ := nil_get (J := J) (d := 4) (κ := κ3) (v := v3) (by simpa [tbC] using h.d3)
  obtain ⟨e4, k4⟩ := nil_get (J := J) (d := 4) (κ := κ4) (v := v4) (by simpa [lsC] using h.d4)
  obtain ⟨e5, k5⟩ := nil_get (J := J) (d := 4) (κ := κ5) (v := v5) (by simpa [lsC] using h.d5)
  subst e2; subst e3; subst k2; subst k3; subst e4; subst e5; subst k4; subst k5
  refine ⟨rfl, rfl, fun J' r s a b o1 o2 o3 ha hJ h1 h2 h3 h4 => ?_⟩
  obtain ⟨u0, u1, _, _, _, _⟩ := h.up
  have l0 := h.len
  have m := fun {κ : List Nat} {v c : AVal} (hd : Dat 5 J κ v c) (hu : ∀ r ∈ κ, ¬ F r) => hd.congr fun q hq => hJ q (hu q hq) (hd.lt q hq)
  have hlt := (List.getElem?_eq_some_iff.1 h4).1
  have w4 : Dat 4 J' [a] (.sl a 0 lo.length) (vw lo) := vw_put hlo rfl h1
  have w5 : Dat 4 J' [b] (.sl b 0 hi.length) (vw hi) := vw_put hhi rfl h2
  refine ⟨fun a ha => by have := l0 a ha; omega, m h.d0 u0, m h.d1 u1, tb_put (by simp) rfl h3 (row_one w4), tb_put (by simp) rfl h4 (row_one w5), ⟨rfl, rfl, rfl⟩, ⟨rfl, rfl, rfl⟩, fun x => ?_, fun x hx => ?_⟩
  · have h5 := h.nd x
    have h6 := h.lt0 (r := x)
    simp only [List.count_nil, Nat.add_zero, List.count_cons, List.count_append, beq_iff_eq, Nat.zero_add] at *
    by_cases c : J.length ≤ x
    · have := h6 c
      split <;> split <;> split <;> split <;> omega
    · rw [if_neg (by omega), if_neg (by omega), if_neg (by omega), if_neg (by omega)]; omega
  · have h5 := h.ge x hx
    have := l0 x hx
    simp only [List.count_nil, Nat.add_zero, List.count_cons, List.count_append, beq_iff_eq, Nat.zero_add] at *
    rw [if_neg (by omega), if_neg (by omega), if_neg (by omega), if_neg (by omega)]; omega
theorem FS.addn (h : FS F J g p L U [] [] v0 v1 v2 v3 v4 v5 κ0 κ1 κ2 κ3 κ4 κ5) (hL : L ≠ []) (hU : U ≠ []) (hlo : lo ≠ []) (hhi : hi ≠ []) : ∃ r s vs us κ2' κ3', v2 = .sl r 0 L.length ∧ v3 = .sl s 0 U.length ∧ r ≠ s ∧ ¬ F r ∧ ¬ F s ∧ J[r]? = some (some (.cells true 1 vs)) ∧ J[s]? = some (some (.cells true 1 us)) ∧
    vs.length = L.length ∧ us.length = U.length ∧ ∀ (J' : Heap) (a b : Nat), a < b → J.length ≤ a → (∀ q, ¬ F q → q < J.length → q ≠ r → q ≠ s → J'[q]? = J[q]?) → J'[a]? = some (some (.cells true 1 (ivL lo))) → J'[b]? = some (some (.cells true 1 (ivL hi))) →
    J'[r]? = some (some (.cells true 1 (vs ++ [.sl a 0 lo.length]))) → J'[s]? = some (some (.cells true 1 (us ++ [.sl b 0 hi.length]))) → (∀ a, F a → a < J'.length) →
    FS F J' g p (L ++ [lo]) (U ++ [hi]) [] [] v0 v1 (.sl r 0 (L.length + 1)) (.sl s 0 (U.length + 1)) .nilsl .nilsl κ0 κ1 (κ2' ++ [a] ++ [r]) (κ3' ++ [b] ++ [s]) [] [] := by
  obtain ⟨r, vs, κ2', e2, k2, g2, a2⟩ := tb_get h.d2 hL
  obtain ⟨s, us, κ3', e3, k3, g3, a3⟩ := tb_get h.d3 hU
  obtain ⟨e4, k4⟩ := nil_get (J := J) (d := 4) (κ := κ4) (v := v4) (by simpa [lsC] using h.d4)
  obtain ⟨e5, k5⟩ := nil_get (J := J) (d := 4) (κ := κ5) (v := v5) (by simpa [lsC] using h.d5)
  obtain ⟨u0, u1, u2, u3, u4, u5⟩ := h.up
  subst e2; subst k2; subst e3; subst k3; subst e4; subst e5; subst k4; subst k5
  have nr := h.nd r
  have ns := h.nd s
  have hrs : r ≠ s := by
    rintro rfl
    simp [List.count_cons, List.count_append] at nr
    omega
  have hsr : ¬ s = r := fun e => hrs e.symm
  have l2 := a2.len
  have l3 := a3.len
  have rlt := (List.getElem?_eq_some_iff.1 g2).1
  have slt := (List.getElem?_eq_some_iff.1 g3).1
  simp only [List.length_map] at l2 l3
  simp only [List.count_cons, List.count_append, List.count_nil, beq_iff_eq, hrs, hsr, if_true, if_false] at nr ns
  refine ⟨r, s, vs, us, κ2', κ3', rfl, rfl, hrs, u2 r (by simp), u3 s (by simp), g2, g3, l2, l3, fun J' a b hab ha hJ h1 h2 h3 h4 hn => ?_⟩
  have m := fun {d : Nat} {κ : List Nat} {v c : AVal} (hd : Dat d J κ v c) (hu : ∀ r ∈ κ, ¬ F r) (c1 : κ.count r = 0) (c2 : κ.count s = 0) => hd.congr fun q hq => hJ q (hu q hq) (hd.lt q hq) (by rintro rfl; exact List.count_eq_zero.1 c1 hq) (by rintro rfl; exact List.count_eq_zero.1 c2 hq)
  have ma := fun {κ : List Nat} {xs es : List AVal} (hd : All3 (Dat 4 J) κ xs es) (hu : ∀ r ∈ κ, ¬ F r) (c1 : κ.count r = 0) (c2 : κ.count s = 0) => hd.mono (R' := Dat 4 J') fun κ' v e hs _ he => he.congr fun q hq => hJ q (hu q (hs q hq)) (he.lt q hq) (by rintro rfl; exact List.count_eq_zero.1 c1 (hs _ hq)) (by rintro rfl; exact List.count_eq_zero.1 c2 (hs _ hq))
  have w4 : Dat 4 J' [a] (.sl a 0 lo.length) (vw lo) := vw_put hlo rfl h1
  have w5 : Dat 4 J' [b] (.sl b 0 hi.length) (vw hi) := vw_put hhi rfl h2
  have q2 := ma a2 (fun r hr => u2 r (by simp [hr])) (by omega) (by omega)
  have q3 := ma a3 (fun r hr => u3 r (by simp [hr])) (by omega) (by omega)
  refine ⟨hn, m h.d0 u0 (by omega) (by omega), m h.d1 u1 (by omega) (by omega), tb_put (by simp) (by simp) h3 (row_more q2 w4), tb_put (by simp) (by simp) h4 (row_more q3 w5), ⟨rfl, rfl, rfl⟩, ⟨rfl, rfl, rfl⟩, fun x => ?_, fun x hx => ?_⟩
  · have h5 := h.nd x
    have h6 := h.lt0 (r := x)
    simp only [List.count_nil, Nat.add_zero, List.count_cons, List.count_append, beq_iff_eq, Nat.zero_add] at *
    by_cases c : J.length ≤ x
    · have := h6 c
      split <;> split <;> split <;> split <;> simp_all <;> omega
    · have c1 : ¬ a = x := by omega
      have c2 : ¬ b = x := by omega
      rw [if_neg c1, if_neg c2]; omega
  · have h5 := h.ge x hx
    have := h.len x hx
    have c1 : ¬ a = x := by omega
    have c2 : ¬ b = x := by omega
    simp only [List.count_nil, Nat.add_zero, List.count_cons, List.count_append, beq_iff_eq, Nat.zero_add] at *
    rw [if_neg c1, if_neg c2]; omega
end
end Go.Proofs

namespace Go.Proofs
open Go Go.Sx Go.Fam
attribute [local irreducible] Run

theorem copied_run (l : List Int) (hl : l.length ≤ 1000000) (h0 : l ≠ []) : Ans Try.prog n_curve_copied [vw l] [] (.sl 0 0 l.length) [some (.cells true 1 (l.map (.int .i64)))] := by
  have h8 : l.length * 8 ≤ 2 ^ 44 := by omega
  have h1 : ¬ l = [] := h0
  refine spec_run e_curve_copied fun G => ?_
  simp only [go_sem, vw, List.length_map, h8, h1]
  simp [h1]
def zeros (n : Nat) : List Int := List.replicate n 0
def zT (m n : Nat) : List (List Int) := List.replicate m (zeros n)
def zF (g p : List Int) : Fa := ⟨g, p, zT g.length p.length, zT g.length p.length⟩
theorem zT_succ (m n : Nat) : zT (m + 1) n = zT m n ++ [zeros n] := List.replicate_succ'
theorem zeros_iv (n : Nat) : ivL (zeros n) = List.replicate n (.int .i64 0) := by unfold ivL zeros; rw [List.map_replicate]
def lF (a : Nat) : Prop := a = 0 ∨ a = 3
structure LnH (J : Heap) (v0 v1 v2 v3 : AVal) : Prop where
  r0 : J[0]? = some (some (.cells false 4 [.agg [.nilsl, .nilsl, .nilsl, .nilsl]]))
  r3 : J[3]? = some (some (.cells false 4 [.agg [v0, v1, v2, v3]]))
def LnI (g p : List Int) (J : Heap) (L U : List (List Int)) (v0 v1 v2 v3 : AVal) : Prop := LnH J v0 v1 v2 v3 ∧ ∃ κ0 κ1 κ2 κ3 κ4 κ5, FS lF J g p L U [] [] v0 v1 v2 v3 .nilsl .nilsl κ0 κ1 κ2 κ3 κ4 κ5
def lT (g p : List Int) : List (Nat × AVal) := [(0, vw g), (1, vw p), (4, .ptr 0 0 0 1), (5, .ptr 3 0 0 1), (12, .int .i64 g.length)]

set_option maxHeartbeats 4000000 in
set_option maxRecDepth 20000 in
theorem linesOf_fn (g p : List Int) (g0 : g ≠ []) (p0 : p ≠ []) (gm : g.length ≤ 40) (pm : p.length ≤ 40) : Go.Sx.Fn Try.prog n_curve_linesOf [vw g, vw p] [] fun v H' => ∃ ι, Dat 6 H' ι v (Fv (zF g p)) ∧ ι.Nodup := by
  have k3 := copied_run g (by omega) g0
  have k4 := copied_run p (by omega) p0
  refine run_fn e_curve_linesOf fun G => ?_
  simp only [go_sem]
  refine cN1 k3 ?_
  simp only [go_sem, ren]
  refine cN1 k4 ?_
  simp only [go_sem, ren, vw, List.length_map]
  have hI0 : LnI g p [some (.cells false 4 [.agg [.nilsl, .nilsl, .nilsl, .nilsl]]), some (.cells true 1 (ivL g)), some (.cells true 1 (ivL p)), some (.cells false 4 [.agg [.sl 1 0 g.length, .sl 2 0 p.length, .nilsl, .nilsl]])] [] []
      (.sl 1 0 g.length) (.sl 2 0 p.length) .nilsl .nilsl := by
    refine ⟨⟨rfl, rfl⟩, [1], [2], [], [], [], [], fun a ha => by unfold lF at ha; simp; omega, vw_put g0 rfl rfl, vw_put p0 rfl rfl, ⟨rfl, rfl, rfl⟩, ⟨rfl, rfl, rfl⟩, ⟨rfl, rfl, rfl⟩, ⟨rfl, rfl, rfl⟩, fun a => ?_, fun a ha => ?_⟩
    · simp only [List.count_cons, List.count_nil, beq_iff_eq]
      split <;> split <;> omega
    · unfold lF at ha
      simp only [List.count_cons, List.count_nil, beq_iff_eq]
      rw [if_neg (by omega), if_neg (by omega)]
  refine loop_ind k_curve_linesOf_r7.eq_1 (fun a : Nat × Heap × AVal × AVal × AVal × AVal => a.1 ≤ g.length ∧ LnI g p a.2.1 (zT a.1 p.length) (zT a.1 p.length) a.2.2.1 a.2.2.2.1 a.2.2.2.2.1 a.2.2.2.2.2) (fun a => g.length - a.1)
    (fun a => (tsets 33 (lT g p ++ [(13, .int .i64 a.1)]), a.2.1)) (0, _, .sl 1 0 g.length, .sl 2 0 p.length, .nilsl, .nilsl) ⟨Nat.zero_le _, hI0⟩ (by simp [go_sem, lT, vw]) (by simp) ?_
  rintro ⟨i, J, v0, v1, v2, v3⟩ ⟨hi, hI⟩ ih
  dsimp only at hi hI ih ⊢
  have lz0 : zeros p.length ≠ [] := by intro e; have := congrArg List.length e; simp [zeros] at this; exact p0 this
  by_cases h1 : i < g.length
  · have h2 : (i : Int) < g.length := by omega
    have h3 := idx_next h1 (by omega)
    obtain ⟨⟨f0, f3⟩, κ0, κ1, κ2, κ3, κ4, κ5, hF⟩ := hI
    have c3 := cells_at f3
    have lt3 := (List.getElem?_eq_some_iff.1 f3).1
    have z1 : (p.length : Int) ≤ 2 ^ 44 := by omega
    have z2 : (p.length : Int) * ((8 : Nat) : Int) ≤ 2 ^ 44 := by omega
    have z3 : (0 : Int) ≤ p.length := by omega
    have ihn := fun J' v0' v1' v2' v3' hh => ih (i + 1, J', v0', v1', v2', v3') (by omega) ⟨h1, hh⟩
    clear ih
    dsimp only at ihn
    rw [zT_succ] at ihn
    by_cases i0 : i = 0
    · subst i0
      obtain ⟨e2, e3, hn⟩ := hF.add1 lz0 lz0
      subst e2; subst e3
      obtain ⟨_, b0, e0, -, -⟩ := vw_get hF.d0
      obtain ⟨_, b1, e1, -, -⟩ := vw_get hF.d1
      subst e0; subst e1
      have h2' : (0 : Int) < g.length := by omega
      have w1' : IntKind.i64.wrap 1 = 1 := by decide
      have q1 := fun Y => cells_more c3 Y
      have q2 := fun Y x => put_more (H := J) lt3 Y x
      have q3 := fun g sz es Y => cells_more (H := J.set 3 (some (Row.cells g sz es))) (j := 3) (cells_at (List.getElem?_set_self lt3)) Y
      have q4 := fun z Y x => put_more (H := J.set 3 z) (j := 3) (by simpa using lt3) Y x
      simp only [go_sem, lT, vw, List.length_map, h2', c3, z1, z2, z3, Int.toNat_natCast, q1, q2, q3, q4, List.set_set, w1']
      simp only [List.length_set]
      refine ⟨⟨by omega, by omega⟩, by simp; omega, by simp; omega, by decide, ⟨by omega, by omega⟩, by rw [show (3 == J.length + 3) = false from beq_eq_false_iff_ne.2 (by omega)]; rfl, by rw [show (3 == J.length + 4) = false from beq_eq_false_iff_ne.2 (by omega)]; rfl, by decide, loop_loosen (by simp only [looseAll_c, looseAll_n]; rfl) ?_⟩
      have off : ∀ (A : Option Row) (Y : Heap) (q : Nat), q < J.length → q ≠ 3 → (J.set 3 A ++ Y)[q]? = J[q]? := fun A Y q hq hn => by rw [List.getElem?_append_left (by simpa using hq), List.getElem?_set_ne (fun e => hn e.symm)]
      have at3 : ∀ (A : Option Row) (Y : Heap), (J.set 3 A ++ Y)[3]? = some A := fun A Y => by rw [List.getElem?_append_left (by simpa using lt3), List.getElem?_set_self lt3]
      have hz : (zeros p.length).length = p.length := by simp [zeros]
      rw [hz] at hn
      refine ihn _ _ _ _ _ ⟨⟨by rw [off _ _ 0 (by omega) (by omega)]; exact f0, at3 _ _⟩, _, _, _, _, _, _, hn _ (J.length + 2) (J.length + 5) (J.length + 0) (J.length + 3) (by omega) (by omega) (by omega) (by omega) (fun q hnF hq => off _ _ q hq (by rintro rfl; exact hnF (by simp [lF]))) (by rw [get_new (by simp), zeros_iv]; rfl) (by rw [get_new (by simp), zeros_iv]; rfl) (by rw [get_new (by simp)]; rfl) (by rw [get_new (by simp)]; rfl)⟩ _ (by simp [go_sem, lT, vw])
    · have zl : ∀ m, (zT m p.length).length = m := fun m => by simp [zT]
      have L0 : zT i p.length ≠ [] := by intro e; have := congrArg List.length e; rw [zl] at this; exact i0 this
      obtain ⟨r, s, vs, us, κ2', κ3', e2, e3, hrs, hr, hs, g2, g3, l2, l3, hn⟩ := hF.addn L0 L0 lz0 lz0
      rw [zl] at e2 e3 l2 l3
      subst e2; subst e3
      obtain ⟨_, b0, e0, -, -⟩ := vw_get hF.d0
      obtain ⟨_, b1, e1, -, -⟩ := vw_get hF.d1
      subst e0; subst e1
      have hrl := (List.getElem?_eq_some_iff.1 g2).1
      have hsl := (List.getElem?_eq_some_iff.1 g3).1
      have r3' : r ≠ 3 := by rintro rfl; exact hr (by simp [lF])
      have s3' : s ≠ 3 := by rintro rfl; exact hs (by simp [lF])
      have y1 : (i + 1) * 24 ≤ 2 ^ 44 := by omega
      have q0 := fun Y => cells_more c3 Y
      have a1 := fun Y => cells_more (cells_at g2) Y
      have a2 := fun Y x => put_more (H := J) hrl Y x
      have a3 := fun x Y => cells_more (H := J.set r x) (j := 3) (cells_at (by rw [List.getElem?_set_ne r3']; exact f3)) Y
      have a4 := fun z Y x => put_more (H := J.set r z) (j := 3) (by simpa using lt3) Y x
      have a5 := fun x g sz es Y => cells_more (H := (J.set r x).set 3 (some (Row.cells g sz es))) (j := 3) (cells_at (List.getElem?_set_self (by simpa using lt3))) Y
      have a6 := fun x y Y => cells_more (H := (J.set r x).set 3 y) (j := s) (cells_at (by rw [List.getElem?_set_ne (fun e => s3' e.symm), List.getElem?_set_ne hrs]; exact g3)) Y
      have a7 := fun z y Y x => put_more (H := (J.set r z).set 3 y) (j := s) (by simpa using hsl) Y x
      have a8 := fun x g sz es y Y => cells_more (H := ((J.set r x).set 3 (some (Row.cells g sz es))).set s y) (j := 3) (cells_at (by rw [List.getElem?_set_ne s3']; exact List.getElem?_set_self (by simpa using lt3))) Y
      have a9 := fun x w y Y z => put_more (H := ((J.set r x).set 3 w).set s y) (j := 3) (by simpa using lt3) Y z
      simp only [go_sem, lT, vw, List.length_map, h2, c3, z1, z2, z3, Int.toNat_natCast, q0, a1, a2, a3, a4, a5, a6, a7, a8, a9, l2, l3, y1, List.set_set, h3]
      simp only [List.length_set]
      refine ⟨⟨by omega, by omega⟩, by simp; omega, by simp; omega, ⟨by omega, by omega⟩, by rw [show (3 == J.length + 2) = false from beq_eq_false_iff_ne.2 (by omega)]; rfl, by rw [show (3 == J.length + 3) = false from beq_eq_false_iff_ne.2 (by omega)]; rfl, loop_loosen (by simp only [looseAll_c, looseAll_n]; rfl) ?_⟩
      have off : ∀ (A B C D : Option Row) (Y : Heap) (q : Nat), q < J.length → q ≠ r → q ≠ s → q ≠ 3 → ((((J.set r A).set 3 B).set s C).set 3 D ++ Y)[q]? = J[q]? := fun A B C D Y q hq n1 n2 n3 => by
        rw [List.getElem?_append_left (by simpa using hq), List.getElem?_set_ne (fun e => n3 e.symm), List.getElem?_set_ne (fun e => n2 e.symm), List.getElem?_set_ne (fun e => n3 e.symm), List.getElem?_set_ne (fun e => n1 e.symm)]
      have at3 : ∀ (A B C D : Option Row) (Y : Heap), ((((J.set r A).set 3 B).set s C).set 3 D ++ Y)[3]? = some D := fun A B C D Y => by rw [List.getElem?_append_left (by simpa using lt3), List.getElem?_set_self (by simpa using lt3)]
      have atr : ∀ (A B C D : Option Row) (Y : Heap), ((((J.set r A).set 3 B).set s C).set 3 D ++ Y)[r]? = some A := fun A B C D Y => by
        rw [List.getElem?_append_left (by simpa using hrl), List.getElem?_set_ne (fun e => r3' e.symm), List.getElem?_set_ne (fun e => hrs e.symm), List.getElem?_set_ne (fun e => r3' e.symm), List.getElem?_set_self hrl]
      have ats : ∀ (A B C D : Option Row) (Y : Heap), ((((J.set r A).set 3 B).set s C).set 3 D ++ Y)[s]? = some C := fun A B C D Y => by
        rw [List.getElem?_append_left (by simpa using hsl), List.getElem?_set_ne (fun e => s3' e.symm), List.getElem?_set_self (by simpa using hsl)]
      have nr : ∀ q, lF q → q ≠ r := fun q hq e => hr (by rw [← e]; exact hq)
      have ns : ∀ q, lF q → q ≠ s := fun q hq e => hs (by rw [← e]; exact hq)
      have hz : (zeros p.length).length = p.length := by simp [zeros]
      rw [hz, zl] at hn
      refine ihn _ _ _ _ _ ⟨⟨by rw [off _ _ _ _ _ 0 (by omega) (nr 0 (by simp [lF])) (ns 0 (by simp [lF])) (by omega)]; exact f0, at3 _ _ _ _ _⟩, _, _, _, _, _, _,
        hn _ (J.length + 0) (J.length + 2) (by omega) (by omega) (fun q hnF hq n1 n2 => off _ _ _ _ _ q hq n1 n2 (by rintro rfl; exact hnF (by simp [lF]))) (by rw [get_new (by simp), zeros_iv]; rfl) (by rw [get_new (by simp), zeros_iv]; rfl) (atr _ _ _ _ _) (ats _ _ _ _ _) (fun a ha => by have := hF.len a ha; simp; omega)⟩ _ (by simp [go_sem, lT, vw])
  · have h2 : ¬ (i : Int) < g.length := by omega
    obtain rfl : i = g.length := by omega
    obtain ⟨⟨f0, f3⟩, κ0, κ1, κ2, κ3, κ4, κ5, hF⟩ := hI
    have hne : zT g.length p.length ≠ [] := by intro e; have := congrArg List.length e; simp [zT] at this; exact g0 this
    obtain ⟨ι, hD, hnd, hge⟩ := hF.all hne hne
    obtain ⟨_, b0, e0, -, -⟩ := vw_get hF.d0
    obtain ⟨_, b1, e1, -, -⟩ := vw_get hF.d1
    obtain ⟨b2, _, _, e2, -, -, -⟩ := tb_get hF.d2 hne
    obtain ⟨b3, _, _, e3, -, -, -⟩ := tb_get hF.d3 hne
    subst e0; subst e1; subst e2; subst e3
    have c3 := cells_at f3
    have c0 := cells_at f0
    have hlt0 := (List.getElem?_eq_some_iff.1 f0).1
    have q1 := fun x => put_lt (H := J) (x := x) hlt0
    have q2 := fun g sz es => cells_at (H := J.set 0 (some (Row.cells g sz es))) (j := 0) (List.getElem?_set_self hlt0)
    simp only [go_sem, lT, h2, vw, List.length_map, c3, c0, q1, q2]
    exact ⟨ι, hD.set _ (fun h => hge 0 h (by simp [lF])), hnd⟩
theorem zF_pure {g p : List Int} (g0 : g ≠ []) (p0 : p ≠ []) : Pure 6 (Fv (zF g p)) := by
  have hne : zT g.length p.length ≠ [] := by intro e; have := congrArg List.length e; simp [zT] at this; exact g0 this
  have hr : ∀ r ∈ zT g.length p.length, r ≠ [] := fun r hr e => by
    unfold zT at hr
    have := List.eq_of_mem_replicate hr
    rw [e] at this
    have := congrArg List.length this
    simp [zeros] at this; exact p0 (List.length_eq_zero_iff.1 this.symm)
  exact fv_pure g0 p0 hne hne hr hr
theorem linesOf_run {g p : List Int} (g0 : g ≠ []) (p0 : p ≠ []) (gm : g.length ≤ 40) (pm : p.length ≤ 40) : Ans Try.prog n_curve_linesOf [vw g, vw p] [] (thaw 6 0 (Fv (zF g p))).1 (thaw 6 0 (Fv (zF g p))).2 :=
  ans_dat0 (zF_pure g0 p0) (linesOf_fn g p g0 p0 gm pm)
end Go.Proofs

namespace Go.Sx
open Go
theorem All3.upd {R : List Nat → AVal → AVal → Prop} : ∀ {ι : List Nat} {vs es : List AVal} (i : Nat) (e : AVal), All3 R ι vs es → es[i]? = some e →
    ∃ κ v, vs[i]? = some v ∧ (∀ r ∈ κ, r ∈ ι) ∧ R κ v e ∧ ∀ (R' : List Nat → AVal → AVal → Prop) (e' : AVal), (∀ κ' v' e'', (∀ r ∈ κ', r ∈ ι) → (∀ r ∈ κ', r ∉ κ) → R κ' v' e'' → R' κ' v' e'') → R' κ v e' → ι.Nodup → All3 R' ι vs (es.set i e')
  | _, v :: vs, e' :: es, 0, e, ⟨κ1, κ2, h1, h2, h3⟩, he => by
    simp at he; subst he; subst h1
    refine ⟨κ1, v, rfl, fun r hr => List.mem_append_left _ hr, h2, fun R' e'' hR hv hn => ⟨κ1, κ2, rfl, hv, h3.mono fun κ' v' e'' hs _ h => hR κ' v' e'' (fun r hr => List.mem_append_right _ (hs r hr)) (fun r hr h1 => ?_) h⟩⟩
    exact (List.nodup_append.1 hn).2.2 r h1 r (hs r hr) rfl
  | _, v :: vs, e' :: es, i + 1, e, ⟨κ1, κ2, h1, h2, h3⟩, he => by
    obtain ⟨κ, u, k1, k2, k3, k4⟩ := h3.upd i e (by simpa using he)
    subst h1
    refine ⟨κ, u, by simpa using k1, fun r hr => List.mem_append_right _ (k2 r hr), k3, fun R' e'' hR hv hn => ⟨κ1, κ2, rfl, ?_, k4 R' e'' (fun κ' v' e3 hs => hR κ' v' e3 fun r hr => List.mem_append_right _ (hs r hr)) hv (List.nodup_append.1 hn).2.1⟩⟩
    exact hR _ _ _ (fun r hr => List.mem_append_left _ hr) (fun r hr h1 => (List.nodup_append.1 hn).2.2 r hr r (k2 r h1) rfl) h2
  | _, [], [], i, e, _, he => by simp at he
  | _, [], _ :: _, _, _, h, _ => h.elim
  | _, _ :: _, [], _, _, h, _ => h.elim
end Go.Sx
namespace Go.Proofs
open Go Go.Sx Go.Fam

theorem tw_upd {J : Heap} {κ : List Nat} {v : AVal} {L : List (List Int)} {i : Nat} {lo : List Int} (h : Dat 5 J κ v (tw L)) (hi : L[i]? = some lo) (hn : κ.Nodup) : ∃ r vs q, v = .sl r 0 L.length ∧ J[r]? = some (some (.cells true 1 vs)) ∧ vs.length = L.length ∧ vs[i]? = some (.sl q 0 lo.length) ∧ r ∈ κ ∧ q ∈ κ ∧ J[q]? = some (some (.cells true 1 (ivL lo))) ∧
    ∀ (J' : Heap) (lo' : List Int), lo' ≠ [] → lo'.length = lo.length → (∀ a ∈ κ, a ≠ q → J'[a]? = J[a]?) → J'[q]? = some (some (.cells true 1 (ivL lo'))) → Dat 5 J' κ v (tw (L.set i lo')) := by
  have L0 : L ≠ [] := by rintro rfl; simp at hi
  have h' : Dat 5 J κ v (tbC L) := by unfold tbC; rwa [if_neg L0]
  obtain ⟨r, vs, κ', e, k, g, a⟩ := tb_get h' L0
  subst e; subst k
  have al := a.len
  simp only [List.length_map] at al
  obtain ⟨κ1, u, u1, u2, u3, u4⟩ := a.upd i (vw lo) (by rw [List.getElem?_map, hi]; rfl)
  obtain ⟨lo0, q, e1, k1, gq⟩ := vw_get u3
  subst e1; subst k1
  have nd := List.nodup_append.1 hn
  have hq : q ∈ κ' := u2 q (by simp)
  have hqr : r ≠ q := fun e => nd.2.2 q hq r (by simp) e.symm
  refine ⟨r, vs, q, rfl, g, al, u1, by simp, List.mem_append_left _ hq, gq, fun J' lo' l0 hl hJ hq' => ?_⟩
  have hs : L.set i lo' ≠ [] := by intro e; have := congrArg List.length e; simp at this; exact L0 this
  have := tb_put (d := 4) (n := L.length) hs (by simp) (by rw [hJ r (by simp) hqr]; exact g) (by rw [List.map_set]; exact u4 (Dat 4 J') (vw lo') (fun κ2 v2 e2 m1 m2 hd => hd.congr fun b hb => hJ b (List.mem_append_left _ (m1 b hb)) (by rintro rfl; exact m2 _ hb (by simp))) (vw_put l0 hl.symm hq') nd.1)
  unfold tbC at this
  rwa [if_neg hs] at this

theorem fam_upd {J : Heap} {ι : List Nat} {g p : List Int} {L U : List (List Int)} {v0 v1 v2 v3 : AVal} {i : Nat} {lo hi : List Int} (h : Dat 6 J ι (.agg [v0, v1, v2, v3]) (Fv ⟨g, p, L, U⟩)) (hn : ι.Nodup) (hL : L[i]? = some lo) (hU : U[i]? = some hi) :
    ∃ r s vs us q t, v2 = .sl r 0 L.length ∧ v3 = .sl s 0 U.length ∧ J[r]? = some (some (.cells true 1 vs)) ∧ J[s]? = some (some (.cells true 1 us)) ∧ vs.length = L.length ∧ us.length = U.length ∧ vs[i]? = some (.sl q 0 lo.length) ∧ us[i]? = some (.sl t 0 hi.length) ∧
      J[q]? = some (some (.cells true 1 (ivL lo))) ∧ J[t]? = some (some (.cells true 1 (ivL hi))) ∧ q ∈ ι ∧ t ∈ ι ∧ q ≠ t ∧
      ∀ (J' : Heap) (lo' hi' : List Int), lo' ≠ [] → hi' ≠ [] → lo'.length = lo.length → hi'.length = hi.length → (∀ a ∈ ι, a ≠ q → a ≠ t → J'[a]? = J[a]?) → J'[q]? = some (some (.cells true 1 (ivL lo'))) → J'[t]? = some (some (.cells true 1 (ivL hi'))) →
        Dat 6 J' ι (.agg [v0, v1, v2, v3]) (Fv ⟨g, p, L.set i lo', U.set i hi'⟩) := by
  obtain ⟨xs, ex, hx⟩ := h
  cases ex
  obtain ⟨κ0, κa, e0, d0, hx⟩ := (show All3 (Dat 5 J) ι [v0, v1, v2, v3] [vw g, vw p, tw L, tw U] from hx)
  obtain ⟨κ1, κb, e1, d1, hx⟩ := hx
  obtain ⟨κ2, κc, e2, d2, hx⟩ := hx
  obtain ⟨κ3, κd, e3, d3, hx⟩ := hx
  obtain rfl : κd = [] := hx
  subst e3; subst e2; subst e1; subst e0
  have n0 := List.nodup_append.1 hn
  have n1 := List.nodup_append.1 n0.2.1
  have n2 := List.nodup_append.1 n1.2.1
  have n3 := List.nodup_append.1 n2.2.1
  obtain ⟨r, vs, q, rfl, gr, lv, gi, hr, hq, gq, up2⟩ := tw_upd d2 hL n2.1
  obtain ⟨s, us, t, rfl, gs, lu, gj, hs, ht, gt, up3⟩ := tw_upd d3 hU n3.1
  have hqt : q ≠ t := fun e => n2.2.2 q hq t (List.mem_append_left _ ht) e
  refine ⟨r, s, vs, us, q, t, rfl, rfl, gr, gs, lv, lu, gi, gj, gq, gt, by simp [hq], by simp [ht], hqt, fun J' lo' hi' l0 h0 ll hl hJ h1 h2 => ?_⟩
  have c0 : ∀ a ∈ κ0, a ≠ q ∧ a ≠ t := fun a ha => ⟨n0.2.2 a ha q (by simp [hq]), n0.2.2 a ha t (by simp [ht])⟩
  have c1 : ∀ a ∈ κ1, a ≠ q ∧ a ≠ t := fun a ha => ⟨n1.2.2 a ha q (by simp [hq]), n1.2.2 a ha t (by simp [ht])⟩
  have c2 : ∀ a ∈ κ2, a ≠ t := fun a ha => n2.2.2 a ha t (by simp [ht])
  have c3 : ∀ a ∈ κ3, a ≠ q := fun a ha e => n2.2.2 q hq a (by simp [ha]) e.symm
  exact ⟨_, rfl, κ0, _, rfl, d0.congr fun a ha => hJ a (by simp [ha]) (c0 a ha).1 (c0 a ha).2, κ1, _, rfl, d1.congr fun a ha => hJ a (by simp [ha]) (c1 a ha).1 (c1 a ha).2,
    κ2, _, rfl, up2 J' lo' l0 ll (fun a ha n => hJ a (by simp [ha]) n (c2 a ha)) h1, κ3, [], rfl, up3 J' hi' h0 hl (fun a ha n => hJ a (by simp [ha]) (c3 a ha) n) h2, rfl⟩
end Go.Proofs

namespace Go.Proofs
open Go Go.Sx Go.Fam
attribute [local irreducible] Run

section
variable {P : Program} {G : Ctx} {g : FuncId} {args : List AVal} {H : Heap} {k : Nat} {R : Runner} {l : List AOper} {fs : List Sx.Frame} {ρ : List AVal} {ms : List Nat} {Q : Goal} {dst : Option Nat} {x x' y : Row} {r : AVal} {j : Nat}
end

theorem thaw_ofC (l : Lw) (g p : List Int) (k : Nat) : thaw 7 k (ofC l g p) = (.tup [(thaw 6 k (Fv (ofF l g p))).1, .int .i64 0], (thaw 6 k (Fv (ofF l g p))).2) := by
  unfold ofC
  simp only [thaw, mapk, List.append_nil]
theorem thaw_fv (f : Fa) (k : Nat) : ∃ a b c d, (thaw 6 k (Fv f)).1 = .agg [.sl a 0 f.g.length, .sl b 0 f.p.length, .sl c 0 f.lo.length, .sl d 0 f.hi.length] := by
  unfold Fv Fcs vw tw
  simp only [thaw, mapk, List.length_map]
  exact ⟨_, _, _, _, rfl⟩

end Go.Proofs

