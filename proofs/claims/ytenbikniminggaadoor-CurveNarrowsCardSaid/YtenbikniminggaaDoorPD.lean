/- A part of the proof. -/
import Derived.Test.YtenbikniminggaaDoorPC
set_option linter.unusedSimpArgs false
set_option linter.unusedVariables false
namespace Go.Proofs
open Go Go.Sx Go.Fam
attribute [local irreducible] Run

def chkR : List (Rg × Int × Int) → Int
  | [] => 0
  | (r, a, b) :: t => if r.hi < r.lo then 11 else if r.lo < a ∨ b < r.hi then 2 else chkR t
theorem chkR_order {r : Rg} {a b : Int} {t : List (Rg × Int × Int)} (h : r.hi < r.lo) : chkR ((r, a, b) :: t) = 11 := by unfold chkR; rw [if_pos h]
theorem chkR_range {r : Rg} {a b : Int} {t : List (Rg × Int × Int)} (h : ¬ r.hi < r.lo) (h2 : r.lo < a ∨ b < r.hi) : chkR ((r, a, b) :: t) = 2 := by unfold chkR; rw [if_neg h, if_pos h2]
theorem chkR_next {r : Rg} {a b : Int} {t : List (Rg × Int × Int)} (h : ¬ r.hi < r.lo) (h1 : ¬ r.lo < a) (h2 : ¬ b < r.hi) : chkR ((r, a, b) :: t) = chkR t := by
  show (if r.hi < r.lo then 11 else if r.lo < a ∨ b < r.hi then 2 else chkR t) = chkR t
  rw [if_neg h, if_neg (by omega)]
theorem chkR_zero {r : Rg} {a b : Int} {t : List (Rg × Int × Int)} (h : chkR ((r, a, b) :: t) = 0) : (a ≤ r.lo ∧ r.lo ≤ r.hi ∧ r.hi ≤ b) ∧ chkR t = 0 := by
  have h : (if r.hi < r.lo then 11 else if r.lo < a ∨ b < r.hi then 2 else chkR t) = 0 := h
  by_cases h1 : r.hi < r.lo
  · rw [if_pos h1] at h; cases h
  · rw [if_neg h1] at h
    by_cases h2 : r.lo < a ∨ b < r.hi
    · rw [if_pos h2] at h; cases h
    · rw [if_neg h2] at h
      exact ⟨by omega, h⟩
def lawE (l : Lw) : Int := chkR [(l.perv, 0, 1000000), (l.gain, 1, 1000000), (l.shift, -1000000, 1000000), (l.full, 0, 1000000), (l.part, 0, 1000000)]
theorem lawE_ok {l : Lw} (h : lawE l = 0) : LwOK l := by
  obtain ⟨a0, h⟩ := chkR_zero h
  obtain ⟨a1, h⟩ := chkR_zero h
  obtain ⟨a2, h⟩ := chkR_zero h
  obtain ⟨a3, h⟩ := chkR_zero h
  obtain ⟨a4, h⟩ := chkR_zero h
  exact ⟨a0, a1, a2, a3, a4⟩
theorem rcheckRange_run (r : Rg) (a b : Int) : Ans Tryd.prog n_ref02_checkRange [.agg [.int .i64 r.lo, .int .i64 r.hi], .int .i64 a, .int .i64 b] [] (.int .i64 (chkR [(r, a, b)])) [] := by
  obtain ⟨R, hR⟩ : ∃ R, chkR [(r, a, b)] = R := ⟨_, rfl⟩
  rw [hR]
  refine spec_run e_ref02_checkRange fun G => ?_
  by_cases o : r.hi < r.lo
  · rw [chkR_order o] at hR; subst hR
    have o' : r.lo > r.hi := o
    simp only [go_sem, o, o']
  · by_cases u : r.lo < a
    · rw [chkR_range o (.inl u)] at hR; subst hR
      simp only [go_sem, o, u]
    · by_cases v : b < r.hi
      · rw [chkR_range o (.inr v)] at hR; subst hR
        simp only [go_sem, o, u, v]
      · rw [chkR_next o u v] at hR; subst hR
        simp only [go_sem, o, u, v, chkR]

set_option maxRecDepth 20000 in
theorem checkLaw_raw (l : Lw) : Ans Tryd.prog n_curve_CheckLaw [l.v] [] (.int .i64 (lawE l)) [] := by
  obtain ⟨R, hR⟩ : ∃ R, lawE l = R := ⟨_, rfl⟩
  rw [hR]
  unfold lawE at hR
  have u1 : IntKind.i64.wrap 1 = 1 := rfl
  have u2 : IntKind.i64.wrap 2 = 2 := rfl
  have u3 : IntKind.i64.wrap 3 = 3 := rfl
  have u4 : IntKind.i64.wrap 4 = 4 := rfl
  have u5 : IntKind.i64.wrap 5 = 5 := rfl
  refine spec_run e_curve_CheckLaw fun G => ?_
  simp only [go_sem, Lw.v, Lw.cs]
  refine loop_body 200 k_curve_CheckLaw_r10.eq_1 ?_
  by_cases o0 : l.perv.hi < l.perv.lo
  · rw [chkR_order o0] at hR; subst hR
    simp only [go_sem, o0]
  by_cases p0 : l.perv.lo < 0
  · rw [chkR_range o0 (.inl p0)] at hR; subst hR
    simp only [go_sem, o0, p0]
  by_cases q0 : 1000000 < l.perv.hi
  · rw [chkR_range o0 (.inr q0)] at hR; subst hR
    simp only [go_sem, o0, p0, q0]
  rw [chkR_next o0 p0 q0] at hR
  simp only [go_sem, o0, p0, q0, u1]
  refine loop_body 200 k_curve_CheckLaw_r10.eq_1 ?_
  by_cases o1 : l.gain.hi < l.gain.lo
  · rw [chkR_order o1] at hR; subst hR
    simp only [go_sem, o1]
  by_cases p1 : l.gain.lo < 1
  · rw [chkR_range o1 (.inl p1)] at hR; subst hR
    simp only [go_sem, o1, p1]
  by_cases q1 : 1000000 < l.gain.hi
  · rw [chkR_range o1 (.inr q1)] at hR; subst hR
    simp only [go_sem, o1, p1, q1]
  rw [chkR_next o1 p1 q1] at hR
  simp only [go_sem, o1, p1, q1, u2]
  refine loop_body 200 k_curve_CheckLaw_r10.eq_1 ?_
  by_cases o2 : l.shift.hi < l.shift.lo
  · rw [chkR_order o2] at hR; subst hR
    simp only [go_sem, o2]
  by_cases p2 : l.shift.lo < -1000000
  · rw [chkR_range o2 (.inl p2)] at hR; subst hR
    simp only [go_sem, o2, p2]
  by_cases q2 : 1000000 < l.shift.hi
  · rw [chkR_range o2 (.inr q2)] at hR; subst hR
    simp only [go_sem, o2, p2, q2]
  rw [chkR_next o2 p2 q2] at hR
  simp only [go_sem, o2, p2, q2, u3]
  refine loop_body 200 k_curve_CheckLaw_r10.eq_1 ?_
  by_cases o3 : l.full.hi < l.full.lo
  · rw [chkR_order o3] at hR; subst hR
    simp only [go_sem, o3]
  by_cases p3 : l.full.lo < 0
  · rw [chkR_range o3 (.inl p3)] at hR; subst hR
    simp only [go_sem, o3, p3]
  by_cases q3 : 1000000 < l.full.hi
  · rw [chkR_range o3 (.inr q3)] at hR; subst hR
    simp only [go_sem, o3, p3, q3]
  rw [chkR_next o3 p3 q3] at hR
  simp only [go_sem, o3, p3, q3, u4]
  refine loop_body 200 k_curve_CheckLaw_r10.eq_1 ?_
  by_cases o4 : l.part.hi < l.part.lo
  · rw [chkR_order o4] at hR; subst hR
    simp only [go_sem, o4]
  by_cases p4 : l.part.lo < 0
  · rw [chkR_range o4 (.inl p4)] at hR; subst hR
    simp only [go_sem, o4, p4]
  by_cases q4 : 1000000 < l.part.hi
  · rw [chkR_range o4 (.inr q4)] at hR; subst hR
    simp only [go_sem, o4, p4, q4]
  rw [chkR_next o4 p4 q4] at hR
  simp only [go_sem, o4, p4, q4, u5]
  refine loop_body 200 k_curve_CheckLaw_r10.eq_1 ?_
  subst hR
  simp only [go_sem, chkR]

theorem chkR_one {r : Rg} {a b : Int} {t : List (Rg × Int × Int)} (h : chkR [(r, a, b)] ≠ 0) : chkR ((r, a, b) :: t) = chkR [(r, a, b)] := by
  by_cases o : r.hi < r.lo
  · rw [chkR_order o, chkR_order o]
  · by_cases u : r.lo < a ∨ b < r.hi
    · rw [chkR_range o u, chkR_range o u]
    · exact absurd (by rw [chkR_next o (by omega) (by omega)]; rfl) h
theorem chkR_none {r : Rg} {a b : Int} {t : List (Rg × Int × Int)} (h : chkR [(r, a, b)] = 0) : chkR ((r, a, b) :: t) = chkR t := by
  obtain ⟨h1, _⟩ := chkR_zero h
  exact chkR_next (by omega) (by omega) (by omega)
set_option maxRecDepth 20000 in
theorem rcheckLaw_raw (l : Lw) : Ans Tryd.prog n_ref02_CheckLaw [l.v] [] (.int .i64 (lawE l)) [] := by
  obtain ⟨R, hR⟩ : ∃ R, lawE l = R := ⟨_, rfl⟩
  rw [hR]
  unfold lawE at hR
  have u1 : IntKind.i64.wrap 1 = 1 := rfl
  have u2 : IntKind.i64.wrap 2 = 2 := rfl
  have u3 : IntKind.i64.wrap 3 = 3 := rfl
  have u4 : IntKind.i64.wrap 4 = 4 := rfl
  have u5 : IntKind.i64.wrap 5 = 5 := rfl
  have k0 := rcheckRange_run l.perv (0) 1000000
  have k1 := rcheckRange_run l.gain (1) 1000000
  have k2 := rcheckRange_run l.shift (-1000000) 1000000
  have k3 := rcheckRange_run l.full (0) 1000000
  have k4 := rcheckRange_run l.part (0) 1000000
  refine spec_run e_ref02_CheckLaw fun G => ?_
  simp only [go_sem, Lw.v, Lw.cs]
  refine loop_body 200 k_ref02_CheckLaw_r10.eq_1 ?_
  simp only [go_sem]
  refine cP k0 ?_
  by_cases o0 : chkR [(l.perv, 0, 1000000)] = 0
  rotate_left
  · rw [chkR_one o0] at hR
    rw [hR] at o0
    rw [hR]
    simp only [go_sem, o0]
  rw [chkR_none o0] at hR
  simp only [go_sem, o0, u1]
  refine loop_body 200 k_ref02_CheckLaw_r10.eq_1 ?_
  simp only [go_sem]
  refine cP k1 ?_
  by_cases o1 : chkR [(l.gain, 1, 1000000)] = 0
  rotate_left
  · rw [chkR_one o1] at hR
    rw [hR] at o1
    rw [hR]
    simp only [go_sem, o1]
  rw [chkR_none o1] at hR
  simp only [go_sem, o1, u2]
  refine loop_body 200 k_ref02_CheckLaw_r10.eq_1 ?_
  simp only [go_sem]
  refine cP k2 ?_
  by_cases o2 : chkR [(l.shift, -1000000, 1000000)] = 0
  rotate_left
  · rw [chkR_one o2] at hR
    rw [hR] at o2
    rw [hR]
    simp only [go_sem, o2]
  rw [chkR_none o2] at hR
  simp only [go_sem, o2, u3]
  refine loop_body 200 k_ref02_CheckLaw_r10.eq_1 ?_
  simp only [go_sem]
  refine cP k3 ?_
  by_cases o3 : chkR [(l.full, 0, 1000000)] = 0
  rotate_left
  · rw [chkR_one o3] at hR
    rw [hR] at o3
    rw [hR]
    simp only [go_sem, o3]
  rw [chkR_none o3] at hR
  simp only [go_sem, o3, u4]
  refine loop_body 200 k_ref02_CheckLaw_r10.eq_1 ?_
  simp only [go_sem]
  refine cP k4 ?_
  by_cases o4 : chkR [(l.part, 0, 1000000)] = 0
  rotate_left
  · rw [chkR_one o4] at hR
    rw [hR] at o4
    rw [hR]
    simp only [go_sem, o4]
  rw [chkR_none o4] at hR
  simp only [go_sem, o4, u5]
  refine loop_body 200 k_ref02_CheckLaw_r10.eq_1 ?_
  subst hR
  simp only [go_sem, chkR]
end Go.Proofs

namespace Go.Proofs
open Go Go.Sx Go.Fam
attribute [local irreducible] Run

theorem loop_drop {P : Program} {G : Ctx} {k : Nat} {ρ ρ' : List AVal} {A Y : Heap} {rd : Option Nat} {c : ACode} {fs : List Sx.Frame} {Q : Goal} (hk : k ≤ A.length) (hA : ∀ (i : Nat) (x : Row), A[i]? = some (some x) → x.ren (fun i => i) = x ∧ x.bel (· < A.length)) (hρ : WkR (fun i => i) ρ ρ') (hb : Bels (· < A.length) ρ')
    (h : Sx.Loop P G k rd c fs ⟨ρ', A, []⟩ Q) : Sx.Loop P G k rd c fs ⟨ρ, A ++ Y, []⟩ Q :=
  loop_gc (fun i => i) (fun _ _ => rfl) hk (fun _ _ _ _ e => e) hρ hb (fun i x hx => ⟨by rw [(hA i x hx).1, List.getElem?_append_left (List.getElem?_eq_some_iff.1 hx).1]; exact hx, (hA i x hx).2⟩) h

instance (d : Rd) : Decidable d.ok := by unfold Rd.ok; infer_instance
def rdE1 (d : Rd) : Int := if d.ok then (if d.hi < d.lo then 11 else 0) else 2
def rdsE : List Rd → Int
  | [] => 0
  | d :: t => if rdE1 d = 0 then rdsE t else rdE1 d
def readsE (rs : List Rd) : Int := if 60 < rs.length then 8 else rdsE rs
def Rds (rs : List Rd) : AVal := .view (rs.map Rd.v)

theorem wk_refl : ∀ ρ : List AVal, Wk ρ ρ
  | [] => trivial
  | _ :: ρ => ⟨.inr rfl, wk_refl ρ⟩
@[go_sem] theorem rdv_ren (f : Nat → Nat) (d : Rd) : ren f d.v = d.v := ren_same (by unfold Rd.v; simp only [go_sem])
@[go_sem] theorem rdv_bel (S : Nat → Prop) (d : Rd) : Bel S d.v = True := by unfold Rd.v; simp only [go_sem]
theorem rds_ren (f : Nat → Nat) (rs : List Rd) : ren f (Rds rs) = Rds rs := ren_same (by unfold Rds; rw [bel_view]; exact bels_map _ _ fun d => by rw [rdv_bel]; trivial)
@[go_sem] theorem rdl_rens (f : Nat → Nat) (rs : List Rd) : rens f (rs.map Rd.v) = rs.map Rd.v := by have := rds_ren f rs; simpa [Rds, ren] using this
@[go_sem] theorem rdl_bels (S : Nat → Prop) (rs : List Rd) : Bels S (rs.map Rd.v) = True := eq_true (bels_map _ _ fun d => by rw [rdv_bel]; trivial)
theorem rds_get {rs : List Rd} {i : Nat} (h : i < rs.length) : (rs.map Rd.v)[i]? = some (rs[i]).v := by simp [h]
theorem rds_drop {rs : List Rd} {i : Nat} (h : i < rs.length) : rs.drop i = rs[i] :: rs.drop (i + 1) := List.drop_eq_getElem_cons h

theorem checkReads_ok (rs : List Rd) (hl : rs.length ≤ 9223372036854775807) : Ans Tryd.prog n_curve_checkReads [Rds rs] [] (.int .i64 (readsE rs)) [] := by
  refine spec_run e_curve_checkReads fun G => ?_
  by_cases h60 : 60 < rs.length
  · have h2 : (rs.length : Int) > 60 := by omega
    unfold readsE; rw [if_pos h60]
    simp only [go_sem, Rds, List.length_map, h2]
  have h2 : ¬ (rs.length : Int) > 60 := by omega
  unfold readsE; rw [if_neg h60]
  obtain ⟨out, hout⟩ : ∃ out, rdsE rs = out := ⟨_, rfl⟩
  rw [hout]
  simp only [go_sem, Rds, List.length_map, h2]
  refine loop_ind k_curve_checkReads_r11.eq_1 (fun i : Nat => i ≤ rs.length ∧ rdsE (rs.drop i) = out) (fun i => rs.length - i)
    (fun i => (tsets 32 [(2, .int .i64 0), (8, .view (rs.map Rd.v)), (9, .int .i64 rs.length), (10, .int .i64 i)], [])) 0 ⟨Nat.zero_le _, hout⟩ (by simp [go_sem]) rfl ?_
  rintro i ⟨hi, hE⟩ ih
  dsimp only at hi hE ih ⊢
  by_cases h1 : i < rs.length
  · have g1 : (i : Int) < rs.length := by omega
    have n0 : ¬ (i : Int) < 0 := by omega
    have h3 : IntKind.i64.wrap ((i : Int) + 1) = ((i + 1 : Nat) : Int) := by rw [w64 (by omega)]; rfl
    have hx := rds_get h1
    rw [rds_drop h1] at hE
    obtain ⟨d, hd⟩ : ∃ d, rs[i] = d := ⟨_, rfl⟩
    rw [hd] at hx hE
    simp only [rdsE] at hE
    have kg := rightGrid_ok d.g
    have kp := rightPlate_ok d.p
    simp only [go_sem, g1, n0, hx, Rd.v, Int.toNat_natCast]
    refine cP kg ?_
    by_cases c1 : -1000000 ≤ d.g ∧ d.g ≤ 1000000
    · simp only [go_sem, c1]
      refine cP kp ?_
      by_cases c2 : 0 ≤ d.p ∧ d.p ≤ 1000000
      · have ok : d.ok := ⟨c1, c2⟩
        by_cases c3 : d.hi < d.lo
        · have e : rdE1 d = 11 := by unfold rdE1; rw [if_pos ok, if_pos c3]
          rw [e, if_neg (by decide)] at hE
          have c3' : d.lo > d.hi := c3
          simp only [go_sem, c2, c3']
          exact hE
        · have e : rdE1 d = 0 := by unfold rdE1; rw [if_pos ok, if_neg c3]
          rw [e, if_pos rfl] at hE
          have c3' : ¬ d.lo > d.hi := c3
          simp only [go_sem, c2, c3', h3]
          refine loop_drop (A := []) (Y := [_]) (by simp) (fun i x hx => by simp at hx) ?_ ?_ (ih (i + 1) (by omega) ⟨h1, hE⟩ _ (wk_refl _))
          · simp [go_sem, ren]
          · simp [go_sem]
      · have e : rdE1 d = 2 := by unfold rdE1; rw [if_neg fun h => c2 h.2]
        rw [e, if_neg (by decide)] at hE
        have c2' : (decide (0 ≤ d.p) && decide (d.p ≤ 1000000)) = false := by rw [Bool.eq_false_iff]; simpa using c2
        simp only [go_sem, c2']
        exact hE
    · have e : rdE1 d = 2 := by unfold rdE1; rw [if_neg fun h => c1 h.1]
      rw [e, if_neg (by decide)] at hE
      have c1' : (decide (-1000000 ≤ d.g) && decide (d.g ≤ 1000000)) = false := by rw [Bool.eq_false_iff]; simpa using c1
      simp only [go_sem, c1']
      exact hE
  · have g1 : ¬ (i : Int) < rs.length := by omega
    have : rs.drop i = [] := List.drop_eq_nil_of_le (by omega)
    rw [this] at hE
    simp only [go_sem, g1]
    rw [← hE]; rfl

def zlw : Lw := ⟨⟨0, 0⟩, ⟨0, 0⟩, ⟨0, 0⟩, ⟨0, 0⟩, ⟨0, 0⟩⟩
def narL : List Rd → Lw → Bool × Lw
  | [], m => (true, m)
  | d :: t, m => if (narK [0, 1, 2, 3, 4] m d).1 = true then narL t (narK [0, 1, 2, 3, 4] m d).2 else (false, m)
def narV (l : Lw) (rs : List Rd) : AVal :=
  if lawE l = 0 then (if readsE rs = 0 then (if (narL rs l).1 = true then .tup [(narL rs l).2.v, .int .i64 0] else .tup [zlw.v, .int .i64 12]) else .tup [zlw.v, .int .i64 (readsE rs)]) else .tup [zlw.v, .int .i64 (lawE l)]

theorem narK_in (d : Rd) : ∀ (ks : List Nat) {m : Lw}, LwOK m → (narK ks m d).1 = true → LwOK (narK ks m d).2
  | [], _, h, _ => h
  | k :: ks, m, h, hn => by
    unfold narK at hn ⊢
    split
    · rename_i hz; rw [if_pos hz] at hn; cases hn
    · rename_i hz
      rw [if_neg hz] at hn
      exact narK_in d ks (nar1_in h k d hz) hn

theorem rdE1_ok {d : Rd} (h : rdE1 d = 0) : d.ok ∧ d.lo ≤ d.hi := by
  unfold rdE1 at h
  split at h
  · rename_i hd
    split at h
    · cases h
    · exact ⟨hd, by omega⟩
  · cases h
theorem rdsE_ok : ∀ {rs : List Rd}, rdsE rs = 0 → ∀ d ∈ rs, d.ok ∧ d.lo ≤ d.hi
  | [], _, d, hd => by cases hd
  | x :: t, h, d, hd => by
    unfold rdsE at h
    split at h
    · rename_i hx
      rcases List.mem_cons.1 hd with rfl | hd
      · exact rdE1_ok hx
      · exact rdsE_ok h d hd
    · rename_i hx; exact absurd h hx

def Zr : Row := .cells false 10 [.agg [.int .i64 0, .int .i64 0, .int .i64 0, .int .i64 0, .int .i64 0, .int .i64 0, .int .i64 0, .int .i64 0, .int .i64 0, .int .i64 0]]
@[go_sem] theorem zr_bel (S : Nat → Prop) : Zr.bel S = True := by unfold Zr; rw [row_bel_cells]; simp only [go_sem]
theorem nar_rows (m : Lw) : ∀ (i : Nat) (x : Row), ([some (Lr m), some Zr] : Heap)[i]? = some (some x) → x.ren (fun i => i) = x ∧ x.bel (· < ([some (Lr m), some Zr] : Heap).length) := by
  intro i x hx
  match i with
  | 0 => cases hx; exact ⟨Row.ren_same (by simp only [go_sem]), by simp only [go_sem]⟩
  | 1 => cases hx; exact ⟨Row.ren_same (by simp only [go_sem]), by simp only [go_sem]⟩
  | i + 2 => simp at hx

set_option maxHeartbeats 1000000 in
theorem Narrow_ok (l : Lw) (rs : List Rd) (hl : rs.length ≤ 9223372036854775807) : Ans Tryd.prog n_curve_Narrow [l.v, Rds rs] [] (narV l rs) [] := by
  have kl := checkLaw_raw l
  have kr := checkReads_ok rs hl
  unfold narV
  refine spec_run e_curve_Narrow fun G => ?_
  simp only [Lw.v, Lw.cs, Rds] at kl kr ⊢
  simp only [go_sem]
  refine cP kl ?_
  by_cases c1 : lawE l = 0
  · rw [if_pos c1]
    simp only [go_sem, c1]
    refine cP kr ?_ (by simp only [go_sem])
    by_cases c2 : readsE rs = 0
    · rw [if_pos c2]
      obtain ⟨out, hout⟩ : ∃ out, narL rs l = out := ⟨_, rfl⟩
      rw [hout]
      simp only [go_sem, c2, List.length_map]
      have hv : ∀ d ∈ rs, d.ok ∧ d.lo ≤ d.hi := by
        unfold readsE at c2
        split at c2
        · cases c2
        · exact rdsE_ok c2
      have h0 := lawE_ok c1
      refine loop_ind k_curve_Narrow_r13.eq_1 (fun a : Nat × Lw => a.1 ≤ rs.length ∧ LwOK a.2 ∧ narL (rs.drop a.1) a.2 = out) (fun a => rs.length - a.1)
        (fun a => (tsets 34 [(2, .ptr 0 0 0 1), (4, .ptr 1 0 0 1), (5, .int .i64 0), (22, .view (rs.map Rd.v)), (23, .int .i64 rs.length), (24, .int .i64 a.1)], [some (Lr a.2), some Zr])) (0, l) ⟨Nat.zero_le _, h0, hout⟩ (by simp [go_sem]) rfl ?_
      rintro ⟨i, m⟩ ⟨hi, hm, hE⟩ ih
      dsimp only at hi hm hE ih ⊢
      by_cases h1 : i < rs.length
      · have g1 : (i : Int) < rs.length := by omega
        have n0 : ¬ (i : Int) < 0 := by omega
        have h3 : IntKind.i64.wrap ((i : Int) + 1) = ((i + 1 : Nat) : Int) := by rw [w64 (by omega)]; rfl
        have hx := rds_get h1
        rw [rds_drop h1] at hE
        have hd := hv _ (List.getElem_mem h1)
        obtain ⟨d, hde⟩ : ∃ d, rs[i] = d := ⟨_, rfl⟩
        rw [hde] at hx hE hd
        simp only [narL] at hE
        have kn := narrow_ok hm d hd.1
        have hin := narK_in d [0, 1, 2, 3, 4] hm
        generalize narK [0, 1, 2, 3, 4] m d = R at *
        simp only [Rd.v] at kn hx
        simp only [go_sem, g1, n0, hx, Int.toNat_natCast]
        refine cD kn ?_
        by_cases hR : R.1 = true
        · rw [if_pos hR] at hE
          simp only [go_sem, hR, h3]
          refine loop_drop (A := [some (Lr R.2), some Zr]) (Y := [_]) (by simp) (nar_rows _) ?_ ?_ (ih (i + 1, R.2) (by dsimp only; omega) ⟨h1, hin hR, hE⟩ _ (wk_refl _))
          · simp [go_sem, ren]
          · simp [go_sem]
        · rw [if_neg hR] at hE
          subst hE
          simp only [go_sem, hR, Zr, zlw]
      · have g1 : ¬ (i : Int) < rs.length := by omega
        have : rs.drop i = [] := List.drop_eq_nil_of_le (by omega)
        rw [this] at hE
        subst hE
        simp only [go_sem, g1, Lr_eq, Zr]
        rfl
    · rw [if_neg c2]
      generalize readsE rs = e at *
      simp only [go_sem, c2, zlw]
  · rw [if_neg c1]
    generalize lawE l = e at *
    simp only [go_sem, c1, zlw]
end Go.Proofs

namespace Go.Proofs
open Go Go.Sx Go.Fam
attribute [local irreducible] Run

theorem rCurrent_ok (l : Lw) (h : LwOK l) (g p : Int) (h1 : -1000000 ≤ g ∧ g ≤ 1000000) (h2 : 0 ≤ p ∧ p ≤ 1000000) : Ans Tryd.prog n_ref02_Current [l.v, .int .i64 g, .int .i64 p] [] (.tup [(curOf l g p).v, .int .i64 0]) [] := by
  have k1 := rCheckLaw_ok l h
  have k2 := rright_run g p
  have k3 := rcurrent_run l h g p h1 h2
  refine spec_run e_ref02_Current fun G => ?_
  simp only [Lw.v, Lw.cs] at k1 k3 ⊢
  simp only [go_sem]
  refine cP k1 ?_
  simp only [go_sem]
  refine cP k2 ?_
  simp only [go_sem, h1, h2]
  refine cP k3 ?_
  simp only [go_sem, Rg.v]

theorem cur_in {l : Lw} (h : LwOK l) (g p : Int) : 0 ≤ (curOf l g p).lo ∧ (curOf l g p).lo ≤ 1000000 := by
  have e0 : 0 ≤ (driveOf l g p).lo := (bnd_in _).1
  have lp := h.perv; have lq := h.part; have lf := h.full
  unfold curOf curLo
  dsimp only
  generalize driveOf l g p = d at *
  obtain ⟨r0, _, _⟩ := root_ok (cube_nonneg e0)
  have z1 : 0 ≤ spaceLo l d := Int.ediv_nonneg (Int.mul_nonneg lp.1 r0) (by decide)
  have y1 := mn_in z1 lf.1
  have hm := mul_in (a := l.part.lo) (A := 1000000) (b := mn (spaceLo l d) l.full.lo) (B := 1000000) (by omega) (by omega)
  refine ⟨Int.ediv_nonneg hm.1 (by decide), ?_⟩
  have := Int.ediv_le_ediv (c := 1000000) (by decide) hm.2
  simpa using this

def d4 (w : Int) : Int := dstep (dstep (dstep (dstep w)))
def rdOf (w : Int) (x : Lw) : Rd :=
  ⟨btw w (-6000) 3000, btw (dstep w) 0 300000, (curOf x (btw w (-6000) 3000) (btw (dstep w) 0 300000)).lo - upto (dstep (dstep w)) 20, (curOf x (btw w (-6000) 3000) (btw (dstep w) 0 300000)).lo + upto (dstep (dstep (dstep w))) 20⟩
def rdsGo (x : Lw) : Nat → Int → List Rd → List Rd × Int
  | 0, w, out => (out, w)
  | n + 1, w, out => rdsGo x n (d4 w) (out ++ [rdOf w x])
theorem rdOf_ok {x : Lw} (h : LwOK x) (w : Int) : (rdOf w x).ok ∧ (rdOf w x).lo ≤ (rdOf w x).hi ∧ agr x (rdOf w x) := by
  have h1 := btw_in (w := w) (lo := -6000) (hi := 3000) (by decide)
  have h2 := btw_in (w := dstep w) (lo := 0) (hi := 300000) (by decide)
  have h3 := upto_in (w := dstep (dstep w)) (n := 20) (by decide)
  have h4 := upto_in (w := dstep (dstep (dstep w))) (n := 20) (by decide)
  have h5 := cur_le h (d := driveOf x (btw w (-6000) 3000) (btw (dstep w) 0 300000)) (bnd_in _).1 (drive_le h h2.1)
  unfold agr rdOf Rd.ok
  dsimp only
  unfold curOf
  dsimp only
  refine ⟨⟨?_, ?_⟩, ?_, ?_, ?_⟩ <;> omega

def rdT : List (Nat × AVal) := [(0, .ptr 0 0 0 1), (3, .ptr 1 0 0 1), (4, .nilsl)]
def rdH (w : Int) (x : Lw) (out : List Rd) : Heap := if out = [] then [some (Dr w), some (Lr x)] else [some (Dr w), some (Lr x), some (.cells true 4 (out.map Rd.v))]
def rdV (j : Nat) (out : List Rd) : AVal := if out = [] then .nilsl else .sl j 0 out.length
@[go_sem] theorem rdrow_bel (g : Bool) (out : List Rd) (S : Nat → Prop) : (Row.cells g 4 (out.map Rd.v)).bel S = True := by rw [row_bel_cells, rdl_bels]
@[go_sem high] theorem rd_sized (out : List Rd) : sizedAll 4 (out.map Rd.v) = true := by
  unfold sizedAll
  rw [List.all_eq_true]
  intro v hv
  obtain ⟨d, _, rfl⟩ := List.mem_map.1 hv
  rfl

set_option maxRecDepth 20000 in
theorem rd_back {P : Program} {G : Ctx} {rd : Option Nat} {c : ACode} {fs : List Sx.Frame} {Q : Goal} {ρ : List AVal} {H : Heap} {w : Int} {x : Lw} {out : List Rd} {j m : Nat} (hW : Wk ρ (tsets 47 (rdT ++ [(5, .sl j 0 out.length), (6, .int .i64 m)])))
    (h0 : H[0]? = some (some (Dr w))) (h1 : H[1]? = some (some (Lr x))) (hj : H[j]? = some (some (.cells true 4 (out.map Rd.v)))) (hj1 : 2 ≤ j) (hne : out ≠ []) (h : Sx.Loop P G 1 rd c fs ⟨tsets 47 (rdT ++ [(5, rdV 2 out), (6, .int .i64 m)]), rdH w x out, []⟩ Q) : Sx.Loop P G 1 rd c fs ⟨ρ, H, []⟩ Q := by
  unfold rdV rdH at h
  rw [if_neg hne, if_neg hne] at h
  refine loop_wk hW (loop_gc (ρ' := tsets 47 (rdT ++ [(5, .sl 2 0 out.length), (6, .int .i64 m)])) (H' := [some (Dr w), some (Lr x), some (.cells true 4 (out.map Rd.v))]) (fun i => if i = 0 then 0 else if i = 1 then 1 else j) (fun i hi => by simp [show i = 0 by omega]) (by simp) (fun i k hi hk e => ?_) ?_ ?_ (fun i x hx => ?_) h)
  · simp only [List.length_cons, List.length_nil] at hi hk
    by_cases a : i = 0 <;> by_cases b : k = 0 <;> by_cases a1 : i = 1 <;> by_cases b1 : k = 1 <;> simp [a, b, a1, b1] at e <;> omega
  · simp [go_sem, rdT, ren]
  · simp [go_sem, rdT]
  · have hi := (List.getElem?_eq_some_iff.1 hx).1
    simp only [List.length_cons, List.length_nil] at hi
    obtain rfl | rfl | rfl : i = 0 ∨ i = 1 ∨ i = 2 := by omega
    · simp only [List.getElem?_cons_zero, Option.some.injEq] at hx
      subst hx
      exact ⟨by rw [Row.ren_same (dr_bel _ _)]; exact h0, dr_bel _ _⟩
    · simp only [List.getElem?_cons_succ, List.getElem?_cons_zero, Option.some.injEq] at hx
      subst hx
      exact ⟨by rw [Row.ren_same (by simp only [go_sem])]; exact h1, by simp only [go_sem]⟩
    · simp only [List.getElem?_cons_succ, List.getElem?_cons_zero, Option.some.injEq] at hx
      subst hx
      exact ⟨by rw [Row.ren_same (by simp only [go_sem])]; exact hj, by simp only [go_sem]⟩

def rdsN (w : Int) : Nat := (upto w 5).toNat
theorem nat_of {a : Int} (h : 0 ≤ a ∧ a < 5) : a.toNat ≤ 4 ∧ a = (a.toNat : Int) := by omega
theorem rdsN_in (w : Int) : rdsN w ≤ 4 ∧ upto w 5 = (rdsN w : Int) := nat_of (upto_in (w := w) (n := 5) (by decide))
theorem rdOf_eq {w : Int} {x : Lw} {g p a b : Int} (h1 : btw w (-6000) 3000 = g) (h2 : btw (dstep w) 0 300000 = p) (h3 : upto (dstep (dstep w)) 20 = a) (h4 : upto (dstep (dstep (dstep w))) 20 = b) :
    rdOf w x = ⟨g, p, (curOf x g p).lo - a, (curOf x g p).lo + b⟩ := by subst h1 h2 h3 h4; rfl
structure RdD (w g p a b : Int) : Prop where
  hg : btw w (-6000) 3000 = g
  hp : btw (dstep w) 0 300000 = p
  ha : upto (dstep (dstep w)) 20 = a
  hb : upto (dstep (dstep (dstep w))) 20 = b
  ig : -6000 ≤ g ∧ g ≤ 3000
  ip : 0 ≤ p ∧ p ≤ 300000
  ia : 0 ≤ a ∧ a < 20
  ib : 0 ≤ b ∧ b < 20
theorem rdD (w : Int) : ∃ g p a b, RdD w g p a b := ⟨_, _, _, _, rfl, rfl, rfl, rfl, btw_in (by decide), btw_in (by decide), upto_in (by decide), upto_in (by decide)⟩
structure RdK (w g p a b : Int) : Prop where
  kg : Ans Tryd.prog n_kit_Dice_Between [.ptr 0 0 0 1, .int .i64 (-6000), .int .i64 3000] [some (Dr w)] (.int .i64 g) [some (Dr (dstep w))]
  kp : Ans Tryd.prog n_kit_Dice_Between [.ptr 0 0 0 1, .int .i64 0, .int .i64 300000] [some (Dr (dstep w))] (.int .i64 p) [some (Dr (dstep (dstep w)))]
  ka : Ans Tryd.prog n_kit_Dice_Upto [.ptr 0 0 0 1, .int .i64 20] [some (Dr (dstep (dstep w)))] (.int .i64 a) [some (Dr (dstep (dstep (dstep w))))]
  kb : Ans Tryd.prog n_kit_Dice_Upto [.ptr 0 0 0 1, .int .i64 20] [some (Dr (dstep (dstep (dstep w))))] (.int .i64 b) [some (Dr (d4 w))]
theorem RdD.k {w g p a b : Int} (h : RdD w g p a b) : RdK w g p a b := by
  have kg := between_ok w (-6000) 3000 (by omega) (by omega) (by omega)
  have kp := between_ok (dstep w) 0 300000 (by omega) (by omega) (by omega)
  have ka := upto_ok (dstep (dstep w)) 20 (by omega)
  have kb := upto_ok (dstep (dstep (dstep w))) 20 (by omega)
  rw [h.hg] at kg; rw [h.hp] at kp; rw [h.ha] at ka; rw [h.hb] at kb
  exact ⟨kg, kp, ka, kb⟩

set_option maxHeartbeats 2000000 in
set_option maxRecDepth 20000 in
theorem ReadsOf_gen (w : Int) {x : Lw} (hx : LwOK x) (n : Nat) (hn5 : n ≤ 4) (hnu : upto w 5 = (n : Int)) (R : List Rd × Int) (hR : rdsGo x n (dstep w) [] = R) : Ans Tryd.prog n_kit_ReadsOf [.ptr 0 0 0 1, x.v] [some (Dr w)] (slv 1 (R.1.map Rd.v)) (some (Dr R.2) :: slrG true 4 (R.1.map Rd.v)) := by
  have k1 := upto_ok w 5 (by decide)
  rw [hnu] at k1
  refine Ans.keep (run_fn e_kit_ReadsOf fun G => ?_) (by simp) (by unfold slv slrG; split <;> simp [go_sem]) (by unfold slrG; split <;> simp [go_sem, Full]) 
  simp only [go_sem, Lw.v, Lw.cs]
  refine cD k1 ?_
  simp only [go_sem]
  refine loop_ind k_kit_ReadsOf_r9.eq_1 (fun a : Nat × Int × List Rd => rdsGo x a.1 a.2.1 a.2.2 = R ∧ a.2.2.length + a.1 ≤ 4) (fun a => a.1)
    (fun a => (tsets 47 (rdT ++ [(5, rdV 2 a.2.2), (6, .int .i64 a.1)]), rdH a.2.1 x a.2.2)) (n, dstep w, []) ⟨hR, by simp only [List.length_nil]; omega⟩ (by simp [go_sem, rdT, rdV]) (by simp [rdH, List.set, Lr, Lw.v, Lw.cs]) ?_
  rintro ⟨m, w, out⟩ ⟨hG, hl⟩ ih
  dsimp only at hG hl ih ⊢
  cases m with
  | zero =>
    have e0 : ¬ ((0 : Nat) : Int) > 0 := by omega
    simp only [rdsGo] at hG
    subst hG
    by_cases hne : out = []
    · subst hne
      simp only [go_sem, rdT, rdV, rdH, if_true, e0, slv, slrG, List.map_nil]
      exact ⟨fun i => i, fun i _ => rfl, fun i j _ _ h => h, rfl, fun i y hy => by
        match i with
        | 0 =>
          simp only [List.getElem?_cons_zero, Option.some.injEq] at hy
          subst hy
          rw [Row.ren_same (dr_bel _ _)]; rfl
        | i + 1 => simp at hy⟩
    · have hne2 : out.map Rd.v ≠ [] := by simpa using hne
      simp only [go_sem, rdT, rdV, rdH, hne, if_false, e0, slv, slrG, hne2, List.length_map]
      exact kept_two 2 (by decide) rfl (dr_bel _ _) (by simp only [go_sem]) rfl rfl
  | succ m =>
    have e0 : ((m + 1 : Nat) : Int) > 0 := by omega
    have e1 : IntKind.i64.wrap (((m + 1 : Nat) : Int) - 1) = m := by rw [w64 (by omega)]; omega
    obtain ⟨g, p, a, b, hD⟩ := rdD w
    obtain ⟨kg, kp, ka, kb⟩ := hD.k
    have he := rdOf_eq (x := x) hD.hg hD.hp hD.ha hD.hb
    have ig := hD.ig; have ip := hD.ip; have ia := hD.ia; have ib := hD.ib
    clear hD
    simp only [rdsGo] at hG
    rw [he] at hG
    clear he
    obtain ⟨w', hw'⟩ : ∃ w', d4 w = w' := ⟨_, rfl⟩
    rw [hw'] at hG kb
    obtain ⟨w1, hw1⟩ : ∃ w', dstep w = w' := ⟨_, rfl⟩
    rw [hw1] at kg kp ka kb
    obtain ⟨w2, hw2⟩ : ∃ w', dstep w1 = w' := ⟨_, rfl⟩
    rw [hw2] at kp ka kb
    obtain ⟨w3, hw3⟩ : ∃ w', dstep w2 = w' := ⟨_, rfl⟩
    rw [hw3] at ka kb
    clear hw' hw1 hw2 hw3
    have kc := rCurrent_ok x hx g p (by omega) (by omega)
    have hc := cur_in hx g p
    simp only [Lw.v, Lw.cs] at kc
    obtain ⟨c1, hc1⟩ : ∃ c, (curOf x g p).lo = c := ⟨_, rfl⟩
    simp only [Rg.v, hc1] at kc hc hG
    obtain ⟨c2, hc2⟩ : ∃ c, (curOf x g p).hi = c := ⟨_, rfl⟩
    rw [hc2] at kc
    have u1 : IntKind.i64.wrap (c1 - a) = c1 - a := w64 (by omega)
    have u2 : IntKind.i64.wrap (c1 + b) = c1 + b := w64 (by omega)
    by_cases hne : out = []
    · subst hne
      simp only [go_sem, rdT, rdV, rdH, if_true, e0]
      refine cD kg ?_
      simp only [go_sem]
      refine cD kp ?_
      simp only [go_sem, Lr_eq]
      refine cP kc ?_
      simp only [go_sem]
      refine dD ka ?_
      simp only [go_sem, u1]
      refine dD kb ?_
      simp only [go_sem, u2, e1]
      refine ⟨by decide, rd_back (x := x) (m := m) (j := 5) (out := [⟨g, p, c1 - a, c1 + b⟩]) (w := w') (by simp [go_sem, rdT]) rfl rfl rfl (by omega) (by simp) ?_⟩
      exact ih (m, w', [⟨g, p, c1 - a, c1 + b⟩]) (Nat.lt_succ_self _) ⟨hG, by simp only [List.length_singleton]; simp at hl; omega⟩ _ (wk_refl _)
    · have hlen : (32 : Nat) * out.length ≤ 128 := by omega
      have bb : (out.length + 1) * 32 ≤ 2 ^ 44 := by omega
      simp only [go_sem, rdT, rdV, rdH, hne, if_false, e0]
      refine cD kg ?_
      simp only [go_sem]
      refine cD kp ?_
      simp only [go_sem, Lr_eq]
      refine cP kc ?_
      simp only [go_sem]
      refine dD ka ?_
      simp only [go_sem, u1]
      refine dD kb ?_
      simp only [go_sem, u2, e1, List.length_map, bb]
      have hl1 : (out ++ [(⟨g, p, c1 - a, c1 + b⟩ : Rd)]).length = out.length + 1 := by simp
      refine rd_back (x := x) (m := m) (j := 2) (out := out ++ [⟨g, p, c1 - a, c1 + b⟩]) (w := w') (by simp [go_sem, rdT, hl1]) rfl rfl (by rw [List.map_append]; rfl) (by omega) (by simp) ?_
      exact ih (m, w', out ++ [⟨g, p, c1 - a, c1 + b⟩]) (Nat.lt_succ_self _) ⟨hG, by rw [hl1]; omega⟩ _ (wk_refl _)

theorem rdsGo_mem {x : Lw} (hx : LwOK x) : ∀ (n : Nat) (w : Int) (out : List Rd), (∀ d ∈ out, d.ok ∧ d.lo ≤ d.hi ∧ agr x d) → ∀ d ∈ (rdsGo x n w out).1, d.ok ∧ d.lo ≤ d.hi ∧ agr x d
  | 0, _, _, h => h
  | n + 1, w, out, h => by
    unfold rdsGo
    refine rdsGo_mem hx n (d4 w) _ fun d hd => ?_
    rcases List.mem_append.1 hd with hd | hd
    · exact h d hd
    · rw [List.mem_singleton.1 hd]; exact rdOf_ok hx w
theorem rdsGo_len {x : Lw} : ∀ (n : Nat) (w : Int) (out : List Rd), (rdsGo x n w out).1.length = out.length + n
  | 0, _, _ => rfl
  | n + 1, w, out => by
    unfold rdsGo
    rw [rdsGo_len n (d4 w)]
    simp; omega
theorem ReadsOf_ok (w : Int) {x : Lw} (hx : LwOK x) : ∃ (rs : List Rd) (w' : Int), rs.length ≤ 4 ∧ (∀ d ∈ rs, d.ok ∧ d.lo ≤ d.hi ∧ agr x d) ∧
    Ans Tryd.prog n_kit_ReadsOf [.ptr 0 0 0 1, x.v] [some (Dr w)] (slv 1 (rs.map Rd.v)) (some (Dr w') :: slrG true 4 (rs.map Rd.v)) := by
  obtain ⟨h1, h2⟩ := rdsN_in w
  generalize rdsN w = n at h1 h2
  exact ⟨(rdsGo x n (dstep w) []).1, (rdsGo x n (dstep w) []).2, by rw [rdsGo_len]; simpa using h1, rdsGo_mem hx n _ [] (fun d hd => by cases hd), ReadsOf_gen w hx n h1 h2 _ rfl⟩
end Go.Proofs

namespace Go.Proofs
open Go Go.Sx Go.Fam

theorem SubR.refl (r : Rg) : SubR r r := ⟨Int.le_refl _, Int.le_refl _⟩
theorem SubL.refl (l : Lw) : SubL l l := ⟨.refl _, .refl _, .refl _, .refl _, .refl _⟩
theorem SubR.trans {a b c : Rg} (h : SubR a b) (k : SubR b c) : SubR a c := ⟨Int.le_trans k.lo h.lo, Int.le_trans h.hi k.hi⟩
theorem SubL.trans {a b c : Lw} (h : SubL a b) (k : SubL b c) : SubL a c := ⟨h.perv.trans k.perv, h.gain.trans k.gain, h.shift.trans k.shift, h.full.trans k.full, h.part.trans k.part⟩
end Go.Proofs

namespace Go.Proofs
open Go Go.Sx

def k_law02_CurveNarrows_r0 : List AOper := [
  ⟨some 3, .box (.tmp 0), none, []⟩,
 ⟨some 6, .move (.const (.bool false)), none, []⟩]
def k_law02_CurveNarrows_r1 : List AOper := [
  ⟨some 18, .move (.tmp 1), none, []⟩,
 ⟨some 19, .len false (.tmp 18), none, []⟩,
 ⟨some 20, .bin .plain .gtr (.tmp 19) (.const (.int .i64 70)), none, []⟩]
def k_law02_CurveNarrows_r2 : List AOper := [
  ⟨some 21, .call (.const (.fn (.func 5) [] [])) [], none, []⟩,
 ⟨some 6, .move (.tmp 21), none, []⟩]
def k_law02_CurveNarrows_r3 : List AOper := [
  ⟨some 22, .move (.tmp 2), none, []⟩,
 ⟨some 23, .call (.const (.fn (.func 6) [] [])) [.tmp 22], none, []⟩,
 ⟨some 7, .move (.tmp 23), none, []⟩]
def k_law02_CurveNarrows_r4 : List AOper := [
  ⟨some 24, .move (.tmp 7), none, []⟩,
 ⟨some 25, .call (.const (.fn (.func 7) [] [])) [.tmp 24], none, []⟩,
 ⟨some 8, .box (.const (.agg [.int .i64 0, .int .i64 0, .int .i64 0, .int .i64 0, .int .i64 0, .int .i64 0, .int .i64 0, .int .i64 0, .int .i64 0, .int .i64 0])), none, []⟩,
 ⟨none, .store 10 (.tmp 8) (.tmp 25), none, []⟩]
def k_law02_CurveNarrows_r5 : List AOper := [
  ⟨some 26, .move (.tmp 7), none, []⟩,
 ⟨some 27, .move (.tmp 7), none, []⟩,
 ⟨some 28, .load (some (10)) (.tmp 8), none, []⟩,
 ⟨some 29, .call (.const (.fn (.func 9) [] [])) [.tmp 27, .tmp 28, .const (.bool true)], none, []⟩,
 ⟨some 30, .call (.const (.fn (.func 8) [] [])) [.tmp 26, .tmp 29], none, []⟩,
 ⟨some 9, .move (.tmp 30), none, []⟩]
def k_law02_CurveNarrows_r6 : List AOper := [
  ⟨some 31, .load (some (10)) (.tmp 3), none, []⟩,
 ⟨some 32, .load (some (10)) (.tmp 8), none, [0]⟩,
 ⟨some 33, .load (some (10)) (.tmp 8), none, [0, 1]⟩,
 ⟨some 34, .load (some (10)) (.tmp 8), none, [0, 1, 2]⟩,
 ⟨some 35, .buildSlice 10 [.tmp 31, .tmp 32, .tmp 33, .tmp 34], none, []⟩,
 ⟨some 36, .move (.tmp 1), none, [0, 1, 2, 3, 4]⟩,
 ⟨some 37, .move (.tmp 9), none, [0, 1, 2, 3, 4, 5]⟩,
 ⟨some 38, .buildSlice 4 [], none, [0, 1, 2, 3, 4, 5, 6]⟩,
 ⟨some 39, .move (.tmp 9), none, [0, 1, 2, 3, 4, 5, 6, 7]⟩,
 ⟨some 40, .append 4 32 true (.tmp 38) (.tmp 39), none, [0, 1, 2, 3, 4, 5, 6]⟩,
 ⟨some 41, .move (.tmp 1), none, [0, 1, 2, 3, 4, 5, 6, 7, 8, 9]⟩,
 ⟨some 42, .append 4 32 true (.tmp 40) (.tmp 41), none, [0, 1, 2, 3, 4, 5, 6]⟩,
 ⟨some 43, .move (.tmp 1), none, [0, 1, 2, 3, 4, 5, 6, 7, 8, 9, 10, 11]⟩,
 ⟨some 44, .buildSlice 1 [.tmp 36, .tmp 37, .tmp 42, .tmp 43], none, [0, 1, 2, 3, 4]⟩,
 ⟨some 10, .move (.tmp 35), none, [5, 6, 12, 13]⟩,
 ⟨some 11, .move (.tmp 44), none, []⟩]
def k_law02_CurveNarrows_r6s : List (List AOper) := [
  [
  ⟨some 31, .load (some (10)) (.tmp 3), none, []⟩,
 ⟨some 32, .load (some (10)) (.tmp 8), none, [0]⟩,
 ⟨some 33, .load (some (10)) (.tmp 8), none, [0, 1]⟩,
 ⟨some 34, .load (some (10)) (.tmp 8), none, [0, 1, 2]⟩,
 ⟨some 35, .buildSlice 10 [.tmp 31, .tmp 32, .tmp 33, .tmp 34], none, []⟩,
 ⟨some 36, .move (.tmp 1), none, [0, 1, 2, 3, 4]⟩,
 ⟨some 37, .move (.tmp 9), none, [0, 1, 2, 3, 4, 5]⟩,
 ⟨some 38, .buildSlice 4 [], none, [0, 1, 2, 3, 4, 5, 6]⟩,
 ⟨some 39, .move (.tmp 9), none, [0, 1, 2, 3, 4, 5, 6, 7]⟩,
 ⟨some 40, .append 4 32 true (.tmp 38) (.tmp 39), none, [0, 1, 2, 3, 4, 5, 6]⟩,
 ⟨some 41, .move (.tmp 1), none, [0, 1, 2, 3, 4, 5, 6, 7, 8, 9]⟩,
 ⟨some 42, .append 4 32 true (.tmp 40) (.tmp 41), none, [0, 1, 2, 3, 4, 5, 6]⟩,
 ⟨some 43, .move (.tmp 1), none, [0, 1, 2, 3, 4, 5, 6, 7, 8, 9, 10, 11]⟩,
 ⟨some 44, .buildSlice 1 [.tmp 36, .tmp 37, .tmp 42, .tmp 43], none, [0, 1, 2, 3, 4]⟩,
 ⟨some 10, .move (.tmp 35), none, [5, 6, 12, 13]⟩], 
  [
  ⟨some 11, .move (.tmp 44), none, []⟩]]
theorem k_law02_CurveNarrows_r6_sg : segs k_law02_CurveNarrows_r6 = k_law02_CurveNarrows_r6s := by kernel_rfl
theorem k_law02_CurveNarrows_r6_st : statOK k_law02_CurveNarrows_r6 = true := by kernel_rfl
def k_law02_CurveNarrows_r7 : List AOper := [
  ⟨some 12, .move (.const (.int .i64 0)), none, []⟩]
def k_law02_CurveNarrows_r8 : List AOper := [
  ⟨some 45, .move (.tmp 12), none, []⟩,
 ⟨some 46, .move (.tmp 10), none, []⟩,
 ⟨some 47, .len false (.tmp 46), none, []⟩,
 ⟨some 48, .bin .plain .lss (.tmp 45) (.tmp 47), none, []⟩]
def k_law02_CurveNarrows_r9 : List AOper := [
  ⟨some 51, .buildSlice 4 [], none, []⟩,
 ⟨some 52, .move (.tmp 11), none, []⟩,
 ⟨some 53, .move (.tmp 12), none, []⟩,
 ⟨some 54, .indexAddr 1 (.tmp 52) (.tmp 53), none, []⟩,
 ⟨some 55, .load none (.tmp 54), none, []⟩,
 ⟨some 56, .append 4 32 true (.tmp 51) (.tmp 55), none, []⟩,
 ⟨some 13, .move (.tmp 56), none, []⟩]
def k_law02_CurveNarrows_r10 : List AOper := [
  ⟨some 58, .move (.tmp 10), none, []⟩,
 ⟨some 59, .move (.tmp 12), none, []⟩,
 ⟨some 60, .indexAddr 10 (.tmp 58) (.tmp 59), none, []⟩,
 ⟨some 61, .load (some (10)) (.tmp 60), none, []⟩,
 ⟨some 62, .move (.tmp 13), none, []⟩,
 ⟨some 63, .call (.const (.fn (.func 10) [] [])) [.tmp 61, .tmp 62], none, []⟩,
 ⟨some 57, .move (.tmp 63), none, []⟩,
 ⟨some 64, .extract (.tmp 57) 0, none, []⟩,
 ⟨some 65, .extract (.tmp 57) 1, none, []⟩,
 ⟨some 14, .box (.const (.agg [.int .i64 0, .int .i64 0, .int .i64 0, .int .i64 0, .int .i64 0, .int .i64 0, .int .i64 0, .int .i64 0, .int .i64 0, .int .i64 0])), none, []⟩,
 ⟨none, .store 10 (.tmp 14) (.tmp 64), none, []⟩,
 ⟨some 15, .move (.tmp 65), none, []⟩]
def k_law02_CurveNarrows_r11 : List AOper := [
  ⟨some 67, .move (.tmp 10), none, []⟩,
 ⟨some 68, .move (.tmp 12), none, [0]⟩,
 ⟨some 69, .indexAddr 10 (.tmp 67) (.tmp 68), none, []⟩,
 ⟨some 70, .load (some (10)) (.tmp 69), none, []⟩,
 ⟨some 71, .move (.tmp 11), none, [0, 1, 2, 3]⟩,
 ⟨some 72, .move (.tmp 12), none, [0, 1, 2, 3, 4]⟩,
 ⟨some 73, .indexAddr 1 (.tmp 71) (.tmp 72), none, [0, 1, 2, 3]⟩,
 ⟨some 74, .load none (.tmp 73), none, [0, 1, 2, 3]⟩,
 ⟨some 75, .call (.const (.fn (.func 11) [] [])) [.tmp 70, .tmp 74], none, []⟩,
 ⟨some 66, .move (.tmp 75), none, []⟩,
 ⟨some 76, .extract (.tmp 66) 0, none, []⟩,
 ⟨some 77, .extract (.tmp 66) 1, none, [10]⟩,
 ⟨some 16, .box (.const (.agg [.int .i64 0, .int .i64 0, .int .i64 0, .int .i64 0, .int .i64 0, .int .i64 0, .int .i64 0, .int .i64 0, .int .i64 0, .int .i64 0])), none, [0, 1, 2, 3, 4, 5, 6, 7, 8, 9, 10, 11]⟩,
 ⟨none, .store 10 (.tmp 16) (.tmp 76), none, [11]⟩,
 ⟨some 17, .move (.tmp 77), none, []⟩]
def k_law02_CurveNarrows_r11s : List (List AOper) := [
  [
  ⟨some 67, .move (.tmp 10), none, []⟩,
 ⟨some 68, .move (.tmp 12), none, [0]⟩,
 ⟨some 69, .indexAddr 10 (.tmp 67) (.tmp 68), none, []⟩,
 ⟨some 70, .load (some (10)) (.tmp 69), none, []⟩,
 ⟨some 71, .move (.tmp 11), none, [0, 1, 2, 3]⟩,
 ⟨some 72, .move (.tmp 12), none, [0, 1, 2, 3, 4]⟩,
 ⟨some 73, .indexAddr 1 (.tmp 71) (.tmp 72), none, [0, 1, 2, 3]⟩,
 ⟨some 74, .load none (.tmp 73), none, [0, 1, 2, 3]⟩,
 ⟨some 75, .call (.const (.fn (.func 11) [] [])) [.tmp 70, .tmp 74], none, []⟩,
 ⟨some 66, .move (.tmp 75), none, []⟩,
 ⟨some 76, .extract (.tmp 66) 0, none, []⟩,
 ⟨some 77, .extract (.tmp 66) 1, none, [10]⟩,
 ⟨some 16, .box (.const (.agg [.int .i64 0, .int .i64 0, .int .i64 0, .int .i64 0, .int .i64 0, .int .i64 0, .int .i64 0, .int .i64 0, .int .i64 0, .int .i64 0])), none, [0, 1, 2, 3, 4, 5, 6, 7, 8, 9, 10, 11]⟩,
 ⟨none, .store 10 (.tmp 16) (.tmp 76), none, [11]⟩], 
  [
  ⟨some 17, .move (.tmp 77), none, []⟩]]
theorem k_law02_CurveNarrows_r11_sg : segs k_law02_CurveNarrows_r11 = k_law02_CurveNarrows_r11s := by kernel_rfl
theorem k_law02_CurveNarrows_r11_st : statOK k_law02_CurveNarrows_r11 = true := by kernel_rfl
def k_law02_CurveNarrows_r12 : List AOper := [
  ⟨some 78, .load (some (10)) (.tmp 14), none, []⟩,
 ⟨some 79, .load (some (10)) (.tmp 16), none, []⟩,
 ⟨some 80, .eqAgg true [.int, .int, .int, .int, .int, .int, .int, .int, .int, .int] (.tmp 78) (.tmp 79), none, []⟩,
 ⟨some 81, .move (.tmp 80), none, []⟩,
 ⟨some 82, .move (.tmp 15), (some (81, false)), []⟩,
 ⟨some 83, .move (.tmp 17), (some (81, false)), []⟩,
 ⟨some 84, .bin .plain .neq (.tmp 82) (.tmp 83), (some (81, false)), []⟩,
 ⟨some 85, .pick (.tmp 81) (.const (.bool true)) (.tmp 84), none, []⟩]
def k_law02_CurveNarrows_r13 : List AOper := [
  ⟨some 6, .move (.const (.bool false)), none, []⟩]
def k_law02_CurveNarrows_r14 : List AOper := [
  ⟨some 49, .move (.tmp 12), none, []⟩,
 ⟨some 50, .bin .plain .add (.tmp 49) (.const (.int .i64 1)), none, []⟩,
 ⟨some 12, .move (.tmp 50), none, []⟩]
def k_law02_CurveNarrows_r15 : ACode := (.seq (.seq (.reg k_law02_CurveNarrows_r8 false) (.cond (.tmp 48) .skip (.exit 0))) (.seq (.block 1 (.seq (.reg k_law02_CurveNarrows_r9 false) (.seq (.reg k_law02_CurveNarrows_r10 false) (.seq (.reg k_law02_CurveNarrows_r11 true) (.seq (.reg k_law02_CurveNarrows_r12 false) (.cond (.tmp 85) (.seq (.reg k_law02_CurveNarrows_r13 false) .ret) .skip)))))) (.reg k_law02_CurveNarrows_r14 false)))
def k_law02_CurveNarrows_r16 : List AOper := [
  ⟨some 86, .call (.const (.fn (.func 5) [] [])) [], none, []⟩,
 ⟨some 6, .move (.tmp 86), none, []⟩]
def k_law02_CurveNarrows : AFun := { params := 3, ntmps := 87, body := (.seq (.reg k_law02_CurveNarrows_r0 false) (.seq (.seq (.reg k_law02_CurveNarrows_r1 false) (.cond (.tmp 20) (.seq (.reg k_law02_CurveNarrows_r2 false) .ret) .skip)) (.seq (.reg k_law02_CurveNarrows_r3 false) (.seq (.reg k_law02_CurveNarrows_r4 false) (.seq (.reg k_law02_CurveNarrows_r5 false) (.seq (.reg k_law02_CurveNarrows_r6 true) (.seq (.seq (.reg k_law02_CurveNarrows_r7 false) (.block 0 (.loop k_law02_CurveNarrows_r15))) (.seq (.reg k_law02_CurveNarrows_r16 false) .ret)))))))), res := [.tmp 6] }
theorem k_law02_CurveNarrows_ok : cfun Tryd.prog Tryd.f3 = k_law02_CurveNarrows := by kernel_rfl

def k_ref02_Narrow_r0 : List AOper := [
  ⟨some 2, .box (.tmp 0), none, []⟩,
 ⟨some 4, .box (.const (.agg [.int .i64 0, .int .i64 0, .int .i64 0, .int .i64 0, .int .i64 0, .int .i64 0, .int .i64 0, .int .i64 0, .int .i64 0, .int .i64 0])), none, []⟩,
 ⟨some 5, .move (.const (.int .i64 0)), none, []⟩]
def k_ref02_Narrow_r1 : List AOper := [
  ⟨some 12, .load (some (10)) (.tmp 2), none, []⟩,
 ⟨some 13, .call (.const (.fn (.func 30) [] [])) [.tmp 12], none, []⟩,
 ⟨some 6, .move (.tmp 13), none, []⟩]
def k_ref02_Narrow_r2 : List AOper := [
  ⟨some 14, .move (.tmp 6), none, []⟩,
 ⟨some 15, .bin .plain .neq (.tmp 14) (.const (.int .i64 0)), none, []⟩]
def k_ref02_Narrow_r3 : List AOper := [
  ⟨some 16, .build [.int .i64 0, .int .i64 0, .int .i64 0, .int .i64 0, .int .i64 0, .int .i64 0, .int .i64 0, .int .i64 0, .int .i64 0, .int .i64 0] [], none, []⟩,
 ⟨some 17, .move (.tmp 6), none, []⟩,
 ⟨none, .store 10 (.tmp 4) (.tmp 16), none, []⟩,
 ⟨some 5, .move (.tmp 17), none, []⟩]
def k_ref02_Narrow_r4 : List AOper := [
  ⟨some 18, .move (.tmp 1), none, []⟩,
 ⟨some 19, .len false (.tmp 18), none, []⟩,
 ⟨some 20, .bin .plain .gtr (.tmp 19) (.const (.int .i64 60)), none, []⟩]
def k_ref02_Narrow_r5 : List AOper := [
  ⟨some 21, .build [.int .i64 0, .int .i64 0, .int .i64 0, .int .i64 0, .int .i64 0, .int .i64 0, .int .i64 0, .int .i64 0, .int .i64 0, .int .i64 0] [], none, []⟩,
 ⟨none, .store 10 (.tmp 4) (.tmp 21), none, []⟩,
 ⟨some 5, .move (.const (.int .i64 8)), none, []⟩]
def k_ref02_Narrow_r6 : List AOper := [
  ⟨some 7, .move (.const (.int .i64 0)), none, []⟩]
def k_ref02_Narrow_r7 : List AOper := [
  ⟨some 22, .move (.tmp 7), none, []⟩,
 ⟨some 23, .move (.tmp 1), none, []⟩,
 ⟨some 24, .len false (.tmp 23), none, []⟩,
 ⟨some 25, .bin .plain .lss (.tmp 22) (.tmp 24), none, []⟩]
def k_ref02_Narrow_r8 : List AOper := [
  ⟨some 28, .move (.tmp 1), none, []⟩,
 ⟨some 29, .move (.tmp 7), none, [0]⟩,
 ⟨some 30, .indexAddr 4 (.tmp 28) (.tmp 29), none, []⟩,
 ⟨some 31, .fieldAddr 0 (.tmp 30), none, []⟩,
 ⟨some 32, .load none (.tmp 31), none, []⟩,
 ⟨some 33, .move (.tmp 1), none, [0, 1, 2, 3, 4]⟩,
 ⟨some 34, .move (.tmp 7), none, [0, 1, 2, 3, 4, 5]⟩,
 ⟨some 35, .indexAddr 4 (.tmp 33) (.tmp 34), none, [0, 1, 2, 3, 4]⟩,
 ⟨some 36, .fieldAddr 1 (.tmp 35), none, [0, 1, 2, 3, 4]⟩,
 ⟨some 37, .load none (.tmp 36), none, [0, 1, 2, 3, 4]⟩,
 ⟨some 38, .call (.const (.fn (.func 31) [] [])) [.tmp 32, .tmp 37], none, []⟩,
 ⟨some 39, .not (.tmp 38), none, []⟩]
def k_ref02_Narrow_r8s : List (List AOper) := [
  [
  ⟨some 28, .move (.tmp 1), none, []⟩,
 ⟨some 29, .move (.tmp 7), none, [0]⟩,
 ⟨some 30, .indexAddr 4 (.tmp 28) (.tmp 29), none, []⟩,
 ⟨some 31, .fieldAddr 0 (.tmp 30), none, []⟩,
 ⟨some 32, .load none (.tmp 31), none, []⟩,
 ⟨some 33, .move (.tmp 1), none, [0, 1, 2, 3, 4]⟩,
 ⟨some 34, .move (.tmp 7), none, [0, 1, 2, 3, 4, 5]⟩,
 ⟨some 35, .indexAddr 4 (.tmp 33) (.tmp 34), none, [0, 1, 2, 3, 4]⟩,
 ⟨some 36, .fieldAddr 1 (.tmp 35), none, [0, 1, 2, 3, 4]⟩,
 ⟨some 37, .load none (.tmp 36), none, [0, 1, 2, 3, 4]⟩], 
  [
  ⟨some 38, .call (.const (.fn (.func 31) [] [])) [.tmp 32, .tmp 37], none, []⟩], 
  [
  ⟨some 39, .not (.tmp 38), none, []⟩]]
theorem k_ref02_Narrow_r8_sg : segs k_ref02_Narrow_r8 = k_ref02_Narrow_r8s := by kernel_rfl
theorem k_ref02_Narrow_r8_st : statOK k_ref02_Narrow_r8 = true := by kernel_rfl
def k_ref02_Narrow_r9 : List AOper := [
  ⟨some 40, .build [.int .i64 0, .int .i64 0, .int .i64 0, .int .i64 0, .int .i64 0, .int .i64 0, .int .i64 0, .int .i64 0, .int .i64 0, .int .i64 0] [], none, []⟩,
 ⟨none, .store 10 (.tmp 4) (.tmp 40), none, []⟩,
 ⟨some 5, .move (.const (.int .i64 2)), none, []⟩]
def k_ref02_Narrow_r10 : List AOper := [
  ⟨some 41, .move (.tmp 1), none, []⟩,
 ⟨some 42, .move (.tmp 7), none, [0]⟩,
 ⟨some 43, .indexAddr 4 (.tmp 41) (.tmp 42), none, []⟩,
 ⟨some 44, .fieldAddr 2 (.tmp 43), none, []⟩,
 ⟨some 45, .fieldAddr 0 (.tmp 44), none, []⟩,
 ⟨some 46, .load none (.tmp 45), none, []⟩,
 ⟨some 47, .move (.tmp 1), none, [0, 1, 2, 3, 4, 5]⟩,
 ⟨some 48, .move (.tmp 7), none, [0, 1, 2, 3, 4, 5, 6]⟩,
 ⟨some 49, .indexAddr 4 (.tmp 47) (.tmp 48), none, [0, 1, 2, 3, 4, 5]⟩,
 ⟨some 50, .fieldAddr 2 (.tmp 49), none, [0, 1, 2, 3, 4, 5]⟩,
 ⟨some 51, .fieldAddr 1 (.tmp 50), none, [0, 1, 2, 3, 4, 5]⟩,
 ⟨some 52, .load none (.tmp 51), none, [0, 1, 2, 3, 4, 5]⟩,
 ⟨some 53, .bin .plain .gtr (.tmp 46) (.tmp 52), none, []⟩]
def k_ref02_Narrow_r10s : List (List AOper) := [
  [
  ⟨some 41, .move (.tmp 1), none, []⟩,
 ⟨some 42, .move (.tmp 7), none, [0]⟩,
 ⟨some 43, .indexAddr 4 (.tmp 41) (.tmp 42), none, []⟩,
 ⟨some 44, .fieldAddr 2 (.tmp 43), none, []⟩,
 ⟨some 45, .fieldAddr 0 (.tmp 44), none, []⟩,
 ⟨some 46, .load none (.tmp 45), none, []⟩,
 ⟨some 47, .move (.tmp 1), none, [0, 1, 2, 3, 4, 5]⟩,
 ⟨some 48, .move (.tmp 7), none, [0, 1, 2, 3, 4, 5, 6]⟩,
 ⟨some 49, .indexAddr 4 (.tmp 47) (.tmp 48), none, [0, 1, 2, 3, 4, 5]⟩,
 ⟨some 50, .fieldAddr 2 (.tmp 49), none, [0, 1, 2, 3, 4, 5]⟩,
 ⟨some 51, .fieldAddr 1 (.tmp 50), none, [0, 1, 2, 3, 4, 5]⟩,
 ⟨some 52, .load none (.tmp 51), none, [0, 1, 2, 3, 4, 5]⟩], 
  [
  ⟨some 53, .bin .plain .gtr (.tmp 46) (.tmp 52), none, []⟩]]
theorem k_ref02_Narrow_r10_sg : segs k_ref02_Narrow_r10 = k_ref02_Narrow_r10s := by kernel_rfl
theorem k_ref02_Narrow_r10_st : statOK k_ref02_Narrow_r10 = true := by kernel_rfl
def k_ref02_Narrow_r11 : List AOper := [
  ⟨some 54, .build [.int .i64 0, .int .i64 0, .int .i64 0, .int .i64 0, .int .i64 0, .int .i64 0, .int .i64 0, .int .i64 0, .int .i64 0, .int .i64 0] [], none, []⟩,
 ⟨none, .store 10 (.tmp 4) (.tmp 54), none, []⟩,
 ⟨some 5, .move (.const (.int .i64 11)), none, []⟩]
def k_ref02_Narrow_r12 : List AOper := [
  ⟨some 26, .move (.tmp 7), none, []⟩,
 ⟨some 27, .bin .plain .add (.tmp 26) (.const (.int .i64 1)), none, []⟩,
 ⟨some 7, .move (.tmp 27), none, []⟩]
def k_ref02_Narrow_r13 : ACode := (.seq (.seq (.reg k_ref02_Narrow_r7 false) (.cond (.tmp 25) .skip (.exit 0))) (.seq (.block 1 (.seq (.seq (.reg k_ref02_Narrow_r8 true) (.cond (.tmp 39) (.seq (.reg k_ref02_Narrow_r9 false) .ret) .skip)) (.seq (.reg k_ref02_Narrow_r10 true) (.cond (.tmp 53) (.seq (.reg k_ref02_Narrow_r11 false) .ret) .skip)))) (.reg k_ref02_Narrow_r12 false)))
def k_ref02_Narrow_r14 : List AOper := [
  ⟨some 8, .move (.const (.int .i64 0)), none, []⟩]
def k_ref02_Narrow_r15 : List AOper := [
  ⟨some 55, .move (.tmp 8), none, []⟩,
 ⟨some 56, .move (.tmp 1), none, []⟩,
 ⟨some 57, .len false (.tmp 56), none, []⟩,
 ⟨some 58, .bin .plain .lss (.tmp 55) (.tmp 57), none, []⟩]
def k_ref02_Narrow_r16 : List AOper := [
  ⟨some 9, .move (.const (.int .i64 0)), none, []⟩]
def k_ref02_Narrow_r17 : List AOper := [
  ⟨some 61, .move (.tmp 9), none, []⟩,
 ⟨some 62, .bin .plain .lss (.tmp 61) (.const (.int .i64 5)), none, []⟩]
def k_ref02_Narrow_r18 : List AOper := [
  ⟨some 66, .load (some (10)) (.tmp 2), none, []⟩,
 ⟨some 67, .move (.tmp 9), none, [0]⟩,
 ⟨some 68, .move (.tmp 1), none, [0, 1]⟩,
 ⟨some 69, .move (.tmp 8), none, [0, 1, 2]⟩,
 ⟨some 70, .indexAddr 4 (.tmp 68) (.tmp 69), none, [0, 1]⟩,
 ⟨some 71, .load (some (4)) (.tmp 70), none, [0, 1]⟩,
 ⟨some 72, .call (.const (.fn (.func 32) [] [])) [.tmp 66, .tmp 67, .tmp 71], none, []⟩,
 ⟨some 65, .move (.tmp 72), none, []⟩,
 ⟨some 73, .extract (.tmp 65) 0, none, []⟩,
 ⟨some 74, .extract (.tmp 65) 1, none, [8]⟩,
 ⟨some 10, .box (.const (.agg [.int .i64 0, .int .i64 0])), none, [0, 1, 2, 3, 4, 5, 6, 7, 8, 9]⟩,
 ⟨none, .store 2 (.tmp 10) (.tmp 73), none, [9]⟩,
 ⟨some 11, .move (.tmp 74), none, []⟩]
def k_ref02_Narrow_r18s : List (List AOper) := [
  [
  ⟨some 66, .load (some (10)) (.tmp 2), none, []⟩,
 ⟨some 67, .move (.tmp 9), none, [0]⟩,
 ⟨some 68, .move (.tmp 1), none, [0, 1]⟩,
 ⟨some 69, .move (.tmp 8), none, [0, 1, 2]⟩,
 ⟨some 70, .indexAddr 4 (.tmp 68) (.tmp 69), none, [0, 1]⟩,
 ⟨some 71, .load (some (4)) (.tmp 70), none, [0, 1]⟩,
 ⟨some 72, .call (.const (.fn (.func 32) [] [])) [.tmp 66, .tmp 67, .tmp 71], none, []⟩,
 ⟨some 65, .move (.tmp 72), none, []⟩,
 ⟨some 73, .extract (.tmp 65) 0, none, []⟩,
 ⟨some 74, .extract (.tmp 65) 1, none, [8]⟩,
 ⟨some 10, .box (.const (.agg [.int .i64 0, .int .i64 0])), none, [0, 1, 2, 3, 4, 5, 6, 7, 8, 9]⟩,
 ⟨none, .store 2 (.tmp 10) (.tmp 73), none, [9]⟩], 
  [
  ⟨some 11, .move (.tmp 74), none, []⟩]]
theorem k_ref02_Narrow_r18_sg : segs k_ref02_Narrow_r18 = k_ref02_Narrow_r18s := by kernel_rfl
theorem k_ref02_Narrow_r18_st : statOK k_ref02_Narrow_r18 = true := by kernel_rfl
def k_ref02_Narrow_r19 : List AOper := [
  ⟨some 75, .move (.tmp 11), none, []⟩,
 ⟨some 76, .not (.tmp 75), none, []⟩]
def k_ref02_Narrow_r20 : List AOper := [
  ⟨some 77, .build [.int .i64 0, .int .i64 0, .int .i64 0, .int .i64 0, .int .i64 0, .int .i64 0, .int .i64 0, .int .i64 0, .int .i64 0, .int .i64 0] [], none, []⟩,
 ⟨none, .store 10 (.tmp 4) (.tmp 77), none, []⟩,
 ⟨some 5, .move (.const (.int .i64 12)), none, []⟩]
def k_ref02_Narrow_r21 : List AOper := [
  ⟨some 78, .load (some (10)) (.tmp 2), none, []⟩,
 ⟨some 79, .move (.tmp 9), none, []⟩,
 ⟨some 80, .load (some (2)) (.tmp 10), none, []⟩,
 ⟨some 81, .call (.const (.fn (.func 33) [] [])) [.tmp 78, .tmp 79, .tmp 80], none, []⟩,
 ⟨none, .store 10 (.tmp 2) (.tmp 81), none, []⟩]
def k_ref02_Narrow_r22 : List AOper := [
  ⟨some 63, .move (.tmp 9), none, []⟩,
 ⟨some 64, .bin .plain .add (.tmp 63) (.const (.int .i64 1)), none, []⟩,
 ⟨some 9, .move (.tmp 64), none, []⟩]
def k_ref02_Narrow_r23 : ACode := (.seq (.seq (.reg k_ref02_Narrow_r17 false) (.cond (.tmp 62) .skip (.exit 4))) (.seq (.block 5 (.seq (.reg k_ref02_Narrow_r18 true) (.seq (.seq (.reg k_ref02_Narrow_r19 false) (.cond (.tmp 76) (.seq (.reg k_ref02_Narrow_r20 false) .ret) .skip)) (.reg k_ref02_Narrow_r21 false)))) (.reg k_ref02_Narrow_r22 false)))
def k_ref02_Narrow_r24 : List AOper := [
  ⟨some 59, .move (.tmp 8), none, []⟩,
 ⟨some 60, .bin .plain .add (.tmp 59) (.const (.int .i64 1)), none, []⟩,
 ⟨some 8, .move (.tmp 60), none, []⟩]
def k_ref02_Narrow_r25 : ACode := (.seq (.seq (.reg k_ref02_Narrow_r15 false) (.cond (.tmp 58) .skip (.exit 2))) (.seq (.block 3 (.seq (.reg k_ref02_Narrow_r16 false) (.block 4 (.loop k_ref02_Narrow_r23)))) (.reg k_ref02_Narrow_r24 false)))
def k_ref02_Narrow_r26 : List AOper := [
  ⟨some 82, .load (some (10)) (.tmp 2), none, []⟩,
 ⟨none, .store 10 (.tmp 4) (.tmp 82), none, []⟩,
 ⟨some 5, .move (.const (.int .i64 0)), none, []⟩]
def k_ref02_Narrow : AFun := { params := 2, ntmps := 83, body := (.seq (.reg k_ref02_Narrow_r0 false) (.seq (.seq (.reg k_ref02_Narrow_r1 false) (.seq (.reg k_ref02_Narrow_r2 false) (.cond (.tmp 15) (.seq (.reg k_ref02_Narrow_r3 false) .ret) .skip))) (.seq (.seq (.reg k_ref02_Narrow_r4 false) (.cond (.tmp 20) (.seq (.reg k_ref02_Narrow_r5 false) .ret) .skip)) (.seq (.seq (.reg k_ref02_Narrow_r6 false) (.block 0 (.loop k_ref02_Narrow_r13))) (.seq (.seq (.reg k_ref02_Narrow_r14 false) (.block 2 (.loop k_ref02_Narrow_r25))) (.seq (.reg k_ref02_Narrow_r26 false) .ret)))))), res := [.cell 4 (some ((some (10)))), .tmp 5] }
theorem k_ref02_Narrow_ok : cfun Tryd.prog Tryd.f11 = k_ref02_Narrow := by kernel_rfl

def k_ref02_narrowed_r0 : List AOper := [
  ⟨some 3, .box (.tmp 0), none, []⟩,
 ⟨some 5, .box (.tmp 2), none, []⟩,
 ⟨some 6, .box (.const (.agg [.int .i64 0, .int .i64 0])), none, []⟩,
 ⟨some 7, .move (.const (.bool false)), none, []⟩]
def k_ref02_narrowed_r1 : List AOper := [
  ⟨some 17, .load (some (10)) (.tmp 3), none, []⟩,
 ⟨some 18, .move (.tmp 1), none, []⟩,
 ⟨some 19, .call (.const (.fn (.func 52) [] [])) [.tmp 17, .tmp 18], none, []⟩,
 ⟨some 8, .box (.const (.agg [.int .i64 0, .int .i64 0])), none, []⟩,
 ⟨none, .store 2 (.tmp 8) (.tmp 19), none, []⟩]
def k_ref02_narrowed_r2 : List AOper := [
  ⟨some 20, .move (.tmp 1), none, []⟩,
 ⟨some 21, .bin .plain .eql (.tmp 20) (.const (.int .i64 1)), none, []⟩,
 ⟨some 9, .move (.tmp 21), none, []⟩]
def k_ref02_narrowed_r3 : List AOper := [
  ⟨some 22, .fieldAddr 0 (.tmp 8), none, []⟩,
 ⟨some 23, .load none (.tmp 22), none, []⟩,
 ⟨some 24, .fieldAddr 1 (.tmp 8), none, [0, 1]⟩,
 ⟨some 25, .load none (.tmp 24), none, [0, 1]⟩,
 ⟨some 26, .bin .plain .add (.tmp 25) (.const (.int .i64 1)), none, [0, 1]⟩,
 ⟨some 10, .move (.tmp 23), none, [2, 3, 4]⟩,
 ⟨some 11, .move (.tmp 26), none, []⟩]
def k_ref02_narrowed_r3s : List (List AOper) := [
  [
  ⟨some 22, .fieldAddr 0 (.tmp 8), none, []⟩,
 ⟨some 23, .load none (.tmp 22), none, []⟩,
 ⟨some 24, .fieldAddr 1 (.tmp 8), none, [0, 1]⟩,
 ⟨some 25, .load none (.tmp 24), none, [0, 1]⟩,
 ⟨some 26, .bin .plain .add (.tmp 25) (.const (.int .i64 1)), none, [0, 1]⟩,
 ⟨some 10, .move (.tmp 23), none, [2, 3, 4]⟩], 
  [
  ⟨some 11, .move (.tmp 26), none, []⟩]]
theorem k_ref02_narrowed_r3_sg : segs k_ref02_narrowed_r3 = k_ref02_narrowed_r3s := by kernel_rfl
theorem k_ref02_narrowed_r3_st : statOK k_ref02_narrowed_r3 = true := by kernel_rfl
def k_ref02_narrowed_r4 : List AOper := [
  ⟨some 27, .move (.tmp 10), none, []⟩,
 ⟨some 28, .move (.tmp 11), none, []⟩,
 ⟨some 29, .bin .plain .lss (.tmp 27) (.tmp 28), none, []⟩]
def k_ref02_narrowed_r5 : List AOper := [
  ⟨some 30, .move (.tmp 10), none, []⟩,
 ⟨some 31, .move (.tmp 11), none, []⟩,
 ⟨some 32, .bin .plain .add (.tmp 30) (.tmp 31), none, []⟩,
 ⟨some 33, .call (.const (.fn (.func 53) [] [])) [.tmp 32, .const (.int .i64 2)], none, []⟩,
 ⟨some 12, .move (.tmp 33), none, []⟩]
def k_ref02_narrowed_r6 : List AOper := [
  ⟨some 34, .load (some (10)) (.tmp 3), none, []⟩,
 ⟨some 35, .move (.tmp 1), none, [0]⟩,
 ⟨some 36, .move (.tmp 12), none, [0, 1]⟩,
 ⟨some 37, .call (.const (.fn (.func 54) [] [])) [.tmp 36], none, [0, 1]⟩,
 ⟨some 38, .call (.const (.fn (.func 33) [] [])) [.tmp 34, .tmp 35, .tmp 37], none, []⟩,
 ⟨some 13, .box (.const (.agg [.int .i64 0, .int .i64 0, .int .i64 0, .int .i64 0, .int .i64 0, .int .i64 0, .int .i64 0, .int .i64 0, .int .i64 0, .int .i64 0])), none, [0, 1, 2, 3, 4]⟩,
 ⟨none, .store 10 (.tmp 13) (.tmp 38), none, []⟩]
def k_ref02_narrowed_r6s : List (List AOper) := [
  [
  ⟨some 34, .load (some (10)) (.tmp 3), none, []⟩,
 ⟨some 35, .move (.tmp 1), none, [0]⟩,
 ⟨some 36, .move (.tmp 12), none, [0, 1]⟩,
 ⟨some 37, .call (.const (.fn (.func 54) [] [])) [.tmp 36], none, [0, 1]⟩,
 ⟨some 38, .call (.const (.fn (.func 33) [] [])) [.tmp 34, .tmp 35, .tmp 37], none, []⟩,
 ⟨some 13, .box (.const (.agg [.int .i64 0, .int .i64 0, .int .i64 0, .int .i64 0, .int .i64 0, .int .i64 0, .int .i64 0, .int .i64 0, .int .i64 0, .int .i64 0])), none, [0, 1, 2, 3, 4]⟩], 
  [
  ⟨none, .store 10 (.tmp 13) (.tmp 38), none, []⟩]]
theorem k_ref02_narrowed_r6_sg : segs k_ref02_narrowed_r6 = k_ref02_narrowed_r6s := by kernel_rfl
theorem k_ref02_narrowed_r6_st : statOK k_ref02_narrowed_r6 = true := by kernel_rfl
def k_ref02_narrowed_r7 : List AOper := [
  ⟨some 39, .move (.tmp 9), none, []⟩,
 ⟨some 40, .not (.tmp 39), none, []⟩,
 ⟨some 41, .move (.tmp 40), none, []⟩,
 ⟨some 42, .load (some (10)) (.tmp 13), (some (41, true)), []⟩,
 ⟨some 43, .load (some (4)) (.tmp 5), (some (41, true)), []⟩,
 ⟨some 44, .call (.const (.fn (.func 55) [] [])) [.tmp 42, .tmp 43], (some (41, true)), []⟩,
 ⟨some 45, .pick (.tmp 41) (.tmp 44) (.const (.bool false)), none, []⟩,
 ⟨some 46, .move (.tmp 45), none, []⟩,
 ⟨some 47, .move (.tmp 9), (some (46, false)), []⟩,
 ⟨some 48, .move (.tmp 47), (some (46, false)), []⟩,
 ⟨some 49, .load (some (10)) (.tmp 13), (some (48, true)), []⟩,
 ⟨some 50, .load (some (4)) (.tmp 5), (some (48, true)), []⟩,
 ⟨some 51, .call (.const (.fn (.func 56) [] [])) [.tmp 49, .tmp 50], (some (48, true)), []⟩,
 ⟨some 52, .pick (.tmp 48) (.tmp 51) (.const (.bool false)), (some (46, false)), []⟩,
 ⟨some 53, .pick (.tmp 46) (.const (.bool true)) (.tmp 52), none, []⟩]
def k_ref02_narrowed_r8 : List AOper := [
  ⟨some 54, .move (.tmp 12), none, []⟩,
 ⟨some 55, .bin .plain .add (.tmp 54) (.const (.int .i64 1)), none, []⟩,
 ⟨some 10, .move (.tmp 55), none, []⟩]
def k_ref02_narrowed_r9 : List AOper := [
  ⟨some 56, .move (.tmp 12), none, []⟩,
 ⟨some 11, .move (.tmp 56), none, []⟩]
def k_ref02_narrowed_r10 : ACode := (.seq (.seq (.reg k_ref02_narrowed_r4 false) (.cond (.tmp 29) .skip (.exit 0))) (.block 1 (.seq (.reg k_ref02_narrowed_r5 false) (.seq (.reg k_ref02_narrowed_r6 true) (.seq (.reg k_ref02_narrowed_r7 false) (.cond (.tmp 53) (.reg k_ref02_narrowed_r8 false) (.reg k_ref02_narrowed_r9 false)))))))
def k_ref02_narrowed_r11 : List AOper := [
  ⟨some 57, .move (.tmp 10), none, []⟩,
 ⟨some 14, .move (.tmp 57), none, []⟩]
def k_ref02_narrowed_r12 : List AOper := [
  ⟨some 58, .fieldAddr 0 (.tmp 8), none, []⟩,
 ⟨some 59, .load none (.tmp 58), none, []⟩,
 ⟨some 60, .bin .plain .sub (.tmp 59) (.const (.int .i64 1)), none, []⟩,
 ⟨some 61, .fieldAddr 1 (.tmp 8), none, [0, 1, 2]⟩,
 ⟨some 62, .load none (.tmp 61), none, [0, 1, 2]⟩,
 ⟨some 10, .move (.tmp 60), none, [3, 4]⟩,
 ⟨some 11, .move (.tmp 62), none, []⟩]
def k_ref02_narrowed_r12s : List (List AOper) := [
  [
  ⟨some 58, .fieldAddr 0 (.tmp 8), none, []⟩,
 ⟨some 59, .load none (.tmp 58), none, []⟩,
 ⟨some 60, .bin .plain .sub (.tmp 59) (.const (.int .i64 1)), none, []⟩,
 ⟨some 61, .fieldAddr 1 (.tmp 8), none, [0, 1, 2]⟩,
 ⟨some 62, .load none (.tmp 61), none, [0, 1, 2]⟩,
 ⟨some 10, .move (.tmp 60), none, [3, 4]⟩], 
  [
  ⟨some 11, .move (.tmp 62), none, []⟩]]
theorem k_ref02_narrowed_r12_sg : segs k_ref02_narrowed_r12 = k_ref02_narrowed_r12s := by kernel_rfl
theorem k_ref02_narrowed_r12_st : statOK k_ref02_narrowed_r12 = true := by kernel_rfl
def k_ref02_narrowed_r13 : List AOper := [
  ⟨some 63, .move (.tmp 10), none, []⟩,
 ⟨some 64, .move (.tmp 11), none, []⟩,
 ⟨some 65, .bin .plain .lss (.tmp 63) (.tmp 64), none, []⟩]
def k_ref02_narrowed_r14 : List AOper := [
  ⟨some 66, .move (.tmp 10), none, []⟩,
 ⟨some 67, .move (.tmp 11), none, []⟩,
 ⟨some 68, .bin .plain .add (.tmp 66) (.tmp 67), none, []⟩,
 ⟨some 69, .call (.const (.fn (.func 57) [] [])) [.tmp 68, .const (.int .i64 2)], none, []⟩,
 ⟨some 15, .move (.tmp 69), none, []⟩]
def k_ref02_narrowed_r15 : List AOper := [
  ⟨some 70, .load (some (10)) (.tmp 3), none, []⟩,
 ⟨some 71, .move (.tmp 1), none, [0]⟩,
 ⟨some 72, .move (.tmp 15), none, [0, 1]⟩,
 ⟨some 73, .call (.const (.fn (.func 54) [] [])) [.tmp 72], none, [0, 1]⟩,
 ⟨some 74, .call (.const (.fn (.func 33) [] [])) [.tmp 70, .tmp 71, .tmp 73], none, []⟩,
 ⟨some 16, .box (.const (.agg [.int .i64 0, .int .i64 0, .int .i64 0, .int .i64 0, .int .i64 0, .int .i64 0, .int .i64 0, .int .i64 0, .int .i64 0, .int .i64 0])), none, [0, 1, 2, 3, 4]⟩,
 ⟨none, .store 10 (.tmp 16) (.tmp 74), none, []⟩]
def k_ref02_narrowed_r15s : List (List AOper) := [
  [
  ⟨some 70, .load (some (10)) (.tmp 3), none, []⟩,
 ⟨some 71, .move (.tmp 1), none, [0]⟩,
 ⟨some 72, .move (.tmp 15), none, [0, 1]⟩,
 ⟨some 73, .call (.const (.fn (.func 54) [] [])) [.tmp 72], none, [0, 1]⟩,
 ⟨some 74, .call (.const (.fn (.func 33) [] [])) [.tmp 70, .tmp 71, .tmp 73], none, []⟩,
 ⟨some 16, .box (.const (.agg [.int .i64 0, .int .i64 0, .int .i64 0, .int .i64 0, .int .i64 0, .int .i64 0, .int .i64 0, .int .i64 0, .int .i64 0, .int .i64 0])), none, [0, 1, 2, 3, 4]⟩], 
  [
  ⟨none, .store 10 (.tmp 16) (.tmp 74), none, []⟩]]
theorem k_ref02_narrowed_r15_sg : segs k_ref02_narrowed_r15 = k_ref02_narrowed_r15s := by kernel_rfl
theorem k_ref02_narrowed_r15_st : statOK k_ref02_narrowed_r15 = true := by kernel_rfl
def k_ref02_narrowed_r16 : List AOper := [
  ⟨some 75, .move (.tmp 9), none, []⟩,
 ⟨some 76, .not (.tmp 75), none, []⟩,
 ⟨some 77, .move (.tmp 76), none, []⟩,
 ⟨some 78, .load (some (10)) (.tmp 16), (some (77, true)), []⟩,
 ⟨some 79, .load (some (4)) (.tmp 5), (some (77, true)), []⟩,
 ⟨some 80, .call (.const (.fn (.func 56) [] [])) [.tmp 78, .tmp 79], (some (77, true)), []⟩,
 ⟨some 81, .pick (.tmp 77) (.tmp 80) (.const (.bool false)), none, []⟩,
 ⟨some 82, .move (.tmp 81), none, []⟩,
 ⟨some 83, .move (.tmp 9), (some (82, false)), []⟩,
 ⟨some 84, .move (.tmp 83), (some (82, false)), []⟩,
 ⟨some 85, .load (some (10)) (.tmp 16), (some (84, true)), []⟩,
 ⟨some 86, .load (some (4)) (.tmp 5), (some (84, true)), []⟩,
 ⟨some 87, .call (.const (.fn (.func 55) [] [])) [.tmp 85, .tmp 86], (some (84, true)), []⟩,
 ⟨some 88, .pick (.tmp 84) (.tmp 87) (.const (.bool false)), (some (82, false)), []⟩,
 ⟨some 89, .pick (.tmp 82) (.const (.bool true)) (.tmp 88), none, []⟩]
def k_ref02_narrowed_r17 : List AOper := [
  ⟨some 90, .move (.tmp 15), none, []⟩,
 ⟨some 91, .bin .plain .sub (.tmp 90) (.const (.int .i64 1)), none, []⟩,
 ⟨some 11, .move (.tmp 91), none, []⟩]
def k_ref02_narrowed_r18 : List AOper := [
  ⟨some 92, .move (.tmp 15), none, []⟩,
 ⟨some 10, .move (.tmp 92), none, []⟩]
def k_ref02_narrowed_r19 : ACode := (.seq (.seq (.reg k_ref02_narrowed_r13 false) (.cond (.tmp 65) .skip (.exit 2))) (.block 3 (.seq (.reg k_ref02_narrowed_r14 false) (.seq (.reg k_ref02_narrowed_r15 true) (.seq (.reg k_ref02_narrowed_r16 false) (.cond (.tmp 89) (.reg k_ref02_narrowed_r17 false) (.reg k_ref02_narrowed_r18 false)))))))
def k_ref02_narrowed_r20 : List AOper := [
  ⟨some 93, .move (.tmp 14), none, []⟩,
 ⟨some 94, .move (.tmp 10), none, []⟩,
 ⟨some 95, .build [.int .i64 0, .int .i64 0] [(0, 1, .tmp 93), (1, 1, .tmp 94)], none, []⟩,
 ⟨some 96, .move (.tmp 14), none, []⟩,
 ⟨some 97, .move (.tmp 10), none, []⟩,
 ⟨some 98, .bin .plain .leq (.tmp 96) (.tmp 97), none, []⟩,
 ⟨none, .store 2 (.tmp 6) (.tmp 95), none, []⟩,
 ⟨some 7, .move (.tmp 98), none, []⟩]
def k_ref02_narrowed : AFun := { params := 3, ntmps := 99, body := (.seq (.reg k_ref02_narrowed_r0 false) (.seq (.reg k_ref02_narrowed_r1 false) (.seq (.reg k_ref02_narrowed_r2 false) (.seq (.reg k_ref02_narrowed_r3 true) (.seq (.block 0 (.loop k_ref02_narrowed_r10)) (.seq (.reg k_ref02_narrowed_r11 false) (.seq (.reg k_ref02_narrowed_r12 true) (.seq (.block 2 (.loop k_ref02_narrowed_r19)) (.seq (.reg k_ref02_narrowed_r20 false) .ret))))))))), res := [.cell 6 (some ((some (2)))), .tmp 7] }
theorem k_ref02_narrowed_ok : cfun Tryd.prog Tryd.f32 = k_ref02_narrowed := by kernel_rfl

def k_ref02_put_r0 : List AOper := [
  ⟨some 3, .box (.tmp 0), none, []⟩,
 ⟨some 5, .box (.tmp 2), none, []⟩,
 ⟨some 6, .box (.const (.agg [.int .i64 0, .int .i64 0, .int .i64 0, .int .i64 0, .int .i64 0, .int .i64 0, .int .i64 0, .int .i64 0, .int .i64 0, .int .i64 0])), none, []⟩]
def k_ref02_put_r1 : List AOper := [
  ⟨some 7, .move (.tmp 1), none, []⟩]
def k_ref02_put_r2 : List AOper := [
  ⟨some 11, .bin .plain .eql (.tmp 7) (.const (.int .i64 0)), none, []⟩,
 ⟨some 10, .move (.tmp 11), none, []⟩]
def k_ref02_put_r3 : List AOper := [
  ⟨some 12, .load (some (2)) (.tmp 5), none, []⟩,
 ⟨some 13, .fieldAddr 0 (.tmp 3), none, []⟩,
 ⟨none, .store 2 (.tmp 13) (.tmp 12), none, []⟩]
def k_ref02_put_r4 : List AOper := [
  ⟨some 15, .bin .plain .eql (.tmp 7) (.const (.int .i64 1)), none, []⟩,
 ⟨some 14, .move (.tmp 15), none, []⟩]
def k_ref02_put_r5 : List AOper := [
  ⟨some 16, .load (some (2)) (.tmp 5), none, []⟩,
 ⟨some 17, .fieldAddr 2 (.tmp 3), none, []⟩,
 ⟨none, .store 2 (.tmp 17) (.tmp 16), none, []⟩]
def k_ref02_put_r6 : List AOper := [
  ⟨some 19, .bin .plain .eql (.tmp 7) (.const (.int .i64 2)), none, []⟩,
 ⟨some 18, .move (.tmp 19), none, []⟩]
def k_ref02_put_r7 : List AOper := [
  ⟨some 20, .load (some (2)) (.tmp 5), none, []⟩,
 ⟨some 21, .fieldAddr 4 (.tmp 3), none, []⟩,
 ⟨none, .store 2 (.tmp 21) (.tmp 20), none, []⟩]
def k_ref02_put_r8 : List AOper := [
  ⟨some 23, .bin .plain .eql (.tmp 7) (.const (.int .i64 3)), none, []⟩,
 ⟨some 22, .move (.tmp 23), none, []⟩]
def k_ref02_put_r9 : List AOper := [
  ⟨some 24, .load (some (2)) (.tmp 5), none, []⟩,
 ⟨some 25, .fieldAddr 6 (.tmp 3), none, []⟩,
 ⟨none, .store 2 (.tmp 25) (.tmp 24), none, []⟩]
def k_ref02_put_r10 : List AOper := [
  ⟨some 8, .load (some (2)) (.tmp 5), none, []⟩,
 ⟨some 9, .fieldAddr 8 (.tmp 3), none, []⟩,
 ⟨none, .store 2 (.tmp 9) (.tmp 8), none, []⟩]
def k_ref02_put_r11 : List AOper := [
  ⟨some 26, .load (some (10)) (.tmp 3), none, []⟩,
 ⟨none, .store 10 (.tmp 6) (.tmp 26), none, []⟩]
def k_ref02_put : AFun := { params := 3, ntmps := 27, body := (.seq (.reg k_ref02_put_r0 false) (.seq (.seq (.reg k_ref02_put_r1 false) (.block 0 (.seq (.reg k_ref02_put_r2 false) (.cond (.tmp 10) (.reg k_ref02_put_r3 false) (.seq (.reg k_ref02_put_r4 false) (.cond (.tmp 14) (.reg k_ref02_put_r5 false) (.seq (.reg k_ref02_put_r6 false) (.cond (.tmp 18) (.reg k_ref02_put_r7 false) (.seq (.reg k_ref02_put_r8 false) (.cond (.tmp 22) (.reg k_ref02_put_r9 false) (.reg k_ref02_put_r10 false))))))))))) (.seq (.reg k_ref02_put_r11 false) .ret))), res := [.cell 6 (some ((some (10))))] }
theorem k_ref02_put_ok : cfun Tryd.prog Tryd.f33 = k_ref02_put := by kernel_rfl

def k_ref02_field_r0 : List AOper := [
  ⟨some 2, .box (.tmp 0), none, []⟩,
 ⟨some 4, .box (.const (.agg [.int .i64 0, .int .i64 0])), none, []⟩]
def k_ref02_field_r1 : List AOper := [
  ⟨some 5, .fieldAddr 0 (.tmp 2), none, []⟩,
 ⟨some 6, .load (some (2)) (.tmp 5), none, []⟩,
 ⟨some 7, .fieldAddr 2 (.tmp 2), none, []⟩,
 ⟨some 8, .load (some (2)) (.tmp 7), none, []⟩,
 ⟨some 9, .fieldAddr 4 (.tmp 2), none, []⟩,
 ⟨some 10, .load (some (2)) (.tmp 9), none, []⟩,
 ⟨some 11, .fieldAddr 6 (.tmp 2), none, []⟩,
 ⟨some 12, .load (some (2)) (.tmp 11), none, []⟩,
 ⟨some 13, .fieldAddr 8 (.tmp 2), none, []⟩,
 ⟨some 14, .load (some (2)) (.tmp 13), none, []⟩,
 ⟨some 15, .buildSlice 2 [.tmp 6, .tmp 8, .tmp 10, .tmp 12, .tmp 14], none, []⟩,
 ⟨some 16, .move (.tmp 1), none, []⟩,
 ⟨some 17, .indexAddr 2 (.tmp 15) (.tmp 16), none, []⟩,
 ⟨some 18, .load (some (2)) (.tmp 17), none, []⟩,
 ⟨none, .store 2 (.tmp 4) (.tmp 18), none, []⟩]
def k_ref02_field : AFun := { params := 2, ntmps := 19, body := (.seq (.reg k_ref02_field_r0 false) (.seq (.reg k_ref02_field_r1 false) .ret)), res := [.cell 4 (some ((some (2))))] }
theorem k_ref02_field_ok : cfun Tryd.prog Tryd.f52 = k_ref02_field := by kernel_rfl

def k_ref02_Alone_r0 : List AOper := [
  ⟨some 2, .box (.const (.agg [.int .i64 0, .int .i64 0])), none, []⟩]
def k_ref02_Alone_r1 : List AOper := [
  ⟨some 3, .move (.tmp 0), none, []⟩,
 ⟨some 4, .move (.tmp 0), none, []⟩,
 ⟨some 5, .build [.int .i64 0, .int .i64 0] [(0, 1, .tmp 3), (1, 1, .tmp 4)], none, []⟩,
 ⟨none, .store 2 (.tmp 2) (.tmp 5), none, []⟩]
def k_ref02_Alone : AFun := { params := 1, ntmps := 6, body := (.seq (.reg k_ref02_Alone_r0 false) (.seq (.reg k_ref02_Alone_r1 false) .ret)), res := [.cell 2 (some ((some (2))))] }
theorem k_ref02_Alone_ok : cfun Tryd.prog Tryd.f54 = k_ref02_Alone := by kernel_rfl

def k_ref02_under_r0 : List AOper := [
  ⟨some 2, .box (.tmp 0), none, []⟩,
 ⟨some 3, .box (.tmp 1), none, []⟩,
 ⟨some 4, .move (.const (.bool false)), none, []⟩]
def k_ref02_under_r1 : List AOper := [
  ⟨some 5, .load (some (10)) (.tmp 2), none, []⟩,
 ⟨some 6, .fieldAddr 0 (.tmp 3), none, [0]⟩,
 ⟨some 7, .load none (.tmp 6), none, [0]⟩,
 ⟨some 8, .fieldAddr 1 (.tmp 3), none, [0, 1, 2]⟩,
 ⟨some 9, .load none (.tmp 8), none, [0, 1, 2]⟩,
 ⟨some 10, .call (.const (.fn (.func 46) [] [])) [.tmp 5, .tmp 7, .tmp 9], none, []⟩,
 ⟨some 11, .field none 1 (.tmp 10), none, []⟩,
 ⟨some 12, .fieldAddr 2 (.tmp 3), none, [0, 1, 2, 3, 4, 5, 6]⟩,
 ⟨some 13, .fieldAddr 0 (.tmp 12), none, [0, 1, 2, 3, 4, 5, 6]⟩,
 ⟨some 14, .load none (.tmp 13), none, [0, 1, 2, 3, 4, 5, 6]⟩,
 ⟨some 15, .bin .plain .lss (.tmp 11) (.tmp 14), none, []⟩,
 ⟨some 4, .move (.tmp 15), none, []⟩]
def k_ref02_under_r1s : List (List AOper) := [
  [
  ⟨some 5, .load (some (10)) (.tmp 2), none, []⟩,
 ⟨some 6, .fieldAddr 0 (.tmp 3), none, [0]⟩,
 ⟨some 7, .load none (.tmp 6), none, [0]⟩,
 ⟨some 8, .fieldAddr 1 (.tmp 3), none, [0, 1, 2]⟩,
 ⟨some 9, .load none (.tmp 8), none, [0, 1, 2]⟩,
 ⟨some 10, .call (.const (.fn (.func 46) [] [])) [.tmp 5, .tmp 7, .tmp 9], none, []⟩,
 ⟨some 11, .field none 1 (.tmp 10), none, []⟩,
 ⟨some 12, .fieldAddr 2 (.tmp 3), none, [0, 1, 2, 3, 4, 5, 6]⟩,
 ⟨some 13, .fieldAddr 0 (.tmp 12), none, [0, 1, 2, 3, 4, 5, 6]⟩,
 ⟨some 14, .load none (.tmp 13), none, [0, 1, 2, 3, 4, 5, 6]⟩], 
  [
  ⟨some 15, .bin .plain .lss (.tmp 11) (.tmp 14), none, []⟩], 
  [
  ⟨some 4, .move (.tmp 15), none, []⟩]]
theorem k_ref02_under_r1_sg : segs k_ref02_under_r1 = k_ref02_under_r1s := by kernel_rfl
theorem k_ref02_under_r1_st : statOK k_ref02_under_r1 = true := by kernel_rfl
def k_ref02_under : AFun := { params := 2, ntmps := 16, body := (.seq (.reg k_ref02_under_r0 false) (.seq (.reg k_ref02_under_r1 true) .ret)), res := [.tmp 4] }
theorem k_ref02_under_ok : cfun Tryd.prog Tryd.f55 = k_ref02_under := by kernel_rfl

def k_ref02_over_r0 : List AOper := [
  ⟨some 2, .box (.tmp 0), none, []⟩,
 ⟨some 3, .box (.tmp 1), none, []⟩,
 ⟨some 4, .move (.const (.bool false)), none, []⟩]
def k_ref02_over_r1 : List AOper := [
  ⟨some 5, .load (some (10)) (.tmp 2), none, []⟩,
 ⟨some 6, .fieldAddr 0 (.tmp 3), none, [0]⟩,
 ⟨some 7, .load none (.tmp 6), none, [0]⟩,
 ⟨some 8, .fieldAddr 1 (.tmp 3), none, [0, 1, 2]⟩,
 ⟨some 9, .load none (.tmp 8), none, [0, 1, 2]⟩,
 ⟨some 10, .call (.const (.fn (.func 46) [] [])) [.tmp 5, .tmp 7, .tmp 9], none, []⟩,
 ⟨some 11, .field none 0 (.tmp 10), none, []⟩,
 ⟨some 12, .fieldAddr 2 (.tmp 3), none, [0, 1, 2, 3, 4, 5, 6]⟩,
 ⟨some 13, .fieldAddr 1 (.tmp 12), none, [0, 1, 2, 3, 4, 5, 6]⟩,
 ⟨some 14, .load none (.tmp 13), none, [0, 1, 2, 3, 4, 5, 6]⟩,
 ⟨some 15, .bin .plain .gtr (.tmp 11) (.tmp 14), none, []⟩,
 ⟨some 4, .move (.tmp 15), none, []⟩]
def k_ref02_over_r1s : List (List AOper) := [
  [
  ⟨some 5, .load (some (10)) (.tmp 2), none, []⟩,
 ⟨some 6, .fieldAddr 0 (.tmp 3), none, [0]⟩,
 ⟨some 7, .load none (.tmp 6), none, [0]⟩,
 ⟨some 8, .fieldAddr 1 (.tmp 3), none, [0, 1, 2]⟩,
 ⟨some 9, .load none (.tmp 8), none, [0, 1, 2]⟩,
 ⟨some 10, .call (.const (.fn (.func 46) [] [])) [.tmp 5, .tmp 7, .tmp 9], none, []⟩,
 ⟨some 11, .field none 0 (.tmp 10), none, []⟩,
 ⟨some 12, .fieldAddr 2 (.tmp 3), none, [0, 1, 2, 3, 4, 5, 6]⟩,
 ⟨some 13, .fieldAddr 1 (.tmp 12), none, [0, 1, 2, 3, 4, 5, 6]⟩,
 ⟨some 14, .load none (.tmp 13), none, [0, 1, 2, 3, 4, 5, 6]⟩], 
  [
  ⟨some 15, .bin .plain .gtr (.tmp 11) (.tmp 14), none, []⟩], 
  [
  ⟨some 4, .move (.tmp 15), none, []⟩]]
theorem k_ref02_over_r1_sg : segs k_ref02_over_r1 = k_ref02_over_r1s := by kernel_rfl
theorem k_ref02_over_r1_st : statOK k_ref02_over_r1 = true := by kernel_rfl
def k_ref02_over : AFun := { params := 2, ntmps := 16, body := (.seq (.reg k_ref02_over_r0 false) (.seq (.reg k_ref02_over_r1 true) .ret)), res := [.tmp 4] }
theorem k_ref02_over_ok : cfun Tryd.prog Tryd.f56 = k_ref02_over := by kernel_rfl


abbrev n_law02_CurveNarrows : Nat := 3
theorem e_law02_CurveNarrows : EntryOK Tryd.prog n_law02_CurveNarrows k_law02_CurveNarrows := ⟨Tryd.f3, Tryd.func3, k_law02_CurveNarrows_ok, by kernel_rfl⟩
abbrev n_ref02_Narrow : Nat := 11
theorem e_ref02_Narrow : EntryOK Tryd.prog n_ref02_Narrow k_ref02_Narrow := ⟨Tryd.f11, Tryd.func11, k_ref02_Narrow_ok, by kernel_rfl⟩
abbrev n_ref02_narrowed : Nat := 32
theorem e_ref02_narrowed : EntryOK Tryd.prog n_ref02_narrowed k_ref02_narrowed := ⟨Tryd.f32, Tryd.func32, k_ref02_narrowed_ok, by kernel_rfl⟩
abbrev n_ref02_put : Nat := 33
theorem e_ref02_put : EntryOK Tryd.prog n_ref02_put k_ref02_put := ⟨Tryd.f33, Tryd.func33, k_ref02_put_ok, by kernel_rfl⟩
abbrev n_ref02_field : Nat := 52
theorem e_ref02_field : EntryOK Tryd.prog n_ref02_field k_ref02_field := ⟨Tryd.f52, Tryd.func52, k_ref02_field_ok, by kernel_rfl⟩
abbrev n_ref02_Alone : Nat := 54
theorem e_ref02_Alone : EntryOK Tryd.prog n_ref02_Alone k_ref02_Alone := ⟨Tryd.f54, Tryd.func54, k_ref02_Alone_ok, by kernel_rfl⟩
abbrev n_ref02_under : Nat := 55
theorem e_ref02_under : EntryOK Tryd.prog n_ref02_under k_ref02_under := ⟨Tryd.f55, Tryd.func55, k_ref02_under_ok, by kernel_rfl⟩
abbrev n_ref02_over : Nat := 56
theorem e_ref02_over : EntryOK Tryd.prog n_ref02_over k_ref02_over := ⟨Tryd.f56, Tryd.func56, k_ref02_over_ok, by kernel_rfl⟩

attribute [go_sem] k_law02_CurveNarrows_r0 k_law02_CurveNarrows_r1 k_law02_CurveNarrows_r2 k_law02_CurveNarrows_r3 k_law02_CurveNarrows_r4 k_law02_CurveNarrows_r5 k_law02_CurveNarrows_r6s k_law02_CurveNarrows_r7 k_law02_CurveNarrows_r8 k_law02_CurveNarrows_r9 k_law02_CurveNarrows_r10 k_law02_CurveNarrows_r11s
attribute [go_sem] k_law02_CurveNarrows_r12 k_law02_CurveNarrows_r13 k_law02_CurveNarrows_r14 k_law02_CurveNarrows_r16 k_ref02_Narrow_r0 k_ref02_Narrow_r1 k_ref02_Narrow_r2 k_ref02_Narrow_r3 k_ref02_Narrow_r4 k_ref02_Narrow_r5 k_ref02_Narrow_r6 k_ref02_Narrow_r7
attribute [go_sem] k_ref02_Narrow_r8s k_ref02_Narrow_r9 k_ref02_Narrow_r10s k_ref02_Narrow_r11 k_ref02_Narrow_r12 k_ref02_Narrow_r14 k_ref02_Narrow_r15 k_ref02_Narrow_r16 k_ref02_Narrow_r17 k_ref02_Narrow_r18s k_ref02_Narrow_r19 k_ref02_Narrow_r20
attribute [go_sem] k_ref02_Narrow_r21 k_ref02_Narrow_r22 k_ref02_Narrow_r24 k_ref02_Narrow_r26 k_ref02_narrowed_r0 k_ref02_narrowed_r1 k_ref02_narrowed_r2 k_ref02_narrowed_r3s k_ref02_narrowed_r4 k_ref02_narrowed_r5 k_ref02_narrowed_r6s k_ref02_narrowed_r7
attribute [go_sem] k_ref02_narrowed_r8 k_ref02_narrowed_r9 k_ref02_narrowed_r11 k_ref02_narrowed_r12s k_ref02_narrowed_r13 k_ref02_narrowed_r14 k_ref02_narrowed_r15s k_ref02_narrowed_r16 k_ref02_narrowed_r17 k_ref02_narrowed_r18 k_ref02_narrowed_r20 k_ref02_put_r0
attribute [go_sem] k_ref02_put_r1 k_ref02_put_r2 k_ref02_put_r3 k_ref02_put_r4 k_ref02_put_r5 k_ref02_put_r6 k_ref02_put_r7 k_ref02_put_r8 k_ref02_put_r9 k_ref02_put_r10 k_ref02_put_r11 k_ref02_field_r0
attribute [go_sem] k_ref02_field_r1 k_ref02_Alone_r0 k_ref02_Alone_r1 k_ref02_under_r0 k_ref02_under_r1s k_ref02_over_r0 k_ref02_over_r1s k_ref02_Narrow_r18_sg k_ref02_Narrow_r8_sg k_ref02_narrowed_r15_sg k_ref02_Narrow_r10_sg k_ref02_narrowed_r6_sg
attribute [go_sem] k_ref02_over_r1_sg k_law02_CurveNarrows_r11_sg k_law02_CurveNarrows_r6_sg k_ref02_narrowed_r12_sg k_ref02_narrowed_r3_sg k_ref02_under_r1_sg k_ref02_Narrow_r18_st k_ref02_Narrow_r8_st k_ref02_narrowed_r15_st k_ref02_Narrow_r10_st k_ref02_narrowed_r6_st k_ref02_over_r1_st
attribute [go_sem] k_law02_CurveNarrows_r11_st k_law02_CurveNarrows_r6_st k_ref02_narrowed_r12_st k_ref02_narrowed_r3_st k_ref02_under_r1_st k_law02_CurveNarrows k_ref02_Narrow k_ref02_narrowed k_ref02_put k_ref02_field k_ref02_Alone k_ref02_under
attribute [go_sem] k_ref02_over
end Go.Proofs

