/- A part of the proof. -/
import Derived.Test.YtenbikniminggaaDoorPB
set_option linter.unusedSimpArgs false
set_option linter.unusedVariables false
namespace Go.Proofs
open Go Go.Sx Go.Fam
attribute [local irreducible] Run

theorem rcheckRange_yes {a b lo hi : Int} (h : lo ≤ a ∧ a ≤ b ∧ b ≤ hi) : Ans Tryd.prog n_ref02_checkRange [.agg [.int .i64 a, .int .i64 b], .int .i64 lo, .int .i64 hi] [] (.int .i64 0) [] := by
  have h1 : ¬ a > b := by omega
  have h2 : ¬ a < lo := by omega
  have h3 : ¬ b > hi := by omega
  refine spec_run e_ref02_checkRange fun G => ?_
  simp only [go_sem, h1, h2, h3]
set_option maxRecDepth 20000 in
theorem rCheckLaw_ok (l : Lw) (h : LwOK l) : Ans Tryd.prog n_ref02_CheckLaw [l.v] [] (.int .i64 0) [] := by
  have k1 := rcheckRange_yes h.perv
  have k2 := rcheckRange_yes h.gain
  have k3 := rcheckRange_yes h.shift
  have k4 := rcheckRange_yes h.full
  have k5 := rcheckRange_yes h.part
  have u1 : IntKind.i64.wrap 1 = 1 := rfl
  have u2 : IntKind.i64.wrap 2 = 2 := rfl
  have u3 : IntKind.i64.wrap 3 = 3 := rfl
  have u4 : IntKind.i64.wrap 4 = 4 := rfl
  have u5 : IntKind.i64.wrap 5 = 5 := rfl
  refine spec_run e_ref02_CheckLaw fun G => ?_
  simp only [go_sem, Lw.v, Lw.cs]
  refine loop_body 200 k_ref02_CheckLaw_r10.eq_1 ?_
  simp only [go_sem]
  refine cP k1 ?_
  simp only [go_sem, u1]
  refine loop_body 200 k_ref02_CheckLaw_r10.eq_1 ?_
  simp only [go_sem]
  refine cP k2 ?_
  simp only [go_sem, u2]
  refine loop_body 200 k_ref02_CheckLaw_r10.eq_1 ?_
  simp only [go_sem]
  refine cP k3 ?_
  simp only [go_sem, u3]
  refine loop_body 200 k_ref02_CheckLaw_r10.eq_1 ?_
  simp only [go_sem]
  refine cP k4 ?_
  simp only [go_sem, u4]
  refine loop_body 200 k_ref02_CheckLaw_r10.eq_1 ?_
  simp only [go_sem]
  refine cP k5 ?_
  simp only [go_sem, u5]
  refine loop_body 200 k_ref02_CheckLaw_r10.eq_1 ?_
  simp only [go_sem]

theorem cut_run (n : Int) : Ans Tryd.prog n_ref02_cut [.int .i64 n] [] (.int .i64 (bnd n)) [] := by
  refine spec_run e_ref02_cut fun G => ?_
  simp only [go_sem]
  unfold bnd
  repeat' split
  all_goals omega

theorem rdrive_run (l : Lw) (h : LwOK l) (g p : Int) (h1 : -1000000 ≤ g ∧ g ≤ 1000000) (h2 : 0 ≤ p ∧ p ≤ 1000000) : Ans Tryd.prog n_ref02_drive [l.v, .int .i64 g, .int .i64 p] [] (driveOf l g p).v [] := by
  obtain ⟨_, ⟨b1, b2, b3⟩, ⟨c1, c2, c3⟩, _, _⟩ := h
  have q1 : 0 ≤ 1000 * p / l.gain.hi := Int.ediv_nonneg (by omega) (by omega)
  have q2 : 1000 * p / l.gain.hi ≤ 1000 * p := Int.ediv_le_self _ (by omega)
  have q3 : 0 ≤ rup (1000 * p) l.gain.lo := Int.ediv_nonneg (by omega) (by omega)
  have q4 : rup (1000 * p) l.gain.lo ≤ 1000 * p + l.gain.lo - 1 := Int.ediv_le_self _ (by omega)
  have m1 : IntKind.i64.wrap (1000 * p) = 1000 * p := w64 (by omega)
  have m3 : IntKind.i64.wrap (g + l.shift.lo) = g + l.shift.lo := w64 (by omega)
  have m4 : IntKind.i64.wrap (g + l.shift.lo + 1000 * p / l.gain.hi) = g + l.shift.lo + 1000 * p / l.gain.hi := w64 (by omega)
  have m5 : IntKind.i64.wrap (g + l.shift.hi) = g + l.shift.hi := w64 (by omega)
  have m6 : IntKind.i64.wrap (g + l.shift.hi + rup (1000 * p) l.gain.lo) = g + l.shift.hi + rup (1000 * p) l.gain.lo := w64 (by omega)
  have d1 := down_run (n := 1000 * p) (b := l.gain.hi) (by omega) (by omega)
  have d2 : Ans Tryd.prog n_ref02_up [.int .i64 (1000 * p), .int .i64 l.gain.lo] [] (.int .i64 (rup (1000 * p) l.gain.lo)) [] := up_run (n := 1000 * p) (b := l.gain.lo) (by omega) (by omega)
  refine spec_run e_ref02_drive fun G => ?_
  simp only [go_sem, Lw.v, Lw.cs, m1, m3]
  refine dP d1 ?_
  simp only [go_sem, m4]
  refine dP (cut_run _) ?_
  simp only [go_sem, m5, m1]
  refine dP d2 ?_
  simp only [go_sem, m6]
  refine cP (cut_run _) ?_
  simp only [go_sem, driveOf, Rg.v]

theorem div_iff {n q : Int} (hq : 1 ≤ q) : q ≤ n / q ↔ q * q ≤ n := Int.le_ediv_iff_mul_le (by omega)
theorem root_iff {n q : Int} (hn : 0 ≤ n) (hq : 0 ≤ q) : q * q ≤ n ↔ q ≤ root n := by
  obtain ⟨a, b, c⟩ := root_ok hn
  constructor
  · intro h
    by_cases d : root n + 1 ≤ q
    · have := sq_le (a := root n + 1) (b := q) (by omega) d; omega
    · omega
  · intro h
    have := sq_le hq h; omega
theorem rroot_run (n : Int) (h0 : 0 ≤ n) (h1 : n ≤ 1152921504606846976) : Ans Tryd.prog n_ref02_root [.int .i64 n] [] (.int .i64 (root n)) [] := by
  have hr := root_le h0 h1
  obtain ⟨r1, _, _⟩ := root_ok h0
  refine spec_run e_ref02_root fun G => ?_
  simp only [go_sem]
  refine loop_ind k_ref02_root_r7.eq_1 (fun a : Int × Int => 0 ≤ a.1 ∧ a.1 ≤ root n ∧ root n ≤ a.2 ∧ a.2 ≤ 3000000000) (fun a => (a.2 - a.1).toNat)
    (fun a => (tsets 23 [(0, .int .i64 n), (2, .int .i64 0), (3, .int .i64 a.1), (4, .int .i64 a.2)], [])) (0, 3000000000) ⟨Int.le_refl _, r1, by dsimp only; omega, Int.le_refl _⟩ (by simp [go_sem]) rfl ?_
  rintro ⟨i, j⟩ ⟨g0, g1, g2, g3⟩ ih
  dsimp only at g0 g1 g2 g3 ih ⊢
  by_cases c : i < j
  · have w1 : IntKind.i64.wrap (i + j) = i + j := w64 (by omega)
    have w2 : IntKind.i64.wrap (i + j + 1) = i + j + 1 := w64 (by omega)
    have e1 : (i + j + 1).tdiv 2 = (i + j + 1) / 2 := Int.tdiv_eq_ediv_of_nonneg (by omega)
    obtain ⟨q, hq⟩ : ∃ q, (i + j + 1) / 2 = q := ⟨_, rfl⟩
    rw [hq] at e1
    have w3 : IntKind.i64.wrap q = q := w64 (by omega)
    have e2 : n.tdiv q = n / q := Int.tdiv_eq_ediv_of_nonneg h0
    have q1 : 0 ≤ n / q := Int.ediv_nonneg h0 (by omega)
    have q2 : n / q ≤ n := Int.ediv_le_self _ h0
    have w4 : IntKind.i64.wrap (n / q) = n / q := w64 (by omega)
    have w5 : IntKind.i64.wrap (q - 1) = q - 1 := w64 (by omega)
    have z : ¬ q = 0 := by omega
    have hi := div_iff (n := n) (q := q) (by omega)
    rw [root_iff h0 (by omega)] at hi
    by_cases d : q ≤ n / q
    · simp only [go_sem, c, w1, w2, e1, w3, z, e2, w4, d]
      exact ih (q, j) (by dsimp only; omega) ⟨by dsimp only; omega, hi.1 d, g2, g3⟩ _ (by simp [go_sem])
    · simp only [go_sem, c, w1, w2, e1, w3, z, e2, w4, d, w5]
      have nq : ¬ q ≤ root n := fun h => d (hi.2 h)
      exact ih (i, q - 1) (by dsimp only; omega) ⟨g0, g1, by dsimp only; omega, by dsimp only; omega⟩ _ (by simp [go_sem])
  · simp only [go_sem, c]
    omega
theorem rabove_run (n : Int) (h0 : 0 ≤ n) (h1 : n ≤ 1152921504606846976) : Ans Tryd.prog n_ref02_above [.int .i64 n] [] (.int .i64 (rootU n)) [] := by
  have hr := root_le h0 h1
  obtain ⟨r1, r2, _⟩ := root_ok h0
  have hm := mul_in (a := root n) (b := root n) (A := 1073741824) (B := 1073741824) ⟨r1, hr⟩ ⟨r1, hr⟩
  have w1 : IntKind.i64.wrap (root n * root n) = root n * root n := w64 (by omega)
  have w2 : IntKind.i64.wrap (root n + 1) = root n + 1 := w64 (by omega)
  refine spec_run e_ref02_above fun G => ?_
  simp only [go_sem]
  refine cP (rroot_run n h0 h1) ?_
  by_cases c : root n * root n < n
  · simp only [go_sem, w1, c, w2, rootU, if_true]
  · simp only [go_sem, w1, c, rootU, if_false]

set_option maxHeartbeats 1000000 in
theorem rcurrent_run (l : Lw) (h : LwOK l) (g p : Int) (h1 : -1000000 ≤ g ∧ g ≤ 1000000) (h2 : 0 ≤ p ∧ p ≤ 1000000) : Ans Tryd.prog n_ref02_current [l.v, .int .i64 g, .int .i64 p] [] (curOf l g p).v [] := by
  have hd := rdrive_run l h g p h1 h2
  have hlo := bnd_in (g + l.shift.lo + (1000 * p) / l.gain.hi)
  have hhi := bnd_in (g + l.shift.hi + rup (1000 * p) l.gain.lo)
  rw [show bnd (g + l.shift.lo + (1000 * p) / l.gain.hi) = (driveOf l g p).lo from rfl] at hlo
  rw [show bnd (g + l.shift.hi + rup (1000 * p) l.gain.lo) = (driveOf l g p).hi from rfl] at hhi
  unfold curOf
  generalize driveOf l g p = d at *
  obtain ⟨⟨a1, a2, a3⟩, _, _, ⟨d1, d2, d3⟩, ⟨e1, e2, e3⟩⟩ := h
  obtain ⟨c1, c2, c3, c4⟩ := cube_in hlo.1 hlo.2
  obtain ⟨c5, c6, c7, c8⟩ := cube_in hhi.1 hhi.2
  obtain ⟨r1, _, _⟩ := root_ok c3
  have r2 := root_le c3 (by omega)
  obtain ⟨r3, _, _⟩ := root_ok c7
  have r4 := root_le c7 (by omega)
  have r5 : 0 ≤ rootU (cube d.hi) ∧ rootU (cube d.hi) ≤ 1073741825 := by unfold rootU; split <;> omega
  have p1 := mul_in (a := l.perv.lo) (A := 1000000) ⟨a1, by omega⟩ ⟨r1, r2⟩
  have p2 := mul_in (a := l.perv.hi) (A := 1000000) ⟨by omega, by omega⟩ r5
  have s1 : 0 ≤ spaceLo l d ∧ spaceLo l d ≤ l.perv.lo * root (cube d.lo) := ⟨Int.ediv_nonneg p1.1 (by decide), Int.ediv_le_self _ p1.1⟩
  have s2 : 0 ≤ spaceHi l d ∧ _ := rup_in p2.1 (by decide)
  have m1 := mn_in s1.1 d1
  have m2 := mn_in s2.1 (show 0 ≤ l.full.hi by omega)
  have p3 := mul_in (a := l.part.lo) (A := 1000000) (B := 1000000) ⟨e1, by omega⟩ ⟨m1.1, by omega⟩
  have p4 := mul_in (a := l.part.hi) (A := 1000000) (B := 1000000) ⟨by omega, by omega⟩ ⟨m2.1, by omega⟩
  have w1 : IntKind.i64.wrap (d.lo * d.lo) = d.lo * d.lo := w64 (by omega)
  have w2 : IntKind.i64.wrap (d.lo * d.lo * d.lo) = cube d.lo := w64 (n := cube d.lo) (by omega)
  have w3 : IntKind.i64.wrap (d.hi * d.hi) = d.hi * d.hi := w64 (by omega)
  have w4 : IntKind.i64.wrap (d.hi * d.hi * d.hi) = cube d.hi := w64 (n := cube d.hi) (by omega)
  have w5 : IntKind.i64.wrap (l.perv.lo * root (cube d.lo)) = l.perv.lo * root (cube d.lo) := w64 (by omega)
  have w8 : IntKind.i64.wrap (l.perv.hi * rootU (cube d.hi)) = l.perv.hi * rootU (cube d.hi) := w64 (by omega)
  have n1 : (if l.full.lo < spaceLo l d then l.full.lo else spaceLo l d) = mn (spaceLo l d) l.full.lo := rfl
  have n2 : (if l.full.hi < spaceHi l d then l.full.hi else spaceHi l d) = mn (spaceHi l d) l.full.hi := rfl
  have w9 : IntKind.i64.wrap (l.part.lo * mn (spaceLo l d) l.full.lo) = l.part.lo * mn (spaceLo l d) l.full.lo := w64 (by omega)
  have w12 : IntKind.i64.wrap (l.part.hi * mn (spaceHi l d) l.full.hi) = l.part.hi * mn (spaceHi l d) l.full.hi := w64 (by omega)
  have kr := rroot_run _ c3 (by omega)
  have ka := rabove_run _ c7 (by omega)
  have k1 : Ans Tryd.prog n_ref02_down [.int .i64 (l.perv.lo * root (cube d.lo)), .int .i64 1000000] [] (.int .i64 (spaceLo l d)) [] := down_run (by omega) (by omega)
  have k2 : Ans Tryd.prog n_ref02_up [.int .i64 (l.perv.hi * rootU (cube d.hi)), .int .i64 1000000] [] (.int .i64 (spaceHi l d)) [] := up_run (by omega) (by omega)
  have k3 : Ans Tryd.prog n_ref02_down [.int .i64 (l.part.lo * mn (spaceLo l d) l.full.lo), .int .i64 1000000] [] (.int .i64 (curLo l d)) [] := down_run (by omega) (by omega)
  have k4 : Ans Tryd.prog n_ref02_up [.int .i64 (l.part.hi * mn (spaceHi l d) l.full.hi), .int .i64 1000000] [] (.int .i64 (curHi l d)) [] := up_run (by omega) (by omega)
  simp only [Lw.v, Lw.cs, Rg.v] at hd
  refine spec_run e_ref02_current fun G => ?_
  simp only [go_sem, Lw.v, Lw.cs]
  refine cP hd ?_
  simp only [go_sem, w1, w2]
  refine dP kr ?_
  simp only [go_sem, w5]
  refine cP k1 ?_
  simp only [go_sem, w3, w4]
  refine dP ka ?_
  simp only [go_sem, w8]
  refine cP k2 ?_
  simp only [go_sem, n1, n2, w9]
  refine dP k3 ?_
  simp only [go_sem, w12]
  refine cP k4 ?_
  simp only [go_sem, Rg.v]
end Go.Proofs

namespace Go.Proofs
open Go Go.Sx Go.Fam
attribute [local irreducible] Run


theorem In_ok (w : Int) (r : Rg) (h1 : -1152921504606846976 ≤ r.lo) (h2 : r.lo ≤ r.hi) (h3 : r.hi ≤ 1152921504606846976) : Ans Tryd.prog n_kit_Dice_In [.ptr 0 0 0 1, r.v] [some (Dr w)] (.int .i64 (btw w r.lo r.hi)) [some (Dr (dstep w))] := by
  have e : (if r.hi > r.lo then r.hi else r.lo) = r.hi := by split <;> omega
  refine spec_run e_kit_Dice_In fun G => ?_
  simp only [go_sem, Rg.v, e]
  refine callD (between_ok w r.lo r.hi h1 h2 h3) rfl ⟨.int _ _, .int _ _, trivial⟩ (.int _ _) (dr_bel _ _) (dr_bel _ _) (by simp) (by simp) ?_
  simp only [go_sem]
  exact ⟨_, rfl⟩

def inR (w : Int) (r : Rg) (exact : Bool) : Rg := if exact then ⟨btw w r.lo r.hi, btw w r.lo r.hi⟩ else hullR (btw w r.lo r.hi) (btw (dstep w) r.lo r.hi)
theorem inR_in {w : Int} {r : Rg} {b : Bool} (h : r.lo ≤ r.hi) : r.lo ≤ (inR w r b).lo ∧ (inR w r b).lo ≤ (inR w r b).hi ∧ (inR w r b).hi ≤ r.hi := by
  have h1 := btw_in (w := w) h
  have h2 := btw_in (w := dstep w) h
  unfold inR hullR
  split
  · exact ⟨h1.1, Int.le_refl _, h1.2⟩
  · refine ⟨?_, ?_, ?_⟩ <;> dsimp only <;> (repeat' split) <;> omega

def Pr : Row := .cells false 1 [.ptr 0 0 0 1]
def Br (b : Bool) : Row := .cells false 1 [.bool b]

theorem in_ok (w : Int) (r : Rg) (b : Bool) (h1 : -1152921504606846976 ≤ r.lo) (h2 : r.lo ≤ r.hi) (h3 : r.hi ≤ 1152921504606846976) :
    Ans Tryd.prog n_kit_WithinLaw_1 [r.v, .ptr 1 0 0 1, .ptr 2 0 0 1] [some (Dr w), some Pr, some (Br b)] (inR w r b).v [some (Dr (d2 w)), some Pr, some (Br b)] := by
  have hi := In_ok w r h1 h2 h3
  have hi2 := In_ok (dstep w) r h1 h2 h3
  cases b
  · refine spec_run e_kit_WithinLaw_1 fun G => ?_
    simp only [go_sem, Rg.v, Pr, Br]
    refine dD hi ?_
    simp only [go_sem]
    refine cD hi2 ?_
    simp only [go_sem, inR, hullR, d2]
    exact ⟨_, rfl⟩
  · refine spec_run e_kit_WithinLaw_1 fun G => ?_
    simp only [go_sem, Rg.v, Pr, Br]
    refine dD hi ?_
    simp only [go_sem]
    refine cD hi2 ?_
    simp only [go_sem, inR, d2]
    exact ⟨_, rfl⟩

def inLaw (w : Int) (l : Lw) (b : Bool) : Lw := ⟨inR w l.perv b, inR (d2 w) l.gain b, inR (d2 (d2 w)) l.shift b, inR (d2 (d2 (d2 w))) l.full b, inR (d2 (d2 (d2 (d2 w)))) l.part b⟩

theorem within_call {P : Program} {R : Runner} {ao : AOper} {lo hi : Nat} {l : List AOper} {fs : List Sx.Frame} {ρ : List AVal} {tr : List (List Nat × List Nat)} {ss : List (List AOper)} {Q : Goal} {g : Nat} {w w' : Int} {r v : AVal} {b : Bool} {X Y : Row}
    (h : Ans P g [r, .ptr 1 0 0 1, .ptr 2 0 0 1] [some (Dr w), some Pr, some (Br b)] v [some (Dr w'), some Pr, some (Br b)]) (hr : Bel (fun _ => False) r) (hv : Bel (fun _ => False) v)
    (hd : dynOK ao.free [0, 1, 3] [0, 1, 3] tr lo = true)
    (hK : R (.grp lo l (tr ++ [([0, 1, 3], [0, 1, 3])]) hi ss) fs ⟨setD ρ ao.dst v, [some (Dr w'), some Pr, some X, some (Br b), some Y], []⟩ Q) :
    DCallR P R g [r, .ptr 1 0 0 1, .ptr 3 0 0 1] ao lo l tr hi ss fs ρ [some (Dr w), some Pr, some X, some (Br b), some Y] [] Q := by
  have e : outΔ (outσ [0, 1, 3] 5) 0 [some (Dr w'), some Pr, some (Br b)] = [(0, Dr w'), (1, Pr), (3, Br b)] := rfl
  refine dS h [0, 1, 3] (by decide) ⟨rfl, rfl, rfl, trivial⟩ ?_ ?_ ⟨dr_bel _ _, ?_, ?_, trivial⟩ rfl hv ⟨dr_bel _ _, ?_, ?_, trivial⟩ (by simp) (by simp) ?_ ?_
  · show _ = [ren _ r, .ptr 1 0 0 1, .ptr 3 0 0 1]
    rw [ren_same hr]
  · exact ⟨hr.mono fun _ h => h.elim, by rw [bel_ptr]; simp, by rw [bel_ptr]; simp, trivial⟩
  · unfold Pr; rw [row_bel_cells]; exact ⟨by rw [bel_ptr]; simp, trivial⟩
  · unfold Br; rw [row_bel_cells]; exact ⟨.bool _, trivial⟩
  · unfold Pr; rw [row_bel_cells]; exact ⟨by rw [bel_ptr]; simp, trivial⟩
  · unfold Br; rw [row_bel_cells]; exact ⟨.bool _, trivial⟩
  · exact hd
  · exact hK

theorem within_callS {P : Program} {G : Ctx} {R : Runner} {k : Nat} {l : List AOper} {fs : List Sx.Frame} {ρ : List AVal} {Q : Goal} {g : Nat} {w w' : Int} {r v : AVal} {b : Bool} {X Y : Row} {dst : Option Nat}
    (h : Ans P g [r, .ptr 1 0 0 1, .ptr 2 0 0 1] [some (Dr w), some Pr, some (Br b)] v [some (Dr w'), some Pr, some (Br b)]) (hr : Bel (fun _ => False) r) (hv : Bel (fun _ => False) v) (hk : k ≤ 5)
    (hK : R (.ops l) fs ⟨setD ρ dst v, [some (Dr w'), some Pr, some X, some (Br b), some Y], []⟩ Q) :
    CallR P G k R g [r, .ptr 1 0 0 1, .ptr 3 0 0 1] dst l fs ρ [some (Dr w), some Pr, some X, some (Br b), some Y] [] Q := by
  refine callS h [0, 1, 3] (by decide) ⟨rfl, rfl, rfl, trivial⟩ ?_ ?_ ⟨dr_bel _ _, ?_, ?_, trivial⟩ (Nat.le_refl _) (hv.mono fun _ h => h.elim) ⟨dr_bel _ _, ?_, ?_, trivial⟩ (by simp) hk (by simp) ?_
  · show _ = [ren _ r, .ptr 1 0 0 1, .ptr 3 0 0 1]
    rw [ren_same hr]
  · exact ⟨hr.mono fun _ h => h.elim, by rw [bel_ptr]; simp, by rw [bel_ptr]; simp, trivial⟩
  · unfold Pr; rw [row_bel_cells]; exact ⟨by rw [bel_ptr]; simp, trivial⟩
  · unfold Br; rw [row_bel_cells]; exact ⟨.bool _, trivial⟩
  · unfold Pr; rw [row_bel_cells]; exact ⟨by rw [bel_ptr]; simp, trivial⟩
  · unfold Br; rw [row_bel_cells]; exact ⟨.bool _, trivial⟩
  · rw [ren_same hv]; exact hK

theorem withinLaw_ok (w : Int) (l : Lw) (hl : LwOK l) (b : Bool) : Ans Tryd.prog n_kit_WithinLaw [.ptr 0 0 0 1, l.v, .bool b] [some (Dr w)] (inLaw w l b).v [some (Dr (d2 (d2 (d2 (d2 (d2 w))))))] := by
  obtain ⟨p1, p2, p3, p4, p5⟩ := hl
  have c1 := in_ok w l.perv b (by omega) (by omega) (by omega)
  have c2 := in_ok (d2 w) l.gain b (by omega) (by omega) (by omega)
  have c3 := in_ok (d2 (d2 w)) l.shift b (by omega) (by omega) (by omega)
  have c4 := in_ok (d2 (d2 (d2 w))) l.full b (by omega) (by omega) (by omega)
  have c5 := in_ok (d2 (d2 (d2 (d2 w)))) l.part b (by omega) (by omega) (by omega)
  refine spec_run e_kit_WithinLaw fun G => ?_
  simp only [go_sem, Lw.v, Lw.cs]
  refine within_call (X := _) (Y := _) c1 (rg_bel _ _) (rg_bel _ _) ?_ ?_
  · simp only [go_sem]
  simp only [go_sem, Pr, Br, Rg.v]
  refine within_call (X := _) (Y := _) c2 (rg_bel _ _) (rg_bel _ _) ?_ ?_
  · simp only [go_sem]
  simp only [go_sem, Pr, Br, Rg.v]
  refine within_call (X := _) (Y := _) c3 (rg_bel _ _) (rg_bel _ _) ?_ ?_
  · simp only [go_sem]
  simp only [go_sem, Pr, Br, Rg.v]
  refine within_call (X := _) (Y := _) c4 (rg_bel _ _) (rg_bel _ _) ?_ ?_
  · simp only [go_sem]
  simp only [go_sem, Pr, Br, Rg.v]
  refine within_callS (X := _) (Y := _) c5 (rg_bel _ _) (rg_bel _ _) (by decide) ?_
  simp only [go_sem, Pr, Br, Rg.v]
  exact ⟨rfl, _, rfl⟩

structure SubR (a b : Rg) : Prop where
  lo : b.lo ≤ a.lo
  hi : a.hi ≤ b.hi
structure SubL (m l : Lw) : Prop where
  perv : SubR m.perv l.perv
  gain : SubR m.gain l.gain
  shift : SubR m.shift l.shift
  full : SubR m.full l.full
  part : SubR m.part l.part
theorem inLaw_ok {w : Int} {l : Lw} {b : Bool} (hl : LwOK l) : LwOK (inLaw w l b) ∧ SubL (inLaw w l b) l := by
  obtain ⟨p1, p2, p3, p4, p5⟩ := hl
  have c1 := inR_in (w := w) (r := l.perv) (b := b) p1.2.1
  have c2 := inR_in (w := d2 w) (r := l.gain) (b := b) p2.2.1
  have c3 := inR_in (w := d2 (d2 w)) (r := l.shift) (b := b) p3.2.1
  have c4 := inR_in (w := d2 (d2 (d2 w))) (r := l.full) (b := b) p4.2.1
  have c5 := inR_in (w := d2 (d2 (d2 (d2 w)))) (r := l.part) (b := b) p5.2.1
  unfold inLaw
  refine ⟨⟨?_, ?_, ?_, ?_, ?_⟩, ⟨⟨c1.1, c1.2.2⟩, ⟨c2.1, c2.2.2⟩, ⟨c3.1, c3.2.2⟩, ⟨c4.1, c4.2.2⟩, ⟨c5.1, c5.2.2⟩⟩⟩ <;> dsimp only <;> omega

theorem div_anti {n a b : Int} (hn : 0 ≤ n) (ha : 1 ≤ a) (hab : a ≤ b) : n / b ≤ n / a := by
  rw [Int.le_ediv_iff_mul_le (by omega)]
  have h2 : n / b * a ≤ n / b * b := Int.mul_le_mul_of_nonneg_left hab (Int.ediv_nonneg hn (by omega))
  have h3 := Int.ediv_mul_le n (b := b) (by omega)
  omega
theorem rup_anti {n a b : Int} (hn : 0 ≤ n) (ha : 1 ≤ a) (hab : a ≤ b) : rup n b ≤ rup n a := by
  have h1 : n ≤ rup n a * a := by
    have := Int.lt_ediv_add_one_mul_self (n + a - 1) (b := a) (by omega)
    unfold rup
    rw [Int.add_mul] at this
    omega
  have h0 : 0 ≤ rup n a := Int.ediv_nonneg (by omega) (by omega)
  have h2 : rup n a * a ≤ rup n a * b := Int.mul_le_mul_of_nonneg_left hab h0
  have h3 : n + b - 1 < (rup n a + 1) * b := by rw [Int.add_mul]; omega
  have := Int.ediv_lt_of_lt_mul (by omega : 0 < b) h3
  show (n + b - 1) / b ≤ _
  omega

theorem mn_mono2 {a b c d : Int} (h : a ≤ b) (h2 : c ≤ d) : mn a c ≤ mn b d := by unfold mn; split <;> split <;> omega
end Go.Proofs

namespace Go.Proofs
open Go Go.Sx

def k_curve_Narrow_r0 : List AOper := [
  ⟨some 2, .box (.tmp 0), none, []⟩,
 ⟨some 4, .box (.const (.agg [.int .i64 0, .int .i64 0, .int .i64 0, .int .i64 0, .int .i64 0, .int .i64 0, .int .i64 0, .int .i64 0, .int .i64 0, .int .i64 0])), none, []⟩,
 ⟨some 5, .move (.const (.int .i64 0)), none, []⟩]
def k_curve_Narrow_r1 : List AOper := [
  ⟨some 10, .load (some (10)) (.tmp 2), none, []⟩,
 ⟨some 11, .call (.const (.fn (.func 27) [] [])) [.tmp 10], none, []⟩,
 ⟨some 6, .move (.tmp 11), none, []⟩]
def k_curve_Narrow_r2 : List AOper := [
  ⟨some 12, .move (.tmp 6), none, []⟩,
 ⟨some 13, .bin .plain .neq (.tmp 12) (.const (.int .i64 0)), none, []⟩]
def k_curve_Narrow_r3 : List AOper := [
  ⟨some 14, .build [.int .i64 0, .int .i64 0, .int .i64 0, .int .i64 0, .int .i64 0, .int .i64 0, .int .i64 0, .int .i64 0, .int .i64 0, .int .i64 0] [], none, []⟩,
 ⟨some 15, .move (.tmp 6), none, []⟩,
 ⟨none, .store 10 (.tmp 4) (.tmp 14), none, []⟩,
 ⟨some 5, .move (.tmp 15), none, []⟩]
def k_curve_Narrow_r4 : List AOper := [
  ⟨some 16, .move (.tmp 1), none, []⟩,
 ⟨some 17, .call (.const (.fn (.func 28) [] [])) [.tmp 16], none, []⟩,
 ⟨some 7, .move (.tmp 17), none, []⟩]
def k_curve_Narrow_r5 : List AOper := [
  ⟨some 18, .move (.tmp 7), none, []⟩,
 ⟨some 19, .bin .plain .neq (.tmp 18) (.const (.int .i64 0)), none, []⟩]
def k_curve_Narrow_r6 : List AOper := [
  ⟨some 20, .build [.int .i64 0, .int .i64 0, .int .i64 0, .int .i64 0, .int .i64 0, .int .i64 0, .int .i64 0, .int .i64 0, .int .i64 0, .int .i64 0] [], none, []⟩,
 ⟨some 21, .move (.tmp 7), none, []⟩,
 ⟨none, .store 10 (.tmp 4) (.tmp 20), none, []⟩,
 ⟨some 5, .move (.tmp 21), none, []⟩]
def k_curve_Narrow_r7 : List AOper := [
  ⟨some 22, .move (.tmp 1), none, []⟩,
 ⟨some 23, .len false (.tmp 22), none, []⟩,
 ⟨some 24, .move (.const (.int .i64 0)), none, []⟩]
def k_curve_Narrow_r8 : List AOper := [
  ⟨some 25, .bin .plain .lss (.tmp 24) (.tmp 23), none, []⟩]
def k_curve_Narrow_r9 : List AOper := [
  ⟨some 26, .indexAddr 4 (.tmp 22) (.tmp 24), none, []⟩,
 ⟨some 27, .load (some (4)) (.tmp 26), none, []⟩,
 ⟨some 9, .box (.const (.agg [.int .i64 0, .int .i64 0, .int .i64 0, .int .i64 0])), none, []⟩,
 ⟨none, .store 4 (.tmp 9) (.tmp 27), none, []⟩]
def k_curve_Narrow_r10 : List AOper := [
  ⟨some 28, .load (some (4)) (.tmp 9), none, []⟩,
 ⟨some 29, .call (.const (.fn (.func 29) [] [])) [.tmp 2, .tmp 28], none, []⟩,
 ⟨some 30, .not (.tmp 29), none, []⟩]
def k_curve_Narrow_r11 : List AOper := [
  ⟨some 31, .build [.int .i64 0, .int .i64 0, .int .i64 0, .int .i64 0, .int .i64 0, .int .i64 0, .int .i64 0, .int .i64 0, .int .i64 0, .int .i64 0] [], none, []⟩,
 ⟨none, .store 10 (.tmp 4) (.tmp 31), none, []⟩,
 ⟨some 5, .move (.const (.int .i64 12)), none, []⟩]
def k_curve_Narrow_r12 : List AOper := [
  ⟨some 32, .bin .plain .add (.tmp 24) (.const (.int .i64 1)), none, []⟩,
 ⟨some 24, .move (.tmp 32), none, []⟩]
def k_curve_Narrow_r13 : ACode := (.seq (.reg k_curve_Narrow_r8 false) (.seq (.cond (.tmp 25) .skip (.exit 0)) (.seq (.block 1 (.seq (.reg k_curve_Narrow_r9 false) (.seq (.reg k_curve_Narrow_r10 false) (.cond (.tmp 30) (.seq (.reg k_curve_Narrow_r11 false) .ret) .skip)))) (.reg k_curve_Narrow_r12 false))))
def k_curve_Narrow_r14 : List AOper := [
  ⟨some 33, .load (some (10)) (.tmp 2), none, []⟩,
 ⟨none, .store 10 (.tmp 4) (.tmp 33), none, []⟩,
 ⟨some 5, .move (.const (.int .i64 0)), none, []⟩]
def k_curve_Narrow : AFun := { params := 2, ntmps := 34, body := (.seq (.reg k_curve_Narrow_r0 false) (.seq (.seq (.reg k_curve_Narrow_r1 false) (.seq (.reg k_curve_Narrow_r2 false) (.cond (.tmp 13) (.seq (.reg k_curve_Narrow_r3 false) .ret) .skip))) (.seq (.seq (.reg k_curve_Narrow_r4 false) (.seq (.reg k_curve_Narrow_r5 false) (.cond (.tmp 19) (.seq (.reg k_curve_Narrow_r6 false) .ret) .skip))) (.seq (.seq (.reg k_curve_Narrow_r7 false) (.block 0 (.loop k_curve_Narrow_r13))) (.seq (.reg k_curve_Narrow_r14 false) .ret))))), res := [.cell 4 (some ((some (10)))), .tmp 5] }
theorem k_curve_Narrow_ok : cfun Tryd.prog Tryd.f10 = k_curve_Narrow := by kernel_rfl

def k_curve_checkReads_r0 : List AOper := [
  ⟨some 2, .move (.const (.int .i64 0)), none, []⟩]
def k_curve_checkReads_r1 : List AOper := [
  ⟨some 5, .move (.tmp 0), none, []⟩,
 ⟨some 6, .len false (.tmp 5), none, []⟩,
 ⟨some 7, .bin .plain .gtr (.tmp 6) (.const (.int .i64 60)), none, []⟩]
def k_curve_checkReads_r2 : List AOper := [
  ⟨some 2, .move (.const (.int .i64 8)), none, []⟩]
def k_curve_checkReads_r3 : List AOper := [
  ⟨some 8, .move (.tmp 0), none, []⟩,
 ⟨some 9, .len false (.tmp 8), none, []⟩,
 ⟨some 10, .move (.const (.int .i64 0)), none, []⟩]
def k_curve_checkReads_r4 : List AOper := [
  ⟨some 11, .bin .plain .lss (.tmp 10) (.tmp 9), none, []⟩]
def k_curve_checkReads_r5 : List AOper := [
  ⟨some 12, .indexAddr 4 (.tmp 8) (.tmp 10), none, []⟩,
 ⟨some 13, .load (some (4)) (.tmp 12), none, []⟩,
 ⟨some 4, .box (.const (.agg [.int .i64 0, .int .i64 0, .int .i64 0, .int .i64 0])), none, []⟩,
 ⟨none, .store 4 (.tmp 4) (.tmp 13), none, []⟩]
def k_curve_checkReads_r6 : List AOper := [
  ⟨some 14, .fieldAddr 0 (.tmp 4), none, []⟩,
 ⟨some 15, .load none (.tmp 14), none, []⟩,
 ⟨some 16, .call (.const (.fn (.func 38) [] [])) [.tmp 15], none, []⟩,
 ⟨some 17, .not (.tmp 16), none, []⟩,
 ⟨some 18, .move (.tmp 17), none, []⟩,
 ⟨some 19, .fieldAddr 1 (.tmp 4), (some (18, false)), []⟩,
 ⟨some 20, .load none (.tmp 19), (some (18, false)), []⟩,
 ⟨some 21, .call (.const (.fn (.func 39) [] [])) [.tmp 20], (some (18, false)), []⟩,
 ⟨some 22, .not (.tmp 21), (some (18, false)), []⟩,
 ⟨some 23, .pick (.tmp 18) (.const (.bool true)) (.tmp 22), none, []⟩]
def k_curve_checkReads_r7 : List AOper := [
  ⟨some 2, .move (.const (.int .i64 2)), none, []⟩]
def k_curve_checkReads_r8 : List AOper := [
  ⟨some 24, .fieldAddr 2 (.tmp 4), none, []⟩,
 ⟨some 25, .fieldAddr 0 (.tmp 24), none, []⟩,
 ⟨some 26, .load none (.tmp 25), none, []⟩,
 ⟨some 27, .fieldAddr 2 (.tmp 4), none, []⟩,
 ⟨some 28, .fieldAddr 1 (.tmp 27), none, []⟩,
 ⟨some 29, .load none (.tmp 28), none, []⟩,
 ⟨some 30, .bin .plain .gtr (.tmp 26) (.tmp 29), none, []⟩]
def k_curve_checkReads_r9 : List AOper := [
  ⟨some 2, .move (.const (.int .i64 11)), none, []⟩]
def k_curve_checkReads_r10 : List AOper := [
  ⟨some 31, .bin .plain .add (.tmp 10) (.const (.int .i64 1)), none, []⟩,
 ⟨some 10, .move (.tmp 31), none, []⟩]
def k_curve_checkReads_r11 : ACode := (.seq (.reg k_curve_checkReads_r4 false) (.seq (.cond (.tmp 11) .skip (.exit 0)) (.seq (.block 1 (.seq (.reg k_curve_checkReads_r5 false) (.seq (.seq (.reg k_curve_checkReads_r6 false) (.cond (.tmp 23) (.seq (.reg k_curve_checkReads_r7 false) .ret) .skip)) (.seq (.reg k_curve_checkReads_r8 false) (.cond (.tmp 30) (.seq (.reg k_curve_checkReads_r9 false) .ret) .skip))))) (.reg k_curve_checkReads_r10 false))))
def k_curve_checkReads_r12 : List AOper := [
  ⟨some 2, .move (.const (.int .i64 0)), none, []⟩]
def k_curve_checkReads : AFun := { params := 1, ntmps := 32, body := (.seq (.reg k_curve_checkReads_r0 false) (.seq (.seq (.reg k_curve_checkReads_r1 false) (.cond (.tmp 7) (.seq (.reg k_curve_checkReads_r2 false) .ret) .skip)) (.seq (.seq (.reg k_curve_checkReads_r3 false) (.block 0 (.loop k_curve_checkReads_r11))) (.seq (.reg k_curve_checkReads_r12 false) .ret)))), res := [.tmp 2] }
theorem k_curve_checkReads_ok : cfun Tryd.prog Tryd.f28 = k_curve_checkReads := by kernel_rfl

def k_curve_narrow_r0 : List AOper := [
  ⟨some 2, .box (.tmp 0), none, []⟩,
 ⟨some 3, .box (.tmp 1), none, []⟩,
 ⟨some 4, .move (.const (.bool false)), none, []⟩]
def k_curve_narrow_r1 : List AOper := [
  ⟨some 11, .load none (.tmp 2), none, []⟩,
 ⟨some 12, .nilCheck (.tmp 11), none, []⟩,
 ⟨some 13, .fieldAddr 0 (.tmp 12), none, []⟩,
 ⟨some 14, .load none (.tmp 2), none, [0, 1, 2]⟩,
 ⟨some 15, .nilCheck (.tmp 14), none, [0, 1, 2]⟩,
 ⟨some 16, .fieldAddr 2 (.tmp 15), none, [0, 1, 2]⟩,
 ⟨some 17, .load none (.tmp 2), none, [0, 1, 2, 3, 4, 5]⟩,
 ⟨some 18, .nilCheck (.tmp 17), none, [0, 1, 2, 3, 4, 5]⟩,
 ⟨some 19, .fieldAddr 4 (.tmp 18), none, [0, 1, 2, 3, 4, 5]⟩,
 ⟨some 20, .load none (.tmp 2), none, [0, 1, 2, 3, 4, 5, 6, 7, 8]⟩,
 ⟨some 21, .nilCheck (.tmp 20), none, [0, 1, 2, 3, 4, 5, 6, 7, 8]⟩,
 ⟨some 22, .fieldAddr 6 (.tmp 21), none, [0, 1, 2, 3, 4, 5, 6, 7, 8]⟩,
 ⟨some 23, .load none (.tmp 2), none, [0, 1, 2, 3, 4, 5, 6, 7, 8, 9, 10, 11]⟩,
 ⟨some 24, .nilCheck (.tmp 23), none, [0, 1, 2, 3, 4, 5, 6, 7, 8, 9, 10, 11]⟩,
 ⟨some 25, .fieldAddr 8 (.tmp 24), none, [0, 1, 2, 3, 4, 5, 6, 7, 8, 9, 10, 11]⟩,
 ⟨some 26, .buildSlice 1 [.tmp 13, .tmp 16, .tmp 19, .tmp 22, .tmp 25], none, []⟩,
 ⟨some 27, .len false (.tmp 26), none, []⟩,
 ⟨some 28, .move (.const (.int .i64 0)), none, [0, 1, 2, 3, 4, 5, 6, 7, 8, 9, 10, 11, 12, 13, 14, 15, 16]⟩]
def k_curve_narrow_r1s : List (List AOper) := [
  [
  ⟨some 11, .load none (.tmp 2), none, []⟩,
 ⟨some 12, .nilCheck (.tmp 11), none, []⟩,
 ⟨some 13, .fieldAddr 0 (.tmp 12), none, []⟩,
 ⟨some 14, .load none (.tmp 2), none, [0, 1, 2]⟩,
 ⟨some 15, .nilCheck (.tmp 14), none, [0, 1, 2]⟩,
 ⟨some 16, .fieldAddr 2 (.tmp 15), none, [0, 1, 2]⟩,
 ⟨some 17, .load none (.tmp 2), none, [0, 1, 2, 3, 4, 5]⟩,
 ⟨some 18, .nilCheck (.tmp 17), none, [0, 1, 2, 3, 4, 5]⟩,
 ⟨some 19, .fieldAddr 4 (.tmp 18), none, [0, 1, 2, 3, 4, 5]⟩,
 ⟨some 20, .load none (.tmp 2), none, [0, 1, 2, 3, 4, 5, 6, 7, 8]⟩,
 ⟨some 21, .nilCheck (.tmp 20), none, [0, 1, 2, 3, 4, 5, 6, 7, 8]⟩,
 ⟨some 22, .fieldAddr 6 (.tmp 21), none, [0, 1, 2, 3, 4, 5, 6, 7, 8]⟩,
 ⟨some 23, .load none (.tmp 2), none, [0, 1, 2, 3, 4, 5, 6, 7, 8, 9, 10, 11]⟩,
 ⟨some 24, .nilCheck (.tmp 23), none, [0, 1, 2, 3, 4, 5, 6, 7, 8, 9, 10, 11]⟩,
 ⟨some 25, .fieldAddr 8 (.tmp 24), none, [0, 1, 2, 3, 4, 5, 6, 7, 8, 9, 10, 11]⟩,
 ⟨some 26, .buildSlice 1 [.tmp 13, .tmp 16, .tmp 19, .tmp 22, .tmp 25], none, []⟩,
 ⟨some 27, .len false (.tmp 26), none, []⟩,
 ⟨some 28, .move (.const (.int .i64 0)), none, [0, 1, 2, 3, 4, 5, 6, 7, 8, 9, 10, 11, 12, 13, 14, 15, 16]⟩]]
theorem k_curve_narrow_r1_sg : segs k_curve_narrow_r1 = k_curve_narrow_r1s := by kernel_rfl
theorem k_curve_narrow_r1_st : statOK k_curve_narrow_r1 = true := by kernel_rfl
def k_curve_narrow_r2 : List AOper := [
  ⟨some 29, .bin .plain .lss (.tmp 28) (.tmp 27), none, []⟩]
def k_curve_narrow_r3 : List AOper := [
  ⟨some 30, .indexAddr 1 (.tmp 26) (.tmp 28), none, []⟩,
 ⟨some 31, .load none (.tmp 30), none, []⟩,
 ⟨some 6, .box (.const (.nilptr)), none, []⟩,
 ⟨none, .store 1 (.tmp 6) (.tmp 31), none, []⟩]
def k_curve_narrow_r4 : List AOper := [
  ⟨some 32, .load none (.tmp 6), none, []⟩,
 ⟨some 33, .nilCheck (.tmp 32), none, []⟩,
 ⟨some 34, .load (some (2)) (.tmp 33), none, []⟩,
 ⟨some 7, .box (.const (.agg [.int .i64 0, .int .i64 0])), none, []⟩,
 ⟨none, .store 2 (.tmp 7) (.tmp 34), none, []⟩]
def k_curve_narrow_r5 : List AOper := [
  ⟨some 35, .makeFunc (.func 47) [] [.tmp 6, .tmp 2, .tmp 3], none, []⟩,
 ⟨some 8, .box (.const (.nilfn)), none, []⟩,
 ⟨none, .store 1 (.tmp 8) (.tmp 35), none, []⟩]
def k_curve_narrow_r6 : List AOper := [
  ⟨some 36, .makeFunc (.func 48) [] [.tmp 8, .tmp 3], none, []⟩,
 ⟨some 9, .move (.tmp 36), none, []⟩]
def k_curve_narrow_r7 : List AOper := [
  ⟨some 37, .makeFunc (.func 49) [] [.tmp 8, .tmp 3], none, []⟩,
 ⟨some 10, .move (.tmp 37), none, []⟩]
def k_curve_narrow_r8 : List AOper := [
  ⟨some 38, .load none (.tmp 6), none, []⟩,
 ⟨some 39, .load none (.tmp 2), none, [0]⟩,
 ⟨some 40, .nilCheck (.tmp 39), none, [0]⟩,
 ⟨some 41, .fieldAddr 2 (.tmp 40), none, [0]⟩,
 ⟨some 42, .bin .ptr .eql (.tmp 38) (.tmp 41), none, []⟩]
def k_curve_narrow_r8s : List (List AOper) := [
  [
  ⟨some 38, .load none (.tmp 6), none, []⟩,
 ⟨some 39, .load none (.tmp 2), none, [0]⟩,
 ⟨some 40, .nilCheck (.tmp 39), none, [0]⟩,
 ⟨some 41, .fieldAddr 2 (.tmp 40), none, [0]⟩], 
  [
  ⟨some 42, .bin .ptr .eql (.tmp 38) (.tmp 41), none, []⟩]]
theorem k_curve_narrow_r8_sg : segs k_curve_narrow_r8 = k_curve_narrow_r8s := by kernel_rfl
theorem k_curve_narrow_r8_st : statOK k_curve_narrow_r8 = true := by kernel_rfl
def k_curve_narrow_r9 : List AOper := [
  ⟨some 43, .move (.tmp 10), none, []⟩,
 ⟨some 44, .move (.tmp 9), none, []⟩,
 ⟨some 9, .move (.tmp 43), none, []⟩,
 ⟨some 10, .move (.tmp 44), none, []⟩]
def k_curve_narrow_r10 : List AOper := [
  ⟨some 45, .load none (.tmp 6), none, []⟩,
 ⟨some 46, .load (some (2)) (.tmp 7), none, [0]⟩,
 ⟨some 47, .move (.tmp 9), none, [0, 1]⟩,
 ⟨some 48, .move (.tmp 10), none, [0, 1, 2]⟩,
 ⟨some 49, .call (.const (.fn (.func 50) [] [])) [.tmp 46, .tmp 47, .tmp 48], none, [0]⟩,
 ⟨some 50, .nilCheck (.tmp 45), none, []⟩,
 ⟨none, .store 2 (.tmp 50) (.tmp 49), none, []⟩]
def k_curve_narrow_r10s : List (List AOper) := [
  [
  ⟨some 45, .load none (.tmp 6), none, []⟩,
 ⟨some 46, .load (some (2)) (.tmp 7), none, [0]⟩,
 ⟨some 47, .move (.tmp 9), none, [0, 1]⟩,
 ⟨some 48, .move (.tmp 10), none, [0, 1, 2]⟩,
 ⟨some 49, .call (.const (.fn (.func 50) [] [])) [.tmp 46, .tmp 47, .tmp 48], none, [0]⟩], 
  [
  ⟨some 50, .nilCheck (.tmp 45), none, []⟩], 
  [
  ⟨none, .store 2 (.tmp 50) (.tmp 49), none, []⟩]]
theorem k_curve_narrow_r10_sg : segs k_curve_narrow_r10 = k_curve_narrow_r10s := by kernel_rfl
theorem k_curve_narrow_r10_st : statOK k_curve_narrow_r10 = true := by kernel_rfl
def k_curve_narrow_r11 : List AOper := [
  ⟨some 51, .load none (.tmp 6), none, []⟩,
 ⟨some 52, .nilCheck (.tmp 51), none, []⟩,
 ⟨some 53, .load (some (2)) (.tmp 52), none, []⟩,
 ⟨some 54, .load (some (2)) (.const (.rptr (.agg [.int .i64 1, .int .i64 0]) 0)), none, [0, 1, 2]⟩,
 ⟨some 55, .eqAgg false [.int, .int] (.tmp 53) (.tmp 54), none, []⟩]
def k_curve_narrow_r11s : List (List AOper) := [
  [
  ⟨some 51, .load none (.tmp 6), none, []⟩,
 ⟨some 52, .nilCheck (.tmp 51), none, []⟩,
 ⟨some 53, .load (some (2)) (.tmp 52), none, []⟩,
 ⟨some 54, .load (some (2)) (.const (.rptr (.agg [.int .i64 1, .int .i64 0]) 0)), none, [0, 1, 2]⟩], 
  [
  ⟨some 55, .eqAgg false [.int, .int] (.tmp 53) (.tmp 54), none, []⟩]]
theorem k_curve_narrow_r11_sg : segs k_curve_narrow_r11 = k_curve_narrow_r11s := by kernel_rfl
theorem k_curve_narrow_r11_st : statOK k_curve_narrow_r11 = true := by kernel_rfl
def k_curve_narrow_r12 : List AOper := [
  ⟨some 4, .move (.const (.bool false)), none, []⟩]
def k_curve_narrow_r13 : List AOper := [
  ⟨some 56, .bin .plain .add (.tmp 28) (.const (.int .i64 1)), none, []⟩,
 ⟨some 28, .move (.tmp 56), none, []⟩]
def k_curve_narrow_r14 : ACode := (.seq (.reg k_curve_narrow_r2 false) (.seq (.cond (.tmp 29) .skip (.exit 0)) (.seq (.block 1 (.seq (.reg k_curve_narrow_r3 false) (.seq (.reg k_curve_narrow_r4 false) (.seq (.reg k_curve_narrow_r5 false) (.seq (.reg k_curve_narrow_r6 false) (.seq (.reg k_curve_narrow_r7 false) (.seq (.seq (.reg k_curve_narrow_r8 true) (.cond (.tmp 42) (.reg k_curve_narrow_r9 false) .skip)) (.seq (.reg k_curve_narrow_r10 true) (.seq (.reg k_curve_narrow_r11 true) (.cond (.tmp 55) (.seq (.reg k_curve_narrow_r12 false) .ret) .skip)))))))))) (.reg k_curve_narrow_r13 false))))
def k_curve_narrow_r15 : List AOper := [
  ⟨some 4, .move (.const (.bool true)), none, []⟩]
def k_curve_narrow : AFun := { params := 2, ntmps := 57, body := (.seq (.reg k_curve_narrow_r0 false) (.seq (.seq (.reg k_curve_narrow_r1 true) (.block 0 (.loop k_curve_narrow_r14))) (.seq (.reg k_curve_narrow_r15 false) .ret))), res := [.tmp 4] }
theorem k_curve_narrow_ok : cfun Tryd.prog Tryd.f29 = k_curve_narrow := by kernel_rfl

def k_curve_narrow_1_r0 : List AOper := [
  ⟨some 5, .box (.const (.agg [.int .i64 0, .int .i64 0])), none, []⟩]
def k_curve_narrow_1_r1 : List AOper := [
  ⟨some 6, .load none (.tmp 1), none, []⟩,
 ⟨some 7, .move (.tmp 0), none, []⟩,
 ⟨some 8, .move (.tmp 0), none, []⟩,
 ⟨some 9, .build [.int .i64 0, .int .i64 0] [(0, 1, .tmp 7), (1, 1, .tmp 8)], none, []⟩,
 ⟨some 10, .nilCheck (.tmp 6), none, []⟩,
 ⟨none, .store 2 (.tmp 10) (.tmp 9), none, []⟩]
def k_curve_narrow_1_r2 : List AOper := [
  ⟨some 11, .load none (.tmp 2), none, []⟩,
 ⟨some 12, .nilCheck (.tmp 11), none, []⟩,
 ⟨some 13, .load (some (10)) (.tmp 12), none, []⟩,
 ⟨some 14, .fieldAddr 0 (.tmp 3), none, [0, 1, 2]⟩,
 ⟨some 15, .load none (.tmp 14), none, [0, 1, 2]⟩,
 ⟨some 16, .fieldAddr 1 (.tmp 3), none, [0, 1, 2, 3, 4]⟩,
 ⟨some 17, .load none (.tmp 16), none, [0, 1, 2, 3, 4]⟩,
 ⟨some 18, .call (.const (.fn (.func 36) [] [])) [.tmp 13, .tmp 15, .tmp 17], none, []⟩,
 ⟨none, .store 2 (.tmp 5) (.tmp 18), none, []⟩]
def k_curve_narrow_1_r2s : List (List AOper) := [
  [
  ⟨some 11, .load none (.tmp 2), none, []⟩,
 ⟨some 12, .nilCheck (.tmp 11), none, []⟩,
 ⟨some 13, .load (some (10)) (.tmp 12), none, []⟩,
 ⟨some 14, .fieldAddr 0 (.tmp 3), none, [0, 1, 2]⟩,
 ⟨some 15, .load none (.tmp 14), none, [0, 1, 2]⟩,
 ⟨some 16, .fieldAddr 1 (.tmp 3), none, [0, 1, 2, 3, 4]⟩,
 ⟨some 17, .load none (.tmp 16), none, [0, 1, 2, 3, 4]⟩], 
  [
  ⟨some 18, .call (.const (.fn (.func 36) [] [])) [.tmp 13, .tmp 15, .tmp 17], none, []⟩], 
  [
  ⟨none, .store 2 (.tmp 5) (.tmp 18), none, []⟩]]
theorem k_curve_narrow_1_r2_sg : segs k_curve_narrow_1_r2 = k_curve_narrow_1_r2s := by kernel_rfl
theorem k_curve_narrow_1_r2_st : statOK k_curve_narrow_1_r2 = true := by kernel_rfl
def k_curve_narrow_1 : AFun := { params := 4, ntmps := 19, body := (.seq (.reg k_curve_narrow_1_r0 false) (.seq (.reg k_curve_narrow_1_r1 false) (.seq (.reg k_curve_narrow_1_r2 true) .ret))), res := [.cell 5 (some ((some (2))))] }
theorem k_curve_narrow_1_ok : cfun Tryd.prog Tryd.f47 = k_curve_narrow_1 := by kernel_rfl

def k_curve_narrow_2_r0 : List AOper := [
  ⟨some 4, .move (.const (.bool false)), none, []⟩]
def k_curve_narrow_2_r1 : List AOper := [
  ⟨some 5, .load none (.tmp 1), none, []⟩,
 ⟨some 6, .move (.tmp 0), none, [0]⟩,
 ⟨some 7, .call (.tmp 5) [.tmp 6], none, []⟩,
 ⟨some 8, .field none 1 (.tmp 7), none, []⟩,
 ⟨some 9, .fieldAddr 2 (.tmp 2), none, [0, 1, 2, 3]⟩,
 ⟨some 10, .fieldAddr 0 (.tmp 9), none, [0, 1, 2, 3]⟩,
 ⟨some 11, .load none (.tmp 10), none, [0, 1, 2, 3]⟩,
 ⟨some 12, .bin .plain .lss (.tmp 8) (.tmp 11), none, []⟩,
 ⟨some 4, .move (.tmp 12), none, []⟩]
def k_curve_narrow_2_r1s : List (List AOper) := [
  [
  ⟨some 5, .load none (.tmp 1), none, []⟩,
 ⟨some 6, .move (.tmp 0), none, [0]⟩,
 ⟨some 7, .call (.tmp 5) [.tmp 6], none, []⟩,
 ⟨some 8, .field none 1 (.tmp 7), none, []⟩,
 ⟨some 9, .fieldAddr 2 (.tmp 2), none, [0, 1, 2, 3]⟩,
 ⟨some 10, .fieldAddr 0 (.tmp 9), none, [0, 1, 2, 3]⟩,
 ⟨some 11, .load none (.tmp 10), none, [0, 1, 2, 3]⟩], 
  [
  ⟨some 12, .bin .plain .lss (.tmp 8) (.tmp 11), none, []⟩], 
  [
  ⟨some 4, .move (.tmp 12), none, []⟩]]
theorem k_curve_narrow_2_r1_sg : segs k_curve_narrow_2_r1 = k_curve_narrow_2_r1s := by kernel_rfl
theorem k_curve_narrow_2_r1_st : statOK k_curve_narrow_2_r1 = true := by kernel_rfl
def k_curve_narrow_2 : AFun := { params := 3, ntmps := 13, body := (.seq (.reg k_curve_narrow_2_r0 false) (.seq (.reg k_curve_narrow_2_r1 true) .ret)), res := [.tmp 4] }
theorem k_curve_narrow_2_ok : cfun Tryd.prog Tryd.f48 = k_curve_narrow_2 := by kernel_rfl

def k_curve_narrow_3_r0 : List AOper := [
  ⟨some 4, .move (.const (.bool false)), none, []⟩]
def k_curve_narrow_3_r1 : List AOper := [
  ⟨some 5, .load none (.tmp 1), none, []⟩,
 ⟨some 6, .move (.tmp 0), none, [0]⟩,
 ⟨some 7, .call (.tmp 5) [.tmp 6], none, []⟩,
 ⟨some 8, .field none 0 (.tmp 7), none, []⟩,
 ⟨some 9, .fieldAddr 2 (.tmp 2), none, [0, 1, 2, 3]⟩,
 ⟨some 10, .fieldAddr 1 (.tmp 9), none, [0, 1, 2, 3]⟩,
 ⟨some 11, .load none (.tmp 10), none, [0, 1, 2, 3]⟩,
 ⟨some 12, .bin .plain .gtr (.tmp 8) (.tmp 11), none, []⟩,
 ⟨some 4, .move (.tmp 12), none, []⟩]
def k_curve_narrow_3_r1s : List (List AOper) := [
  [
  ⟨some 5, .load none (.tmp 1), none, []⟩,
 ⟨some 6, .move (.tmp 0), none, [0]⟩,
 ⟨some 7, .call (.tmp 5) [.tmp 6], none, []⟩,
 ⟨some 8, .field none 0 (.tmp 7), none, []⟩,
 ⟨some 9, .fieldAddr 2 (.tmp 2), none, [0, 1, 2, 3]⟩,
 ⟨some 10, .fieldAddr 1 (.tmp 9), none, [0, 1, 2, 3]⟩,
 ⟨some 11, .load none (.tmp 10), none, [0, 1, 2, 3]⟩], 
  [
  ⟨some 12, .bin .plain .gtr (.tmp 8) (.tmp 11), none, []⟩], 
  [
  ⟨some 4, .move (.tmp 12), none, []⟩]]
theorem k_curve_narrow_3_r1_sg : segs k_curve_narrow_3_r1 = k_curve_narrow_3_r1s := by kernel_rfl
theorem k_curve_narrow_3_r1_st : statOK k_curve_narrow_3_r1 = true := by kernel_rfl
def k_curve_narrow_3 : AFun := { params := 3, ntmps := 13, body := (.seq (.reg k_curve_narrow_3_r0 false) (.seq (.reg k_curve_narrow_3_r1 true) .ret)), res := [.tmp 4] }
theorem k_curve_narrow_3_ok : cfun Tryd.prog Tryd.f49 = k_curve_narrow_3 := by kernel_rfl

def k_curve_kept_r0 : List AOper := [
  ⟨some 3, .box (.tmp 0), none, []⟩,
 ⟨some 4, .box (.tmp 1), none, []⟩,
 ⟨some 5, .box (.tmp 2), none, []⟩,
 ⟨some 6, .box (.const (.agg [.int .i64 0, .int .i64 0])), none, []⟩]
def k_curve_kept_r1 : List AOper := [
  ⟨some 10, .fieldAddr 1 (.tmp 3), none, []⟩,
 ⟨some 11, .load none (.tmp 10), none, []⟩,
 ⟨some 12, .fieldAddr 0 (.tmp 3), none, []⟩,
 ⟨some 13, .load none (.tmp 12), none, []⟩,
 ⟨some 14, .bin .plain .sub (.tmp 11) (.tmp 13), none, []⟩,
 ⟨some 15, .bin .plain .add (.tmp 14) (.const (.int .i64 1)), none, []⟩,
 ⟨some 7, .move (.tmp 15), none, []⟩]
def k_curve_kept_r2 : List AOper := [
  ⟨some 16, .move (.tmp 7), none, []⟩,
 ⟨some 17, .makeFunc (.func 69) [] [.tmp 4, .tmp 3], none, []⟩,
 ⟨some 18, .call (.const (.fn (.func 68) [] [])) [.tmp 16, .tmp 17], none, []⟩,
 ⟨some 8, .move (.tmp 18), none, []⟩]
def k_curve_kept_r3 : List AOper := [
  ⟨some 19, .move (.tmp 7), none, []⟩,
 ⟨some 20, .makeFunc (.func 70) [] [.tmp 5, .tmp 3], none, []⟩,
 ⟨some 21, .call (.const (.fn (.func 68) [] [])) [.tmp 19, .tmp 20], none, []⟩,
 ⟨some 9, .move (.tmp 21), none, []⟩]
def k_curve_kept_r4 : List AOper := [
  ⟨some 22, .move (.tmp 8), none, []⟩,
 ⟨some 23, .move (.tmp 9), none, []⟩,
 ⟨some 24, .bin .plain .geq (.tmp 22) (.tmp 23), none, []⟩]
def k_curve_kept_r5 : List AOper := [
  ⟨some 25, .load (some (2)) (.const (.rptr (.agg [.int .i64 1, .int .i64 0]) 0)), none, []⟩,
 ⟨none, .store 2 (.tmp 6) (.tmp 25), none, []⟩]
def k_curve_kept_r6 : List AOper := [
  ⟨some 26, .fieldAddr 0 (.tmp 3), none, []⟩,
 ⟨some 27, .load none (.tmp 26), none, []⟩,
 ⟨some 28, .move (.tmp 8), none, []⟩,
 ⟨some 29, .bin .plain .add (.tmp 27) (.tmp 28), none, []⟩,
 ⟨some 30, .fieldAddr 0 (.tmp 3), none, []⟩,
 ⟨some 31, .load none (.tmp 30), none, []⟩,
 ⟨some 32, .move (.tmp 9), none, []⟩,
 ⟨some 33, .bin .plain .add (.tmp 31) (.tmp 32), none, []⟩,
 ⟨some 34, .bin .plain .sub (.tmp 33) (.const (.int .i64 1)), none, []⟩,
 ⟨some 35, .build [.int .i64 0, .int .i64 0] [(0, 1, .tmp 29), (1, 1, .tmp 34)], none, []⟩,
 ⟨none, .store 2 (.tmp 6) (.tmp 35), none, []⟩]
def k_curve_kept : AFun := { params := 3, ntmps := 36, body := (.seq (.reg k_curve_kept_r0 false) (.seq (.reg k_curve_kept_r1 false) (.seq (.reg k_curve_kept_r2 false) (.seq (.reg k_curve_kept_r3 false) (.seq (.seq (.reg k_curve_kept_r4 false) (.cond (.tmp 24) (.seq (.reg k_curve_kept_r5 false) .ret) .skip)) (.seq (.reg k_curve_kept_r6 false) .ret)))))), res := [.cell 6 (some ((some (2))))] }
theorem k_curve_kept_ok : cfun Tryd.prog Tryd.f50 = k_curve_kept := by kernel_rfl

def k_curve_kept_1_r0 : List AOper := [
  ⟨some 4, .move (.const (.bool false)), none, []⟩]
def k_curve_kept_1_r1 : List AOper := [
  ⟨some 5, .load none (.tmp 1), none, []⟩,
 ⟨some 6, .fieldAddr 0 (.tmp 2), none, []⟩,
 ⟨some 7, .load none (.tmp 6), none, []⟩,
 ⟨some 8, .move (.tmp 0), none, []⟩,
 ⟨some 9, .bin .plain .add (.tmp 7) (.tmp 8), none, []⟩,
 ⟨some 10, .call (.tmp 5) [.tmp 9], none, []⟩,
 ⟨some 11, .not (.tmp 10), none, []⟩,
 ⟨some 4, .move (.tmp 11), none, []⟩]
def k_curve_kept_1 : AFun := { params := 3, ntmps := 12, body := (.seq (.reg k_curve_kept_1_r0 false) (.seq (.reg k_curve_kept_1_r1 false) .ret)), res := [.tmp 4] }
theorem k_curve_kept_1_ok : cfun Tryd.prog Tryd.f69 = k_curve_kept_1 := by kernel_rfl

def k_curve_kept_2_r0 : List AOper := [
  ⟨some 4, .move (.const (.bool false)), none, []⟩]
def k_curve_kept_2_r1 : List AOper := [
  ⟨some 5, .load none (.tmp 1), none, []⟩,
 ⟨some 6, .fieldAddr 0 (.tmp 2), none, []⟩,
 ⟨some 7, .load none (.tmp 6), none, []⟩,
 ⟨some 8, .move (.tmp 0), none, []⟩,
 ⟨some 9, .bin .plain .add (.tmp 7) (.tmp 8), none, []⟩,
 ⟨some 10, .call (.tmp 5) [.tmp 9], none, []⟩,
 ⟨some 4, .move (.tmp 10), none, []⟩]
def k_curve_kept_2 : AFun := { params := 3, ntmps := 11, body := (.seq (.reg k_curve_kept_2_r0 false) (.seq (.reg k_curve_kept_2_r1 false) .ret)), res := [.tmp 4] }
theorem k_curve_kept_2_ok : cfun Tryd.prog Tryd.f70 = k_curve_kept_2 := by kernel_rfl


abbrev n_curve_Narrow : Nat := 10
theorem e_curve_Narrow : EntryOK Tryd.prog n_curve_Narrow k_curve_Narrow := ⟨Tryd.f10, Tryd.func10, k_curve_Narrow_ok, by kernel_rfl⟩
abbrev n_curve_checkReads : Nat := 28
theorem e_curve_checkReads : EntryOK Tryd.prog n_curve_checkReads k_curve_checkReads := ⟨Tryd.f28, Tryd.func28, k_curve_checkReads_ok, by kernel_rfl⟩
abbrev n_curve_narrow : Nat := 29
theorem e_curve_narrow : EntryOK Tryd.prog n_curve_narrow k_curve_narrow := ⟨Tryd.f29, Tryd.func29, k_curve_narrow_ok, by kernel_rfl⟩
abbrev n_curve_narrow_1 : Nat := 47
theorem e_curve_narrow_1 : EntryOK Tryd.prog n_curve_narrow_1 k_curve_narrow_1 := ⟨Tryd.f47, Tryd.func47, k_curve_narrow_1_ok, by kernel_rfl⟩
abbrev n_curve_narrow_2 : Nat := 48
theorem e_curve_narrow_2 : EntryOK Tryd.prog n_curve_narrow_2 k_curve_narrow_2 := ⟨Tryd.f48, Tryd.func48, k_curve_narrow_2_ok, by kernel_rfl⟩
abbrev n_curve_narrow_3 : Nat := 49
theorem e_curve_narrow_3 : EntryOK Tryd.prog n_curve_narrow_3 k_curve_narrow_3 := ⟨Tryd.f49, Tryd.func49, k_curve_narrow_3_ok, by kernel_rfl⟩
abbrev n_curve_kept : Nat := 50
theorem e_curve_kept : EntryOK Tryd.prog n_curve_kept k_curve_kept := ⟨Tryd.f50, Tryd.func50, k_curve_kept_ok, by kernel_rfl⟩
abbrev n_curve_kept_1 : Nat := 69
theorem e_curve_kept_1 : EntryOK Tryd.prog n_curve_kept_1 k_curve_kept_1 := ⟨Tryd.f69, Tryd.func69, k_curve_kept_1_ok, by kernel_rfl⟩
abbrev n_curve_kept_2 : Nat := 70
theorem e_curve_kept_2 : EntryOK Tryd.prog n_curve_kept_2 k_curve_kept_2 := ⟨Tryd.f70, Tryd.func70, k_curve_kept_2_ok, by kernel_rfl⟩

attribute [go_sem] k_curve_Narrow_r0 k_curve_Narrow_r1 k_curve_Narrow_r2 k_curve_Narrow_r3 k_curve_Narrow_r4 k_curve_Narrow_r5
attribute [go_sem] k_curve_Narrow_r6 k_curve_Narrow_r7 k_curve_Narrow_r8 k_curve_Narrow_r9 k_curve_Narrow_r10 k_curve_Narrow_r11 k_curve_Narrow_r12 k_curve_Narrow_r14 k_curve_checkReads_r0 k_curve_checkReads_r1
attribute [go_sem] k_curve_checkReads_r2 k_curve_checkReads_r3 k_curve_checkReads_r4 k_curve_checkReads_r5 k_curve_checkReads_r6 k_curve_checkReads_r7 k_curve_checkReads_r8 k_curve_checkReads_r9 k_curve_checkReads_r10 k_curve_checkReads_r12 k_curve_narrow_r0 k_curve_narrow_r1s
attribute [go_sem] k_curve_narrow_r2 k_curve_narrow_r3 k_curve_narrow_r4 k_curve_narrow_r5 k_curve_narrow_r6 k_curve_narrow_r7 k_curve_narrow_r8s k_curve_narrow_r9 k_curve_narrow_r10s k_curve_narrow_r11s k_curve_narrow_r12 k_curve_narrow_r13
attribute [go_sem] k_curve_narrow_r15 k_curve_narrow_1_r0 k_curve_narrow_1_r1 k_curve_narrow_1_r2s k_curve_narrow_2_r0 k_curve_narrow_2_r1s k_curve_narrow_3_r0 k_curve_narrow_3_r1s k_curve_kept_r0 k_curve_kept_r1 k_curve_kept_r2 k_curve_kept_r3
attribute [go_sem] k_curve_kept_r4 k_curve_kept_r5 k_curve_kept_r6 k_curve_kept_1_r0 k_curve_kept_1_r1 k_curve_kept_2_r0 k_curve_kept_2_r1 k_curve_narrow_r8_sg k_curve_narrow_r1_sg k_curve_narrow_1_r2_sg k_curve_narrow_3_r1_sg
attribute [go_sem] k_curve_narrow_2_r1_sg k_curve_narrow_r11_sg k_curve_narrow_r10_sg k_curve_narrow_r8_st k_curve_narrow_r1_st k_curve_narrow_1_r2_st k_curve_narrow_3_r1_st k_curve_narrow_2_r1_st k_curve_narrow_r11_st
attribute [go_sem] k_curve_narrow_r10_st k_curve_Narrow k_curve_checkReads k_curve_narrow k_curve_narrow_1 k_curve_narrow_2 k_curve_narrow_3 k_curve_kept k_curve_kept_1 k_curve_kept_2
end Go.Proofs

namespace Go.Proofs
open Go Go.Sx Go.Fam
attribute [local irreducible] Run

def Lw.get (l : Lw) : Nat → Rg
  | 0 => l.perv | 1 => l.gain | 2 => l.shift | 3 => l.full | _ => l.part
def Lw.set (l : Lw) (k : Nat) (r : Rg) : Lw :=
  match k with
  | 0 => { l with perv := r } | 1 => { l with gain := r } | 2 => { l with shift := r } | 3 => { l with full := r } | _ => { l with part := r }
theorem Lw.set_in {l : Lw} (h : LwOK l) (k : Nat) {x : Int} (h1 : (l.get k).lo ≤ x) (h2 : x ≤ (l.get k).hi) : LwOK (l.set k ⟨x, x⟩) := by
  obtain ⟨p1, p2, p3, p4, p5⟩ := h
  match k with
  | 0 =>
    have h1 : l.perv.lo ≤ x := h1
    have h2 : x ≤ l.perv.hi := h2
    exact ⟨⟨(by omega : (0 : Int) ≤ x), Int.le_refl x, by show x ≤ _; omega⟩, p2, p3, p4, p5⟩
  | 1 =>
    have h1 : l.gain.lo ≤ x := h1
    have h2 : x ≤ l.gain.hi := h2
    exact ⟨p1, ⟨(by omega : (1 : Int) ≤ x), Int.le_refl x, by show x ≤ _; omega⟩, p3, p4, p5⟩
  | 2 =>
    have h1 : l.shift.lo ≤ x := h1
    have h2 : x ≤ l.shift.hi := h2
    exact ⟨p1, p2, ⟨(by omega : (-1000000 : Int) ≤ x), Int.le_refl x, by show x ≤ _; omega⟩, p4, p5⟩
  | 3 =>
    have h1 : l.full.lo ≤ x := h1
    have h2 : x ≤ l.full.hi := h2
    exact ⟨p1, p2, p3, ⟨(by omega : (0 : Int) ≤ x), Int.le_refl x, by show x ≤ _; omega⟩, p5⟩
  | k + 4 =>
    have h1 : l.part.lo ≤ x := h1
    have h2 : x ≤ l.part.hi := h2
    exact ⟨p1, p2, p3, p4, ⟨(by omega : (0 : Int) ≤ x), Int.le_refl x, by show x ≤ _; omega⟩⟩

structure Rd where
  g : Int
  p : Int
  lo : Int
  hi : Int
def Rd.v (d : Rd) : AVal := .agg [.int .i64 d.g, .int .i64 d.p, .int .i64 d.lo, .int .i64 d.hi]
def Rd.ok (d : Rd) : Prop := (-1000000 ≤ d.g ∧ d.g ≤ 1000000) ∧ 0 ≤ d.p ∧ d.p ≤ 1000000

def Lr (m : Lw) : Row := .cells false 10 [m.v]
def Lc : Row := .cells false 1 [.ptr 0 0 0 1]
def Rr (d : Rd) : Row := .cells false 4 [d.v]
def Pc (k : Nat) : Row := .cells false 1 [.ptr 0 0 (2 * k) 1]
def Wv (a : Nat) : AVal := .fn (.func n_curve_narrow_1) [] [.ptr a 0 0 1, .ptr 1 0 0 1, .ptr 2 0 0 1]
def Wc (a : Nat) : Row := .cells false 1 [Wv a]
@[go_sem] theorem lr_bel (m : Lw) (S : Nat → Prop) : (Lr m).bel S = True := by unfold Lr; rw [row_bel_cells]; simp only [go_sem, Lw.v, Lw.cs]
@[go_sem] theorem lr_nv (m : Lw) : (Lr m).nv = True := by unfold Lr; exact eq_true (row_nv_cells _ _ (by simp only [go_sem, Lw.v, Lw.cs]))
@[go_sem] theorem rr_bel (d : Rd) (S : Nat → Prop) : (Rr d).bel S = True := by unfold Rr; rw [row_bel_cells]; simp only [go_sem, Rd.v]

theorem with_ok {m : Lw} (k : Nat) (hk : k < 5) (v : Rg) (d : Rd) (hd : d.ok) (x : Int) (h : LwOK (m.set k ⟨x, x⟩)) :
    Ans Tryd.prog n_curve_narrow_1 [.int .i64 x, .ptr 3 0 0 1, .ptr 1 0 0 1, .ptr 2 0 0 1] [some (Lr (m.set k v)), some Lc, some (Rr d), some (Pc k)]
      (curOf (m.set k ⟨x, x⟩) d.g d.p).v [some (Lr (m.set k ⟨x, x⟩)), some Lc, some (Rr d), some (Pc k)] := by
  have hc := current_ok (m.set k ⟨x, x⟩) h d.g d.p hd.1 hd.2
  refine spec_run e_curve_narrow_1 fun G => ?_
  match k, hk with
  | 0, _ =>
    simp only [go_sem, Lr, Lc, Rr, Pc, Lw.v, Lw.cs, Lw.set, Rd.v] at hc ⊢
    refine cP hc ?_
    simp only [go_sem, Rg.v]
    exact ⟨_, rfl⟩
  | 1, _ =>
    simp only [go_sem, Lr, Lc, Rr, Pc, Lw.v, Lw.cs, Lw.set, Rd.v] at hc ⊢
    refine cP hc ?_
    simp only [go_sem, Rg.v]
    exact ⟨_, rfl⟩
  | 2, _ =>
    simp only [go_sem, Lr, Lc, Rr, Pc, Lw.v, Lw.cs, Lw.set, Rd.v] at hc ⊢
    refine cP hc ?_
    simp only [go_sem, Rg.v]
    exact ⟨_, rfl⟩
  | 3, _ =>
    simp only [go_sem, Lr, Lc, Rr, Pc, Lw.v, Lw.cs, Lw.set, Rd.v] at hc ⊢
    refine cP hc ?_
    simp only [go_sem, Rg.v]
    exact ⟨_, rfl⟩
  | 4, _ =>
    simp only [go_sem, Lr, Lc, Rr, Pc, Lw.v, Lw.cs, Lw.set, Rd.v] at hc ⊢
    refine cP hc ?_
    simp only [go_sem, Rg.v]
    exact ⟨_, rfl⟩

def tooLow (m : Lw) (k : Nat) (d : Rd) (x : Int) : Bool := decide ((curOf (m.set k ⟨x, x⟩) d.g d.p).hi < d.lo)
def tooHigh (m : Lw) (k : Nat) (d : Rd) (x : Int) : Bool := decide (d.hi < (curOf (m.set k ⟨x, x⟩) d.g d.p).lo)
@[go_sem] theorem pc_bel (k : Nat) (S : Nat → Prop) : (Pc k).bel S = S 0 := by unfold Pc; rw [row_bel_cells]; simp only [go_sem]
@[go_sem] theorem lc_bel (S : Nat → Prop) : Lc.bel S = S 0 := by unfold Lc; rw [row_bel_cells]; simp only [go_sem]

theorem low_ok {m : Lw} (k : Nat) (hk : k < 5) (v : Rg) (d : Rd) (hd : d.ok) (x : Int) (h : LwOK (m.set k ⟨x, x⟩)) :
    Ans Tryd.prog n_curve_narrow_2 [.int .i64 x, .ptr 4 0 0 1, .ptr 2 0 0 1] [some (Lr (m.set k v)), some Lc, some (Rr d), some (Pc k), some (Wc 3)]
      (.bool (tooLow m k d x)) [some (Lr (m.set k ⟨x, x⟩)), some Lc, some (Rr d), some (Pc k), some (Wc 3)] := by
  have hw := with_ok k hk v d hd x h
  refine spec_run e_curve_narrow_2 fun G => ?_
  simp only [go_sem, Wc, Wv]
  refine dS1 hw 0 [1, 2, 3] (by decide) ⟨rfl, rfl, rfl, rfl, trivial⟩ rfl (by simp [go_sem]) ⟨by simp [go_sem], by simp [go_sem], by simp [go_sem], by simp [go_sem], trivial⟩ (by simp only [go_sem, Rg.v])
    (by simp [go_sem]) (by simp) (by simp) (by simp only [go_sem]) ?_
  show Run Tryd.prog G 5 none 2989 _ _ ⟨_, [some (Lr (m.set k ⟨x, x⟩)), some Lc, some (Rr d), some (Pc k), some (Wc 3)], []⟩ _
  simp only [go_sem, Rg.v, Rr, Rd.v]
  exact ⟨rfl, _, rfl⟩
theorem high_ok {m : Lw} (k : Nat) (hk : k < 5) (v : Rg) (d : Rd) (hd : d.ok) (x : Int) (h : LwOK (m.set k ⟨x, x⟩)) :
    Ans Tryd.prog n_curve_narrow_3 [.int .i64 x, .ptr 4 0 0 1, .ptr 2 0 0 1] [some (Lr (m.set k v)), some Lc, some (Rr d), some (Pc k), some (Wc 3)]
      (.bool (tooHigh m k d x)) [some (Lr (m.set k ⟨x, x⟩)), some Lc, some (Rr d), some (Pc k), some (Wc 3)] := by
  have hw := with_ok k hk v d hd x h
  refine spec_run e_curve_narrow_3 fun G => ?_
  simp only [go_sem, Wc, Wv]
  refine dS1 hw 0 [1, 2, 3] (by decide) ⟨rfl, rfl, rfl, rfl, trivial⟩ rfl (by simp [go_sem]) ⟨by simp [go_sem], by simp [go_sem], by simp [go_sem], by simp [go_sem], trivial⟩ (by simp only [go_sem, Rg.v])
    (by simp [go_sem]) (by simp) (by simp) (by simp only [go_sem]) ?_
  show Run Tryd.prog G 5 none 2989 _ _ ⟨_, [some (Lr (m.set k ⟨x, x⟩)), some Lc, some (Rr d), some (Pc k), some (Wc 3)], []⟩ _
  simp only [go_sem, Rg.v, Rr, Rd.v]
  exact ⟨rfl, _, rfl⟩
end Go.Proofs

namespace Go.Proofs
open Go Go.Sx Go.Fam
attribute [local irreducible] Run

def bs (p : Nat → Bool) (pr : Nat → Rg) : Nat → Nat → Nat → Rg → Nat × Rg
  | 0, i, _, w => (i, w)
  | n + 1, i, j, w => if i < j then (if p ((i + j) / 2) = true then bs p pr n i ((i + j) / 2) (pr ((i + j) / 2)) else bs p pr n ((i + j) / 2 + 1) j (pr ((i + j) / 2))) else (i, w)
theorem bs_end (p : Nat → Bool) (pr : Nat → Rg) (f i j : Nat) (w : Rg) (h : ¬ i < j) : bs p pr f i j w = (i, w) := by
  cases f <;> simp [bs, h]
theorem bs_least {p : Nat → Bool} {pr : Nat → Rg} {m : Nat} : ∀ (f i j : Nat) (w : Rg), j - i ≤ f → i ≤ m → m ≤ j → (∀ h, i ≤ h → h < j → p h = decide (m ≤ h)) → (bs p pr f i j w).1 = m
  | 0, i, j, w, h1, h2, h3, _ => by simp only [bs]; omega
  | f + 1, i, j, w, h1, h2, h3, hp => by
    simp only [bs]
    split
    · rename_i hij
      rw [hp ((i + j) / 2) (by omega) (by omega)]
      by_cases h : m ≤ (i + j) / 2
      · rw [if_pos (by simpa using h)]
        exact bs_least f _ _ _ (by omega) h2 h fun q h4 h5 => hp q h4 (by omega)
      · rw [if_neg (by simpa using h)]
        exact bs_least f _ _ _ (by omega) (by omega) h3 fun q h4 h5 => hp q (by omega) h5
    · simp only; omega

def Rc (r : Rg) : Row := .cells false 2 [r.v]
def Bv (g : Nat) : AVal := .fn (.func g) [] [.ptr 4 0 0 1, .ptr 2 0 0 1]
def Bc (g : Nat) : Row := .cells false 1 [Bv g]
@[go_sem] theorem rc_bel (r : Rg) (S : Nat → Prop) : (Rc r).bel S = True := by unfold Rc; rw [row_bel_cells]; simp only [go_sem, Rg.v]

def Probe (m : Lw) (k : Nat) (d : Rd) (g : Nat) (q : Int → Bool) (lo hi : Int) : Prop := ∀ (v : Rg) (x : Int), lo ≤ x → x ≤ hi →
  Ans Tryd.prog g [.int .i64 x, .ptr 4 0 0 1, .ptr 2 0 0 1] [some (Lr (m.set k v)), some Lc, some (Rr d), some (Pc k), some (Wc 3)]
    (.bool (q x)) [some (Lr (m.set k ⟨x, x⟩)), some Lc, some (Rr d), some (Pc k), some (Wc 3)]
def Kh (m : Lw) (k : Nat) (v : Rg) (d : Rd) (r : Rg) (gb ga : Nat) : Heap := [some (Lr (m.set k v)), some Lc, some (Rr d), some (Pc k), some (Wc 3), some (Rc r), some (Bc gb), some (Bc ga)]

variable {m : Lw} {k : Nat} {d : Rd} {gb ga : Nat} {qb qa : Int → Bool} {r : Rg}

theorem wc_bel (S : Nat → Prop) (h1 : S 1) (h2 : S 2) (h3 : S 3) : (Wc 3).bel S := by unfold Wc Wv; rw [row_bel_cells]; simp [go_sem, h1, h2, h3]
theorem bc_bel (g : Nat) (S : Nat → Prop) (h1 : S 4) (h2 : S 2) : (Bc g).bel S := by unfold Bc Bv; rw [row_bel_cells]; simp [go_sem, h1, h2]
theorem kept1_ok (hb : Probe m k d gb qb r.lo r.hi) (hr : -1000000 ≤ r.lo ∧ r.hi ≤ 1000000) (v : Rg) (i : Nat) (hi : r.lo + i ≤ r.hi) :
    Ans Tryd.prog n_curve_kept_1 [.int .i64 i, .ptr 6 0 0 1, .ptr 5 0 0 1] (Kh m k v d r gb ga) (.bool (!qb (r.lo + i))) (Kh m k ⟨r.lo + i, r.lo + i⟩ d r gb ga) := by
  have hw := hb v (r.lo + i) (by omega) hi
  have w1 : IntKind.i64.wrap (r.lo + i) = r.lo + i := w64 (by omega)
  refine spec_run e_curve_kept_1 fun G => ?_
  unfold Kh
  simp only [go_sem, Rc, Bc, Bv, Rg.v, w1]
  refine cS1 hw 0 [1, 2, 3, 4] (by decide) ⟨rfl, rfl, rfl, rfl, rfl, trivial⟩ rfl (by simp [go_sem]) ⟨by simp [go_sem], by simp [go_sem], by simp [go_sem], by simp [go_sem], wc_bel _ (by decide) (by decide) (by decide), trivial⟩ (by simp only [go_sem])
    (by simp [go_sem]) (by simp) (by simp) rfl ?_
  show Run Tryd.prog G _ none _ _ _ ⟨_, [some (Lr (m.set k ⟨r.lo + i, r.lo + i⟩)), some Lc, some (Rr d), some (Pc k), some (Wc 3), some (Rc r), some (Bc gb), some (Bc ga)], []⟩ _
  simp only [go_sem, Rc, Bc, Bv, Rg.v]
  exact ⟨_, rfl⟩

theorem kept2_ok (ha : Probe m k d ga qa r.lo r.hi) (hr : -1000000 ≤ r.lo ∧ r.hi ≤ 1000000) (v : Rg) (i : Nat) (hi : r.lo + i ≤ r.hi) :
    Ans Tryd.prog n_curve_kept_2 [.int .i64 i, .ptr 7 0 0 1, .ptr 5 0 0 1] (Kh m k v d r gb ga) (.bool (qa (r.lo + i))) (Kh m k ⟨r.lo + i, r.lo + i⟩ d r gb ga) := by
  have hw := ha v (r.lo + i) (by omega) hi
  have w1 : IntKind.i64.wrap (r.lo + i) = r.lo + i := w64 (by omega)
  refine spec_run e_curve_kept_2 fun G => ?_
  unfold Kh
  simp only [go_sem, Rc, Bc, Bv, Rg.v, w1]
  refine cS1 hw 0 [1, 2, 3, 4] (by decide) ⟨rfl, rfl, rfl, rfl, rfl, trivial⟩ rfl (by simp [go_sem]) ⟨by simp [go_sem], by simp [go_sem], by simp [go_sem], by simp [go_sem], wc_bel _ (by decide) (by decide) (by decide), trivial⟩ (by simp only [go_sem])
    (by simp [go_sem]) (by simp) (by simp) rfl ?_
  show Run Tryd.prog G _ none _ _ _ ⟨_, [some (Lr (m.set k ⟨r.lo + i, r.lo + i⟩)), some Lc, some (Rr d), some (Pc k), some (Wc 3), some (Rc r), some (Bc gb), some (Bc ga)], []⟩ _
  simp only [go_sem, Rc, Bc, Bv, Rg.v]
  exact ⟨_, rfl⟩

theorem shr_u64' (x n : Int) : shrW .u64 x n = x / 2 ^ (min n.toNat 64) := by
  unfold shrW; rw [Int.fdiv_eq_ediv_of_nonneg _ (by exact Int.pow_nonneg (by decide))]; rfl
theorem s1' (x : Int) : shrW .u64 x 1 = x / 2 := by rw [shr_u64']; rfl

theorem search_ok (n : Nat) (hn : n ≤ 1000000000) (g : Nat) (a b : Nat) (hab : a < 8 ∧ b < 8) (p : Nat → Bool) (v : Rg)
    (hp : ∀ (v : Rg) (i : Nat), i < n → Ans Tryd.prog g [.int .i64 i, .ptr a 0 0 1, .ptr b 0 0 1] (Kh m k v d r gb ga) (.bool (p i)) (Kh m k ⟨r.lo + i, r.lo + i⟩ d r gb ga)) :
    Ans Tryd.prog n_sort_Search [.int .i64 n, .fn (.func g) [] [.ptr a 0 0 1, .ptr b 0 0 1]] (Kh m k v d r gb ga) (.int .i64 (bs p (fun h => ⟨r.lo + h, r.lo + h⟩) n 0 n v).1)
      (Kh m k (bs p (fun h => ⟨r.lo + h, r.lo + h⟩) n 0 n v).2 d r gb ga) := by
  obtain ⟨pr, hpr⟩ : ∃ pr : Nat → Rg, pr = fun (h : Nat) => ⟨r.lo + h, r.lo + h⟩ := ⟨_, rfl⟩
  rw [← hpr]
  obtain ⟨out, hout⟩ : ∃ out, bs p pr n 0 n v = out := ⟨_, rfl⟩
  rw [hout]
  refine spec_run e_sort_Search fun G => ?_
  simp only [go_sem]
  refine loop_ind k_sort_Search_r7.eq_1 (fun s : Nat × Nat × Rg × Nat => s.2.1 ≤ n ∧ s.2.1 - s.1 ≤ s.2.2.2 ∧ bs p pr s.2.2.2 s.1 s.2.1 s.2.2.1 = out) (fun s => s.2.2.2)
    (fun s => ([.int .i64 n, .fn (.func g) [] [.ptr a 0 0 1, .ptr b 0 0 1], .any, .any, .int .i64 0, .int .i64 s.1, .int .i64 s.2.1] ++ List.replicate 19 .any, Kh m k s.2.2.1 d r gb ga)) (0, n, v, n) ⟨Nat.le_refl _, by simp, hout⟩ (by simp [Wk]) rfl ?_
  rintro ⟨i, j, w, f⟩ ⟨hj, hf, hb⟩ ih
  dsimp only at hj hf hb ih ⊢
  by_cases h1 : i < j
  · have h2 : (i : Int) < j := by omega
    have e1 : IntKind.i64.wrap ((i : Int) + j) = i + j := w64 (by omega)
    have e2 : IntKind.u64.wrap ((i : Int) + j) = i + j := IntWalk.u64_in _ (by omega)
    have e3 : IntKind.i64.wrap (((i : Int) + j) / 2) = (((i + j) / 2 : Nat) : Int) := by rw [w64 (by omega)]; omega
    have e4 : IntKind.i64.wrap ((((i + j) / 2 : Nat) : Int) + 1) = (((i + j) / 2 + 1 : Nat) : Int) := by rw [w64 (by omega)]; omega
    have hq := hp w ((i + j) / 2) (by omega)
    obtain ⟨f', rfl⟩ : ∃ f', f = f' + 1 := ⟨f - 1, by omega⟩
    simp only [bs, if_pos h1] at hb
    have hpe : pr ((i + j) / 2) = ⟨r.lo + (((i + j) / 2 : Nat) : Int), r.lo + (((i + j) / 2 : Nat) : Int)⟩ := by rw [hpr]
    have hK : ∀ (w : Rg), Kh m k w d r gb ga = some (Lr (m.set k w)) :: [some Lc, some (Rr d), some (Pc k), some (Wc 3), some (Rc r), some (Bc gb), some (Bc ga)] := fun _ => rfl
    simp only [go_sem, h2, e1, e2, s1', e3]
    rw [hK w, hK] at hq
    refine cS1 hq 0 [1, 2, 3, 4, 5, 6, 7] (by decide) ⟨rfl, rfl, rfl, rfl, rfl, rfl, rfl, rfl, trivial⟩ ?_ (by simp [go_sem, hab]) ⟨by simp [go_sem], by simp [go_sem], by simp [go_sem], by simp [go_sem], wc_bel _ (by decide) (by decide) (by decide), by simp [go_sem], bc_bel _ _ (by decide) (by decide), bc_bel _ _ (by decide) (by decide), trivial⟩ (by simp only [go_sem])
      (by simp [go_sem]) (by simp [Kh]) (by simp [Kh]) rfl ?_
    · have hn : ∀ a, a < 8 → nth [0, 1, 2, 3, 4, 5, 6, 7] a = a := by decide
      simp [ren, hn _ hab.1, hn _ hab.2]
    show Run Tryd.prog G _ none _ _ _ ⟨_, Kh m k ⟨r.lo + (((i + j) / 2 : Nat) : Int), r.lo + (((i + j) / 2 : Nat) : Int)⟩ d r gb ga, []⟩ _
    rw [hpe] at hb
    by_cases h3 : p ((i + j) / 2) = true
    · rw [if_pos h3] at hb
      simp only [go_sem, h3]
      exact ih (i, (i + j) / 2, _, f') (by dsimp only; omega) ⟨by dsimp only; omega, by dsimp only; omega, hb⟩ _ (by simp [Wk])
    · rw [if_neg h3] at hb
      simp only [go_sem, h3, e4]
      exact ih ((i + j) / 2 + 1, j, _, f') (by dsimp only; omega) ⟨hj, by dsimp only; omega, hb⟩ _ (by simp [Wk])
  · have h2 : ¬ (i : Int) < j := by omega
    rw [bs_end _ _ _ _ _ _ h1] at hb
    subst hb
    simp only [go_sem, h2]

def ks1 (qb : Int → Bool) (r v : Rg) : Nat × Rg := bs (fun i => !qb (r.lo + i)) (fun h => ⟨r.lo + h, r.lo + h⟩) (r.hi - r.lo + 1).toNat 0 (r.hi - r.lo + 1).toNat v
def ks2 (qb qa : Int → Bool) (r v : Rg) : Nat × Rg := bs (fun i => qa (r.lo + i)) (fun h => ⟨r.lo + h, r.lo + h⟩) (r.hi - r.lo + 1).toNat 0 (r.hi - r.lo + 1).toNat (ks1 qb r v).2
def keptR (qb qa : Int → Bool) (r v : Rg) : Rg := if (ks2 qb qa r v).1 ≤ (ks1 qb r v).1 then ⟨1, 0⟩ else ⟨r.lo + (ks1 qb r v).1, r.lo + (ks2 qb qa r v).1 - 1⟩
theorem bs_in (p : Nat → Bool) (pr : Nat → Rg) : ∀ (f i j : Nat) (w : Rg), i ≤ j → (bs p pr f i j w).1 ≤ j
  | 0, i, j, w, h => h
  | f + 1, i, j, w, h => by
    simp only [bs]
    split
    · split
      · have := bs_in p pr f i ((i + j) / 2) (pr ((i + j) / 2)) (by omega); omega
      · exact bs_in p pr f ((i + j) / 2 + 1) j (pr ((i + j) / 2)) (by omega)
    · exact h

theorem kept_ok (hb : Probe m k d gb qb r.lo r.hi) (ha : Probe m k d ga qa r.lo r.hi) (hr : -1000000 ≤ r.lo ∧ r.lo ≤ r.hi ∧ r.hi ≤ 1000000) (v : Rg) :
    Ans Tryd.prog n_curve_kept [r.v, Bv gb, Bv ga] [some (Lr (m.set k v)), some Lc, some (Rr d), some (Pc k), some (Wc 3)]
      (keptR qb qa r v).v [some (Lr (m.set k (ks2 qb qa r v).2)), some Lc, some (Rr d), some (Pc k), some (Wc 3)] := by
  obtain ⟨n, hn⟩ : ∃ n : Nat, (n : Int) = r.hi - r.lo + 1 := ⟨(r.hi - r.lo + 1).toNat, by omega⟩
  have hn' : (r.hi - r.lo + 1).toNat = n := by omega
  have S1 := search_ok (m := m) (k := k) (d := d) (r := r) (gb := gb) (ga := ga) n (by omega) n_curve_kept_1 6 5 (by decide) (fun i => !qb (r.lo + i)) v fun w i hi => kept1_ok hb (by omega) w i (by omega)
  have S2 := search_ok (m := m) (k := k) (d := d) (r := r) (gb := gb) (ga := ga) n (by omega) n_curve_kept_2 7 5 (by decide) (fun i => qa (r.lo + i)) (ks1 qb r v).2 fun w i hi => kept2_ok ha (by omega) w i (by omega)
  have b1 := bs_in (fun i => !qb (r.lo + i)) (fun h => ⟨r.lo + h, r.lo + h⟩) n 0 n v (Nat.zero_le _)
  have b2 := bs_in (fun i => qa (r.lo + i)) (fun h => ⟨r.lo + h, r.lo + h⟩) n 0 n (ks1 qb r v).2 (Nat.zero_le _)
  have E1 : bs (fun i => !qb (r.lo + i)) (fun h => ⟨r.lo + h, r.lo + h⟩) n 0 n v = ks1 qb r v := by unfold ks1; rw [hn']
  have E2 : bs (fun i => qa (r.lo + i)) (fun h => ⟨r.lo + h, r.lo + h⟩) n 0 n (ks1 qb r v).2 = ks2 qb qa r v := by unfold ks2; rw [hn']
  rw [E1] at S1 b1
  rw [E2] at S2 b2
  unfold keptR
  generalize ks1 qb r v = s1 at *
  generalize ks2 qb qa r v = s2 at *
  clear E1 E2
  have w1 : IntKind.i64.wrap (r.hi - r.lo) = r.hi - r.lo := w64 (by omega)
  have w2 : IntKind.i64.wrap (r.hi - r.lo + 1) = n := by rw [w64 (by omega)]; exact hn.symm
  have w3 : IntKind.i64.wrap (r.lo + (s1.1 : Int)) = r.lo + s1.1 := w64 (by omega)
  have w4 : IntKind.i64.wrap (r.lo + (s2.1 : Int)) = r.lo + s2.1 := w64 (by omega)
  have w5 : IntKind.i64.wrap (r.lo + (s2.1 : Int) - 1) = r.lo + s2.1 - 1 := w64 (by omega)
  have hK : ∀ (w : Rg), Kh m k w d r gb ga = some (Lr (m.set k w)) :: [some Lc, some (Rr d), some (Pc k), some (Wc 3), some (Rc r), some (Bc gb), some (Bc ga)] := fun _ => rfl
  rw [hK, hK] at S1 S2
  refine spec_run e_curve_kept fun G => ?_
  simp only [go_sem, Bv, Rg.v, w1, w2]
  refine cS1 S1 0 [1, 2, 3, 4, 5, 6, 7] (by decide) ⟨rfl, rfl, rfl, rfl, rfl, rfl, rfl, rfl, trivial⟩ rfl (by simp [go_sem]) ⟨by simp [go_sem], by simp [go_sem], by simp [go_sem], by simp [go_sem], wc_bel _ (by decide) (by decide) (by decide), by simp [go_sem], bc_bel _ _ (by decide) (by decide), bc_bel _ _ (by decide) (by decide), trivial⟩ (by simp only [go_sem])
      (by simp [go_sem]) (by simp) (by simp) rfl ?_
  show Run Tryd.prog G _ none _ _ _ ⟨_, [some (Lr (m.set k s1.2)), some Lc, some (Rr d), some (Pc k), some (Wc 3), some (Rc r), some (Bc gb), some (Bc ga), some (.cells false 2 [.agg [.int .i64 0, .int .i64 0]])], []⟩ _
  simp only [go_sem]
  refine cS1 S2 0 [1, 2, 3, 4, 5, 6, 7] (by decide) ⟨rfl, rfl, rfl, rfl, rfl, rfl, rfl, rfl, trivial⟩ rfl (by simp [go_sem]) ⟨by simp [go_sem], by simp [go_sem], by simp [go_sem], by simp [go_sem], wc_bel _ (by decide) (by decide) (by decide), by simp [go_sem], bc_bel _ _ (by decide) (by decide), bc_bel _ _ (by decide) (by decide), trivial⟩ (by simp only [go_sem])
      (by simp [go_sem]) (by simp) (by simp) rfl ?_
  show Run Tryd.prog G _ none _ _ _ ⟨_, [some (Lr (m.set k s2.2)), some Lc, some (Rr d), some (Pc k), some (Wc 3), some (Rc r), some (Bc gb), some (Bc ga), some (.cells false 2 [.agg [.int .i64 0, .int .i64 0]])], []⟩ _
  by_cases hc : s2.1 ≤ s1.1
  · have hc' : (s2.1 : Int) ≤ s1.1 := by omega
    rw [if_pos hc]
    simp only [go_sem, hc', Rc, Rg.v]
    exact ⟨_, rfl⟩
  · have hc' : ¬ (s2.1 : Int) ≤ s1.1 := by omega
    rw [if_neg hc]
    simp only [go_sem, hc', Rc, Rg.v, w3, w4, w5]
    exact ⟨_, rfl⟩
end Go.Proofs

namespace Go.Proofs
open Go Go.Sx Go.Fam
attribute [local irreducible] Run

def nar1 (m : Lw) (k : Nat) (d : Rd) : Rg := if k = 1 then keptR (tooHigh m k d) (tooLow m k d) (m.get k) (m.get k) else keptR (tooLow m k d) (tooHigh m k d) (m.get k) (m.get k)
def narK : List Nat → Lw → Rd → Bool × Lw
  | [], m, _ => (true, m)
  | k :: ks, m, d => if (nar1 m k d).lo = 1 ∧ (nar1 m k d).hi = 0 then (false, m.set k (nar1 m k d)) else narK ks (m.set k (nar1 m k d)) d

theorem keptR_in (qb qa : Int → Bool) {r v : Rg} (h : r.lo ≤ r.hi) : keptR qb qa r v = ⟨1, 0⟩ ∨ (r.lo ≤ (keptR qb qa r v).lo ∧ (keptR qb qa r v).lo ≤ (keptR qb qa r v).hi ∧ (keptR qb qa r v).hi ≤ r.hi) := by
  have b2 : (ks2 qb qa r v).1 ≤ (r.hi - r.lo + 1).toNat := bs_in _ _ _ 0 _ _ (Nat.zero_le _)
  unfold keptR
  split
  · exact .inl rfl
  · refine .inr ⟨?_, ?_, ?_⟩ <;> dsimp only <;> omega
theorem Lw.get_in {l : Lw} (h : LwOK l) (k : Nat) : -1000000 ≤ (l.get k).lo ∧ (l.get k).lo ≤ (l.get k).hi ∧ (l.get k).hi ≤ 1000000 := by
  obtain ⟨p1, p2, p3, p4, p5⟩ := h
  match k with
  | 0 => simp only [Lw.get]; omega
  | 1 => simp only [Lw.get]; omega
  | 2 => simp only [Lw.get]; omega
  | 3 => simp only [Lw.get]; omega
  | k + 4 => simp only [Lw.get]; omega
theorem Lw.set_get (l : Lw) (k : Nat) : l.set k (l.get k) = l := by
  match k with
  | 0 => rfl
  | 1 => rfl
  | 2 => rfl
  | 3 => rfl
  | k + 4 => rfl
theorem Lw.set_rg {l : Lw} (h : LwOK l) (k : Nat) {r : Rg} (h1 : (l.get k).lo ≤ r.lo) (h2 : r.lo ≤ r.hi) (h3 : r.hi ≤ (l.get k).hi) : LwOK (l.set k r) := by
  obtain ⟨p1, p2, p3, p4, p5⟩ := h
  match k with
  | 0 =>
    have h1 : l.perv.lo ≤ r.lo := h1
    have h3 : r.hi ≤ l.perv.hi := h3
    exact ⟨⟨by show 0 ≤ r.lo; omega, h2, by show r.hi ≤ _; omega⟩, p2, p3, p4, p5⟩
  | 1 =>
    have h1 : l.gain.lo ≤ r.lo := h1
    have h3 : r.hi ≤ l.gain.hi := h3
    exact ⟨p1, ⟨by show 1 ≤ r.lo; omega, h2, by show r.hi ≤ _; omega⟩, p3, p4, p5⟩
  | 2 =>
    have h1 : l.shift.lo ≤ r.lo := h1
    have h3 : r.hi ≤ l.shift.hi := h3
    exact ⟨p1, p2, ⟨by show -1000000 ≤ r.lo; omega, h2, by show r.hi ≤ _; omega⟩, p4, p5⟩
  | 3 =>
    have h1 : l.full.lo ≤ r.lo := h1
    have h3 : r.hi ≤ l.full.hi := h3
    exact ⟨p1, p2, p3, ⟨by show 0 ≤ r.lo; omega, h2, by show r.hi ≤ _; omega⟩, p5⟩
  | k + 4 =>
    have h1 : l.part.lo ≤ r.lo := h1
    have h3 : r.hi ≤ l.part.hi := h3
    exact ⟨p1, p2, p3, p4, ⟨by show 0 ≤ r.lo; omega, h2, by show r.hi ≤ _; omega⟩⟩
theorem nar1_in {m : Lw} (h : LwOK m) (k : Nat) (d : Rd) (hn : ¬ ((nar1 m k d).lo = 1 ∧ (nar1 m k d).hi = 0)) : LwOK (m.set k (nar1 m k d)) := by
  have hg := (Lw.get_in h k).2.1
  have : nar1 m k d = ⟨1, 0⟩ ∨ ((m.get k).lo ≤ (nar1 m k d).lo ∧ (nar1 m k d).lo ≤ (nar1 m k d).hi ∧ (nar1 m k d).hi ≤ (m.get k).hi) := by
    unfold nar1
    split
    · exact keptR_in _ _ hg
    · exact keptR_in _ _ hg
  rcases this with e | ⟨h1, h2, h3⟩
  · rw [e] at hn; exact absurd ⟨rfl, rfl⟩ hn
  · exact Lw.set_rg h k h1 h2 h3

theorem low_pr {m : Lw} (h : LwOK m) (k : Nat) (hk : k < 5) (d : Rd) (hd : d.ok) : Probe m k d n_curve_narrow_2 (tooLow m k d) (m.get k).lo (m.get k).hi := fun v x h1 h2 => low_ok k hk v d hd x (Lw.set_in h k h1 h2)
theorem high_pr {m : Lw} (h : LwOK m) (k : Nat) (hk : k < 5) (d : Rd) (hd : d.ok) : Probe m k d n_curve_narrow_3 (tooHigh m k d) (m.get k).lo (m.get k).hi := fun v x h1 h2 => high_ok k hk v d hd x (Lw.set_in h k h1 h2)

theorem keep_ok {m : Lw} (h : LwOK m) (k : Nat) (hk : k < 5) (hk1 : k ≠ 1) (d : Rd) (hd : d.ok) : ∃ w, Ans Tryd.prog n_curve_kept [(m.get k).v, Bv n_curve_narrow_2, Bv n_curve_narrow_3] [some (Lr m), some Lc, some (Rr d), some (Pc k), some (Wc 3)]
    (nar1 m k d).v [some (Lr (m.set k w)), some Lc, some (Rr d), some (Pc k), some (Wc 3)] := by
  have hA := kept_ok (low_pr h k hk d hd) (high_pr h k hk d hd) (Lw.get_in h k) (m.get k)
  rw [Lw.set_get] at hA
  unfold nar1
  rw [if_neg hk1]
  exact ⟨_, hA⟩
theorem keep_gain {m : Lw} (h : LwOK m) (d : Rd) (hd : d.ok) : ∃ w, Ans Tryd.prog n_curve_kept [(m.get 1).v, Bv n_curve_narrow_3, Bv n_curve_narrow_2] [some (Lr m), some Lc, some (Rr d), some (Pc 1), some (Wc 3)]
    (nar1 m 1 d).v [some (Lr (m.set 1 w)), some Lc, some (Rr d), some (Pc 1), some (Wc 3)] := by
  have hA := kept_ok (high_pr h 1 (by decide) d hd) (low_pr h 1 (by decide) d hd) (Lw.get_in h 1) (m.get 1)
  rw [Lw.set_get] at hA
  unfold nar1
  rw [if_pos rfl]
  exact ⟨_, hA⟩
end Go.Proofs

namespace Go.Proofs
open Go Go.Sx Go.Fam

structure UpR (a b : Rg) : Prop where
  lo : a.lo ≤ b.lo
  hi : a.hi ≤ b.hi
structure UpL (a b : Lw) : Prop where
  perv : UpR a.perv b.perv
  gain : UpR b.gain a.gain
  shift : UpR a.shift b.shift
  full : UpR a.full b.full
  part : UpR a.part b.part
theorem UpR.refl (r : Rg) : UpR r r := ⟨Int.le_refl _, Int.le_refl _⟩

theorem drive_up {a b : Lw} (ha : LwOK a) (hb : LwOK b) (h : UpL a b) {g p : Int} (hp : 0 ≤ p) : UpR (driveOf a g p) (driveOf b g p) := by
  have k1 := div_anti (n := 1000 * p) (by omega) (show 1 ≤ b.gain.hi by have := hb.gain; omega) h.gain.hi
  have k2 := rup_anti (n := 1000 * p) (by omega) hb.gain.1 h.gain.lo
  have s1 := h.shift.lo; have s2 := h.shift.hi
  exact ⟨bnd_mono (by omega), bnd_mono (by omega)⟩

theorem cur_up {a b : Lw} (ha : LwOK a) (hb : LwOK b) (h : UpL a b) {g p : Int} (hp : 0 ≤ p) : UpR (curOf a g p) (curOf b g p) := by
  have hd := drive_up ha hb h (g := g) hp
  have e0 : 0 ≤ (driveOf a g p).lo := (bnd_in _).1
  have e1 : 0 ≤ (driveOf a g p).hi := (bnd_in _).1
  have lp := ha.perv; have mp := hb.perv; have lq := ha.part; have mq := hb.part; have lf := ha.full; have mf := hb.full
  have hp1 := h.perv.lo; have hp2 := h.perv.hi; have hq1 := h.part.lo; have hq2 := h.part.hi
  unfold curOf
  generalize driveOf a g p = dl at *
  generalize driveOf b g p = dm at *
  obtain ⟨r0, _, _⟩ := root_ok (cube_nonneg e0)
  obtain ⟨r1, _, _⟩ := root_ok (cube_nonneg e1)
  obtain ⟨u0, _, _⟩ := rootU_ok (cube_nonneg e1)
  have a1 := root_mono (cube_nonneg e0) (cube_le e0 hd.lo)
  have a2 := rootU_mono (cube_nonneg e1) (cube_le e1 hd.hi)
  have b1 : a.perv.lo * root (cube dl.lo) ≤ b.perv.lo * root (cube dm.lo) := Int.mul_le_mul hp1 a1 r0 (by omega)
  have b2 : a.perv.hi * rootU (cube dl.hi) ≤ b.perv.hi * rootU (cube dm.hi) := Int.mul_le_mul hp2 a2 (by omega) (by omega)
  have c1 : spaceLo a dl ≤ spaceLo b dm := Int.ediv_le_ediv (by decide) b1
  have c2 : spaceHi a dl ≤ spaceHi b dm := rup_mono b2 (by decide)
  have z1 : 0 ≤ spaceLo a dl := Int.ediv_nonneg (Int.mul_nonneg lp.1 r0) (by decide)
  have z2 : 0 ≤ spaceHi a dl := (rup_in (Int.mul_nonneg (by omega) (by omega)) (by decide)).1
  have f1 := mn_mono2 c1 h.full.lo
  have f2 := mn_mono2 c2 h.full.hi
  have y1 : 0 ≤ mn (spaceLo a dl) a.full.lo := (mn_in z1 lf.1).1
  have y2 : 0 ≤ mn (spaceHi a dl) a.full.hi := (mn_in z2 (by omega)).1
  exact ⟨Int.ediv_le_ediv (by decide) (Int.mul_le_mul hq1 f1 y1 (by omega)), rup_mono (Int.mul_le_mul hq2 f2 y2 (by omega)) (by decide)⟩

theorem set_up (m : Lw) (k : Nat) (hk : k ≠ 1) {x y : Int} (h : x ≤ y) : UpL (m.set k ⟨x, x⟩) (m.set k ⟨y, y⟩) := by
  have hr : UpR ⟨x, x⟩ ⟨y, y⟩ := ⟨h, h⟩
  match k, hk with
  | 0, _ => exact ⟨hr, .refl _, .refl _, .refl _, .refl _⟩
  | 2, _ => exact ⟨.refl _, .refl _, hr, .refl _, .refl _⟩
  | 3, _ => exact ⟨.refl _, .refl _, .refl _, hr, .refl _⟩
  | k + 4, _ => exact ⟨.refl _, .refl _, .refl _, .refl _, hr⟩
theorem set_down (m : Lw) {x y : Int} (h : x ≤ y) : UpL (m.set 1 ⟨y, y⟩) (m.set 1 ⟨x, x⟩) := ⟨.refl _, ⟨h, h⟩, .refl _, .refl _, .refl _⟩

theorem thr (p : Nat → Bool) : ∀ n : Nat, (∀ i j, i ≤ j → j < n → p i = true → p j = true) → ∃ m, m ≤ n ∧ ∀ h, h < n → p h = decide (m ≤ h)
  | 0, _ => ⟨0, Nat.le_refl _, fun h hh => by omega⟩
  | n + 1, hp => by
    obtain ⟨m, h1, h2⟩ := thr p n fun i j hij hj => hp i j hij (by omega)
    by_cases hm : m < n
    · have hn : p n = true := hp m n (by omega) (by omega) (by rw [h2 m hm]; simp)
      refine ⟨m, by omega, fun h hh => ?_⟩
      by_cases e : h = n
      · subst e; rw [hn]; simp; omega
      · exact h2 h (by omega)
    · obtain rfl : m = n := by omega
      by_cases hn : p m = true
      · refine ⟨m, by omega, fun h hh => ?_⟩
        by_cases e : h = m
        · subst e; rw [hn]; simp
        · exact h2 h (by omega)
      · refine ⟨m + 1, by omega, fun h hh => ?_⟩
        by_cases e : h = m
        · subst e; simp only [Bool.not_eq_true] at hn; rw [hn]; simp
        · rw [h2 h (by omega)]; simp; omega

def agr (y : Lw) (d : Rd) : Prop := (curOf y d.g d.p).lo ≤ d.hi ∧ d.lo ≤ (curOf y d.g d.p).hi

theorem SubL.get {a b : Lw} (h : SubL a b) (k : Nat) : SubR (a.get k) (b.get k) := by
  match k with
  | 0 => exact h.perv
  | 1 => exact h.gain
  | 2 => exact h.shift
  | 3 => exact h.full
  | k + 4 => exact h.part
theorem SubL.set {a b : Lw} (h : SubL a b) (k : Nat) {r : Rg} (hr : SubR (a.get k) r) : SubL a (b.set k r) := by
  match k with
  | 0 => exact ⟨hr, h.gain, h.shift, h.full, h.part⟩
  | 1 => exact ⟨h.perv, hr, h.shift, h.full, h.part⟩
  | 2 => exact ⟨h.perv, h.gain, hr, h.full, h.part⟩
  | 3 => exact ⟨h.perv, h.gain, h.shift, hr, h.part⟩
  | k + 4 => exact ⟨h.perv, h.gain, h.shift, h.full, hr⟩

end Go.Proofs

namespace Go.Proofs
open Go Go.Sx Go.Fam
attribute [local irreducible] Run

theorem fullK (m : Lw) (d : Rd) (k : Nat) : Full (· < 5) [some (Lr m), some Lc, some (Rr d), some (Pc k), some (Wc 3)] :=
  ⟨by simp [go_sem], by simp [go_sem], by simp [go_sem], by simp [go_sem], wc_bel _ (by decide) (by decide) (by decide), trivial⟩

theorem Lr_eq (m : Lw) : Lr m = .cells false 10 [.agg [.int .i64 m.perv.lo, .int .i64 m.perv.hi, .int .i64 m.gain.lo, .int .i64 m.gain.hi, .int .i64 m.shift.lo, .int .i64 m.shift.hi, .int .i64 m.full.lo, .int .i64 m.full.hi, .int .i64 m.part.lo, .int .i64 m.part.hi]] := rfl
@[go_sem] theorem lr_ren (m : Lw) (f : Nat → Nat) : (Lr m).ren f = Lr m := Row.ren_same (by simp only [go_sem])
theorem wr1 : IntKind.i64.wrap 1 = 1 := by decide
theorem wr2 : IntKind.i64.wrap 2 = 2 := by decide
theorem wr3 : IntKind.i64.wrap 3 = 3 := by decide
theorem wr4 : IntKind.i64.wrap 4 = 4 := by decide
theorem wr5 : IntKind.i64.wrap 5 = 5 := by decide
set_option maxHeartbeats 4000000 in
theorem narrow_ok {m : Lw} (h : LwOK m) (d : Rd) (hd : d.ok) : Ans Tryd.prog n_curve_narrow [.ptr 0 0 0 1, d.v] [some (Lr m)] (.bool (narK [0, 1, 2, 3, 4] m d).1) [some (Lr (narK [0, 1, 2, 3, 4] m d).2)] := by
  obtain ⟨res, hres⟩ : ∃ x, narK [0, 1, 2, 3, 4] m d = x := ⟨_, rfl⟩
  rw [hres]
  refine spec_run e_curve_narrow fun G => ?_
  simp only [go_sem, Rd.v, Lr_eq]
  refine loop_body 800 k_curve_narrow_r14.eq_1 ?_
  obtain ⟨w0, c0⟩ := keep_ok (m := m) h 0 (by decide) (by decide) d hd
  have i0 := nar1_in (m := m) h 0 d
  have n0 : narK [0, 1, 2, 3, 4] m d = if (nar1 m 0 d).lo = 1 ∧ (nar1 m 0 d).hi = 0 then (false, m.set 0 (nar1 m 0 d)) else narK [1, 2, 3, 4] (m.set 0 (nar1 m 0 d)) d := rfl
  obtain ⟨r0, hr0⟩ : ∃ r, nar1 m 0 d = r := ⟨_, rfl⟩
  rw [hr0] at c0 i0 n0
  rw [n0] at hres
  simp only [go_sem]
  refine dS1 c0 0 [1, 2, 4, 6] (by decide) ⟨rfl, rfl, rfl, rfl, rfl, trivial⟩ rfl (by simp [go_sem, Rg.v, Bv]) (fullK _ d 0) (by simp only [go_sem, Rg.v]) (by simp [go_sem]) (by simp) (by simp) (by simp only [go_sem]) ?_
  rw [lr_ren]
  by_cases e0 : r0.lo = 1 ∧ r0.hi = 0
  · rw [if_pos e0] at hres
    subst hres
    simp only [go_sem, Lr_eq, Lw.set, Rg.v, e0.1, e0.2]
    exact ⟨_, rfl⟩
  rw [if_neg e0] at hres
  have b0 : (r0.lo == 1 && r0.hi == 0) = false := by
    rw [Bool.eq_false_iff]; simpa using e0
  have h := i0 e0
  simp only [go_sem, Lr_eq, Lw.set, Rg.v, b0, wr1]
  refine loop_body 800 k_curve_narrow_r14.eq_1 ?_
  obtain ⟨w1, c1⟩ := keep_gain (m := (m.set 0 r0)) h d hd
  have i1 := nar1_in (m := (m.set 0 r0)) h 1 d
  have n1 : narK [1, 2, 3, 4] (m.set 0 r0) d = if (nar1 (m.set 0 r0) 1 d).lo = 1 ∧ (nar1 (m.set 0 r0) 1 d).hi = 0 then (false, (m.set 0 r0).set 1 (nar1 (m.set 0 r0) 1 d)) else narK [2, 3, 4] ((m.set 0 r0).set 1 (nar1 (m.set 0 r0) 1 d)) d := rfl
  obtain ⟨r1, hr1⟩ : ∃ r, nar1 (m.set 0 r0) 1 d = r := ⟨_, rfl⟩
  rw [hr1] at c1 i1 n1
  rw [n1] at hres
  simp only [go_sem]
  refine dS1 c1 0 [1, 2, 7, 9] (by decide) ⟨rfl, rfl, rfl, rfl, rfl, trivial⟩ rfl (by simp [go_sem, Rg.v, Bv]) (fullK _ d 1) (by simp only [go_sem, Rg.v]) (by simp [go_sem]) (by simp) (by simp) (by simp only [go_sem]) ?_
  rw [lr_ren]
  by_cases e1 : r1.lo = 1 ∧ r1.hi = 0
  · rw [if_pos e1] at hres
    subst hres
    simp only [go_sem, Lr_eq, Lw.set, Rg.v, e1.1, e1.2]
    exact ⟨_, rfl⟩
  rw [if_neg e1] at hres
  have b1 : (r1.lo == 1 && r1.hi == 0) = false := by
    rw [Bool.eq_false_iff]; simpa using e1
  have h := i1 e1
  simp only [go_sem, Lr_eq, Lw.set, Rg.v, b1, wr2]
  refine loop_body 800 k_curve_narrow_r14.eq_1 ?_
  obtain ⟨w2, c2⟩ := keep_ok (m := ((m.set 0 r0).set 1 r1)) h 2 (by decide) (by decide) d hd
  have i2 := nar1_in (m := ((m.set 0 r0).set 1 r1)) h 2 d
  have n2 : narK [2, 3, 4] ((m.set 0 r0).set 1 r1) d = if (nar1 ((m.set 0 r0).set 1 r1) 2 d).lo = 1 ∧ (nar1 ((m.set 0 r0).set 1 r1) 2 d).hi = 0 then (false, ((m.set 0 r0).set 1 r1).set 2 (nar1 ((m.set 0 r0).set 1 r1) 2 d)) else narK [3, 4] (((m.set 0 r0).set 1 r1).set 2 (nar1 ((m.set 0 r0).set 1 r1) 2 d)) d := rfl
  obtain ⟨r2, hr2⟩ : ∃ r, nar1 ((m.set 0 r0).set 1 r1) 2 d = r := ⟨_, rfl⟩
  rw [hr2] at c2 i2 n2
  rw [n2] at hres
  simp only [go_sem]
  refine dS1 c2 0 [1, 2, 10, 12] (by decide) ⟨rfl, rfl, rfl, rfl, rfl, trivial⟩ rfl (by simp [go_sem, Rg.v, Bv]) (fullK _ d 2) (by simp only [go_sem, Rg.v]) (by simp [go_sem]) (by simp) (by simp) (by simp only [go_sem]) ?_
  rw [lr_ren]
  by_cases e2 : r2.lo = 1 ∧ r2.hi = 0
  · rw [if_pos e2] at hres
    subst hres
    simp only [go_sem, Lr_eq, Lw.set, Rg.v, e2.1, e2.2]
    exact ⟨_, rfl⟩
  rw [if_neg e2] at hres
  have b2 : (r2.lo == 1 && r2.hi == 0) = false := by
    rw [Bool.eq_false_iff]; simpa using e2
  have h := i2 e2
  simp only [go_sem, Lr_eq, Lw.set, Rg.v, b2, wr3]
  refine loop_body 800 k_curve_narrow_r14.eq_1 ?_
  obtain ⟨w3, c3⟩ := keep_ok (m := (((m.set 0 r0).set 1 r1).set 2 r2)) h 3 (by decide) (by decide) d hd
  have i3 := nar1_in (m := (((m.set 0 r0).set 1 r1).set 2 r2)) h 3 d
  have n3 : narK [3, 4] (((m.set 0 r0).set 1 r1).set 2 r2) d = if (nar1 (((m.set 0 r0).set 1 r1).set 2 r2) 3 d).lo = 1 ∧ (nar1 (((m.set 0 r0).set 1 r1).set 2 r2) 3 d).hi = 0 then (false, (((m.set 0 r0).set 1 r1).set 2 r2).set 3 (nar1 (((m.set 0 r0).set 1 r1).set 2 r2) 3 d)) else narK [4] ((((m.set 0 r0).set 1 r1).set 2 r2).set 3 (nar1 (((m.set 0 r0).set 1 r1).set 2 r2) 3 d)) d := rfl
  obtain ⟨r3, hr3⟩ : ∃ r, nar1 (((m.set 0 r0).set 1 r1).set 2 r2) 3 d = r := ⟨_, rfl⟩
  rw [hr3] at c3 i3 n3
  rw [n3] at hres
  simp only [go_sem]
  refine dS1 c3 0 [1, 2, 13, 15] (by decide) ⟨rfl, rfl, rfl, rfl, rfl, trivial⟩ rfl (by simp [go_sem, Rg.v, Bv]) (fullK _ d 3) (by simp only [go_sem, Rg.v]) (by simp [go_sem]) (by simp) (by simp) (by simp only [go_sem]) ?_
  rw [lr_ren]
  by_cases e3 : r3.lo = 1 ∧ r3.hi = 0
  · rw [if_pos e3] at hres
    subst hres
    simp only [go_sem, Lr_eq, Lw.set, Rg.v, e3.1, e3.2]
    exact ⟨_, rfl⟩
  rw [if_neg e3] at hres
  have b3 : (r3.lo == 1 && r3.hi == 0) = false := by
    rw [Bool.eq_false_iff]; simpa using e3
  have h := i3 e3
  simp only [go_sem, Lr_eq, Lw.set, Rg.v, b3, wr4]
  refine loop_body 800 k_curve_narrow_r14.eq_1 ?_
  obtain ⟨w4, c4⟩ := keep_ok (m := ((((m.set 0 r0).set 1 r1).set 2 r2).set 3 r3)) h 4 (by decide) (by decide) d hd
  have i4 := nar1_in (m := ((((m.set 0 r0).set 1 r1).set 2 r2).set 3 r3)) h 4 d
  have n4 : narK [4] ((((m.set 0 r0).set 1 r1).set 2 r2).set 3 r3) d = if (nar1 ((((m.set 0 r0).set 1 r1).set 2 r2).set 3 r3) 4 d).lo = 1 ∧ (nar1 ((((m.set 0 r0).set 1 r1).set 2 r2).set 3 r3) 4 d).hi = 0 then (false, ((((m.set 0 r0).set 1 r1).set 2 r2).set 3 r3).set 4 (nar1 ((((m.set 0 r0).set 1 r1).set 2 r2).set 3 r3) 4 d)) else narK [] (((((m.set 0 r0).set 1 r1).set 2 r2).set 3 r3).set 4 (nar1 ((((m.set 0 r0).set 1 r1).set 2 r2).set 3 r3) 4 d)) d := rfl
  obtain ⟨r4, hr4⟩ : ∃ r, nar1 ((((m.set 0 r0).set 1 r1).set 2 r2).set 3 r3) 4 d = r := ⟨_, rfl⟩
  rw [hr4] at c4 i4 n4
  rw [n4] at hres
  simp only [go_sem]
  refine dS1 c4 0 [1, 2, 16, 18] (by decide) ⟨rfl, rfl, rfl, rfl, rfl, trivial⟩ rfl (by simp [go_sem, Rg.v, Bv]) (fullK _ d 4) (by simp only [go_sem, Rg.v]) (by simp [go_sem]) (by simp) (by simp) (by simp only [go_sem]) ?_
  rw [lr_ren]
  by_cases e4 : r4.lo = 1 ∧ r4.hi = 0
  · rw [if_pos e4] at hres
    subst hres
    simp only [go_sem, Lr_eq, Lw.set, Rg.v, e4.1, e4.2]
    exact ⟨_, rfl⟩
  rw [if_neg e4] at hres
  have b4 : (r4.lo == 1 && r4.hi == 0) = false := by
    rw [Bool.eq_false_iff]; simpa using e4
  have h := i4 e4
  simp only [go_sem, Lr_eq, Lw.set, Rg.v, b4, wr5]
  refine loop_body 800 k_curve_narrow_r14.eq_1 ?_
  subst hres
  simp only [go_sem, narK, Lr_eq, Lw.set]
  exact ⟨_, rfl⟩
end Go.Proofs

