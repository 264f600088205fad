/- Currents never fall. -/
import Derived.Test.YtbjfjgiinjhikabYbF
namespace Go.Proofs
open Go Go.Sx

theorem cube_le {a b : Int} (h0 : 0 ≤ a) (h : a ≤ b) : cube a ≤ cube b := by
  have h1 := sq_le h0 h
  exact Int.mul_le_mul h1 h h0 (Int.mul_nonneg (by omega) (by omega))
theorem cube_nonneg {a : Int} (h0 : 0 ≤ a) : 0 ≤ cube a := Int.mul_nonneg (Int.mul_nonneg h0 h0) h0

theorem root_mono {n m : Int} (h0 : 0 ≤ n) (h : n ≤ m) : root n ≤ root m := by
  obtain ⟨a0, a1, a2⟩ := root_ok h0
  obtain ⟨b0, b1, b2⟩ := root_ok (Int.le_trans h0 h)
  by_cases hr : root n ≤ root m
  · exact hr
  · exfalso
    have := sq_le (a := root m + 1) (b := root n) (by omega) (by omega)
    omega

theorem rootU_mono {n m : Int} (h0 : 0 ≤ n) (h : n ≤ m) : rootU n ≤ rootU m := by
  obtain ⟨a0, a1, a2⟩ := root_ok h0
  obtain ⟨u0, u1, u2⟩ := rootU_ok (Int.le_trans h0 h)
  obtain ⟨b0, b1, b2⟩ := root_ok (Int.le_trans h0 h)
  by_cases hr : rootU n ≤ rootU m
  · exact hr
  · exfalso
    have hm0 : 0 ≤ rootU m := by omega
    unfold rootU at hr
    split at hr
    · have := sq_le (a := rootU m) (b := root n) hm0 (by unfold rootU; omega)
      omega
    · have hlt : rootU m + 1 ≤ root n := by unfold rootU; omega
      have h3 := sq_le (a := rootU m + 1) (b := root n) (by omega) hlt
      have h4 : (rootU m + 1) * (rootU m + 1) = rootU m * rootU m + 2 * rootU m + 1 := by
        rw [Int.add_mul, Int.mul_add]; omega
      omega

theorem rup_mono {n m b : Int} (h : n ≤ m) (hb : 1 ≤ b) : rup n b ≤ rup m b := Int.ediv_le_ediv (by omega) (by omega)
theorem mn_mono {a b c : Int} (h : a ≤ b) : mn a c ≤ mn b c := by unfold mn; split <;> split <;> omega
theorem bnd_mono {a b : Int} (h : a ≤ b) : bnd a ≤ bnd b := by unfold bnd; (repeat' split) <;> omega

theorem spaceLo_mono {l : Lw} (h : LwOK l) {d e : Rg} (h0 : 0 ≤ d.lo) (hl : d.lo ≤ e.lo) : spaceLo l d ≤ spaceLo l e :=
  Int.ediv_le_ediv (by decide) (Int.mul_le_mul_of_nonneg_left (root_mono (cube_nonneg h0) (cube_le h0 hl)) h.perv.1)
theorem spaceHi_mono {l : Lw} (h : LwOK l) {d e : Rg} (h0 : 0 ≤ d.hi) (hl : d.hi ≤ e.hi) : spaceHi l d ≤ spaceHi l e :=
  rup_mono (Int.mul_le_mul_of_nonneg_left (rootU_mono (cube_nonneg h0) (cube_le h0 hl)) (by have := h.perv; omega)) (by decide)

theorem cur_mono {l : Lw} (h : LwOK l) {d e : Rg} (h0 : 0 ≤ d.lo ∧ 0 ≤ d.hi) (hl : d.lo ≤ e.lo) (hh : d.hi ≤ e.hi) : curLo l d ≤ curLo l e ∧ curHi l d ≤ curHi l e :=
  ⟨Int.ediv_le_ediv (by decide) (Int.mul_le_mul_of_nonneg_left (mn_mono (spaceLo_mono h h0.1 hl)) h.part.1),
   rup_mono (Int.mul_le_mul_of_nonneg_left (mn_mono (spaceHi_mono h h0.2 hh)) (by have := h.part; omega)) (by decide)⟩

theorem le_rup {n b : Int} (hb : 1 ≤ b) : n / b ≤ rup n b := Int.ediv_le_ediv (by omega) (by omega)

theorem drive_le {l : Lw} (h : LwOK l) {g p : Int} (hp : 0 ≤ p) : (driveOf l g p).lo ≤ (driveOf l g p).hi := by
  have h1 : 1000 * p / l.gain.hi ≤ 1000 * p / l.gain.lo := by
    have hg := h.gain
    rw [Int.le_ediv_iff_mul_le (by omega)]
    have h2 : 1000 * p / l.gain.hi * l.gain.lo ≤ 1000 * p / l.gain.hi * l.gain.hi := Int.mul_le_mul_of_nonneg_left hg.2.1 (Int.ediv_nonneg (by omega) (by omega))
    have h3 := Int.ediv_mul_le (1000 * p) (b := l.gain.hi) (by omega)
    omega
  have h4 := le_rup (n := 1000 * p) h.gain.1
  exact bnd_mono (by have := h.shift; omega)

theorem cur_le {l : Lw} (h : LwOK l) {d : Rg} (h0 : 0 ≤ d.lo) (hd : d.lo ≤ d.hi) : curLo l d ≤ curHi l d := by
  obtain ⟨r0, _, _⟩ := root_ok (cube_nonneg h0)
  obtain ⟨u0, _, _⟩ := rootU_ok (cube_nonneg (Int.le_trans h0 hd))
  obtain ⟨p1, p2, p3⟩ := h.perv
  obtain ⟨q1, q2, q3⟩ := h.part
  obtain ⟨f1, f2, f3⟩ := h.full
  have hr := root_mono (cube_nonneg h0) (cube_le h0 hd)
  have e1 : l.perv.lo * root (cube d.lo) ≤ l.perv.hi * rootU (cube d.hi) := Int.mul_le_mul p2 (by omega) r0 (by omega)
  have e2 : spaceLo l d ≤ spaceHi l d := Int.le_trans (Int.ediv_le_ediv (by decide) e1) (le_rup (by decide))
  have e0 : 0 ≤ spaceLo l d := Int.ediv_nonneg (Int.mul_nonneg p1 r0) (by decide)
  have e3 : mn (spaceLo l d) l.full.lo ≤ mn (spaceHi l d) l.full.hi := by unfold mn; split <;> split <;> omega
  have e4 : 0 ≤ mn (spaceLo l d) l.full.lo := by unfold mn; split <;> omega
  have e5 : l.part.lo * mn (spaceLo l d) l.full.lo ≤ l.part.hi * mn (spaceHi l d) l.full.hi := Int.mul_le_mul q2 e3 e4 (by omega)
  exact Int.le_trans (Int.ediv_le_ediv (by decide) e5) (le_rup (by decide))

/-- All that CurveRises asks of a law. -/
theorem rises {l : Lw} (h : LwOK l) {g p b : Int} (hp : 0 ≤ p) (hb : 0 ≤ b) :
    (curOf l g p).lo ≤ (curOf l g p).hi ∧ (curOf l g p).lo ≤ (curOf l (g + b) p).lo ∧ (curOf l g p).hi ≤ (curOf l (g + b) p).hi ∧
    (curOf l g p).lo ≤ (curOf l g (p + b)).lo ∧ (curOf l g p).hi ≤ (curOf l g (p + b)).hi := by
  have d0 := (bnd_in (g + l.shift.lo + (1000 * p) / l.gain.hi)).1
  have d1 := (bnd_in (g + l.shift.hi + rup (1000 * p) l.gain.lo)).1
  have m1 := cur_mono h (d := driveOf l g p) (e := driveOf l (g + b) p) ⟨d0, d1⟩ (bnd_mono (by omega)) (bnd_mono (by omega))
  have k1 : 1000 * p / l.gain.hi ≤ 1000 * (p + b) / l.gain.hi := Int.ediv_le_ediv (by have := h.gain; omega) (by omega)
  have k2 : rup (1000 * p) l.gain.lo ≤ rup (1000 * (p + b)) l.gain.lo := rup_mono (by omega) h.gain.1
  have m2 := cur_mono h (d := driveOf l g p) (e := driveOf l g (p + b)) ⟨d0, d1⟩ (bnd_mono (by omega)) (bnd_mono (by omega))
  exact ⟨cur_le h d0 (drive_le h hp), m1.1, m1.2, m2.1, m2.2⟩
end Go.Proofs
