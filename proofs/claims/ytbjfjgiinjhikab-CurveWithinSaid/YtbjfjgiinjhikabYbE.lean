/- Currents. -/
import Derived.Test.YtbjfjgiinjhikabYbD
namespace Go.Proofs
open Go Go.Sx

def cube (n : Int) : Int := n * n * n
def mn (a b : Int) : Int := if b < a then b else a
def spaceLo (l : Lw) (d : Rg) : Int := l.perv.lo * root (cube d.lo) / 1000000
def spaceHi (l : Lw) (d : Rg) : Int := rup (l.perv.hi * rootU (cube d.hi)) 1000000
def curLo (l : Lw) (d : Rg) : Int := l.part.lo * mn (spaceLo l d) l.full.lo / 1000000
def curHi (l : Lw) (d : Rg) : Int := rup (l.part.hi * mn (spaceHi l d) l.full.hi) 1000000
def curOf (l : Lw) (g p : Int) : Rg := ⟨curLo l (driveOf l g p), curHi l (driveOf l g p)⟩

theorem bnd_in (n : Int) : 0 ≤ bnd n ∧ bnd n ≤ 1000000 := by unfold bnd; (repeat' split) <;> omega

theorem cube_in {n : Int} (h0 : 0 ≤ n) (h1 : n ≤ 1000000) : 0 ≤ n * n ∧ n * n ≤ 1000000000000 ∧ 0 ≤ cube n ∧ cube n ≤ 1000000000000000000 := by
  have a := Int.mul_nonneg h0 h0
  have b := Int.mul_le_mul h1 h1 h0 (by decide)
  have c := Int.mul_nonneg a h0
  have d := Int.mul_le_mul b h1 h0 (by decide)
  unfold cube; omega

theorem mul_in {a b A B : Int} (h1 : 0 ≤ a ∧ a ≤ A) (h2 : 0 ≤ b ∧ b ≤ B) : 0 ≤ a * b ∧ a * b ≤ A * B :=
  ⟨Int.mul_nonneg h1.1 h2.1, Int.mul_le_mul h1.2 h2.2 h2.1 (by omega)⟩

theorem rup_in {n b : Int} (h0 : 0 ≤ n) (h1 : 1 ≤ b) : 0 ≤ rup n b ∧ rup n b ≤ n + b - 1 := ⟨Int.ediv_nonneg (by omega) (by omega), Int.ediv_le_self _ (by omega)⟩

theorem mn_in {a b : Int} (h0 : 0 ≤ a) (h1 : 0 ≤ b) : 0 ≤ mn a b ∧ mn a b ≤ b := by unfold mn; split <;> omega

theorem current_ok (l : Lw) (h : LwOK l) (g p : Int) (h1 : -1000000 ≤ g ∧ g ≤ 1000000) (h2 : 0 ≤ p ∧ p ≤ 1000000) : Ans Try.prog n_curve_current [l.v, .int .i64 g, .int .i64 p] [] (curOf l g p).v [] := by
  have hd := drive_ok l h g p h1 h2
  have hlo := bnd_in (g + l.shift.lo + (1000 * p) / l.gain.hi)
  have hhi := bnd_in (g + l.shift.hi + rup (1000 * p) l.gain.lo)
  rw [show bnd (g + l.shift.lo + (1000 * p) / l.gain.hi) = (driveOf l g p).lo from rfl] at hlo
  rw [show bnd (g + l.shift.hi + rup (1000 * p) l.gain.lo) = (driveOf l g p).hi from rfl] at hhi
  unfold curOf
  generalize driveOf l g p = d at *
  obtain ⟨⟨a1, a2, a3⟩, _, _, ⟨d1, d2, d3⟩, ⟨e1, e2, e3⟩⟩ := h
  obtain ⟨c1, c2, c3, c4⟩ := cube_in hlo.1 hlo.2
  obtain ⟨c5, c6, c7, c8⟩ := cube_in hhi.1 hhi.2
  obtain ⟨r1, _, _⟩ := root_ok c3
  have r2 := root_le c3 (by omega)
  obtain ⟨r3, _, _⟩ := root_ok c7
  have r4 := root_le c7 (by omega)
  have r5 : 0 ≤ rootU (cube d.hi) ∧ rootU (cube d.hi) ≤ 1073741825 := by unfold rootU; split <;> omega
  have p1 := mul_in (a := l.perv.lo) (A := 1000000) ⟨a1, by omega⟩ ⟨r1, r2⟩
  have p2 := mul_in (a := l.perv.hi) (A := 1000000) ⟨by omega, by omega⟩ r5
  have s1 : 0 ≤ spaceLo l d ∧ spaceLo l d ≤ l.perv.lo * root (cube d.lo) := ⟨Int.ediv_nonneg p1.1 (by decide), Int.ediv_le_self _ p1.1⟩
  have s2 : 0 ≤ spaceHi l d ∧ _ := rup_in p2.1 (by decide)
  have m1 := mn_in s1.1 d1
  have m2 := mn_in s2.1 (show 0 ≤ l.full.hi by omega)
  have p3 := mul_in (a := l.part.lo) (A := 1000000) (B := 1000000) ⟨e1, by omega⟩ ⟨m1.1, by omega⟩
  have p4 := mul_in (a := l.part.hi) (A := 1000000) (B := 1000000) ⟨by omega, by omega⟩ ⟨m2.1, by omega⟩
  have t1 : 0 ≤ curLo l d ∧ curLo l d ≤ l.part.lo * mn (spaceLo l d) l.full.lo := ⟨Int.ediv_nonneg p3.1 (by decide), Int.ediv_le_self _ p3.1⟩
  have w1 : IntKind.i64.wrap (d.lo * d.lo) = d.lo * d.lo := IntWalk.i64_in _ (by omega)
  have w2 : IntKind.i64.wrap (d.lo * d.lo * d.lo) = cube d.lo := IntWalk.i64_in (cube d.lo) (by omega)
  have w3 : IntKind.i64.wrap (d.hi * d.hi) = d.hi * d.hi := IntWalk.i64_in _ (by omega)
  have w4 : IntKind.i64.wrap (d.hi * d.hi * d.hi) = cube d.hi := IntWalk.i64_in (cube d.hi) (by omega)
  have w5 : IntKind.i64.wrap (l.perv.lo * root (cube d.lo)) = l.perv.lo * root (cube d.lo) := IntWalk.i64_in _ (by omega)
  have w6 : (l.perv.lo * root (cube d.lo)).tdiv 1000000 = spaceLo l d := Int.tdiv_eq_ediv_of_nonneg p1.1
  have w7 : IntKind.i64.wrap (spaceLo l d) = spaceLo l d := IntWalk.i64_in _ (by omega)
  have w8 : IntKind.i64.wrap (l.perv.hi * rootU (cube d.hi)) = l.perv.hi * rootU (cube d.hi) := IntWalk.i64_in _ (by omega)
  have n1 : (if l.full.lo < spaceLo l d then l.full.lo else spaceLo l d) = mn (spaceLo l d) l.full.lo := rfl
  have n2 : (if l.full.hi < spaceHi l d then l.full.hi else spaceHi l d) = mn (spaceHi l d) l.full.hi := rfl
  have w9 : IntKind.i64.wrap (l.part.lo * mn (spaceLo l d) l.full.lo) = l.part.lo * mn (spaceLo l d) l.full.lo := IntWalk.i64_in _ (by omega)
  have w10 : (l.part.lo * mn (spaceLo l d) l.full.lo).tdiv 1000000 = curLo l d := Int.tdiv_eq_ediv_of_nonneg p3.1
  have w11 : IntKind.i64.wrap (curLo l d) = curLo l d := IntWalk.i64_in _ (by omega)
  have w12 : IntKind.i64.wrap (l.part.hi * mn (spaceHi l d) l.full.hi) = l.part.hi * mn (spaceHi l d) l.full.hi := IntWalk.i64_in _ (by omega)
  have z1 : rup (l.perv.hi * rootU (cube d.hi)) 1000000 = spaceHi l d := rfl
  have z2 : rup (l.part.hi * mn (spaceHi l d) l.full.hi) 1000000 = curHi l d := rfl
  refine spec_run e_curve_current fun G => ?_
  simp only [go_sem, Lw.v, Lw.cs]
  refine callP hd ⟨lw_bel _ _, .int _ _, .int _ _, trivial⟩ (rg_bel _ _) (by simp) (by simp) ?_
  simp only [go_sem, Rg.v, w1, w2]
  refine dcallP (rootDown_ok _ c3 (by omega)) ⟨.int _ _, trivial⟩ (.int _ _) (by simp only [go_sem]) ?_
  simp only [go_sem, w3, w4, w5, w6, w7]
  refine dcallP (rootUp_ok _ c7 (by omega)) ⟨.int _ _, trivial⟩ (.int _ _) (by simp only [go_sem]) ?_
  simp only [go_sem, w8]
  refine dcallP (roundUp_ok _ _ p2.1 (by decide) (by omega) (by decide)) ⟨.int _ _, .int _ _, trivial⟩ (.int _ _) (by simp only [go_sem]) ?_
  simp only [go_sem, z1, n1, n2, w9, w10, w11, w12]
  refine dcallP (roundUp_ok _ _ p4.1 (by decide) (by omega) (by decide)) ⟨.int _ _, .int _ _, trivial⟩ (.int _ _) (by simp only [go_sem]) ?_
  simp only [go_sem, z2]

theorem Current_ok (l : Lw) (h : LwOK l) (g p : Int) (h1 : -1000000 ≤ g ∧ g ≤ 1000000) (h2 : 0 ≤ p ∧ p ≤ 1000000) : Ans Try.prog n_curve_Current [l.v, .int .i64 g, .int .i64 p] [] (.tup [(curOf l g p).v, .int .i64 0]) [] := by
  refine spec_run e_curve_Current fun G => ?_
  simp only [go_sem, Lw.v, Lw.cs]
  refine callP (checkVolts_ok l h g p h1 h2) ⟨lw_bel _ _, .int _ _, .int _ _, trivial⟩ (.int _ _) (by simp) (by simp) ?_
  simp only [go_sem]
  refine callP (current_ok l h g p h1 h2) ⟨lw_bel _ _, .int _ _, .int _ _, trivial⟩ (rg_bel _ _) (by simp) (by simp) ?_
  simp only [go_sem, Rg.v]

theorem Drive_ok (l : Lw) (h : LwOK l) (g p : Int) (h1 : -1000000 ≤ g ∧ g ≤ 1000000) (h2 : 0 ≤ p ∧ p ≤ 1000000) : Ans Try.prog n_curve_Drive [l.v, .int .i64 g, .int .i64 p] [] (.tup [(driveOf l g p).v, .int .i64 0]) [] := by
  refine spec_run e_curve_Drive fun G => ?_
  simp only [go_sem, Lw.v, Lw.cs]
  refine callP (checkVolts_ok l h g p h1 h2) ⟨lw_bel _ _, .int _ _, .int _ _, trivial⟩ (.int _ _) (by simp) (by simp) ?_
  simp only [go_sem]
  refine callP (drive_ok l h g p h1 h2) ⟨lw_bel _ _, .int _ _, .int _ _, trivial⟩ (rg_bel _ _) (by simp) (by simp) ?_
  simp only [go_sem, Rg.v]

theorem alone_ok (n : Int) : Ans Try.prog n_law02_alone [.int .i64 n] [] (Rg.v ⟨n, n⟩) [] := by
  refine spec_run e_law02_alone fun G => ?_
  simp only [go_sem, Rg.v]

/-! ### An exact law -/
def exact (q : Int) : Lw := ⟨⟨q, q⟩, ⟨1000, 1000⟩, ⟨0, 0⟩, ⟨1000000, 1000000⟩, ⟨1000000, 1000000⟩⟩
theorem exact_in {q : Int} (h : 0 ≤ q ∧ q ≤ 1000000) : LwOK (exact q) := by
  constructor <;> unfold exact <;> simp only <;> omega

/-- What is said of an exact law. -/
def exactSays (q g : Int) : Prop :=
  let c := curOf (exact q) g 0
  0 ≤ c.lo ∧ c.hi ≤ 1001 ∧ (1000000 * c.lo) * (1000000 * c.lo) ≤ q * q * g * g * g ∧ q * q * g * g * g ≤ (1000000 * c.hi) * (1000000 * c.hi) ∧ c.hi - c.lo ≤ 2 ∧ c.lo ≤ c.hi

end Go.Proofs
