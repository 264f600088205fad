/- Checks of raw coatings. -/
import Derived.Test.YtigaafcllfjniaaYeE
namespace Go.Proofs
open Go Go.Sx
attribute [local irreducible] Run

/-- The first error of a coat and a coating. -/
def chkX (c : Ct) (x : Cg) : Int :=
  if chkC c = 0 then
    (if chkR c.amount [x.carb, x.ox, x.ba, x.lost, x.gas] = 0 then
      (if chkR 1099511627776 [x.wear] = 0 then (if 0 ≤ x.heat ∧ x.heat ≤ 2000 then 0 else 2) else chkR 1099511627776 [x.wear])
    else chkR c.amount [x.carb, x.ox, x.ba, x.lost, x.gas])
  else chkC c

theorem CheckCoating_raw (c : Ct) (hl : c.bands.length ≤ 1000) (x : Cg) : Ans Try.prog n_cathode_CheckCoating [c.v (.view (c.bands.map Bd.v)), x.v] [] (.int .i64 (chkX c x)) [] := by
  have g0 := Check_raw c hl
  have g1 := checkRanges_raw c.amount [x.carb, x.ox, x.ba, x.lost, x.gas] (by simp)
  have g2 := checkRanges_raw 1099511627776 [x.wear] (by simp)
  generalize hRES : chkX c x = RES
  unfold chkX at hRES
  refine spec_run e_cathode_CheckCoating fun G => ?_
  simp only [go_sem, Ct.v, Ct.cs, Cg.v, Cg.cs]
  refine cP g0 ?_
  generalize chkC c = e0 at *
  by_cases c0 : e0 = 0
  rotate_left
  · have b0 : (e0 != 0) = true := by simp [c0]
    rw [if_neg c0] at hRES
    subst hRES
    simp only [go_sem, b0]
  rw [if_pos c0] at hRES
  subst c0
  simp only [go_sem, Int.reduceBNe]
  refine cF g1 6 (by simp only [go_sem, frz, Rg.v]) ?_
  generalize chkR c.amount [x.carb, x.ox, x.ba, x.lost, x.gas] = e1 at *
  by_cases c1 : e1 = 0
  rotate_left
  · have b1 : (e1 != 0) = true := by simp [c1]
    rw [if_neg c1] at hRES
    subst hRES
    simp only [go_sem, b1]
  rw [if_pos c1] at hRES
  subst c1
  simp only [go_sem, Int.reduceBNe]
  refine cF g2 6 (by simp only [go_sem, frz, Rg.v]) ?_
  generalize chkR 1099511627776 [x.wear] = e2 at *
  by_cases c2 : e2 = 0
  rotate_left
  · have b2 : (e2 != 0) = true := by simp [c2]
    rw [if_neg c2] at hRES
    subst hRES
    simp only [go_sem, b2]
  rw [if_pos c2] at hRES
  subst c2
  simp only [go_sem, Int.reduceBNe]
  by_cases c3 : 0 ≤ x.heat ∧ x.heat ≤ 2000
  · rw [if_pos c3] at hRES
    subst hRES
    refine cP (within_yes c3) ?_
    simp only [go_sem]
  · rw [if_neg c3] at hRES
    subst hRES
    refine cP (within_no c3) ?_
    simp only [go_sem]

theorem rCheckCoating_raw (c : Ct) (hl : c.bands.length ≤ 1000) (x : Cg) : Ans Try.prog n_ref03_CheckCoating [c.v (.view (c.bands.map Bd.v)), x.v] [] (.int .i64 (chkX c x)) [] := by
  have g0 := rCheck_raw c hl
  have g1 := rcheckRanges_raw c.amount [x.carb, x.ox, x.ba, x.lost, x.gas] (by simp)
  have g2 := rcheckRange_raw x.wear 1099511627776
  generalize hRES : chkX c x = RES
  unfold chkX at hRES
  refine spec_run e_ref03_CheckCoating fun G => ?_
  simp only [go_sem, Ct.v, Ct.cs, Cg.v, Cg.cs]
  refine cP g0 ?_
  generalize chkC c = e0 at *
  by_cases c0 : e0 = 0
  rotate_left
  · have b0 : (e0 != 0) = true := by simp [c0]
    rw [if_neg c0] at hRES
    subst hRES
    simp only [go_sem, b0]
  rw [if_pos c0] at hRES
  subst c0
  simp only [go_sem, Int.reduceBNe]
  refine cF g1 6 (by simp only [go_sem, frz, Rg.v]) ?_
  generalize chkR c.amount [x.carb, x.ox, x.ba, x.lost, x.gas] = e1 at *
  by_cases c1 : e1 = 0
  rotate_left
  · have b1 : (e1 != 0) = true := by simp [c1]
    rw [if_neg c1] at hRES
    subst hRES
    simp only [go_sem, b1]
  rw [if_pos c1] at hRES
  subst c1
  simp only [go_sem, Int.reduceBNe]
  refine cP g2 ?_
  generalize chkR 1099511627776 [x.wear] = e2 at *
  by_cases c2 : e2 = 0
  rotate_left
  · have b2 : (e2 != 0) = true := by simp [c2]
    rw [if_neg c2] at hRES
    subst hRES
    simp only [go_sem, b2]
  rw [if_pos c2] at hRES
  subst c2
  simp only [go_sem, Int.reduceBNe]
  by_cases c3 : 0 ≤ x.heat ∧ x.heat ≤ 2000
  · rw [if_pos c3] at hRES
    subst hRES
    refine cP (beyond_no c3) ?_
    simp only [go_sem]
  · rw [if_neg c3] at hRES
    subst hRES
    refine cP (beyond_yes c3) ?_
    simp only [go_sem]

end Go.Proofs
