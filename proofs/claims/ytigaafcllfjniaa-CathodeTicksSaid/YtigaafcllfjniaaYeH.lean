/- Fresh coatings of raw coats. -/
import Derived.Test.YtigaafcllfjniaaYeG
namespace Go.Proofs
open Go Go.Sx
attribute [local irreducible] Run

def freshV (c : Ct) : Cg × Int := if chkC c = 0 then (fresh c, 0) else (zeroCg, chkC c)
theorem Fresh_raw (c : Ct) (hl : c.bands.length ≤ 1000) : Ans Try.prog n_cathode_Fresh [c.v (.view (c.bands.map Bd.v))] [] (.tup [(freshV c).1.v, .int .i64 (freshV c).2]) [] := by
  have g := Check_raw c hl
  generalize hRES : freshV c = RES
  unfold freshV at hRES
  refine spec_run e_cathode_Fresh fun G => ?_
  simp only [go_sem, Ct.v, Ct.cs]
  refine cP g ?_
  generalize chkC c = e0 at *
  by_cases c0 : e0 = 0
  · rw [if_pos c0] at hRES
    subst c0
    subst hRES
    simp only [go_sem, Int.reduceBNe, Ct.v, Ct.cs]
    refine cP (fresh_run c) ?_ (hr := by simp only [go_sem, Cg.v, Cg.cs])
    simp only [go_sem, Cg.v, Cg.cs]
  · have b0 : (e0 != 0) = true := by simp [c0]
    rw [if_neg c0] at hRES
    subst hRES
    simp only [go_sem, b0, zeroCg, Cg.v, Cg.cs]
theorem rFresh_raw (c : Ct) (hl : c.bands.length ≤ 1000) : Ans Try.prog n_ref03_Fresh [c.v (.view (c.bands.map Bd.v))] [] (.tup [(freshV c).1.v, .int .i64 (freshV c).2]) [] := by
  have g := rCheck_raw c hl
  generalize hRES : freshV c = RES
  unfold freshV at hRES
  refine spec_run e_ref03_Fresh fun G => ?_
  simp only [go_sem, Ct.v, Ct.cs]
  refine cP g ?_
  generalize chkC c = e0 at *
  by_cases c0 : e0 = 0
  · rw [if_pos c0] at hRES
    subst c0
    subst hRES
    simp only [go_sem, Int.reduceBNe, Ct.v, Ct.cs]
    refine cP (rfresh_run c) ?_ (hr := by simp only [go_sem, Cg.v, Cg.cs])
    simp only [go_sem, Cg.v, Cg.cs]
  · have b0 : (e0 != 0) = true := by simp [c0]
    rw [if_neg c0] at hRES
    subst hRES
    simp only [go_sem, b0, zeroCg, Cg.v, Cg.cs]
end Go.Proofs
