/- Ticks of raw data. -/
import Derived.Test.YtigaafcllfjniaaYeF
import Derived.Test.YtigaafcllfjniaaYdF
namespace Go.Proofs
open Go Go.Sx
attribute [local irreducible] Run

theorem chkX_ok {c : Ct} {x : Cg} (h : chkX c x = 0) : CtOK c ∧ CgOK c x := by
  unfold chkX at h
  by_cases c0 : chkC c = 0
  rotate_left
  · rw [if_neg c0] at h; exact absurd h c0
  rw [if_pos c0] at h
  by_cases c1 : chkR c.amount [x.carb, x.ox, x.ba, x.lost, x.gas] = 0
  rotate_left
  · rw [if_neg c1] at h; exact absurd h c1
  rw [if_pos c1] at h
  by_cases c2 : chkR 1099511627776 [x.wear] = 0
  rotate_left
  · rw [if_neg c2] at h; exact absurd h c2
  rw [if_pos c2] at h
  by_cases c3 : 0 ≤ x.heat ∧ x.heat ≤ 2000
  rotate_left
  · rw [if_neg c3] at h; simp at h
  have q := chkR_zero c1
  have q2 := chkR_zero c2
  have r1 := q x.carb (by simp)
  have r2 := q x.ox (by simp)
  have r3 := q x.ba (by simp)
  have r4 := q x.lost (by simp)
  have r5 := q x.gas (by simp)
  have r6 := q2 x.wear (by simp)
  exact ⟨chkC_ok c0, ⟨by omega, by omega, by omega⟩, ⟨by omega, by omega, by omega⟩, ⟨by omega, by omega, by omega⟩, ⟨by omega, by omega, by omega⟩, ⟨by omega, by omega, by omega⟩, ⟨by omega, by omega, by omega⟩, c3⟩

/-- A tick, or the error that there is. -/
def tickV (c : Ct) (x : Cg) (heat cur : Int) : Cg × Int :=
  if chkX c x = 0 then
    (if 0 ≤ heat ∧ heat ≤ 2000 then (if 0 ≤ cur ∧ cur ≤ 1000 then
      (if 1099511627776 < (after c x heat cur).wear.hi then (zeroCg, 8) else (after c x heat cur, 0)) else (zeroCg, 2)) else (zeroCg, 2))
  else (zeroCg, chkX c x)
theorem rightHeat_raw (h : Int) : Ans Try.prog n_cathode_rightHeat [.int .i64 h] [] (.bool (decide (0 ≤ h ∧ h ≤ 2000))) [] := by
  refine spec_run e_cathode_rightHeat fun G => ?_
  simp only [go_sem]
  by_cases c1 : 0 ≤ h ∧ h ≤ 2000
  · refine cP (within_yes c1) ?_
    simp only [go_sem, c1, decide_true]
  · refine cP (within_no c1) ?_
    simp only [go_sem, c1, decide_false]
theorem rightCurrent_raw (h : Int) : Ans Try.prog n_cathode_rightCurrent [.int .i64 h] [] (.bool (decide (0 ≤ h ∧ h ≤ 1000))) [] := by
  refine spec_run e_cathode_rightCurrent fun G => ?_
  simp only [go_sem]
  by_cases c1 : 0 ≤ h ∧ h ≤ 1000
  · refine cP (within_yes c1) ?_
    simp only [go_sem, c1, decide_true]
  · refine cP (within_no c1) ?_
    simp only [go_sem, c1, decide_false]

def chkT (c : Ct) (x : Cg) (heat cur : Int) : Int := if chkX c x = 0 then (if 0 ≤ heat ∧ heat ≤ 2000 then (if 0 ≤ cur ∧ cur ≤ 1000 then 0 else 2) else 2) else chkX c x
theorem checkTick_raw (c : Ct) (hl : c.bands.length ≤ 1000) (x : Cg) (heat cur : Int) : Ans Try.prog n_cathode_checkTick [c.v (.view (c.bands.map Bd.v)), x.v, .int .i64 heat, .int .i64 cur] [] (.int .i64 (chkT c x heat cur)) [] := by
  have g := CheckCoating_raw c hl x
  generalize hRES : chkT c x heat cur = RES
  unfold chkT at hRES
  refine spec_run e_cathode_checkTick fun G => ?_
  simp only [go_sem, Ct.v, Ct.cs, Cg.v, Cg.cs]
  refine cP g ?_
  generalize chkX c x = e0 at *
  by_cases c0 : e0 = 0
  rotate_left
  · have b0 : (e0 != 0) = true := by simp [c0]
    rw [if_neg c0] at hRES
    subst hRES
    simp only [go_sem, b0]
  rw [if_pos c0] at hRES
  subst c0
  simp only [go_sem, Int.reduceBNe]
  refine cP (rightHeat_raw heat) ?_
  by_cases c1 : 0 ≤ heat ∧ heat ≤ 2000
  rotate_left
  · rw [if_neg c1] at hRES
    subst hRES
    simp only [go_sem, decide_eq_false c1]
  rw [if_pos c1] at hRES
  simp only [go_sem, decide_eq_true c1]
  refine cP (rightCurrent_raw cur) ?_
  by_cases c2 : 0 ≤ cur ∧ cur ≤ 1000
  rotate_left
  · rw [if_neg c2] at hRES
    subst hRES
    simp only [go_sem, decide_eq_false c2]
  rw [if_pos c2] at hRES
  subst hRES
  simp only [go_sem, decide_eq_true c2]

theorem Tick_raw (c : Ct) (hl : c.bands.length ≤ 1000) (x : Cg) (heat cur : Int) : Ans Try.prog n_cathode_Tick [c.v (.view (c.bands.map Bd.v)), x.v, .int .i64 heat, .int .i64 cur] [] (.tup [(tickV c x heat cur).1.v, .int .i64 (tickV c x heat cur).2]) [] := by
  generalize hRES : tickV c x heat cur = RES
  unfold tickV at hRES
  have g := checkTick_raw c hl x heat cur
  have hok := @chkX_ok c x
  unfold chkT at g
  refine spec_run e_cathode_Tick fun G => ?_
  simp only [go_sem, Ct.v, Ct.cs, Cg.v, Cg.cs]
  refine cP g ?_
  generalize chkX c x = e0 at *
  by_cases c0 : e0 = 0
  rotate_left
  · have b0 : (e0 != 0) = true := by simp [c0]
    rw [if_neg c0] at hRES
    subst hRES
    simp only [go_sem, b0, if_neg c0, zeroCg, Cg.v, Cg.cs]
  rw [if_pos c0] at hRES
  subst c0
  obtain ⟨hc, hx⟩ := hok rfl
  by_cases c1 : 0 ≤ heat ∧ heat ≤ 2000
  rotate_left
  · rw [if_neg c1] at hRES
    subst hRES
    simp only [go_sem, if_neg c1, zeroCg, Cg.v, Cg.cs, Int.reduceBNe]
  rw [if_pos c1] at hRES
  by_cases c2 : 0 ≤ cur ∧ cur ≤ 1000
  rotate_left
  · rw [if_neg c2] at hRES
    subst hRES
    simp only [go_sem, if_pos c1, if_neg c2, zeroCg, Cg.v, Cg.cs, Int.reduceBNe]
  rw [if_pos c2] at hRES
  have ha := after_run c hc x (hx.b hc.amount.2) heat cur c1 c2
  generalize after c x heat cur = y at *
  simp only [go_sem, if_pos c1, if_pos c2, Int.reduceBNe]
  refine cP ha ?_ (hr := by simp only [go_sem, Cg.v, Cg.cs])
  simp only [go_sem, Cg.v, Cg.cs]
  refine ⟨fun c3 => ?_, fun c3 => ?_⟩
  · rw [if_pos c3] at hRES
    subst hRES
    rfl
  · rw [if_neg c3] at hRES
    subst hRES
    rfl

theorem rTick_raw (c : Ct) (hl : c.bands.length ≤ 1000) (x : Cg) (heat cur : Int) : Ans Try.prog n_ref03_Tick [c.v (.view (c.bands.map Bd.v)), x.v, .int .i64 heat, .int .i64 cur] [] (.tup [(tickV c x heat cur).1.v, .int .i64 (tickV c x heat cur).2]) [] := by
  generalize hRES : tickV c x heat cur = RES
  unfold tickV at hRES
  have g := rCheckCoating_raw c hl x
  have hok := @chkX_ok c x
  refine spec_run e_ref03_Tick fun G => ?_
  simp only [go_sem, Ct.v, Ct.cs, Cg.v, Cg.cs]
  refine cP g ?_
  generalize chkX c x = e0 at *
  by_cases c0 : e0 = 0
  rotate_left
  · have b0 : (e0 != 0) = true := by simp [c0]
    rw [if_neg c0] at hRES
    subst hRES
    simp only [go_sem, b0, zeroCg, Cg.v, Cg.cs]
  rw [if_pos c0] at hRES
  subst c0
  obtain ⟨hc, hx⟩ := hok rfl
  simp only [go_sem, Int.reduceBNe]
  by_cases c1 : 0 ≤ heat ∧ heat ≤ 2000
  rotate_left
  · rw [if_neg c1] at hRES
    subst hRES
    refine cP (beyond_yes c1) ?_
    simp only [go_sem, zeroCg, Cg.v, Cg.cs]
  rw [if_pos c1] at hRES
  refine cP (beyond_no c1) ?_
  simp only [go_sem]
  by_cases c2 : 0 ≤ cur ∧ cur ≤ 1000
  rotate_left
  · rw [if_neg c2] at hRES
    subst hRES
    refine cP (beyond_yes c2) ?_
    simp only [go_sem, zeroCg, Cg.v, Cg.cs]
  rw [if_pos c2] at hRES
  refine cP (beyond_no c2) ?_
  have ha := rtick_run c hc x (hx.b hc.amount.2) heat cur c1 c2
  generalize after c x heat cur = y at *
  simp only [go_sem]
  refine cP ha ?_ (hr := by simp only [go_sem, Cg.v, Cg.cs])
  simp only [go_sem, Cg.v, Cg.cs]
  refine ⟨fun c3 => ?_, fun c3 => ?_⟩
  · rw [if_pos c3] at hRES
    subst hRES
    rfl
  · rw [if_neg c3] at hRES
    subst hRES
    rfl
end Go.Proofs
