/- The reference's ticks: heat, parts, bands. -/
import Derived.Test.YtigaafcllfjniaaYdCode
import Derived.Test.YtigaafcllfjniaaYcN
import Derived.Test.YtigaafcllfjniaaYkMix
namespace Go.Proofs
open Go Go.Sx
attribute [local irreducible] Run

theorem rDown_run (x r : Int) (hx : 0 ≤ x ∧ x ≤ 1000000) (hr : 0 ≤ r ∧ r ≤ 1000000) : Ans Try.prog n_ref03_Down [.int .i64 x, .int .i64 r] [] (.int .i64 (dn x r)) [] := by
  have h1 := mul_rng hx.1 hx.2 hr.1 hr.2
  have h2 : IntKind.i64.wrap (x * r) = x * r := w64 (by omega)
  have h3 : (x * r).tdiv 1000000 = dn x r := Int.tdiv_eq_ediv_of_nonneg h1.1
  have h4 : IntKind.i64.wrap (dn x r) = dn x r := w64 (by have := dn_in hx.1 hr.1 hr.2; omega)
  refine spec_run e_ref03_Down fun G => ?_
  simp only [go_sem, h2, h3, h4]
theorem rUp_run (x r : Int) (hx : 0 ≤ x ∧ x ≤ 1000000) (hr : 0 ≤ r ∧ r ≤ 1000000) : Ans Try.prog n_ref03_Up [.int .i64 x, .int .i64 r] [] (.int .i64 (up x r)) [] := by
  have h1 := mul_rng hx.1 hx.2 hr.1 hr.2
  have h2 : IntKind.i64.wrap (x * r) = x * r := w64 (by omega)
  have h5 : IntKind.i64.wrap (x * r + 1000000) = x * r + 1000000 := w64 (by omega)
  have h6 : IntKind.i64.wrap (x * r + 1000000 - 1) = x * r + 999999 := by rw [w64 (by omega)]; omega
  have h3 : (x * r + 999999).tdiv 1000000 = up x r := Int.tdiv_eq_ediv_of_nonneg (by omega)
  have h4 : IntKind.i64.wrap (up x r) = up x r := w64 (by have := up_in hx.1 hr.1 hr.2; omega)
  refine spec_run e_ref03_Up fun G => ?_
  simp only [go_sem, h2, h5, h6, h3, h4]

theorem rHeat_run (c : Ct) (hc : CtOK c) (h a : Int) (hh : 0 ≤ h ∧ h ≤ 2000) (ha : 0 ≤ a ∧ a ≤ 2000) : Ans Try.prog n_ref03_Heat [c.v (.view (c.bands.map Bd.v)), .int .i64 h, .int .i64 a] [] (.int .i64 (moved h a c.slew)) [] := by
  have hs := hc.slew
  have e1 : IntKind.i64.wrap (h - c.slew) = h - c.slew := w64 (by omega)
  have e2 : IntKind.i64.wrap (h + c.slew) = h + c.slew := w64 (by omega)
  refine spec_run e_ref03_Heat fun G => ?_
  simp only [go_sem, Ct.v, Ct.cs, e1, e2]
  unfold moved mi mx
  refine ⟨fun _ => ?_, fun _ => ?_⟩ <;> (repeat' split) <;> omega

theorem rBand_run (c : Ct) (hc : CtOK c) (h cur : Int) (hh : 0 ≤ h) (hcur : 0 ≤ cur ∧ cur ≤ 1000) : Ans Try.prog n_ref03_BandOf [c.v (.view (c.bands.map Bd.v)), .int .i64 h, .int .i64 cur] [] (ratesAt c h cur).v [] := by
  have hl := hc.len
  have p1 := aboveN_pos hc.len.1 hc.first hh
  have p2 := aboveN_le c.bands h
  have hx0 : c.bands[0]? = some (c.bands.getD 0 default) := by rw [List.getD_eq_getElem?_getD, List.getElem?_eq_getElem (by omega)]; rfl
  have hfin : c.bands.getD (min c.bands.length (aboveN c.bands h) - 1) default = bandAt c.bands h := by rw [Nat.min_eq_right p2]; rfl
  have hb := (bandAt_ok hc hh).red
  have a1 := mul_rng hcur.1 hcur.2 hc.aid.lo (Int.le_trans hc.aid.le hc.aid.hi)
  have a2 := mul_rng hcur.1 hcur.2 (Int.le_trans hc.aid.lo hc.aid.le) hc.aid.hi
  obtain ⟨b1, b2, b3⟩ := hb
  have e1 : IntKind.i64.wrap (cur * c.aid.lo) = cur * c.aid.lo := w64 (by omega)
  have e2 : IntKind.i64.wrap (cur * c.aid.hi) = cur * c.aid.hi := w64 (by omega)
  have e3 : IntKind.i64.wrap ((bandAt c.bands h).red.lo + cur * c.aid.lo) = (bandAt c.bands h).red.lo + cur * c.aid.lo := w64 (by omega)
  have e4 : IntKind.i64.wrap ((bandAt c.bands h).red.hi + cur * c.aid.hi) = (bandAt c.bands h).red.hi + cur * c.aid.hi := w64 (by omega)
  refine spec_run e_ref03_BandOf fun G => ?_
  have hg0 : (0 : Int) < c.bands.length := by omega
  simp only [go_sem, Ct.v, Ct.cs, hx0, hg0, Bd.v, Bd.cs]
  refine loop_ind k_ref03_BandOf_r7.eq_1 (fun a : Nat × Bd => a.1 ≤ c.bands.length ∧ a.2 = c.bands.getD (min a.1 (aboveN c.bands h) - 1) default) (fun a => c.bands.length - a.1)
    (fun a => (tsets 58 [(1, .int .i64 h), (2, .int .i64 cur), (3, .ptr 0 0 0 1), (6, .ptr 1 0 0 1), (7, .ptr 2 0 0 1), (8, .int .i64 a.1)],
      [some (.cells false 7 [c.v (.view (c.bands.map Bd.v))]), some (.cells false 9 [.agg [.int .i64 0, .int .i64 0, .int .i64 0, .int .i64 0, .int .i64 0, .int .i64 0, .int .i64 0, .int .i64 0, .int .i64 0]]), some (.cells false 9 [a.2.v])]))
    (0, c.bands.getD 0 default) ⟨Nat.zero_le _, by simp⟩ (by simp [go_sem]) rfl ?_
  rintro ⟨i, b⟩ ⟨hi, hbe⟩ ih
  dsimp only at hi hbe ih ⊢
  by_cases h1 : i < c.bands.length
  · have h2 : (i : Int) < c.bands.length := by omega
    have hx : c.bands[i]? = some (c.bands.getD i default) := by rw [List.getD_eq_getElem?_getD, List.getElem?_eq_getElem h1]; rfl
    have hs := aboveN_spec (h := h) hc.asc i h1
    have h3 := idx_next h1 (by omega)
    have n0 : ¬ (i : Int) < 0 := by omega
    by_cases h4 : (c.bands.getD i default).frm ≤ h
    · have h5 := hs.1 h4
      have hne : c.bands.getD (min (i + 1) (aboveN c.bands h) - 1) default = c.bands.getD i default := by rw [Nat.min_eq_left (by omega), Nat.add_sub_cancel]
      generalize c.bands.getD i default = z at *
      simp only [go_sem, hx, h2, n0, h4, h3, Ct.v, Ct.cs, Bd.v, Bd.cs]
      exact ih (i + 1, z) (by dsimp only; omega) ⟨h1, hne.symm⟩ _ (by simp [go_sem])
    · have h5 : ¬ i < aboveN c.bands h := fun h => h4 (hs.2 h)
      have hne : c.bands.getD (min (i + 1) (aboveN c.bands h) - 1) default = b := by
        rw [hbe, Nat.min_eq_right (by omega), Nat.min_eq_right (by omega)]
      generalize c.bands.getD i default = z at *
      simp only [go_sem, hx, h2, n0, h4, h3, Ct.v, Ct.cs, Bd.v, Bd.cs]
      exact ih (i + 1, b) (by dsimp only; omega) ⟨h1, hne.symm⟩ _ (by simp [go_sem])
  · have h2 : ¬ (i : Int) < c.bands.length := by omega
    have hie : i = c.bands.length := by omega
    rw [hie, hfin] at hbe
    unfold ratesAt
    rw [← hbe] at e3 e4 b1 b2 b3 ⊢
    have m1 : ∀ y : Int, (if y < 1000000 then y else 1000000) = mi y 1000000 := fun y => by unfold mi; split <;> split <;> omega
    simp only [go_sem, h2, Ct.v, Ct.cs, Bd.v, Bd.cs, e1, e2, e3, e4, m1]
end Go.Proofs
