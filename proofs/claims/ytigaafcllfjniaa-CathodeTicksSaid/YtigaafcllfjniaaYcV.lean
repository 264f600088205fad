/- Courses: what may follow. -/
import Derived.Test.YtigaafcllfjniaaYcU
namespace Go.Proofs
open Go Go.Sx
attribute [local irreducible] Run

theorem alone_run (n : Int) : Ans Try.prog n_cathode_alone [.int .i64 n] [] (Rg.v ⟨n, n⟩) [] := by
  refine spec_run e_cathode_alone fun G => ?_
  simp only [go_sem, Rg.v]
theorem isIn_yes {n : Int} {r : Rg} (h : r.lo ≤ n ∧ n ≤ r.hi) : Ans Try.prog n_cathode_isIn [.int .i64 n, r.v] [] (.bool true) [] := by
  refine spec_run e_cathode_isIn fun G => ?_
  simp only [go_sem, Rg.v]
  refine cP (within_yes h) ?_
  simp only [go_sem]

set_option maxHeartbeats 1000000 in
theorem follows_run {c : Ct} (hc : CtOK c) {a b : Mx} {x : Bd} (hx : BdOK x) (ha : MxOK c a) (h : Fol a b x) : Ans Try.prog n_cathode_follows [a.v, b.v, x.v] [] (.bool true) [] := by
  have hb := h.ok hx ha
  have hm := hc.amount
  obtain ⟨a1, a2, a3, a4, a5⟩ := ha
  obtain ⟨q1, q2, q3, q4, q5⟩ := hb
  obtain ⟨f1, f2, f3, f4⟩ := h
  have r1 := remains_ok ⟨a.carb, a.carb⟩ x.conv ⟨by dsimp only; omega, by dsimp only; omega⟩ (hx.conv.b (by decide))
  have r2 := remains_ok ⟨a.ox, a.ox⟩ x.red ⟨by dsimp only; omega, by dsimp only; omega⟩ (hx.red.b (by decide))
  have r3 := remains_ok ⟨a.ba, a.ba⟩ x.evap ⟨by dsimp only; omega, by dsimp only; omega⟩ (hx.evap.b (by decide))
  have k1 := remains_b (a := ⟨a.carb, a.carb⟩) ⟨by dsimp only; omega, by dsimp only; omega⟩ (hx.conv.b (by decide))
  have k2 := remains_b (a := ⟨a.ox, a.ox⟩) ⟨by dsimp only; omega, by dsimp only; omega⟩ (hx.red.b (by decide))
  have k3 := remains_b (a := ⟨a.ba, a.ba⟩) ⟨by dsimp only; omega, by dsimp only; omega⟩ (hx.evap.b (by decide))
  have e1 : IntKind.i64.wrap (a.carb - b.carb) = a.carb - b.carb := w64 (by omega)
  have e2 : IntKind.i64.wrap (a.ox + (a.carb - b.carb)) = a.ox + (a.carb - b.carb) := w64 (by omega)
  have e3 : IntKind.i64.wrap (a.ox + (a.carb - b.carb) - b.ox) = a.ox + (a.carb - b.carb) - b.ox := w64 (by omega)
  have e4 : IntKind.i64.wrap (a.ba + (a.ox + (a.carb - b.carb) - b.ox)) = a.ba + (a.ox + (a.carb - b.carb) - b.ox) := w64 (by omega)
  have e5 : IntKind.i64.wrap (a.ba + (a.ox + (a.carb - b.carb) - b.ox) - b.ba) = a.ba + (a.ox + (a.carb - b.carb) - b.ox) - b.ba := w64 (by omega)
  have e6 : IntKind.i64.wrap (a.lost + (a.ba + (a.ox + (a.carb - b.carb) - b.ox) - b.ba)) = b.lost := by rw [w64 (by omega)]; omega
  have s2 := sum_ok (remains ⟨a.ox, a.ox⟩ x.red) ⟨a.carb - b.carb, a.carb - b.carb⟩ (by omega) (by omega) (by dsimp only; omega) (by dsimp only; omega)
  have s3 := sum_ok (remains ⟨a.ba, a.ba⟩ x.evap) ⟨a.ox + (a.carb - b.carb) - b.ox, a.ox + (a.carb - b.carb) - b.ox⟩ (by omega) (by omega) (by dsimp only; omega) (by dsimp only; omega)
  have i1 := @isIn_yes b.carb (remains ⟨a.carb, a.carb⟩ x.conv) (by simp only [remains]; omega)
  have i2 := @isIn_yes b.ox (sumR (remains ⟨a.ox, a.ox⟩ x.red) ⟨a.carb - b.carb, a.carb - b.carb⟩) (by simp only [remains, sumR]; omega)
  have i3 := @isIn_yes b.ba (sumR (remains ⟨a.ba, a.ba⟩ x.evap) ⟨a.ox + (a.carb - b.carb) - b.ox, a.ox + (a.carb - b.carb) - b.ox⟩) (by simp only [remains, sumR]; omega)
  refine spec_run e_cathode_follows fun G => ?_
  simp only [go_sem, Mx.v, Mx.cs, Bd.v, Bd.cs]
  refine dP (alone_run _) ?_
  simp only [go_sem]
  refine dP r1 ?_
  simp only [go_sem]
  refine cP i1 ?_
  simp only [go_sem, e1]
  refine dP (alone_run _) ?_
  simp only [go_sem]
  refine dP r2 ?_
  simp only [go_sem]
  refine dP (alone_run _) ?_
  simp only [go_sem]
  refine dP s2 ?_
  simp only [go_sem]
  refine cP i2 ?_
  simp only [go_sem, e2, e3]
  refine dP (alone_run _) ?_
  simp only [go_sem]
  refine dP r3 ?_
  simp only [go_sem]
  refine dP (alone_run _) ?_
  simp only [go_sem]
  refine dP s3 ?_
  simp only [go_sem]
  refine cP i3 ?_
  simp only [go_sem, e4, e5, e6]

/-- How much of an amount changes. -/
def someV (w style x : Int) (r : Rg) : Int := if style = 0 then dn x r.lo else if style = 1 then up x r.hi else btw w (dn x r.lo) (up x r.hi)
def someW (w style : Int) : Int := if style = 0 then w else if style = 1 then w else dstep w
theorem someV_in {w style x : Int} {r : Rg} (hx : 0 ≤ x) (hr : RgIn r 1000000) : dn x r.lo ≤ someV w style x r ∧ someV w style x r ≤ up x r.hi := by
  have hb := hr.all
  have h1 := dn_le_up hx (Int.le_refl x) hb.1 hb.2.1
  have h2 := btw_in (w := w) h1
  unfold someV
  split
  · omega
  · split <;> omega

theorem some_run (w style x : Int) (r : Rg) (hx : 0 ≤ x ∧ x ≤ 1000000) (hr : RgIn r 1000000) : Ans Try.prog n_kit_some [.ptr 0 0 0 1, .int .i64 style, .int .i64 x, r.v] [some (Dr w)] (.int .i64 (someV w style x r)) [some (Dr (someW w style))] := by
  have hb := hr.all
  have h1 := dn_le_up hx.1 (Int.le_refl x) hb.1 hb.2.1
  have h2 := dn_in hx.1 hb.1 (by omega)
  have h3 := up_in hx.1 (show 0 ≤ r.hi by omega) hb.2.2
  unfold someV someW
  refine spec_run e_kit_some fun G => ?_
  simp only [go_sem, Rg.v]
  refine dP (rDown_run _ _ hx (by omega)) ?_
  simp only [go_sem]
  refine cP (rUp_run _ _ hx (by omega)) ?_
  simp only [go_sem]
  by_cases c0 : style = 0
  · simp only [go_sem, c0]
    exact ⟨_, rfl⟩
  · by_cases c1 : style = 1
    · simp only [go_sem, c1]
      exact ⟨_, rfl⟩
    · have b0 : (style == 0) = false := by simp [c0]
      have b1 : (style == 1) = false := by simp [c1]
      simp only [go_sem, b0, b1, c0, c1]
      refine cD (between_ok _ _ _ (by omega) h1 (by omega)) ?_
      simp only [go_sem]
      exact ⟨_, rfl⟩
end Go.Proofs
