/- Coats: what a tick makes. -/
import Derived.Test.YtigaafcllfjniaaYcD
namespace Go.Proofs
open Go Go.Sx

structure CgB (x : Cg) : Prop where
  carb : RgB x.carb
  ox : RgB x.ox
  ba : RgB x.ba
  lost : RgB x.lost
  wear : 0 ≤ x.wear.lo ∧ x.wear.lo ≤ 100000000000000 ∧ 0 ≤ x.wear.hi ∧ x.wear.hi ≤ 100000000000000
  heat : 0 ≤ x.heat ∧ x.heat ≤ 2000

theorem CgOK.b {c : Ct} {x : Cg} (hm : c.amount ≤ 1000000) (h : CgOK c x) : CgB x := by
  have hw := h.wear.all
  exact ⟨h.carb.b hm, h.ox.b hm, h.ba.b hm, h.lost.b hm, by omega, h.heat⟩

set_option maxRecDepth 4000 in
theorem after_run (c : Ct) (hc : CtOK c) (x : Cg) (hx : CgB x) (heat cur : Int) (hh : 0 ≤ heat ∧ heat ≤ 2000) (hcur : 0 ≤ cur ∧ cur ≤ 1000) :
    Ans Try.prog n_cathode_after [c.v (.view (c.bands.map Bd.v)), x.v, .int .i64 heat, .int .i64 cur] [] (after c x heat cur).v [] := by
  have hm := moved_ok x.heat heat c.slew hx.heat hh hc.slew
  have hmi := moved_in hx.heat hh hc.slew.1
  have hr := ratesAt_run c hc (moved x.heat heat c.slew) cur hmi.1 hcur
  have hb := ratesAt_ok hc hmi.1 hcur
  unfold after
  generalize moved x.heat heat c.slew = h at *
  generalize ratesAt c h cur = b at *
  have tk : TkOK b x := ⟨hb.conv.b (by decide), hb.red.b (by decide), hb.evap.b (by decide), hb.sint.b (by decide), hx.carb, hx.ox, hx.ba, hx.lost, hx.wear⟩
  have u1 : IntKind.i64.wrap 1 = 1 := rfl
  have u2 : IntKind.i64.wrap 2 = 2 := rfl
  have u3 : IntKind.i64.wrap 3 = 3 := rfl
  have u4 : IntKind.i64.wrap 4 = 4 := rfl
  have u5 : IntKind.i64.wrap 5 = 5 := rfl
  have u6 : IntKind.i64.wrap 6 = 6 := rfl
  refine spec_run e_cathode_after fun G => ?_
  simp only [go_sem, Ct.v, Ct.cs, Cg.v, Cg.cs]
  refine cP hm ?_
  simp only [go_sem]
  refine cP hr ?_
  simp only [go_sem, Bd.v, Bd.cs]
  refine loop_body 200 k_cathode_after_r9.eq_1 ?_
  simp only [go_sem]
  refine cD (gas_ok b x ⟨⟨0, 0⟩, ⟨0, 0⟩, ⟨0, 0⟩, ⟨0, 0⟩, ⟨0, 0⟩, ⟨0, 0⟩, h⟩ tk) ?_
  simp only [go_sem, u1]
  refine loop_body 200 k_cathode_after_r9.eq_1 ?_
  simp only [go_sem]
  refine cD (carbonate_ok b x ⟨⟨0, 0⟩, ⟨0, 0⟩, ⟨0, 0⟩, ⟨0, 0⟩, parts x.carb b.conv, ⟨0, 0⟩, h⟩ tk) ?_
  simp only [go_sem, u2]
  refine loop_body 200 k_cathode_after_r9.eq_1 ?_
  simp only [go_sem]
  refine cD (oxide_ok b x ⟨remains x.carb b.conv, ⟨0, 0⟩, ⟨0, 0⟩, ⟨0, 0⟩, parts x.carb b.conv, ⟨0, 0⟩, h⟩ tk (parts_b tk.carb tk.conv)) ?_
  simp only [go_sem, u3]
  refine loop_body 200 k_cathode_after_r9.eq_1 ?_
  simp only [go_sem]
  refine cD (barium_ok b x ⟨remains x.carb b.conv, sumR (remains x.ox b.red) (parts x.carb b.conv), ⟨0, 0⟩, ⟨0, 0⟩, parts x.carb b.conv, ⟨0, 0⟩, h⟩ tk) ?_
  simp only [go_sem, u4]
  refine loop_body 200 k_cathode_after_r9.eq_1 ?_
  simp only [go_sem]
  refine cD (lost_ok b x ⟨remains x.carb b.conv, sumR (remains x.ox b.red) (parts x.carb b.conv), sumR (remains x.ba b.evap) (parts x.ox b.red), ⟨0, 0⟩, parts x.carb b.conv, ⟨0, 0⟩, h⟩ tk) ?_
  simp only [go_sem, u5]
  refine loop_body 200 k_cathode_after_r9.eq_1 ?_
  simp only [go_sem]
  refine cD (wear_ok b x ⟨remains x.carb b.conv, sumR (remains x.ox b.red) (parts x.carb b.conv), sumR (remains x.ba b.evap) (parts x.ox b.red), sumR x.lost (parts x.ba b.evap), parts x.carb b.conv, ⟨0, 0⟩, h⟩ tk) ?_
  simp only [go_sem, u6]
  refine loop_body 200 k_cathode_after_r9.eq_1 ?_
  simp only [go_sem, Tk, Bd.cs, Cg.cs]
  refine loop_body 200 k_cathode_after_r15.eq_1 ?_
  simp only [go_sem, u1]
  refine loop_body 200 k_cathode_after_r15.eq_1 ?_
  simp only [go_sem, u2]
  refine loop_body 200 k_cathode_after_r15.eq_1 ?_
  simp only [go_sem, u3]
  refine loop_body 200 k_cathode_after_r15.eq_1 ?_
  simp only [go_sem, u4]
  refine loop_body 200 k_cathode_after_r15.eq_1 ?_
  simp only [go_sem, u5]
  refine loop_body 200 k_cathode_after_r15.eq_1 ?_
  simp only [go_sem]
  simp only [afterB, cut, mi]
end Go.Proofs
