/- Coats: ticks. -/
import Derived.Test.YtigaafcllfjniaaYcB
namespace Go.Proofs
open Go Go.Sx

def Tk (b : Bd) (x y : Cg) : Row := .cells false 35 [.agg (b.cs ++ x.cs ++ y.cs)]
@[go_sem] theorem tk_bel (b : Bd) (x y : Cg) (S : Nat → Prop) : (Tk b x y).bel S = True := by
  unfold Tk; rw [row_bel_cells]; simp only [go_sem, Bd.cs, Cg.cs]

/-- What ticks lean on. -/
structure TkOK (b : Bd) (x : Cg) : Prop where
  conv : RgB b.conv
  red : RgB b.red
  evap : RgB b.evap
  sint : RgB b.sint
  carb : RgB x.carb
  ox : RgB x.ox
  ba : RgB x.ba
  lost : RgB x.lost
  wear : 0 ≤ x.wear.lo ∧ x.wear.lo ≤ 100000000000000 ∧ 0 ≤ x.wear.hi ∧ x.wear.hi ≤ 100000000000000

theorem parts_b {a r : Rg} (ha : RgB a) (hr : RgB r) : 0 ≤ (parts a r).lo ∧ (parts a r).lo ≤ 1000000 ∧ 0 ≤ (parts a r).hi ∧ (parts a r).hi ≤ 1000000 := by
  have u := up_in ha.hi.1 hr.hi.1 hr.hi.2
  have d := dn_in ha.lo.1 hr.lo.1 hr.lo.2
  have h1 := ha.lo; have h2 := ha.hi
  simp only [parts]; omega
theorem remains_b {a r : Rg} (ha : RgB a) (hr : RgB r) : 0 ≤ (remains a r).lo ∧ (remains a r).lo ≤ 1000000 ∧ 0 ≤ (remains a r).hi ∧ (remains a r).hi ≤ 1000000 := by
  have u := up_in ha.lo.1 hr.hi.1 hr.hi.2
  have d := dn_in ha.hi.1 hr.lo.1 hr.lo.2
  have h1 := ha.lo; have h2 := ha.hi
  simp only [remains]; omega

theorem gas_ok (b : Bd) (x y : Cg) (h : TkOK b x) : Ans Try.prog n_cathode_tick_gas [.ptr 0 0 0 1] [some (Tk b x y)] (.tup []) [some (Tk b x { y with gas := parts x.carb b.conv })] := by
  refine spec_run e_cathode_tick_gas fun G => ?_
  simp only [go_sem, Tk, Bd.cs, Cg.cs]
  refine dP (parts_ok _ _ h.carb h.conv) ?_
  simp only [go_sem, Rg.v]
  exact ⟨_, rfl⟩

theorem carbonate_ok (b : Bd) (x y : Cg) (h : TkOK b x) : Ans Try.prog n_cathode_tick_carbonate [.ptr 0 0 0 1] [some (Tk b x y)] (.tup []) [some (Tk b x { y with carb := remains x.carb b.conv })] := by
  refine spec_run e_cathode_tick_carbonate fun G => ?_
  simp only [go_sem, Tk, Bd.cs, Cg.cs]
  refine dP (remains_ok _ _ h.carb h.conv) ?_
  simp only [go_sem, Rg.v]
  exact ⟨_, rfl⟩

theorem oxide_ok (b : Bd) (x y : Cg) (h : TkOK b x) (hg : 0 ≤ y.gas.lo ∧ y.gas.lo ≤ 1000000 ∧ 0 ≤ y.gas.hi ∧ y.gas.hi ≤ 1000000) :
    Ans Try.prog n_cathode_tick_oxide [.ptr 0 0 0 1] [some (Tk b x y)] (.tup []) [some (Tk b x { y with ox := sumR (remains x.ox b.red) y.gas })] := by
  have hr := remains_b h.ox h.red
  refine spec_run e_cathode_tick_oxide fun G => ?_
  simp only [go_sem, Tk, Bd.cs, Cg.cs]
  refine dP (remains_ok _ _ h.ox h.red) ?_
  simp only [go_sem, Rg.v]
  refine dP (sum_ok _ y.gas (by omega) (by omega) (by omega) (by omega)) ?_
  simp only [go_sem, Rg.v]
  exact ⟨_, rfl⟩

theorem barium_ok (b : Bd) (x y : Cg) (h : TkOK b x) :
    Ans Try.prog n_cathode_tick_barium [.ptr 0 0 0 1] [some (Tk b x y)] (.tup []) [some (Tk b x { y with ba := sumR (remains x.ba b.evap) (parts x.ox b.red) })] := by
  have hr := remains_b h.ba h.evap
  have hp := parts_b h.ox h.red
  refine spec_run e_cathode_tick_barium fun G => ?_
  simp only [go_sem, Tk, Bd.cs, Cg.cs]
  refine dP (remains_ok _ _ h.ba h.evap) ?_
  simp only [go_sem, Rg.v]
  refine dP (parts_ok _ _ h.ox h.red) ?_
  simp only [go_sem, Rg.v]
  refine dP (sum_ok (remains x.ba b.evap) (parts x.ox b.red) (by omega) (by omega) (by omega) (by omega)) ?_
  simp only [go_sem, Rg.v]
  exact ⟨_, rfl⟩

theorem lost_ok (b : Bd) (x y : Cg) (h : TkOK b x) :
    Ans Try.prog n_cathode_tick_lost [.ptr 0 0 0 1] [some (Tk b x y)] (.tup []) [some (Tk b x { y with lost := sumR x.lost (parts x.ba b.evap) })] := by
  have hp := parts_b h.ba h.evap
  have h1 := h.lost.lo; have h2 := h.lost.hi
  refine spec_run e_cathode_tick_lost fun G => ?_
  simp only [go_sem, Tk, Bd.cs, Cg.cs]
  refine dP (parts_ok _ _ h.ba h.evap) ?_
  simp only [go_sem, Rg.v]
  refine dP (sum_ok x.lost (parts x.ba b.evap) (by omega) (by omega) (by omega) (by omega)) ?_
  simp only [go_sem, Rg.v]
  exact ⟨_, rfl⟩

theorem wear_ok (b : Bd) (x y : Cg) (h : TkOK b x) :
    Ans Try.prog n_cathode_tick_wear [.ptr 0 0 0 1] [some (Tk b x y)] (.tup []) [some (Tk b x { y with wear := sumR x.wear b.sint })] := by
  have h0 := h.wear
  have h1 := h.sint.lo; have h2 := h.sint.hi
  refine spec_run e_cathode_tick_wear fun G => ?_
  simp only [go_sem, Tk, Bd.cs, Cg.cs]
  refine dP (sum_ok x.wear b.sint (by omega) (by omega) (by omega) (by omega)) ?_
  simp only [go_sem, Rg.v]
  exact ⟨_, rfl⟩

/-! ### Rates -/
theorem ratesAt1_ok (c : Ct) (bs : List Bd) (h : Int) (i : Nat) (hi : i < bs.length) :
    Ans Try.prog n_cathode_ratesAt_1 [.int .i64 i, .rptr (c.v (.view (bs.map Bd.v))) 0, .rptr (.int .i64 h) 0] [] (.bool (decide (h < (bs.getD i default).frm))) [] := by
  have hx : bs[i]? = some bs[i] := List.getElem?_eq_getElem hi
  refine spec_run e_cathode_ratesAt_1 fun G => ?_
  simp only [go_sem, Ct.v, Ct.cs, hx, Bd.v, Bd.cs, List.getD_eq_getElem?_getD, Option.getD_some]
end Go.Proofs
