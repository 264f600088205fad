/- Coats: schedules. -/
import Derived.Test.YtigaafcllfjniaaYcF
import Derived.Test.YtigaafcllfjniaaSxF
namespace Go.Proofs
open Go Go.Sx

theorem CheckCoating_run (c : Ct) (hc : CtOK c) (x : Cg) (hx : CgOK c x) : Ans Try.prog n_cathode_CheckCoating [c.v (.view (c.bands.map Bd.v)), x.v] [] (.int .i64 0) [] := by
  have g1 := checkRanges_ok c.amount [x.carb, x.ox, x.ba, x.lost, x.gas] (by simp [hx.carb, hx.ox, hx.ba, hx.lost, hx.gas]) (by simp)
  have g2 := checkRanges_ok 1099511627776 [x.wear] (by simp [hx.wear]) (by simp)
  refine spec_run e_cathode_CheckCoating fun G => ?_
  simp only [go_sem, Ct.v, Ct.cs, Cg.v, Cg.cs]
  refine cP (Check_run c hc) ?_
  simp only [go_sem]
  refine cF g1 6 (by simp only [go_sem, frz, Rg.v]) ?_
  simp only [go_sem]
  refine cF g2 6 (by simp only [go_sem, frz, Rg.v]) ?_
  simp only [go_sem]
  refine cP (within_yes hx.heat) ?_
  simp only [go_sem]

theorem rightHeat_ok {h : Int} (hh : 0 ≤ h ∧ h ≤ 2000) : Ans Try.prog n_cathode_rightHeat [.int .i64 h] [] (.bool true) [] := by
  refine spec_run e_cathode_rightHeat fun G => ?_
  simp only [go_sem]
  refine cP (within_yes hh) ?_
  simp only [go_sem]
theorem rightCurrent_ok {h : Int} (hh : 0 ≤ h ∧ h ≤ 1000) : Ans Try.prog n_cathode_rightCurrent [.int .i64 h] [] (.bool true) [] := by
  refine spec_run e_cathode_rightCurrent fun G => ?_
  simp only [go_sem]
  refine cP (within_yes hh) ?_
  simp only [go_sem]

theorem checkTick_run (c : Ct) (hc : CtOK c) (x : Cg) (hx : CgOK c x) (heat cur : Int) (hh : 0 ≤ heat ∧ heat ≤ 2000) (hcur : 0 ≤ cur ∧ cur ≤ 1000) :
    Ans Try.prog n_cathode_checkTick [c.v (.view (c.bands.map Bd.v)), x.v, .int .i64 heat, .int .i64 cur] [] (.int .i64 0) [] := by
  refine spec_run e_cathode_checkTick fun G => ?_
  simp only [go_sem, Ct.v, Ct.cs, Cg.v, Cg.cs]
  refine cP (CheckCoating_run c hc x hx) ?_
  simp only [go_sem]
  refine cP (rightHeat_ok hh) ?_
  simp only [go_sem]
  refine cP (rightCurrent_ok hcur) ?_
  simp only [go_sem]

theorem Tick_run (c : Ct) (hc : CtOK c) (x : Cg) (hx : CgOK c x) (heat cur : Int) (hh : 0 ≤ heat ∧ heat ≤ 2000) (hcur : 0 ≤ cur ∧ cur ≤ 1000) (hw : (after c x heat cur).wear.hi ≤ 1099511627776) :
    Ans Try.prog n_cathode_Tick [c.v (.view (c.bands.map Bd.v)), x.v, .int .i64 heat, .int .i64 cur] [] (.tup [(after c x heat cur).v, .int .i64 0]) [] := by
  have hw : ¬ 1099511627776 < (after c x heat cur).wear.hi := by omega
  have ha := after_run c hc x (hx.b hc.amount.2) heat cur hh hcur
  generalize after c x heat cur = y at *
  refine spec_run e_cathode_Tick fun G => ?_
  simp only [go_sem, Ct.v, Ct.cs, Cg.v, Cg.cs]
  refine cP (checkTick_run c hc x hx heat cur hh hcur) ?_
  simp only [go_sem]
  refine cP ha ?_ (hr := by simp only [go_sem, Cg.v, Cg.cs])
  simp only [go_sem, Cg.v, Cg.cs, hw]

theorem fresh_run (c : Ct) : Ans Try.prog n_cathode_fresh [c.v (.view (c.bands.map Bd.v))] [] (fresh c).v [] := by
  refine spec_run e_cathode_fresh fun G => ?_
  simp only [go_sem, Ct.v, Ct.cs, Cg.v, Cg.cs, fresh]

theorem Fresh_run (c : Ct) (hc : CtOK c) : Ans Try.prog n_cathode_Fresh [c.v (.view (c.bands.map Bd.v))] [] (.tup [(fresh c).v, .int .i64 0]) [] := by
  refine spec_run e_cathode_Fresh fun G => ?_
  simp only [go_sem, Ct.v, Ct.cs]
  refine cP (Check_run c hc) ?_
  simp only [go_sem]
  refine cP (fresh_run c) ?_ (hr := by simp only [go_sem, Cg.v, Cg.cs])
  simp only [go_sem, Cg.v, Cg.cs]

theorem length_run (l : List Ht) (hl : LsOK l) : Ans Try.prog n_cathode_length [.view (l.map Ht.v)] [] (.int .i64 (lenOfL l)) [] := by
  have hlen := hl.len
  have hsum := hl.sum
  refine spec_run e_cathode_length fun G => ?_
  simp only [go_sem]
  refine loop_ind k_cathode_length_r7.eq_1 (fun a : Nat × Heap => a.1 ≤ l.length) (fun a => l.length - a.1)
    (fun a => (tsets 18 [(3, .int .i64 (lenOfL (l.take a.1))), (6, .view (l.map Ht.v)), (7, .int .i64 l.length), (8, .int .i64 a.1)], a.2)) (0, []) (Nat.zero_le _) (by simp [go_sem, lenOfL]) rfl ?_
  rintro ⟨i, X⟩ hi ih
  dsimp only at hi ih ⊢
  by_cases h1 : i < l.length
  · have h2 : (i : Int) < l.length := by omega
    have hx : l[i]? = some l[i] := List.getElem?_eq_getElem h1
    have h3 := idx_next h1 (by omega)
    have hs := lenOfL_succ hx
    have hr := lenOfL_take hl.all (i + 1)
    have hr0 := lenOfL_take hl.all i
    generalize l[i] = z at *
    have h4 : IntKind.i64.wrap (lenOfL (l.take i) + z.ticks) = lenOfL (l.take (i + 1)) := by rw [w64 (by omega)]; omega
    simp only [go_sem, hx, h2, Ht.v, Ht.cs, h4, h3]
    exact ih (i + 1, _) (by dsimp only; omega) h1 _ (by simp [go_sem])
  · have h2 : ¬ (i : Int) < l.length := by omega
    simp only [go_sem, h2]
    rw [List.take_of_length_le (by omega)]

theorem CheckSchedule_run (l : List Ht) (hl : LsOK l) : Ans Try.prog n_cathode_CheckSchedule [.view (l.map Ht.v)] [] (.int .i64 0) [] := by
  have hlen := hl.len
  have hsum := hl.sum
  have k1 : ¬ (40 : Int) < l.length := by omega
  have k2 : ¬ (20000 : Int) < lenOfL l := by omega
  refine spec_run e_cathode_CheckSchedule fun G => ?_
  simp only [go_sem, k1]
  refine loop_ind k_cathode_CheckSchedule_r9.eq_1 (fun a : Nat × Heap => a.1 ≤ l.length) (fun a => l.length - a.1)
    (fun a => (tsets 34 [(0, .view (l.map Ht.v)), (2, .int .i64 0), (8, .view (l.map Ht.v)), (9, .int .i64 l.length), (10, .int .i64 a.1)], a.2)) (0, []) (Nat.zero_le _) (by simp [go_sem]) rfl ?_
  rintro ⟨i, X⟩ hi ih
  dsimp only at hi ih ⊢
  by_cases h1 : i < l.length
  · have h2 : (i : Int) < l.length := by omega
    have hx : l[i]? = some l[i] := List.getElem?_eq_getElem h1
    have h3 := idx_next h1 (by omega)
    have hz := hl.all _ (List.getElem_mem h1)
    generalize l[i] = z at *
    simp only [go_sem, hx, h2, Ht.v, Ht.cs]
    refine cP (within_yes hz.ticks) ?_
    simp only [go_sem]
    refine cP (rightHeat_ok hz.heat) ?_
    simp only [go_sem]
    refine cP (rightCurrent_ok hz.cur) ?_
    simp only [go_sem, h3]
    exact ih (i + 1, _) (by dsimp only; omega) h1 _ (by simp [go_sem])
  · have h2 : ¬ (i : Int) < l.length := by omega
    simp only [go_sem, h2]
    refine cP (length_run l hl) ?_ ⟨by rw [bel_view]; exact bels_map _ _ fun h => by simp only [go_sem, Ht.v, Ht.cs], trivial⟩
    simp only [go_sem, k2]
end Go.Proofs
