/- The reference: what is checked, ticks, what follows. -/
import Derived.Test.YtigaafcllfjniaaYcT
namespace Go.Proofs
open Go Go.Sx
attribute [local irreducible] Run

theorem beyond_no {n a b : Int} (h : a ≤ n ∧ n ≤ b) : Ans Try.prog n_ref03_beyond [.int .i64 n, .int .i64 a, .int .i64 b] [] (.bool false) [] := by
  have h1 : ¬ n < a := by omega
  have h2 : ¬ b < n := by omega
  refine spec_run e_ref03_beyond fun G => ?_
  simp only [go_sem, h1, h2]

theorem rcheckRange_run {r : Rg} {m : Int} (h : RgIn r m) : Ans Try.prog n_ref03_checkRange [r.v, .int .i64 m] [] (.int .i64 0) [] := by
  obtain ⟨r1, r2, r3⟩ := h
  have r4 : ¬ r.hi < r.lo := by omega
  refine spec_run e_ref03_checkRange fun G => ?_
  simp only [go_sem, Rg.v]
  refine cP (beyond_no ⟨r1, by omega⟩) ?_
  simp only [go_sem]
  refine cP (beyond_no ⟨by omega, r3⟩) ?_
  simp only [go_sem, r4]

theorem rcheckRanges_run (m : Int) (rs : List Rg) (h : ∀ r ∈ rs, RgIn r m) (hl : rs.length ≤ 1000) : Ans Try.prog n_ref03_checkRanges [.view (rs.map Rg.v), .int .i64 m] [] (.int .i64 0) [] := by
  refine spec_run e_ref03_checkRanges fun G => ?_
  simp only [go_sem]
  refine loop_ind k_ref03_checkRanges_r7.eq_1 (fun a : Nat × Heap => a.1 ≤ rs.length) (fun a => rs.length - a.1)
    (fun a => (tsets 22 [(0, .view (rs.map Rg.v)), (1, .int .i64 m), (5, .int .i64 a.1)], a.2)) (0, []) (Nat.zero_le _) (by simp [go_sem]) rfl ?_
  rintro ⟨i, X⟩ hi ih
  dsimp only at hi ih ⊢
  by_cases h1 : i < rs.length
  · have h2 : (i : Int) < rs.length := by omega
    have n0 : ¬ (i : Int) < 0 := by omega
    have hr := rcheckRange_run (h _ (List.getElem_mem h1))
    have hx : rs[i]? = some rs[i] := List.getElem?_eq_getElem h1
    have h3 := idx_next h1 (by omega)
    generalize rs[i] = z at *
    simp only [go_sem, hx, h2, n0, Rg.v, List.length_map]
    refine cP hr ?_
    simp only [go_sem, h3]
    exact ih (i + 1, _) (by dsimp only; omega) h1 _ (by simp [go_sem])
  · have h2 : ¬ (i : Int) < rs.length := by omega
    simp only [go_sem, h2, List.length_map]

set_option maxHeartbeats 1000000 in
theorem rCheck_run (c : Ct) (hc : CtOK c) : Ans Try.prog n_ref03_Check [c.v (.view (c.bands.map Bd.v))] [] (.int .i64 0) [] := by
  have h1 := hc.amount; have h2 := hc.slew; have h3 := hc.aid; have h4 := hc.yld; have h5 := hc.len
  have g1 := rcheckRanges_run 1000000 [c.aid, c.yld] (by simp [h3, h4]) (by simp)
  have k1 : ¬ ((c.bands.length : Int) = 0) := by omega
  have k2 : ¬ ((16 : Int) < c.bands.length) := by omega
  refine spec_run e_ref03_Check fun G => ?_
  simp only [go_sem, Ct.v, Ct.cs]
  refine cP (beyond_no h1) ?_
  simp only [go_sem]
  refine cP (beyond_no h2) ?_
  simp only [go_sem]
  refine cF g1 6 (by simp only [go_sem, frz, Rg.v]) ?_
  simp only [go_sem, k1, k2, List.length_map]
  refine loop_ind k_ref03_Check_r21.eq_1 (fun a : Nat × Heap => a.1 ≤ c.bands.length) (fun a => c.bands.length - a.1)
    (fun a => (tsets 83 [(1, .ptr 0 0 0 1), (2, .int .i64 0), (4, .int .i64 a.1)], some (.cells false 7 [c.v (.view (c.bands.map Bd.v))]) :: a.2)) (0, [_]) (Nat.zero_le _) (by simp [go_sem]) rfl ?_
  rintro ⟨i, X⟩ hi ih
  dsimp only at hi ih ⊢
  by_cases h1 : i < c.bands.length
  · have h2 : (i : Int) < c.bands.length := by omega
    have n0 : ¬ (i : Int) < 0 := by omega
    obtain ⟨f1, f2, f3, f4, f5⟩ := hc.bands _ (List.getElem_mem h1)
    have hx : c.bands[i]? = some c.bands[i] := List.getElem?_eq_getElem h1
    have h3 := idx_next h1 (by omega)
    have hf : i = 0 → c.bands[i].frm = 0 := by
      rintro rfl
      have := hc.first
      rwa [List.getD_eq_getElem?_getD, hx] at this
    have hg : 0 < i → ∃ b : Bd, c.bands[i - 1]? = some b ∧ b.frm < c.bands[i].frm := by
      intro h0
      have := hc.asc (i - 1) (by omega)
      rw [show i - 1 + 1 = i by omega, List.getD_eq_getElem?_getD, List.getD_eq_getElem?_getD, hx, List.getElem?_eq_getElem (by omega)] at this
      exact ⟨_, List.getElem?_eq_getElem (by omega), this⟩
    generalize c.bands[i] = b at *
    have g2 := rcheckRanges_run 1000000 [b.conv, b.red, b.evap, b.sint] (by simp [f2, f3, f4, f5]) (by simp)
    simp only [go_sem, hx, h2, n0, Bd.v, Bd.cs, Ct.v, Ct.cs, List.length_map]
    refine cP (beyond_no f1) ?_
    by_cases h0 : i = 0
    · have hf := hf h0
      have hb : ((i : Int) == 0) = true := by simp [h0]
      have hg2 : ¬ (0 : Int) < i := by omega
      simp only [go_sem, hf, hb, hg2]
      refine cF g2 6 (by simp only [go_sem, frz, Rg.v]) ?_
      simp only [go_sem, h3]
      exact ih (i + 1, _) (by dsimp only; omega) h1 _ (by simp [go_sem])
    · obtain ⟨b', hb1, hb2⟩ := hg (by omega)
      have hb : ((i : Int) == 0) = false := by simp [h0]
      have hg2 : (0 : Int) < i := by omega
      have hg3 : IntKind.i64.wrap ((i : Int) - 1) = ((i - 1 : Nat) : Int) := by rw [w64 (by omega)]; omega
      have hg4 : ¬ b.frm ≤ b'.frm := by omega
      have hg5 : ¬ ((i - 1 : Nat) : Int) < 0 := by omega
      have hg6 : ((i - 1 : Nat) : Int) < c.bands.length := by omega
      simp only [go_sem, hb, hg2, hg3, hb1, hg4, hg5, hg6, Bd.v, Bd.cs, List.length_map]
      refine cF g2 6 (by simp only [go_sem, frz, Rg.v]) ?_
      simp only [go_sem, h3]
      exact ih (i + 1, _) (by dsimp only; omega) h1 _ (by simp [go_sem])
  · have h2 : ¬ (i : Int) < c.bands.length := by omega
    simp only [go_sem, h2, Ct.v, Ct.cs, List.length_map]

theorem rCheckSchedule_run (l : List Ht) (hl : LsOK l) : Ans Try.prog n_ref03_CheckSchedule [.view (l.map Ht.v)] [] (.int .i64 0) [] := by
  have hlen := hl.len
  have hsum := hl.sum
  have k1 : ¬ (40 : Int) < l.length := by omega
  have k2 : ¬ (20000 : Int) < lenOfL l := by omega
  refine spec_run e_ref03_CheckSchedule fun G => ?_
  simp only [go_sem, k1, List.length_map]
  refine loop_ind k_ref03_CheckSchedule_r10.eq_1 (fun a : Nat × Heap => a.1 ≤ l.length) (fun a => l.length - a.1)
    (fun a => (tsets 45 [(0, .view (l.map Ht.v)), (2, .int .i64 0), (3, .int .i64 (lenOfL (l.take a.1))), (4, .int .i64 a.1)], a.2)) (0, []) (Nat.zero_le _) (by simp [go_sem, lenOfL]) rfl ?_
  rintro ⟨i, X⟩ hi ih
  dsimp only at hi ih ⊢
  by_cases h1 : i < l.length
  · have h2 : (i : Int) < l.length := by omega
    have n0 : ¬ (i : Int) < 0 := by omega
    have hx : l[i]? = some l[i] := List.getElem?_eq_getElem h1
    have h3 := idx_next h1 (by omega)
    have hz := hl.all _ (List.getElem_mem h1)
    have hs := lenOfL_succ hx
    have hr := lenOfL_take hl.all (i + 1)
    have hr0 := lenOfL_take hl.all i
    generalize l[i] = z at *
    have h4 : IntKind.i64.wrap (lenOfL (l.take i) + z.ticks) = lenOfL (l.take (i + 1)) := by rw [w64 (by omega)]; omega
    simp only [go_sem, hx, h2, n0, Ht.v, Ht.cs, List.length_map]
    refine cP (beyond_no hz.ticks) ?_
    simp only [go_sem, hx, h2, n0, Ht.v, Ht.cs, List.length_map]
    refine cP (beyond_no hz.heat) ?_
    simp only [go_sem, hx, h2, n0, Ht.v, Ht.cs, List.length_map]
    refine cP (beyond_no hz.cur) ?_
    simp only [go_sem, hx, h2, n0, Ht.v, Ht.cs, List.length_map, h4]
    simp only [h3]
    exact ih (i + 1, _) (by dsimp only; omega) h1 _ (by simp [go_sem])
  · have h2 : ¬ (i : Int) < l.length := by omega
    rw [List.take_of_length_le (by omega)]
    simp only [go_sem, h2, k2, List.length_map]

theorem rfresh_run (c : Ct) : Ans Try.prog n_ref03_fresh [c.v (.view (c.bands.map Bd.v))] [] (fresh c).v [] := by
  refine spec_run e_ref03_fresh fun G => ?_
  simp only [go_sem, Ct.v, Ct.cs, Cg.v, Cg.cs, fresh]

set_option maxRecDepth 4000 in
set_option maxHeartbeats 4000000 in
theorem rtick_run (c : Ct) (hc : CtOK c) (x : Cg) (hx : CgB x) (heat cur : Int) (hh : 0 ≤ heat ∧ heat ≤ 2000) (hcur : 0 ≤ cur ∧ cur ≤ 1000) :
    Ans Try.prog n_ref03_tick [c.v (.view (c.bands.map Bd.v)), x.v, .int .i64 heat, .int .i64 cur] [] (after c x heat cur).v [] := by
  have hm := rHeat_run c hc x.heat heat hx.heat hh
  have hmi := moved_in hx.heat hh hc.slew.1
  have hr := rBand_run c hc (moved x.heat heat c.slew) cur hmi.1 hcur
  have hb := ratesAt_ok hc hmi.1 hcur
  unfold after
  generalize moved x.heat heat c.slew = h at *
  generalize ratesAt c h cur = b at *
  have b1 := hb.conv.b (by decide); have b2 := hb.red.b (by decide); have b3 := hb.evap.b (by decide); have b4 := hb.sint.b (by decide)
  have x1 := hx.carb; have x2 := hx.ox; have x3 := hx.ba; have x4 := hx.lost; have x5 := hx.wear
  have d1 := rDown_run x.carb.lo b.conv.lo x1.lo b1.lo
  have u1 := rUp_run x.carb.hi b.conv.hi x1.hi b1.hi
  have u2 := rUp_run x.carb.lo b.conv.hi x1.lo b1.hi
  have d2 := rDown_run x.carb.hi b.conv.lo x1.hi b1.lo
  have u3 := rUp_run x.ox.lo b.red.hi x2.lo b2.hi
  have d3 := rDown_run x.ox.hi b.red.lo x2.hi b2.lo
  have u4 := rUp_run x.ba.lo b.evap.hi x3.lo b3.hi
  have d4 := rDown_run x.ox.lo b.red.lo x2.lo b2.lo
  have d5 := rDown_run x.ba.hi b.evap.lo x3.hi b3.lo
  have u5 := rUp_run x.ox.hi b.red.hi x2.hi b2.hi
  have d6 := rDown_run x.ba.lo b.evap.lo x3.lo b3.lo
  have u6 := rUp_run x.ba.hi b.evap.hi x3.hi b3.hi
  have i1 := dn_in x1.lo.1 b1.lo.1 b1.lo.2
  have i2 := up_in x1.hi.1 b1.hi.1 b1.hi.2
  have i3 := up_in x1.lo.1 b1.hi.1 b1.hi.2
  have i4 := dn_in x1.hi.1 b1.lo.1 b1.lo.2
  have i5 := up_in x2.lo.1 b2.hi.1 b2.hi.2
  have i6 := dn_in x2.hi.1 b2.lo.1 b2.lo.2
  have i7 := up_in x3.lo.1 b3.hi.1 b3.hi.2
  have i8 := dn_in x2.lo.1 b2.lo.1 b2.lo.2
  have i9 := dn_in x3.hi.1 b3.lo.1 b3.lo.2
  have i10 := up_in x2.hi.1 b2.hi.1 b2.hi.2
  have i11 := dn_in x3.lo.1 b3.lo.1 b3.lo.2
  have i12 := up_in x3.hi.1 b3.hi.1 b3.hi.2
  have q1 := x1.lo; have q2 := x1.hi; have q3 := x2.lo; have q4 := x2.hi; have q5 := x3.lo; have q6 := x3.hi; have q7 := x4.lo; have q8 := x4.hi; have q9 := b4.lo; have q10 := b4.hi
  have e1 : IntKind.i64.wrap (x.carb.lo - up x.carb.lo b.conv.hi) = x.carb.lo - up x.carb.lo b.conv.hi := w64 (by omega)
  have e2 : IntKind.i64.wrap (x.carb.hi - dn x.carb.hi b.conv.lo) = x.carb.hi - dn x.carb.hi b.conv.lo := w64 (by omega)
  have e3 : IntKind.i64.wrap (x.ox.lo - up x.ox.lo b.red.hi) = x.ox.lo - up x.ox.lo b.red.hi := w64 (by omega)
  have e4 : IntKind.i64.wrap (x.ox.lo - up x.ox.lo b.red.hi + dn x.carb.lo b.conv.lo) = x.ox.lo - up x.ox.lo b.red.hi + dn x.carb.lo b.conv.lo := w64 (by omega)
  have e5 : IntKind.i64.wrap (x.ox.hi - dn x.ox.hi b.red.lo) = x.ox.hi - dn x.ox.hi b.red.lo := w64 (by omega)
  have e6 : IntKind.i64.wrap (x.ox.hi - dn x.ox.hi b.red.lo + up x.carb.hi b.conv.hi) = x.ox.hi - dn x.ox.hi b.red.lo + up x.carb.hi b.conv.hi := w64 (by omega)
  have e7 : IntKind.i64.wrap (x.ba.lo - up x.ba.lo b.evap.hi) = x.ba.lo - up x.ba.lo b.evap.hi := w64 (by omega)
  have e8 : IntKind.i64.wrap (x.ba.lo - up x.ba.lo b.evap.hi + dn x.ox.lo b.red.lo) = x.ba.lo - up x.ba.lo b.evap.hi + dn x.ox.lo b.red.lo := w64 (by omega)
  have e9 : IntKind.i64.wrap (x.ba.hi - dn x.ba.hi b.evap.lo) = x.ba.hi - dn x.ba.hi b.evap.lo := w64 (by omega)
  have e10 : IntKind.i64.wrap (x.ba.hi - dn x.ba.hi b.evap.lo + up x.ox.hi b.red.hi) = x.ba.hi - dn x.ba.hi b.evap.lo + up x.ox.hi b.red.hi := w64 (by omega)
  have e11 : IntKind.i64.wrap (x.lost.lo + dn x.ba.lo b.evap.lo) = x.lost.lo + dn x.ba.lo b.evap.lo := w64 (by omega)
  have e12 : IntKind.i64.wrap (x.lost.hi + up x.ba.hi b.evap.hi) = x.lost.hi + up x.ba.hi b.evap.hi := w64 (by omega)
  have e13 : IntKind.i64.wrap (x.wear.lo + b.sint.lo) = x.wear.lo + b.sint.lo := w64 (by omega)
  have e14 : IntKind.i64.wrap (x.wear.hi + b.sint.hi) = x.wear.hi + b.sint.hi := w64 (by omega)
  refine spec_run e_ref03_tick fun G => ?_
  simp only [go_sem, Ct.v, Ct.cs, Cg.v, Cg.cs]
  refine cP hm ?_
  simp only [go_sem]
  refine cP hr ?_ (hr := by simp only [go_sem, Bd.v, Bd.cs])
  simp only [go_sem, Bd.v, Bd.cs]
  refine cP d1 ?_
  simp only [go_sem]
  refine cP u1 ?_
  simp only [go_sem]
  refine dP u2 ?_
  simp only [go_sem, e1]
  refine dP d2 ?_
  simp only [go_sem, e2]
  refine dP u3 ?_
  simp only [go_sem, e3, e4]
  refine dP d3 ?_
  simp only [go_sem, e5, e6]
  refine dP u4 ?_
  simp only [go_sem, e7]
  refine dP d4 ?_
  simp only [go_sem, e8]
  refine dP d5 ?_
  simp only [go_sem, e9]
  refine dP u5 ?_
  simp only [go_sem, e10]
  refine dP d6 ?_
  simp only [go_sem, e11]
  refine dP u6 ?_
  simp only [go_sem, e12, e13, e14]
  simp only [afterB, cut, mi, remains, sumR, parts]
  rfl
end Go.Proofs
