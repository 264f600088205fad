/- A part of the proof. -/
import Derived.Test.YtigaafcllfjniaaPD
set_option linter.unusedSimpArgs false
set_option linter.unusedVariables false
namespace Go.Proofs
open Go Go.Sx
attribute [local irreducible] Run

theorem beyond_no {n a b : Int} (h : a ≤ n ∧ n ≤ b) : Ans Try.prog n_ref03_beyond [.int .i64 n, .int .i64 a, .int .i64 b] [] (.bool false) [] := by
  have h1 : ¬ n < a := by omega
  have h2 : ¬ b < n := by omega
  refine spec_run e_ref03_beyond fun G => ?_
  simp only [go_sem, h1, h2]

theorem rcheckRange_run {r : Rg} {m : Int} (h : RgIn r m) : Ans Try.prog n_ref03_checkRange [r.v, .int .i64 m] [] (.int .i64 0) [] := by
  obtain ⟨r1, r2, r3⟩ := h
  have r4 : ¬ r.hi < r.lo := by omega
  refine spec_run e_ref03_checkRange fun G => ?_
  simp only [go_sem, Rg.v]
  refine cP (beyond_no ⟨r1, by omega⟩) ?_
  simp only [go_sem]
  refine cP (beyond_no ⟨by omega, r3⟩) ?_
  simp only [go_sem, r4]

theorem rcheckRanges_run (m : Int) (rs : List Rg) (h : ∀ r ∈ rs, RgIn r m) (hl : rs.length ≤ 1000) : Ans Try.prog n_ref03_checkRanges [.view (rs.map Rg.v), .int .i64 m] [] (.int .i64 0) [] := by
  refine spec_run e_ref03_checkRanges fun G => ?_
  simp only [go_sem]
  refine loop_ind k_ref03_checkRanges_r7.eq_1 (fun a : Nat × Heap => a.1 ≤ rs.length) (fun a => rs.length - a.1)
    (fun a => (tsets 22 [(0, .view (rs.map Rg.v)), (1, .int .i64 m), (5, .int .i64 a.1)], a.2)) (0, []) (Nat.zero_le _) (by simp [go_sem]) rfl ?_
  rintro ⟨i, X⟩ hi ih
  dsimp only at hi ih ⊢
  by_cases h1 : i < rs.length
  · have h2 : (i : Int) < rs.length := by omega
    have n0 : ¬ (i : Int) < 0 := by omega
    have hr := rcheckRange_run (h _ (List.getElem_mem h1))
    have hx : rs[i]? = some rs[i] := List.getElem?_eq_getElem h1
    have h3 := idx_next h1 (by omega)
    generalize rs[i] = z at *
    simp only [go_sem, hx, h2, n0, Rg.v, List.length_map]
    refine cP hr ?_
    simp only [go_sem, h3]
    exact ih (i + 1, _) (by dsimp only; omega) h1 _ (by simp [go_sem])
  · have h2 : ¬ (i : Int) < rs.length := by omega
    simp only [go_sem, h2, List.length_map]

set_option maxHeartbeats 1000000 in
theorem rCheck_run (c : Ct) (hc : CtOK c) : Ans Try.prog n_ref03_Check [c.v (.view (c.bands.map Bd.v))] [] (.int .i64 0) [] := by
  have h1 := hc.amount; have h2 := hc.slew; have h3 := hc.aid; have h4 := hc.yld; have h5 := hc.len
  have g1 := rcheckRanges_run 1000000 [c.aid, c.yld] (by simp [h3, h4]) (by simp)
  have k1 : ¬ ((c.bands.length : Int) = 0) := by omega
  have k2 : ¬ ((16 : Int) < c.bands.length) := by omega
  refine spec_run e_ref03_Check fun G => ?_
  simp only [go_sem, Ct.v, Ct.cs]
  refine cP (beyond_no h1) ?_
  simp only [go_sem]
  refine cP (beyond_no h2) ?_
  simp only [go_sem]
  refine cF g1 6 (by simp only [go_sem, frz, Rg.v]) ?_
  simp only [go_sem, k1, k2, List.length_map]
  refine loop_ind k_ref03_Check_r21.eq_1 (fun a : Nat × Heap => a.1 ≤ c.bands.length) (fun a => c.bands.length - a.1)
    (fun a => (tsets 83 [(1, .ptr 0 0 0 1), (2, .int .i64 0), (4, .int .i64 a.1)], some (.cells false 7 [c.v (.view (c.bands.map Bd.v))]) :: a.2)) (0, [_]) (Nat.zero_le _) (by simp [go_sem]) rfl ?_
  rintro ⟨i, X⟩ hi ih
  dsimp only at hi ih ⊢
  by_cases h1 : i < c.bands.length
  · have h2 : (i : Int) < c.bands.length := by omega
    have n0 : ¬ (i : Int) < 0 := by omega
    obtain ⟨f1, f2, f3, f4, f5⟩ := hc.bands _ (List.getElem_mem h1)
    have hx : c.bands[i]? = some c.bands[i] := List.getElem?_eq_getElem h1
    have h3 := idx_next h1 (by omega)
    have hf : i = 0 → c.bands[i].frm = 0 := by
      rintro rfl
      have := hc.first
      rwa [List.getD_eq_getElem?_getD, hx] at this
    have hg : 0 < i → ∃ b : Bd, c.bands[i - 1]? = some b ∧ b.frm < c.bands[i].frm := by
      intro h0
      have := hc.asc (i - 1) (by omega)
      rw [show i - 1 + 1 = i by omega, List.getD_eq_getElem?_getD, List.getD_eq_getElem?_getD, hx, List.getElem?_eq_getElem (by omega)] at this
      exact ⟨_, List.getElem?_eq_getElem (by omega), this⟩
    generalize c.bands[i] = b at *
    have g2 := rcheckRanges_run 1000000 [b.conv, b.red, b.evap, b.sint] (by simp [f2, f3, f4, f5]) (by simp)
    simp only [go_sem, hx, h2, n0, Bd.v, Bd.cs, Ct.v, Ct.cs, List.length_map]
    refine cP (beyond_no f1) ?_
    by_cases h0 : i = 0
    · have hf := hf h0
      have hb : ((i : Int) == 0) = true := by simp [h0]
      have hg2 : ¬ (0 : Int) < i := by omega
      simp only [go_sem, hf, hb, hg2]
      refine cF g2 6 (by simp only [go_sem, frz, Rg.v]) ?_
      simp only [go_sem, h3]
      exact ih (i + 1, _) (by dsimp only; omega) h1 _ (by simp [go_sem])
    · obtain ⟨b', hb1, hb2⟩ := hg (by omega)
      have hb : ((i : Int) == 0) = false := by simp [h0]
      have hg2 : (0 : Int) < i := by omega
      have hg3 : IntKind.i64.wrap ((i : Int) - 1) = ((i - 1 : Nat) : Int) := by rw [w64 (by omega)]; omega
      have hg4 : ¬ b.frm ≤ b'.frm := by omega
      have hg5 : ¬ ((i - 1 : Nat) : Int) < 0 := by omega
      have hg6 : ((i - 1 : Nat) : Int) < c.bands.length := by omega
      simp only [go_sem, hb, hg2, hg3, hb1, hg4, hg5, hg6, Bd.v, Bd.cs, List.length_map]
      refine cF g2 6 (by simp only [go_sem, frz, Rg.v]) ?_
      simp only [go_sem, h3]
      exact ih (i + 1, _) (by dsimp only; omega) h1 _ (by simp [go_sem])
  · have h2 : ¬ (i : Int) < c.bands.length := by omega
    simp only [go_sem, h2, Ct.v, Ct.cs, List.length_map]

theorem rCheckSchedule_run (l : List Ht) (hl : LsOK l) : Ans Try.prog n_ref03_CheckSchedule [.view (l.map Ht.v)] [] (.int .i64 0) [] := by
  have hlen := hl.len
  have hsum := hl.sum
  have k1 : ¬ (40 : Int) < l.length := by omega
  have k2 : ¬ (20000 : Int) < lenOfL l := by omega
  refine spec_run e_ref03_CheckSchedule fun G => ?_
  simp only [go_sem, k1, List.length_map]
  refine loop_ind k_ref03_CheckSchedule_r10.eq_1 (fun a : Nat × Heap => a.1 ≤ l.length) (fun a => l.length - a.1)
    (fun a => (tsets 45 [(0, .view (l.map Ht.v)), (2, .int .i64 0), (3, .int .i64 (lenOfL (l.take a.1))), (4, .int .i64 a.1)], a.2)) (0, []) (Nat.zero_le _) (by simp [go_sem, lenOfL]) rfl ?_
  rintro ⟨i, X⟩ hi ih
  dsimp only at hi ih ⊢
  by_cases h1 : i < l.length
  · have h2 : (i : Int) < l.length := by omega
    have n0 : ¬ (i : Int) < 0 := by omega
    have hx : l[i]? = some l[i] := List.getElem?_eq_getElem h1
    have h3 := idx_next h1 (by omega)
    have hz := hl.all _ (List.getElem_mem h1)
    have hs := lenOfL_succ hx
    have hr := lenOfL_take hl.all (i + 1)
    have hr0 := lenOfL_take hl.all i
    generalize l[i] = z at *
    have h4 : IntKind.i64.wrap (lenOfL (l.take i) + z.ticks) = lenOfL (l.take (i + 1)) := by rw [w64 (by omega)]; omega
    simp only [go_sem, hx, h2, n0, Ht.v, Ht.cs, List.length_map]
    refine cP (beyond_no hz.ticks) ?_
    simp only [go_sem, hx, h2, n0, Ht.v, Ht.cs, List.length_map]
    refine cP (beyond_no hz.heat) ?_
    simp only [go_sem, hx, h2, n0, Ht.v, Ht.cs, List.length_map]
    refine cP (beyond_no hz.cur) ?_
    simp only [go_sem, hx, h2, n0, Ht.v, Ht.cs, List.length_map, h4]
    simp only [h3]
    exact ih (i + 1, _) (by dsimp only; omega) h1 _ (by simp [go_sem])
  · have h2 : ¬ (i : Int) < l.length := by omega
    rw [List.take_of_length_le (by omega)]
    simp only [go_sem, h2, k2, List.length_map]

theorem rfresh_run (c : Ct) : Ans Try.prog n_ref03_fresh [c.v (.view (c.bands.map Bd.v))] [] (fresh c).v [] := by
  refine spec_run e_ref03_fresh fun G => ?_
  simp only [go_sem, Ct.v, Ct.cs, Cg.v, Cg.cs, fresh]

set_option maxRecDepth 4000 in
set_option maxHeartbeats 4000000 in
theorem rtick_run (c : Ct) (hc : CtOK c) (x : Cg) (hx : CgB x) (heat cur : Int) (hh : 0 ≤ heat ∧ heat ≤ 2000) (hcur : 0 ≤ cur ∧ cur ≤ 1000) :
    Ans Try.prog n_ref03_tick [c.v (.view (c.bands.map Bd.v)), x.v, .int .i64 heat, .int .i64 cur] [] (after c x heat cur).v [] := by
  have hm := rHeat_run c hc x.heat heat hx.heat hh
  have hmi := moved_in hx.heat hh hc.slew.1
  have hr := rBand_run c hc (moved x.heat heat c.slew) cur hmi.1 hcur
  have hb := ratesAt_ok hc hmi.1 hcur
  unfold after
  generalize moved x.heat heat c.slew = h at *
  generalize ratesAt c h cur = b at *
  have b1 := hb.conv.b (by decide); have b2 := hb.red.b (by decide); have b3 := hb.evap.b (by decide); have b4 := hb.sint.b (by decide)
  have x1 := hx.carb; have x2 := hx.ox; have x3 := hx.ba; have x4 := hx.lost; have x5 := hx.wear
  have d1 := rDown_run x.carb.lo b.conv.lo x1.lo b1.lo
  have u1 := rUp_run x.carb.hi b.conv.hi x1.hi b1.hi
  have u2 := rUp_run x.carb.lo b.conv.hi x1.lo b1.hi
  have d2 := rDown_run x.carb.hi b.conv.lo x1.hi b1.lo
  have u3 := rUp_run x.ox.lo b.red.hi x2.lo b2.hi
  have d3 := rDown_run x.ox.hi b.red.lo x2.hi b2.lo
  have u4 := rUp_run x.ba.lo b.evap.hi x3.lo b3.hi
  have d4 := rDown_run x.ox.lo b.red.lo x2.lo b2.lo
  have d5 := rDown_run x.ba.hi b.evap.lo x3.hi b3.lo
  have u5 := rUp_run x.ox.hi b.red.hi x2.hi b2.hi
  have d6 := rDown_run x.ba.lo b.evap.lo x3.lo b3.lo
  have u6 := rUp_run x.ba.hi b.evap.hi x3.hi b3.hi
  have i1 := dn_in x1.lo.1 b1.lo.1 b1.lo.2
  have i2 := up_in x1.hi.1 b1.hi.1 b1.hi.2
  have i3 := up_in x1.lo.1 b1.hi.1 b1.hi.2
  have i4 := dn_in x1.hi.1 b1.lo.1 b1.lo.2
  have i5 := up_in x2.lo.1 b2.hi.1 b2.hi.2
  have i6 := dn_in x2.hi.1 b2.lo.1 b2.lo.2
  have i7 := up_in x3.lo.1 b3.hi.1 b3.hi.2
  have i8 := dn_in x2.lo.1 b2.lo.1 b2.lo.2
  have i9 := dn_in x3.hi.1 b3.lo.1 b3.lo.2
  have i10 := up_in x2.hi.1 b2.hi.1 b2.hi.2
  have i11 := dn_in x3.lo.1 b3.lo.1 b3.lo.2
  have i12 := up_in x3.hi.1 b3.hi.1 b3.hi.2
  have q1 := x1.lo; have q2 := x1.hi; have q3 := x2.lo; have q4 := x2.hi; have q5 := x3.lo; have q6 := x3.hi; have q7 := x4.lo; have q8 := x4.hi; have q9 := b4.lo; have q10 := b4.hi
  have e1 : IntKind.i64.wrap (x.carb.lo - up x.carb.lo b.conv.hi) = x.carb.lo - up x.carb.lo b.conv.hi := w64 (by omega)
  have e2 : IntKind.i64.wrap (x.carb.hi - dn x.carb.hi b.conv.lo) = x.carb.hi - dn x.carb.hi b.conv.lo := w64 (by omega)
  have e3 : IntKind.i64.wrap (x.ox.lo - up x.ox.lo b.red.hi) = x.ox.lo - up x.ox.lo b.red.hi := w64 (by omega)
  have e4 : IntKind.i64.wrap (x.ox.lo - up x.ox.lo b.red.hi + dn x.carb.lo b.conv.lo) = x.ox.lo - up x.ox.lo b.red.hi + dn x.carb.lo b.conv.lo := w64 (by omega)
  have e5 : IntKind.i64.wrap (x.ox.hi - dn x.ox.hi b.red.lo) = x.ox.hi - dn x.ox.hi b.red.lo := w64 (by omega)
  have e6 : IntKind.i64.wrap (x.ox.hi - dn x.ox.hi b.red.lo + up x.carb.hi b.conv.hi) = x.ox.hi - dn x.ox.hi b.red.lo + up x.carb.hi b.conv.hi := w64 (by omega)
  have e7 : IntKind.i64.wrap (x.ba.lo - up x.ba.lo b.evap.hi) = x.ba.lo - up x.ba.lo b.evap.hi := w64 (by omega)
  have e8 : IntKind.i64.wrap (x.ba.lo - up x.ba.lo b.evap.hi + dn x.ox.lo b.red.lo) = x.ba.lo - up x.ba.lo b.evap.hi + dn x.ox.lo b.red.lo := w64 (by omega)
  have e9 : IntKind.i64.wrap (x.ba.hi - dn x.ba.hi b.evap.lo) = x.ba.hi - dn x.ba.hi b.evap.lo := w64 (by omega)
  have e10 : IntKind.i64.wrap (x.ba.hi - dn x.ba.hi b.evap.lo + up x.ox.hi b.red.hi) = x.ba.hi - dn x.ba.hi b.evap.lo + up x.ox.hi b.red.hi := w64 (by omega)
  have e11 : IntKind.i64.wrap (x.lost.lo + dn x.ba.lo b.evap.lo) = x.lost.lo + dn x.ba.lo b.evap.lo := w64 (by omega)
  have e12 : IntKind.i64.wrap (x.lost.hi + up x.ba.hi b.evap.hi) = x.lost.hi + up x.ba.hi b.evap.hi := w64 (by omega)
  have e13 : IntKind.i64.wrap (x.wear.lo + b.sint.lo) = x.wear.lo + b.sint.lo := w64 (by omega)
  have e14 : IntKind.i64.wrap (x.wear.hi + b.sint.hi) = x.wear.hi + b.sint.hi := w64 (by omega)
  refine spec_run e_ref03_tick fun G => ?_
  simp only [go_sem, Ct.v, Ct.cs, Cg.v, Cg.cs]
  refine cP hm ?_
  simp only [go_sem]
  refine cP hr ?_ (hr := by simp only [go_sem, Bd.v, Bd.cs])
  simp only [go_sem, Bd.v, Bd.cs]
  refine cP d1 ?_
  simp only [go_sem]
  refine cP u1 ?_
  simp only [go_sem]
  refine dP u2 ?_
  simp only [go_sem, e1]
  refine dP d2 ?_
  simp only [go_sem, e2]
  refine dP u3 ?_
  simp only [go_sem, e3, e4]
  refine dP d3 ?_
  simp only [go_sem, e5, e6]
  refine dP u4 ?_
  simp only [go_sem, e7]
  refine dP d4 ?_
  simp only [go_sem, e8]
  refine dP d5 ?_
  simp only [go_sem, e9]
  refine dP u5 ?_
  simp only [go_sem, e10]
  refine dP d6 ?_
  simp only [go_sem, e11]
  refine dP u6 ?_
  simp only [go_sem, e12, e13, e14]
  simp only [afterB, cut, mi, remains, sumR, parts]
  rfl
end Go.Proofs
namespace Go.Proofs
open Go Go.Sx
attribute [local irreducible] Run

theorem beyond_yes {n a b : Int} (h : ¬ (a ≤ n ∧ n ≤ b)) : Ans Try.prog n_ref03_beyond [.int .i64 n, .int .i64 a, .int .i64 b] [] (.bool true) [] := by
  refine spec_run e_ref03_beyond fun G => ?_
  by_cases h1 : n < a
  · simp only [go_sem, h1]
  · have h2 : b < n := by omega
    simp only [go_sem, h1, h2]
theorem rcheckRange_raw (r : Rg) (m : Int) : Ans Try.prog n_ref03_checkRange [r.v, .int .i64 m] [] (.int .i64 (chkR m [r])) [] := by
  unfold chkR chkR
  refine spec_run e_ref03_checkRange fun G => ?_
  simp only [go_sem, Rg.v]
  by_cases c1 : 0 ≤ r.lo ∧ r.lo ≤ m
  rotate_left
  · rw [if_neg c1]
    refine cP (beyond_yes c1) ?_
    simp only [go_sem]
  rw [if_pos c1]
  refine cP (beyond_no c1) ?_
  simp only [go_sem]
  by_cases c2 : 0 ≤ r.hi ∧ r.hi ≤ m
  rotate_left
  · rw [if_neg c2]
    refine cP (beyond_yes c2) ?_
    simp only [go_sem]
  rw [if_pos c2]
  refine cP (beyond_no c2) ?_
  simp only [go_sem]
  refine ⟨fun c3 => ?_, fun c3 => ?_⟩
  · rw [if_pos c3]
  · rw [if_neg c3]
theorem chkR_cons (m : Int) (r : Rg) (rs : List Rg) : chkR m (r :: rs) = if chkR m [r] = 0 then chkR m rs else chkR m [r] := by
  simp only [chkR]
  by_cases c1 : 0 ≤ r.lo ∧ r.lo ≤ m
  · by_cases c2 : 0 ≤ r.hi ∧ r.hi ≤ m
    · by_cases c3 : r.hi < r.lo
      · simp [c1, c2, c3]
      · simp [c1, c2, c3]
    · simp [c1, c2]
  · simp [c1]

theorem rcheckRanges_raw (m : Int) (rs : List Rg) (hl : rs.length ≤ 1000) : Ans Try.prog n_ref03_checkRanges [.view (rs.map Rg.v), .int .i64 m] [] (.int .i64 (chkR m rs)) [] := by
  generalize hRES : chkR m rs = RES
  refine spec_run e_ref03_checkRanges fun G => ?_
  simp only [go_sem]
  refine loop_ind k_ref03_checkRanges_r7.eq_1 (fun a : Nat × Heap => a.1 ≤ rs.length ∧ chkR m (rs.drop a.1) = RES) (fun a => rs.length - a.1)
    (fun a => (tsets 22 [(0, .view (rs.map Rg.v)), (1, .int .i64 m), (5, .int .i64 a.1)], a.2)) (0, []) ⟨Nat.zero_le _, hRES⟩ (by simp [go_sem]) rfl ?_
  rintro ⟨i, X⟩ ⟨hi, hR⟩ ih
  dsimp only at hi hR ih ⊢
  by_cases h1 : i < rs.length
  · have h2 : (i : Int) < rs.length := by omega
    have n0 : ¬ (i : Int) < 0 := by omega
    have hx : rs[i]? = some rs[i] := List.getElem?_eq_getElem h1
    have h3 := idx_next h1 (by omega)
    rw [List.drop_eq_getElem_cons h1, chkR_cons] at hR
    generalize rs[i] = z at *
    have hr := rcheckRange_raw z m
    generalize chkR m [z] = e1 at *
    simp only [go_sem, hx, h2, n0, Rg.v, List.length_map]
    refine cP hr ?_
    by_cases c1 : e1 = 0
    · rw [if_pos c1] at hR
      subst c1
      simp only [go_sem, Int.reduceBNe, h3]
      exact ih (i + 1, _) (by dsimp only; omega) ⟨h1, hR⟩ _ (by simp [go_sem])
    · have b1 : (e1 != 0) = true := by simp [c1]
      rw [if_neg c1] at hR
      subst hR
      simp only [go_sem, b1]
  · have h2 : ¬ (i : Int) < rs.length := by omega
    rw [List.drop_of_length_le (by omega)] at hR
    subst hR
    simp only [go_sem, h2, chkR, List.length_map]

set_option maxHeartbeats 2000000 in
theorem rCheck_raw (c : Ct) (hl : c.bands.length ≤ 1000) : Ans Try.prog n_ref03_Check [c.v (.view (c.bands.map Bd.v))] [] (.int .i64 (chkC c)) [] := by
  have g1 := rcheckRanges_raw 1000000 [c.aid, c.yld] (by simp)
  generalize hRES : chkC c = RES
  unfold chkC at hRES
  refine spec_run e_ref03_Check fun G => ?_
  simp only [go_sem, Ct.v, Ct.cs]
  by_cases c1 : 1 ≤ c.amount ∧ c.amount ≤ 1000000
  rotate_left
  · rw [if_neg c1] at hRES
    subst hRES
    refine cP (beyond_yes c1) ?_
    simp only [go_sem]
  rw [if_pos c1] at hRES
  refine cP (beyond_no c1) ?_
  simp only [go_sem]
  by_cases c2 : 1 ≤ c.slew ∧ c.slew ≤ 2000
  rotate_left
  · rw [if_neg c2] at hRES
    subst hRES
    refine cP (beyond_yes c2) ?_
    simp only [go_sem]
  rw [if_pos c2] at hRES
  refine cP (beyond_no c2) ?_
  simp only [go_sem]
  refine cF g1 6 (by simp only [go_sem, frz, Rg.v]) ?_
  generalize chkR 1000000 [c.aid, c.yld] = e1 at *
  by_cases c3 : e1 = 0
  rotate_left
  · have b3 : (e1 != 0) = true := by simp [c3]
    rw [if_neg c3] at hRES
    subst hRES
    simp only [go_sem, b3]
    done
  rw [if_pos c3] at hRES
  subst c3
  simp only [go_sem, Int.reduceBNe, List.length_map]
  refine ⟨fun k1 => ?_, fun k1 => ⟨fun k2 => ?_, fun k2 => ?_⟩⟩
  · rw [if_pos (by omega)] at hRES; exact hRES
  · rw [if_neg (by omega), if_pos (by omega)] at hRES; exact hRES
  rw [if_neg (by omega), if_neg (by omega)] at hRES
  refine loop_ind k_ref03_Check_r21.eq_1 (fun a : Nat × Heap => a.1 ≤ c.bands.length ∧ chkB (prevF c.bands a.1) (c.bands.drop a.1) = RES) (fun a => c.bands.length - a.1)
    (fun a => (tsets 83 [(1, .ptr 0 0 0 1), (2, .int .i64 0), (4, .int .i64 a.1)], some (.cells false 7 [c.v (.view (c.bands.map Bd.v))]) :: a.2)) (0, [_]) ⟨Nat.zero_le _, hRES⟩ (by simp [go_sem]) rfl ?_
  rintro ⟨i, X⟩ ⟨hi, hR⟩ ih
  dsimp only at hi hR ih ⊢
  by_cases h1 : i < c.bands.length
  · have h2 : (i : Int) < c.bands.length := by omega
    have hx : c.bands[i]? = some c.bands[i] := List.getElem?_eq_getElem h1
    have h3 := idx_next h1 (by omega)
    have n0 : ¬ (i : Int) < 0 := by omega
    have hpn : prevF c.bands (i + 1) = some (c.bands[i]).frm := by
      unfold prevF
      rw [if_neg (by omega), Nat.add_sub_cancel, List.getD_eq_getElem?_getD, hx]; rfl
    have hpi : 0 < i → ∃ b : Bd, c.bands[i - 1]? = some b ∧ prevF c.bands i = some b.frm := fun h0 => by
      refine ⟨_, List.getElem?_eq_getElem (by omega), ?_⟩
      unfold prevF
      rw [if_neg (by omega), List.getD_eq_getElem?_getD, List.getElem?_eq_getElem (by omega)]; rfl
    have hp0 : i = 0 → prevF c.bands i = none := fun h0 => by unfold prevF; rw [if_pos h0]
    rw [List.drop_eq_getElem_cons h1] at hR
    generalize c.bands[i] = b at *
    unfold chkB at hR
    have g2 := rcheckRanges_raw 1000000 [b.conv, b.red, b.evap, b.sint] (by simp)
    generalize chkR 1000000 [b.conv, b.red, b.evap, b.sint] = e2 at *
    simp only [go_sem, hx, h2, n0, Bd.v, Bd.cs, Ct.v, Ct.cs, List.length_map]
    by_cases c4 : 0 ≤ b.frm ∧ b.frm ≤ 2000
    rotate_left
    · rw [if_neg c4] at hR
      subst hR
      refine cP (beyond_yes c4) ?_
      simp only [go_sem]
    rw [if_pos c4] at hR
    refine cP (beyond_no c4) ?_
    by_cases h0 : i = 0
    · have hb : ((i : Int) == 0) = true := by simp [h0]
      have hg2 : ¬ (0 : Int) < i := by omega
      rw [hp0 h0] at hR
      by_cases c5 : b.frm = 0
      · have hb5 : (b.frm != 0) = false := by simp [c5]
        rw [if_pos (by simp [ordB, c5])] at hR
        simp only [go_sem, hb, hg2, hb5]
        refine cF g2 6 (by simp only [go_sem, frz, Rg.v]) ?_
        by_cases c6 : e2 = 0
        · rw [if_pos c6] at hR
          subst c6
          simp only [go_sem, Int.reduceBNe, h3]
          exact ih (i + 1, _) (by dsimp only; omega) ⟨h1, by dsimp only; rw [hpn]; exact hR⟩ _ (by simp [go_sem])
        · have b6 : (e2 != 0) = true := by simp [c6]
          rw [if_neg c6] at hR
          subst hR
          simp only [go_sem, b6]
      · have hb5 : (b.frm != 0) = true := by simp [c5]
        rw [if_neg (by simp [ordB, c5])] at hR
        subst hR
        simp only [go_sem, hb, hb5]
    · obtain ⟨b', hb1, hb2⟩ := hpi (by omega)
      have hb : ((i : Int) == 0) = false := by simp [h0]
      have hg2 : (0 : Int) < i := by omega
      have hg3 : IntKind.i64.wrap ((i : Int) - 1) = ((i - 1 : Nat) : Int) := by rw [w64 (by omega)]; omega
      rw [hb2] at hR
      simp only [go_sem, hb, hg2, hg3, hb1, Bd.v, Bd.cs]
      refine ⟨fun c5 => ?_, fun c5 => ?_⟩
      · have ho : ¬ ordB (some b'.frm) b.frm = true := by simp only [ordB, decide_eq_true_eq]; omega
        rw [if_neg ho] at hR
        exact hR
      · have ho : ordB (some b'.frm) b.frm = true := by simp only [ordB, decide_eq_true_eq]; omega
        rw [if_pos ho] at hR
        refine cF g2 6 (by simp only [go_sem, frz, Rg.v]) ?_
        by_cases c6 : e2 = 0
        · rw [if_pos c6] at hR
          subst c6
          simp only [go_sem, Int.reduceBNe, h3]
          exact ih (i + 1, _) (by dsimp only; omega) ⟨h1, by dsimp only; rw [hpn]; exact hR⟩ _ (by simp [go_sem])
        · have b6 : (e2 != 0) = true := by simp [c6]
          rw [if_neg c6] at hR
          subst hR
          simp only [go_sem, b6]
  · have h2 : ¬ (i : Int) < c.bands.length := by omega
    rw [List.drop_of_length_le (by omega)] at hR
    subst hR
    simp only [go_sem, h2, chkB, List.length_map, Ct.v, Ct.cs]
end Go.Proofs
namespace Go.Proofs
open Go Go.Sx
attribute [local irreducible] Run

/-- The first error of a coat and a coating. -/
def chkX (c : Ct) (x : Cg) : Int :=
  if chkC c = 0 then
    (if chkR c.amount [x.carb, x.ox, x.ba, x.lost, x.gas] = 0 then
      (if chkR 1099511627776 [x.wear] = 0 then (if 0 ≤ x.heat ∧ x.heat ≤ 2000 then 0 else 2) else chkR 1099511627776 [x.wear])
    else chkR c.amount [x.carb, x.ox, x.ba, x.lost, x.gas])
  else chkC c

theorem CheckCoating_raw (c : Ct) (hl : c.bands.length ≤ 1000) (x : Cg) : Ans Try.prog n_cathode_CheckCoating [c.v (.view (c.bands.map Bd.v)), x.v] [] (.int .i64 (chkX c x)) [] := by
  have g0 := Check_raw c hl
  have g1 := checkRanges_raw c.amount [x.carb, x.ox, x.ba, x.lost, x.gas] (by simp)
  have g2 := checkRanges_raw 1099511627776 [x.wear] (by simp)
  generalize hRES : chkX c x = RES
  unfold chkX at hRES
  refine spec_run e_cathode_CheckCoating fun G => ?_
  simp only [go_sem, Ct.v, Ct.cs, Cg.v, Cg.cs]
  refine cP g0 ?_
  generalize chkC c = e0 at *
  by_cases c0 : e0 = 0
  rotate_left
  · have b0 : (e0 != 0) = true := by simp [c0]
    rw [if_neg c0] at hRES
    subst hRES
    simp only [go_sem, b0]
  rw [if_pos c0] at hRES
  subst c0
  simp only [go_sem, Int.reduceBNe]
  refine cF g1 6 (by simp only [go_sem, frz, Rg.v]) ?_
  generalize chkR c.amount [x.carb, x.ox, x.ba, x.lost, x.gas] = e1 at *
  by_cases c1 : e1 = 0
  rotate_left
  · have b1 : (e1 != 0) = true := by simp [c1]
    rw [if_neg c1] at hRES
    subst hRES
    simp only [go_sem, b1]
  rw [if_pos c1] at hRES
  subst c1
  simp only [go_sem, Int.reduceBNe]
  refine cF g2 6 (by simp only [go_sem, frz, Rg.v]) ?_
  generalize chkR 1099511627776 [x.wear] = e2 at *
  by_cases c2 : e2 = 0
  rotate_left
  · have b2 : (e2 != 0) = true := by simp [c2]
    rw [if_neg c2] at hRES
    subst hRES
    simp only [go_sem, b2]
  rw [if_pos c2] at hRES
  subst c2
  simp only [go_sem, Int.reduceBNe]
  by_cases c3 : 0 ≤ x.heat ∧ x.heat ≤ 2000
  · rw [if_pos c3] at hRES
    subst hRES
    refine cP (within_yes c3) ?_
    simp only [go_sem]
  · rw [if_neg c3] at hRES
    subst hRES
    refine cP (within_no c3) ?_
    simp only [go_sem]

theorem rCheckCoating_raw (c : Ct) (hl : c.bands.length ≤ 1000) (x : Cg) : Ans Try.prog n_ref03_CheckCoating [c.v (.view (c.bands.map Bd.v)), x.v] [] (.int .i64 (chkX c x)) [] := by
  have g0 := rCheck_raw c hl
  have g1 := rcheckRanges_raw c.amount [x.carb, x.ox, x.ba, x.lost, x.gas] (by simp)
  have g2 := rcheckRange_raw x.wear 1099511627776
  generalize hRES : chkX c x = RES
  unfold chkX at hRES
  refine spec_run e_ref03_CheckCoating fun G => ?_
  simp only [go_sem, Ct.v, Ct.cs, Cg.v, Cg.cs]
  refine cP g0 ?_
  generalize chkC c = e0 at *
  by_cases c0 : e0 = 0
  rotate_left
  · have b0 : (e0 != 0) = true := by simp [c0]
    rw [if_neg c0] at hRES
    subst hRES
    simp only [go_sem, b0]
  rw [if_pos c0] at hRES
  subst c0
  simp only [go_sem, Int.reduceBNe]
  refine cF g1 6 (by simp only [go_sem, frz, Rg.v]) ?_
  generalize chkR c.amount [x.carb, x.ox, x.ba, x.lost, x.gas] = e1 at *
  by_cases c1 : e1 = 0
  rotate_left
  · have b1 : (e1 != 0) = true := by simp [c1]
    rw [if_neg c1] at hRES
    subst hRES
    simp only [go_sem, b1]
  rw [if_pos c1] at hRES
  subst c1
  simp only [go_sem, Int.reduceBNe]
  refine cP g2 ?_
  generalize chkR 1099511627776 [x.wear] = e2 at *
  by_cases c2 : e2 = 0
  rotate_left
  · have b2 : (e2 != 0) = true := by simp [c2]
    rw [if_neg c2] at hRES
    subst hRES
    simp only [go_sem, b2]
  rw [if_pos c2] at hRES
  subst c2
  simp only [go_sem, Int.reduceBNe]
  by_cases c3 : 0 ≤ x.heat ∧ x.heat ≤ 2000
  · rw [if_pos c3] at hRES
    subst hRES
    refine cP (beyond_no c3) ?_
    simp only [go_sem]
  · rw [if_neg c3] at hRES
    subst hRES
    refine cP (beyond_yes c3) ?_
    simp only [go_sem]

end Go.Proofs
namespace Go.Proofs
open Go Go.Sx
attribute [local irreducible] Run

/-- The coatings after each tick, the fresh one first. -/
def coatsX (c : Ct) : Cg → List Ht → List Cg
  | x, [] => [x]
  | x, z :: a => x :: coatsX c (after c x z.heat z.cur) a
def coats (c : Ct) (a : List Ht) : List Cg := coatsX c (fresh c) a
theorem coatsX_len (c : Ct) : ∀ (a : List Ht) (x : Cg), (coatsX c x a).length = a.length + 1
  | [], _ => rfl
  | z :: a, x => by simp [coatsX, coatsX_len c a]
theorem coatsX_get (c : Ct) : ∀ (a : List Ht) (x : Cg) (p : Nat), p ≤ a.length → (coatsX c x a)[p]? = some ((a.take p).foldl (fun x z => after c x z.heat z.cur) x)
  | [], x, p, hp => by obtain rfl : p = 0 := by simpa using hp
                       rfl
  | z :: a, x, 0, _ => rfl
  | z :: a, x, p + 1, hp => by
    simp only [coatsX, List.getElem?_cons_succ, List.take_succ_cons, List.foldl_cons]
    exact coatsX_get c a _ p (by simpa using hp)
theorem coats_len (c : Ct) (a : List Ht) : (coats c a).length = a.length + 1 := coatsX_len c a _
theorem coats_get {c : Ct} {a : List Ht} {p : Nat} (hp : p ≤ a.length) : (coats c a)[p]? = some (coatOf c (a.take p)) := coatsX_get c a _ p hp
theorem coatsX_snoc (c : Ct) : ∀ (a : List Ht) (x : Cg) (z : Ht), coatsX c x (a ++ [z]) = coatsX c x a ++ [after c (a.foldl (fun x z => after c x z.heat z.cur) x) z.heat z.cur]
  | [], _, _ => rfl
  | y :: a, x, z => by simp [coatsX, coatsX_snoc c a]
theorem coats_snoc (c : Ct) (a : List Ht) (z : Ht) : coats c (a ++ [z]) = coats c a ++ [coatOf c (a ++ [z])] := by
  rw [coatOf_snoc]; exact coatsX_snoc c a _ z
theorem follow_get {c : Ct} : ∀ {l : List Ht} {i : Nat}, i < l.length → (follow c l)[i]? = some (coatOf c (flat (l.take (i + 1)))) := by
  intro l i hi
  have hx : l[i]? = some l[i] := List.getElem?_eq_getElem hi
  have e : l = l.take (i + 1) ++ l.drop (i + 1) := (List.take_append_drop _ _).symm
  unfold follow
  rw [e, followX_app, followX_succ hx]
  rw [List.getElem?_append_left (by simp [followX_len]; omega), List.getElem?_append_right (by rw [followX_len, List.length_take]; omega)]
  rw [followX_len, List.length_take, Nat.min_eq_left (by omega), Nat.sub_self]
  have he := endX_succ (c := c) hx (fresh c)
  rw [← he, endX_flat, ← e]; rfl

theorem cgs_len (l : List Cg) : (l.map Cg.v).length = l.length := List.length_map _
def tksT (i : Int) (k : Nat) (l : List Ht) : List (Nat × AVal) := [(1, .view (l.map Ht.v)), (2, .ptr 0 0 0 1), (4, .nilsl), (5, .sl 1 0 k), (6, .int .i64 i)]
def tksH (c : Ct) (b : Bool) (xs : List Cg) (X : Heap) : Heap := some (.cells false 7 [c.v (.view (c.bands.map Bd.v))]) :: some (.cells b 13 (xs.map Cg.v)) :: X

set_option maxHeartbeats 4000000 in
theorem rticks_run (c : Ct) (hc : CtOK c) (l : List Ht) (hl : LsOK l) : AnsE Try.prog n_ref03_ticks [c.v (.view (c.bands.map Bd.v)), .view (l.map Ht.v)] [] (fun _ : Bool => True) (fun _ => .sl 0 0 (coats c (flat l)).length) (fun b => [some (.cells b 13 ((coats c (flat l)).map Cg.v))]) := by
  have hlen := hl.len
  have hsum := hl.sum
  have hfl := flat_len hl.all
  refine AnsE.keep (run_fn e_ref03_ticks fun G => ?_) (fun a ha => ⟨by simp, by simp [go_sem], by rw [row_bel_cells]; simp only [go_sem], trivial⟩)
  simp only [go_sem, Ct.v, Ct.cs]
  refine cP (rfresh_run c) ?_ (hr := by simp only [go_sem, Cg.v, Cg.cs])
  simp only [go_sem, Cg.v, Cg.cs]
  refine loop_ind k_ref03_ticks_r10.eq_1 (fun a : Nat × Bool × Heap => a.1 ≤ l.length) (fun a => l.length - a.1)
    (fun a => (tsets 48 (tksT a.1 (coats c (flat (l.take a.1))).length l), tksH c a.2.1 (coats c (flat (l.take a.1))) a.2.2)) (0, false, []) (Nat.zero_le _) (by simp [go_sem, tksT, flat, coats, coatsX]) rfl ?_
  rintro ⟨i, b, X⟩ hi ih
  dsimp only at hi ih ⊢
  by_cases h1 : i < l.length
  · have h2 : (i : Int) < l.length := by omega
    have n0 : ¬ (i : Int) < 0 := by omega
    have hx : l[i]? = some l[i] := List.getElem?_eq_getElem h1
    have hz := hl.all _ (List.getElem_mem h1)
    have hs := flat_succ hx
    have h3 := idx_next h1 (by omega)
    have hfi := flat_len (l := l.take i) fun x hx => hl.all x (List.mem_of_mem_take hx)
    have hr0 := lenOfL_take hl.all i
    generalize l[i] = z at *
    have hzt := hz.ticks
    simp only [go_sem, tksT, tksH, h2, List.length_map]
    refine loop_ind k_ref03_ticks_r8.eq_1 (fun a : Nat × Bool × Heap => a.1 ≤ z.ticks.toNat) (fun a => z.ticks.toNat - a.1)
      (fun a => (tsets 48 (tksT i (coats c (flat (l.take i) ++ List.replicate a.1 z)).length l ++ [(7, .int .i64 a.1)]), tksH c a.2.1 (coats c (flat (l.take i) ++ List.replicate a.1 z)) a.2.2)) (0, b, X) (Nat.zero_le _) (by simp [go_sem, tksT]) (by simp [tksH]) ?_
    rintro ⟨t, b', Y⟩ ht ih2
    dsimp only at ht ih2 ⊢
    by_cases h4 : t < z.ticks.toNat
    · have h5 : (t : Int) < z.ticks := by omega
      have h6 := idx_next h4 (by omega)
      have hall0 : ∀ y ∈ flat (l.take i) ++ List.replicate t z, HtOK y := fun y hy => by
        rcases List.mem_append.1 hy with hy | hy
        · exact hl.all _ (List.mem_of_mem_take (flat_mem hy))
        · rw [List.mem_replicate] at hy; rw [hy.2]; exact hz
      have hal : (flat (l.take i) ++ List.replicate t z).length = (flat (l.take i)).length + t := by simp
      have hg := coatOf_good hc hall0 (by omega)
      have htk := rtick_run c hc _ (hg.ok.b hc.amount.2) z.heat z.cur hz.heat hz.cur
      have hsn : coats c (flat (l.take i) ++ List.replicate (t + 1) z) = coats c (flat (l.take i) ++ List.replicate t z) ++ [after c (coatOf c (flat (l.take i) ++ List.replicate t z)) z.heat z.cur] := by
        rw [List.replicate_succ', ← List.append_assoc, coats_snoc, coatOf_snoc]
      have hget := coats_get (c := c) (Nat.le_refl (flat (l.take i) ++ List.replicate t z).length)
      have hcl := coats_len c (flat (l.take i) ++ List.replicate t z)
      rw [List.take_length] at hget
      have hih := fun b hb hib ρ' => ih2 (t + 1, b) hb hib ρ'
      simp only [hsn] at hih
      clear ih2
      generalize after c (coatOf c (flat (l.take i) ++ List.replicate t z)) z.heat z.cur = n at *
      generalize coatOf c (flat (l.take i) ++ List.replicate t z) = y at *
      generalize (flat (l.take i) ++ List.replicate t z).length = p at *
      generalize coats c (flat (l.take i) ++ List.replicate t z) = xs at *
      have g1 : IntKind.i64.wrap ((xs.length : Int) - 1) = (p : Int) := by rw [w64 (by omega)]; omega
      have g2 : ¬ (p : Int) < 0 := by omega
      have g3 : (p : Int) < xs.length := by omega
      have g4 : (xs.length + 1) * 104 ≤ 2 ^ 44 := by omega
      have esn := cg_snoc xs n
      simp only [go_sem, tksT, tksH, hx, h2, n0, h5, Ht.v, Ht.cs, Ct.v, Ct.cs, List.length_map, g1, g2, g3, hget, Cg.v, Cg.cs]
      refine dP htk ?_ (hr := by simp only [go_sem, Cg.v, Cg.cs])
      simp only [go_sem, Cg.v, Cg.cs, g4, List.length_map]
      simp only [h6, esn]
      refine hih (true, _) (by omega) h4 _ ?_
      simp [go_sem, tksT]
    · have h5 : ¬ (t : Int) < z.ticks := by omega
      have hte : t = z.ticks.toNat := by omega
      simp only [go_sem, tksT, tksH, hx, h2, n0, h5, Ht.v, Ht.cs, h3, List.length_map]
      rw [hte, ← hs]
      exact ih (i + 1, b', Y) (by dsimp only; omega) h1 _ (by simp [go_sem, tksT])
  · have h2 : ¬ (i : Int) < l.length := by omega
    rw [List.take_of_length_le (by omega)]
    simp only [go_sem, tksT, tksH, h2, List.length_map]
    exact ⟨b, kept_one 1 rfl (by rw [row_bel_cells]; simp only [go_sem]) rfl⟩

theorem flat_take (l : List Ht) (i : Nat) : (flat l).take (flat (l.take i)).length = flat (l.take i) := by
  conv => lhs; rw [← List.take_append_drop i l]
  rw [flat_app]
  have e : (List.take i l ++ List.drop i l).take i = l.take i := by rw [List.take_append_drop]
  rw [e, List.take_left]
theorem flat_len_le (l : List Ht) (i : Nat) : (flat (l.take i)).length ≤ (flat l).length := by
  conv => rhs; rw [← List.take_append_drop i l, flat_app, List.length_append]
  exact Nat.le_add_right _ _
theorem follow_snoc {c : Ct} {l : List Ht} {i : Nat} (hi : i < l.length) : follow c (l.take (i + 1)) = follow c (l.take i) ++ [coatOf c (flat (l.take (i + 1)))] := by
  have hx : l[i]? = some l[i] := List.getElem?_eq_getElem hi
  unfold follow
  rw [followX_succ hx, ← endX_succ hx, endX_flat]

set_option maxHeartbeats 4000000 in
theorem rFollow_run (c : Ct) (hc : CtOK c) (l : List Ht) (hl : LsOK l) (h0 : l ≠ []) : Ans Try.prog n_ref03_Follow [c.v (.view (c.bands.map Bd.v)), .view (l.map Ht.v)] [] (.tup [.sl 0 0 l.length, .int .i64 0]) [some (CgR (follow c l))] := by
  have hlen := hl.len
  have hsum := hl.sum
  have hlp : 0 < l.length := List.length_pos_iff.2 h0
  have hfl := flat_len hl.all
  have hcl := coats_len c (flat l)
  have hgo : ∀ i, i < l.length → (coats c (flat l))[(flat (l.take (i + 1))).length]? = some (coatOf c (flat (l.take (i + 1)))) := fun i hi => by
    have := coats_get (c := c) (a := flat l) (flat_len_le l (i + 1))
    rwa [flat_take] at this
  have hat : ∀ i, i ≤ l.length → ((flat (l.take i)).length : Int) = lenOfL (l.take i) := fun i hi => flat_len fun x hx => hl.all x (List.mem_of_mem_take hx)
  refine Ans.keep (run_fn e_ref03_Follow fun G => ?_) (Nat.zero_le _) (by simp [go_sem]) ⟨by simp only [go_sem], trivial⟩
  simp only [go_sem, Ct.v, Ct.cs]
  refine cP (rCheck_run c hc) ?_
  simp only [go_sem]
  refine cP (rCheckSchedule_run l hl) ?_
  simp only [go_sem, Ct.v, Ct.cs]
  refine cN1E (rticks_run c hc l hl) (fun a ha => ⟨by rw [bel_sl], by rw [row_bel_cells]; simp only [go_sem]⟩) ?_
  rintro b -
  simp only [go_sem, ren, rens]
  -- the first heating
  have hx : l[0]? = some l[0] := List.getElem?_eq_getElem hlp
  have hz := hl.all _ (List.getElem_mem hlp)
  have hs := lenOfL_succ hx
  have hr := lenOfL_take hl.all 1
  have hg := hgo 0 hlp
  have ha := hat 1 hlp
  have hfs := follow_snoc (c := c) hlp
  generalize l[0] = z at *
  have h2 : (0 : Int) < l.length := by omega
  have hzt := hz.ticks
  have p44 : 104 ≤ 2 ^ 44 := by decide
  have w1 : IntKind.i64.wrap 1 = 1 := rfl
  simp only [Nat.zero_add] at hg ha hfs hs
  rw [show lenOfL (l.take 0) = 0 from rfl] at hs
  have e1 : IntKind.i64.wrap (0 + z.ticks) = ((flat (l.take 1)).length : Int) := by rw [w64 (by omega)]; omega
  have l1 := flat_len_le l 1
  have n1 : ¬ ((flat (l.take 1)).length : Int) < 0 := by omega
  have n2 : ((flat (l.take 1)).length : Int) < (coats c (flat l)).length := by omega
  have q44 : ∀ n : Nat, n ≤ 40 → (n + 1) * 104 ≤ 2 ^ 44 := fun n hn => by omega
  generalize hy : coatOf c (flat (l.take 1)) = y at *
  generalize coats c (flat l) = xs at *
  refine loop_body 200 k_ref03_Follow_r15.eq_1 ?_
  simp only [go_sem, hx, h2, Ht.v, Ht.cs, List.length_map, e1, n1, n2, hg, Int.toNat_natCast, Cg.v, Cg.cs, p44, w1]
  simp only [cg_single]
  refine loop_ind k_ref03_Follow_r15.eq_1 (fun a : Nat × Heap => 1 ≤ a.1 ∧ a.1 ≤ l.length) (fun a => l.length - a.1)
    (fun a => (tsets 46 [(1, .view (l.map Ht.v)), (2, .ptr 0 0 0 1), (4, .nilsl), (5, .int .i64 0), (8, .sl 1 0 xs.length), (9, .sl 3 0 a.1), (10, .int .i64 (flat (l.take a.1)).length), (11, .int .i64 a.1)],
      some (.cells false 7 [c.v (.view (c.bands.map Bd.v))]) :: some (.cells b 13 (xs.map Cg.v)) :: some (.cells false 13 ([y].map Cg.v)) :: some (.cells true 13 ((follow c (l.take a.1)).map Cg.v)) :: a.2))
    (1, []) ⟨Nat.le_refl 1, hlp⟩ (by simp [go_sem]) (by simp [hfs, Ct.v, Ct.cs, show follow c ([] : List Ht) = [] from rfl]) ?_
  rintro ⟨i, X⟩ ⟨hi1, hi⟩ ih
  dsimp only at hi1 hi ih ⊢
  have hfx : (follow c (l.take i)).length = i := by unfold follow; rw [followX_len, List.length_take]; omega
  by_cases h1 : i < l.length
  · have h2' : (i : Int) < l.length := by omega
    have n0 : ¬ (i : Int) < 0 := by omega
    have hx' : l[i]? = some l[i] := List.getElem?_eq_getElem h1
    have hz' := hl.all _ (List.getElem_mem h1)
    have hs' := lenOfL_succ hx'
    have hr' := lenOfL_take hl.all (i + 1)
    have hg' := hgo i h1
    have ha' := hat (i + 1) h1
    have ha0 := hat i (by omega)
    have hfs' := follow_snoc (c := c) h1
    have l1' := flat_len_le l (i + 1)
    generalize l[i] = z' at *
    have hzt' := hz'.ticks
    have h3 := idx_next h1 (by omega)
    have e1' : IntKind.i64.wrap ((flat (l.take i)).length + z'.ticks) = ((flat (l.take (i + 1))).length : Int) := by rw [w64 (by omega)]; omega
    have n1' : ¬ ((flat (l.take (i + 1))).length : Int) < 0 := by omega
    have n2' : ((flat (l.take (i + 1))).length : Int) < xs.length := by omega
    have q := q44 i (by omega)
    generalize coatOf c (flat (l.take (i + 1))) = y' at *
    have esn := cg_snoc (follow c (l.take i)) y'
    simp only [go_sem, hx', h2', n0, Ht.v, Ht.cs, List.length_map, e1', n1', n2', hg', hfx, Int.toNat_natCast, Cg.v, Cg.cs, q]
    simp only [h3, esn, ← hfs']
    exact ih (i + 1, _) (by dsimp only; omega) ⟨by dsimp only; omega, h1⟩ _ (by simp [go_sem])
  · have h2' : ¬ (i : Int) < l.length := by omega
    have hil : i = l.length := by omega
    simp only [go_sem, h2', List.length_map]
    rw [hil, List.take_length]
    exact kept_one 3 rfl (by simp only [go_sem]) rfl
end Go.Proofs
namespace Go.Proofs
open Go Go.Sx
attribute [local irreducible] Run

structure Dm where
  gas : Int
  wear : Int
  lost : Int
  rest : Int
  ba : Int
  deriving Inhabited, DecidableEq
def Dm.cs (d : Dm) : List AVal := [.int .i64 d.gas, .int .i64 d.wear, .int .i64 d.lost, .int .i64 d.rest, .int .i64 d.ba]
def Dm.v (d : Dm) : AVal := .agg d.cs
@[go_sem] theorem dm_bel (x : Dm) (S : Nat → Prop) : Bel S x.v = True := by unfold Dm.v Dm.cs; simp only [go_sem]
@[go_sem] theorem dm_nv (x : Dm) : NV x.v = True := by unfold Dm.v Dm.cs; simp only [go_sem]
abbrev MW : Int := 1099511627776
structure DmOK (d : Dm) : Prop where
  gas : 0 ≤ d.gas ∧ d.gas ≤ 1099511627776
  wear : 0 ≤ d.wear ∧ d.wear ≤ 1099511627776
  lost : 0 ≤ d.lost ∧ d.lost ≤ 1099511627776
  rest : 0 ≤ d.rest ∧ d.rest ≤ 1099511627776
  ba : 0 ≤ d.ba ∧ d.ba ≤ 1000000000

theorem in_run (w : Int) (r : Rg) {m : Int} (h : RgIn r m) (hm : m ≤ 1099511627776) : Ans Try.prog n_kit_Dice_In [.ptr 0 0 0 1, r.v] [some (Dr w)] (.int .i64 (btw w r.lo r.hi)) [some (Dr (dstep w))] := by
  obtain ⟨a, b, c⟩ := h
  have hb := between_ok w r.lo r.hi (by omega) b (by omega)
  refine spec_run e_kit_Dice_In fun G => ?_
  simp only [go_sem, Rg.v]
  by_cases h1 : r.lo < r.hi
  · simp only [h1, if_true]
    refine cD hb ?_
    simp only [go_sem]
    exact ⟨_, rfl⟩
  · have e : r.hi = r.lo := by omega
    rw [e] at hb ⊢
    simp only [h1, if_false, Int.lt_irrefl]
    refine cD hb ?_
    simp only [go_sem]
    exact ⟨_, rfl⟩

def sel5v (q a b c d e : Int) : Int := if q = 0 then a else if q = 1 then b else if q = 2 then c else if q = 3 then d else e
theorem sel5v_ok (q a b c d e : Int) (h : 0 ≤ q ∧ q < 5) : [AVal.int .i64 a, .int .i64 b, .int .i64 c, .int .i64 d, .int .i64 e][q.toNat]? = some (.int .i64 (sel5v q a b c d e)) := by
  obtain rfl | rfl | rfl | rfl | rfl : q = 0 ∨ q = 1 ∨ q = 2 ∨ q = 3 ∨ q = 4 := by omega
  all_goals rfl
def sel4v (q a b c d : Int) : Int := if q = 0 then a else if q = 1 then b else if q = 2 then c else d
theorem sel4v_ok (q a b c d : Int) (h : 0 ≤ q ∧ q < 4) : [AVal.int .i64 a, .int .i64 b, .int .i64 c, .int .i64 d][q.toNat]? = some (.int .i64 (sel4v q a b c d)) := by
  obtain rfl | rfl | rfl | rfl : q = 0 ∨ q = 1 ∨ q = 2 ∨ q = 3 := by omega
  all_goals rfl

/-- The greater of two. -/
def mxv (a b : Int) : Int := if b > a then b else a
def nearV (w : Int) (r : Rg) : Int := sel5v (upto (dstep w) 5) r.lo r.hi (btw w r.lo r.hi) (mxv 0 (r.lo - 1)) 1099511627776
theorem nearV_in {w : Int} {r : Rg} {m : Int} (h : RgIn r m) (hm : m ≤ 1099511627776) : 0 ≤ nearV w r ∧ nearV w r ≤ 1099511627776 := by
  obtain ⟨a, b, c⟩ := h
  have hb := btw_in (w := w) b
  unfold nearV sel5v mxv
  generalize btw w r.lo r.hi = q at *
  constructor <;> (repeat' split) <;> omega
theorem near_run (w : Int) (r : Rg) {m : Int} (h : RgIn r m) (hm : m ≤ 1099511627776) : Ans Try.prog n_kit_near [.ptr 0 0 0 1, r.v] [some (Dr w)] (.int .i64 (nearV w r)) [some (Dr (dstep (dstep w)))] := by
  have hi := in_run w r h hm
  obtain ⟨a, b, c⟩ := h
  have hq := upto_in (w := dstep w) (n := 5) (by decide)
  have e1 : IntKind.i64.wrap (r.lo - 1) = r.lo - 1 := w64 (by omega)
  have hs := sel5v_ok (upto (dstep w) 5) r.lo r.hi (btw w r.lo r.hi) (mxv 0 (r.lo - 1)) 1099511627776 hq
  have n1 : ¬ upto (dstep w) 5 < 0 := by omega
  have n2 : upto (dstep w) 5 < 5 := hq.2
  have hu := upto_ok (dstep w) 5 (by decide)
  unfold nearV
  have hmx : (if r.lo - 1 > 0 then r.lo - 1 else 0) = mxv 0 (r.lo - 1) := rfl
  generalize mxv 0 (r.lo - 1) = y at *
  generalize upto (dstep w) 5 = q at *
  refine spec_run e_kit_near fun G => ?_
  simp only [go_sem, Rg.v]
  refine dD hi ?_
  simp only [go_sem, e1, hmx]
  refine dD hu ?_
  simp only [go_sem, n1, n2, hs]
  exact ⟨_, rfl⟩

theorem rFollow_nil (c : Ct) (hc : CtOK c) : Ans Try.prog n_ref03_Follow [c.v (.view (c.bands.map Bd.v)), .view []] [] (.tup [.nilsl, .int .i64 0]) [] := by
  have hl : LsOK [] := ⟨by simp, fun h hh => by simp at hh, by simp [lenOfL]⟩
  have hcs : Ans Try.prog n_ref03_CheckSchedule [.view []] [] (.int .i64 0) [] := rCheckSchedule_run [] hl
  have ht := rticks_run c hc [] hl
  refine spec_run e_ref03_Follow fun G => ?_
  simp only [go_sem, Ct.v, Ct.cs]
  refine cP (rCheck_run c hc) ?_
  simp only [go_sem]
  refine cP hcs ?_
  simp only [go_sem, Ct.v, Ct.cs]
  refine cN1E ht (fun a ha => ⟨by rw [bel_sl], by rw [row_bel_cells]; simp only [go_sem]⟩) ?_
  rintro b -
  simp only [go_sem, ren, rens]
  refine loop_body 200 k_ref03_Follow_r15.eq_1 ?_
  simp only [go_sem]
end Go.Proofs
namespace Go.Proofs
open Go Go.Sx

def sel3v (q a b c : Int) : Int := if q = 0 then a else if q = 1 then b else c
theorem sel3v_ok (q a b c : Int) (h : 0 ≤ q ∧ q < 3) : [AVal.int .i64 a, .int .i64 b, .int .i64 c][q.toNat]? = some (.int .i64 (sel3v q a b c)) := by
  obtain rfl | rfl | rfl : q = 0 ∨ q = 1 ∨ q = 2 := by omega
  all_goals rfl
theorem sel3v_in {q a b c : Int} : sel3v q a b c = a ∨ sel3v q a b c = b ∨ sel3v q a b c = c := by unfold sel3v; split <;> (try split) <;> simp
def heating (w ticks : Int) : Ht := ⟨btw w 1 ticks, sel3v (upto (dstep (dstep (dstep w))) 3) (btw (dstep w) 0 800) (btw (dstep (dstep w)) 600 2000) 300, sel3v (upto (dstep (dstep (dstep (dstep (dstep (dstep w)))))) 3) 0 (upto (dstep (dstep (dstep (dstep w)))) 50) (upto (dstep (dstep (dstep (dstep (dstep w))))) 1001)⟩
def schedN (ticks : Int) : Nat → Int → List Ht → List Ht × Int
  | 0, w, l => (l, w)
  | n + 1, w, l => schedN ticks n (dstep (dstep (dstep (dstep (dstep (dstep (dstep w))))))) (l ++ [heating w ticks])
def schedOf (w most ticks : Int) : List Ht × Int := schedN ticks (upto w (most + 1)).toNat (dstep w) []

theorem heating_det (w ticks : Int) (ht : 1 ≤ ticks ∧ ticks ≤ 2000) : ∃ (h : Ht), h = heating w ticks ∧ HtOK h ∧ h.ticks ≤ ticks ∧ h.ticks = btw w 1 ticks ∧
    [AVal.int .i64 (btw (dstep w) 0 800), .int .i64 (btw (dstep (dstep w)) 600 2000), .int .i64 300][(upto (dstep (dstep (dstep w))) 3).toNat]? = some (.int .i64 h.heat) ∧ 0 ≤ upto (dstep (dstep (dstep w))) 3 ∧ upto (dstep (dstep (dstep w))) 3 < 3 ∧
    [AVal.int .i64 0, .int .i64 (upto (dstep (dstep (dstep (dstep w)))) 50), .int .i64 (upto (dstep (dstep (dstep (dstep (dstep w))))) 1001)][(upto (dstep (dstep (dstep (dstep (dstep (dstep w)))))) 3).toNat]? = some (.int .i64 h.cur) ∧ 0 ≤ upto (dstep (dstep (dstep (dstep (dstep (dstep w)))))) 3 ∧ upto (dstep (dstep (dstep (dstep (dstep (dstep w)))))) 3 < 3 := by
  have a1 := btw_in (w := w) (lo := 1) (hi := ticks) ht.1
  have a2 := btw_in (w := (dstep w)) (lo := 0) (hi := 800) (by decide)
  have a3 := btw_in (w := (dstep (dstep w))) (lo := 600) (hi := 2000) (by decide)
  have q1 := upto_in (w := (dstep (dstep (dstep w)))) (n := 3) (by decide)
  have a4 := upto_in (w := (dstep (dstep (dstep (dstep w))))) (n := 50) (by decide)
  have a5 := upto_in (w := (dstep (dstep (dstep (dstep (dstep w)))))) (n := 1001) (by decide)
  have q2 := upto_in (w := (dstep (dstep (dstep (dstep (dstep (dstep w))))))) (n := 3) (by decide)
  have s1 := sel3v_ok _ (btw (dstep w) 0 800) (btw (dstep (dstep w)) 600 2000) 300 q1
  have s2 := sel3v_ok _ 0 (upto (dstep (dstep (dstep (dstep w)))) 50) (upto (dstep (dstep (dstep (dstep (dstep w))))) 1001) q2
  have i1 := @sel3v_in (upto (dstep (dstep (dstep w))) 3) (btw (dstep w) 0 800) (btw (dstep (dstep w)) 600 2000) 300
  have i2 := @sel3v_in (upto (dstep (dstep (dstep (dstep (dstep (dstep w)))))) 3) 0 (upto (dstep (dstep (dstep (dstep w)))) 50) (upto (dstep (dstep (dstep (dstep (dstep w))))) 1001)
  exact ⟨_, rfl, ⟨by show 1 ≤ btw w 1 ticks ∧ btw w 1 ticks ≤ 2000; omega, by show 0 ≤ sel3v _ _ _ _ ∧ sel3v _ _ _ _ ≤ 2000; omega, by show 0 ≤ sel3v _ _ _ _ ∧ sel3v _ _ _ _ ≤ 1000; omega⟩, a1.2, rfl, s1, q1.1, q1.2, s2, q2.1, q2.2⟩

set_option maxHeartbeats 2000000 in
theorem scheduleOf_at (w most ticks : Int) (hm : 0 ≤ most ∧ most ≤ 40) (ht : 1 ≤ ticks ∧ ticks ≤ 2000) :
    Ans Try.prog n_kit_ScheduleOf [.ptr 0 0 0 1, .int .i64 most, .int .i64 ticks] [some (Dr w)] (slv 1 ((schedOf w most ticks).1.map Ht.v)) (some (Dr (schedOf w most ticks).2) :: slr 3 ((schedOf w most ticks).1.map Ht.v)) := by
  have hu := upto_ok w (most + 1) (by omega)
  have hq := upto_in (w := w) (n := most + 1) (by omega)
  have u0 : IntKind.i64.wrap (most + 1) = most + 1 := w64 (by omega)
  unfold schedOf
  generalize upto w (most + 1) = n at *
  generalize hS : schedN ticks n.toNat (dstep w) [] = S
  refine Ans.keep (run_fn e_kit_ScheduleOf fun G => ?_) (by simp) ?_ ⟨by simp only [go_sem], ?_⟩
  rotate_left
  · unfold slv slr slrG
    split
    · exact .nilsl
    · rw [bel_sl]; simp
  · unfold slr slrG
    split
    · trivial
    · exact ⟨by rw [row_bel_cells]; simp only [go_sem], trivial⟩
  obtain ⟨z, zd, zok, zt, ze, zs1, zq1, zn2, zs2, zq3, zn4⟩ := heating_det (dstep w) ticks ht
  have zn1 : ¬ upto (dstep (dstep (dstep (dstep w)))) 3 < 0 := by omega
  have zn3 : ¬ upto (dstep (dstep (dstep (dstep (dstep (dstep (dstep w))))))) 3 < 0 := by omega
  have p44 : 24 ≤ 2 ^ 44 := by decide
  have u1 : IntKind.i64.wrap (n - 1) = n - 1 := w64 (by omega)
  by_cases hn : 0 < n
  · simp only [go_sem, u0]
    refine cD hu ?_
    simp only [go_sem]
    refine loop_body 200 k_kit_ScheduleOf_r6.eq_1 ?_
    simp only [go_sem, hn]
    refine dD (between_ok _ 1 ticks (by decide) ht.1 (by omega)) ?_
    simp only [go_sem]
    refine dD (between_ok _ 0 800 (by decide) (by decide) (by decide)) ?_
    simp only [go_sem]
    refine dD (between_ok _ 600 2000 (by decide) (by decide) (by decide)) ?_
    simp only [go_sem]
    refine dD (upto_ok _ 3 (by decide)) ?_
    simp only [go_sem, zn1, zn2, zs1]
    refine dD (upto_ok _ 50 (by decide)) ?_
    simp only [go_sem]
    refine dD (upto_ok _ 1001 (by decide)) ?_
    simp only [go_sem]
    refine dD (upto_ok _ 3 (by decide)) ?_
    simp only [go_sem, zn3, zn4, zs2, p44]
    simp only [u1]
    generalize some (Row.cells false 1 [.int .i64 (btw (dstep (dstep w)) 0 800), .int .i64 (btw (dstep (dstep (dstep w))) 600 2000), .int .i64 300]) = Y1
    generalize some (Row.cells false 1 [.int .i64 0, .int .i64 (upto (dstep (dstep (dstep (dstep (dstep w))))) 50), .int .i64 (upto (dstep (dstep (dstep (dstep (dstep (dstep w)))))) 1001)]) = Y2
    have e0 : [AVal.agg [.int .i64 (btw (dstep w) 1 ticks), .int .i64 z.heat, .int .i64 z.cur]] = List.map Ht.v [z] := by rw [← ze]; rfl
    rw [e0]
    refine loop_ind k_kit_ScheduleOf_r6.eq_1 (fun a : Int × Int × List Ht × Heap => 0 ≤ a.1 ∧ a.2.2.1.length + a.1 ≤ most ∧ 1 ≤ a.2.2.1.length ∧ schedN ticks a.1.toNat a.2.1 a.2.2.1 = S) (fun a => a.1.toNat)
      (fun a => (tsets 43 [(0, .ptr 0 0 0 1), (1, .int .i64 most), (2, .int .i64 ticks), (6, .nilsl), (7, .sl 4 0 a.2.2.1.length), (8, .int .i64 a.1)],
        some (Dr a.2.1) :: Y1 :: Y2 :: some (.cells false 3 (List.map Ht.v [z])) :: some (.cells true 3 (a.2.2.1.map Ht.v)) :: a.2.2.2))
      (n - 1, _, [z], []) ⟨by dsimp only; omega, by simp; omega, by simp, by dsimp only; rw [← hS, show n.toNat = (n - 1).toNat + 1 by omega, zd]; rfl⟩ (by simp [go_sem]) rfl ?_
    rintro ⟨i, w', l, X⟩ ⟨hi0, hil, hl1, hl⟩ ih
    dsimp only at hi0 hil hl1 hl ih ⊢
    by_cases c1 : 0 < i
    · obtain ⟨y, yd, yok, yt, ye, ys1, yq1, yn2, ys2, yq3, yn4⟩ := heating_det w' ticks ht
      have yn1 : ¬ upto (dstep (dstep (dstep w'))) 3 < 0 := by omega
      have yn3 : ¬ upto (dstep (dstep (dstep (dstep (dstep (dstep w')))))) 3 < 0 := by omega
      have v1 : IntKind.i64.wrap (i - 1) = i - 1 := w64 (by omega)
      have q44 : (l.length + 1) * 24 ≤ 2 ^ 44 := by omega
      have e1 : ∀ xs : List Ht, List.map Ht.v xs ++ [AVal.agg [.int .i64 (btw w' 1 ticks), .int .i64 y.heat, .int .i64 y.cur]] = List.map Ht.v (xs ++ [y]) := fun xs => by rw [← ye]; exact ht_snoc xs y
      simp only [go_sem, c1]
      refine dD (between_ok _ 1 ticks (by decide) ht.1 (by omega)) ?_
      simp only [go_sem]
      repeat refine ⟨by first | omega | (simp; done) | (simp; omega), ?_⟩
      refine dD (between_ok _ 0 800 (by decide) (by decide) (by decide)) ?_
      simp only [go_sem]
      repeat refine ⟨by first | omega | (simp; done) | (simp; omega), ?_⟩
      refine dD (between_ok _ 600 2000 (by decide) (by decide) (by decide)) ?_
      simp only [go_sem]
      repeat refine ⟨by first | omega | (simp; done) | (simp; omega), ?_⟩
      refine dD (upto_ok _ 3 (by decide)) ?_
      simp only [go_sem, yn1, yn2, ys1]
      repeat refine ⟨by first | omega | (simp; done) | (simp; omega), ?_⟩
      refine dD (upto_ok _ 50 (by decide)) ?_
      simp only [go_sem]
      repeat refine ⟨by first | omega | (simp; done) | (simp; omega), ?_⟩
      refine dD (upto_ok _ 1001 (by decide)) ?_
      simp only [go_sem]
      repeat refine ⟨by first | omega | (simp; done) | (simp; omega), ?_⟩
      refine dD (upto_ok _ 3 (by decide)) ?_
      simp only [go_sem, yn3, yn4, ys2, q44]
      repeat refine ⟨by first | omega | (simp; done) | (simp; omega), ?_⟩
      simp only [e1, v1]
      rw [show l.length + 1 = (l ++ [y]).length by simp]
      exact ih (i - 1, _, l ++ [y], _) (by dsimp only; omega) ⟨by dsimp only; omega, by simp; omega, by simp, by dsimp only; rw [← hl, show i.toNat = (i - 1).toNat + 1 by omega, yd]; rfl⟩ _ (by simp [go_sem])
    · simp only [go_sem, c1]
      rw [← hl, show i.toNat = 0 by omega]
      show ∃ σ, Kept _ (some (Dr w') :: slr 3 (List.map Ht.v l)) (slv 1 (List.map Ht.v l)) _ _ σ
      have hne : List.map Ht.v l ≠ [] := fun h => by
        have : l.length = 0 := by simpa using congrArg List.length h
        omega
      simp only [slv, slr, slrG, hne, if_false]
      exact kept_two 4 (by decide) (by simp [ren]) (by simp only [go_sem]) (by rw [row_bel_cells]; simp only [go_sem]) rfl rfl
  · simp only [go_sem, u0]
    refine cD hu ?_
    simp only [go_sem]
    refine loop_body 200 k_kit_ScheduleOf_r6.eq_1 ?_
    simp only [go_sem, hn]
    rw [← hS, show n.toNat = 0 by omega]
    exact ⟨fun i => i, ⟨fun i hi => rfl, fun i j _ _ h => h, rfl, fun i x hx => by
      match i, hx with
      | 0, hx => simp [slr, slrG] at hx; subst hx; rfl
      | i + 1, hx =>
        have hx' : ([some (Dr (dstep w))] : Heap)[i + 1]? = some (some x) := hx
        simp at hx'⟩⟩
theorem schedN_sch (ticks most : Int) (ht : 1 ≤ ticks ∧ ticks ≤ 2000) : ∀ (n : Nat) (w : Int) (l : List Ht), l.length + (n : Int) ≤ most → Sch l most ticks → Sch (schedN ticks n w l).1 most ticks
  | 0, w, l, _, h => h
  | n + 1, w, l, hl, h => by
    obtain ⟨z, zd, zok, zt, _⟩ := heating_det w ticks ht
    refine schedN_sch ticks most ht n _ _ (by simp; omega) ?_
    rw [← zd]
    exact h.snoc ⟨zok, zt⟩ (by omega)
theorem schedOf_sch (w most ticks : Int) (hm : 0 ≤ most ∧ most ≤ 40) (ht : 1 ≤ ticks ∧ ticks ≤ 2000) : Sch (schedOf w most ticks).1 most ticks := by
  have hq := upto_in (w := w) (n := most + 1) (by omega)
  exact schedN_sch ticks most ht _ _ _ (by simp; omega) ⟨by simp; omega, fun x hx => by simp at hx⟩

/-- The same; the schedule's row stands still. -/
theorem scheduleOf_det (w most ticks : Int) (hm : 0 ≤ most ∧ most ≤ 40) (ht : 1 ≤ ticks ∧ ticks ≤ 2000) :
    Ans Try.prog n_kit_ScheduleOf [.ptr 0 0 0 1, .int .i64 most, .int .i64 ticks] [some (Dr w)] (slv 1 ((schedOf w most ticks).1.map Ht.v)) (some (Dr (schedOf w most ticks).2) :: slrG false 3 ((schedOf w most ticks).1.map Ht.v)) := by
  have h0 := scheduleOf_at w most ticks hm ht
  generalize schedOf w most ticks = S at *
  have e : settleFrom 1 (some (Dr S.2) :: slr 3 (S.1.map Ht.v)) = some (Dr S.2) :: slrG false 3 (S.1.map Ht.v) := by
    unfold slr slrG
    split <;> rfl
  have h1 : AnsE Try.prog n_kit_ScheduleOf [.ptr 0 0 0 1, .int .i64 most, .int .i64 ticks] [some (Dr w)] (fun _ : Unit => True) (fun _ => slv 1 (S.1.map Ht.v)) (fun _ => some (Dr S.2) :: slr 3 (S.1.map Ht.v)) := h0.toE (a := ()) trivial
  have h := h1.settle (fun a ha => ⟨by simp, ?_, by simp only [go_sem], ?_⟩) (fun a ha => ⟨?_, fun i x hx => ?_⟩)
  · intro G
    have := h G
    simp only [List.length_singleton, e] at this
    exact this.mono fun v H' ⟨_, _, h2, h3⟩ => ⟨h2, h3⟩
  · unfold slv slr slrG
    split
    · exact .nilsl
    · rw [bel_sl]; simp
  · unfold slr slrG
    split
    · trivial
    · exact ⟨by rw [row_bel_cells]; simp only [go_sem], trivial⟩
  · unfold slv slr slrG
    by_cases h0 : List.map Ht.v S.1 = []
    · simp only [h0, if_true]; exact .nilsl
    · simp only [h0, if_false]; exact .sl _ _ _ (by simp [lenIn, rowLen])
  · match i, hx with
    | 0, hx =>
      simp only [List.getElem?_cons_zero, Option.some.injEq] at hx
      subst hx
      show Fuls _ [AVal.agg [.int .u64 S.2]]
      exact ⟨by rw [ful_agg]; exact ⟨.int _ _, trivial⟩, trivial⟩
    | 1, hx =>
      unfold slr slrG at hx
      split at hx
      · simp at hx
      · simp only [List.getElem?_cons_succ, List.getElem?_cons_zero, Option.some.injEq] at hx
        subst hx
        exact fuls_map _ _ fun x => by unfold Ht.v; rw [ful_agg]; exact ⟨.int _ _, .int _ _, .int _ _, trivial⟩
    | i + 2, hx =>
      unfold slr slrG at hx
      split at hx <;> simp at hx
end Go.Proofs
namespace Go.Proofs
open Go Go.Sx
attribute [local irreducible] Run

def demV (w gas : Int) (c : Ct) (x : Cg) : Dm :=
  let w1 := dstep (dstep w)
  let w2 := dstep (dstep w1)
  let w3 := dstep (dstep w2)
  let w4 := dstep (dstep w3)
  ⟨sel3v (upto (dstep w) 3) gas (upto w (gas + 2)) c.amount, nearV w1 x.wear, nearV w2 x.lost, nearV w3 x.carb, sel4v (upto (dstep w4) 4) 0 x.ba.lo x.ba.hi (btw w4 x.ba.lo x.ba.hi)⟩
theorem demV_ok {w gas : Int} {c : Ct} {x : Cg} (hc : CtOK c) (hx : CgOK c x) (hg : 0 ≤ gas ∧ gas ≤ 1000000) : DmOK (demV w gas c x) ∧ (demV w gas c x).ba ≤ 1000000 := by
  have hm := hc.amount
  have u := upto_in (w := w) (n := gas + 2) (by omega)
  have hba := hx.ba.all
  have b := fun w => btw_in (w := w) hba.2.1
  refine ⟨⟨?_, nearV_in hx.wear (by decide), nearV_in hx.lost (by omega), nearV_in hx.carb (by omega), ?_⟩, ?_⟩
  · show 0 ≤ sel3v _ _ _ _ ∧ sel3v _ _ _ _ ≤ _
    unfold sel3v
    constructor <;> (repeat' split) <;> omega
  · show 0 ≤ sel4v _ _ _ _ _ ∧ sel4v _ _ _ _ _ ≤ _
    have b' := b (dstep (dstep (dstep (dstep (dstep (dstep (dstep (dstep w))))))))
    unfold sel4v
    constructor <;> (repeat' split) <;> omega
  · show sel4v _ _ _ _ _ ≤ _
    have b' := b (dstep (dstep (dstep (dstep (dstep (dstep (dstep (dstep w))))))))
    unfold sel4v
    (repeat' split) <;> omega

def demH (w : Int) (c : Ct) (l : List Ht) (g : Bool) (x : Cg) (X : Heap) : Heap := some (Dr w) :: some (BdR c.bands) :: some (.cells g 3 (l.map Ht.v)) :: some (.cells false 7 [c.v (.sl 1 0 c.bands.length)]) :: some (.cells false 5 [.agg [.int .i64 0, .int .i64 0, .int .i64 0, .int .i64 0, .int .i64 0]]) :: some (.cells false 13 [x.v]) :: X

set_option maxHeartbeats 4000000 in
set_option maxRecDepth 4000 in
theorem demandOf_run (w : Int) (c : Ct) (hc : CtOK c) (l : List Ht) (hl : LsOK l) (g : Bool) (h0 : l ≠ []) :
    AnsE Try.prog n_kit_DemandOf [.ptr 0 0 0 1, c.v (.sl 1 0 c.bands.length), .sl 2 0 l.length] [some (Dr w), some (BdR c.bands), some (.cells g 3 (l.map Ht.v))] (fun a : Dm × Int => DmOK a.1 ∧ a.1.ba ≤ 1000000) (fun a => a.1.v) (fun a => [some (Dr a.2), some (BdR c.bands), some (.cells g 3 (l.map Ht.v))]) := by
  have hlen := hl.len
  have hsum := hl.sum
  have hlp : 0 < l.length := List.length_pos_iff.2 h0
  have hF := rFollow_run c hc l hl h0
  have hFl : (follow c l).length = l.length := followX_len c _ _
  have hall : ∀ y ∈ flat l, HtOK y := fun y hy => hl.all y (flat_mem hy)
  have hfl := flat_len hl.all
  have hgood : ∀ i, i < l.length → ∃ y, (follow c l)[i]? = some y ∧ CgOK c y := fun i hi => ⟨_, follow_get hi, by
    have h1 := flat_len_le l (i + 1)
    exact (coatOf_good hc (fun y hy => hl.all y (List.mem_of_mem_take (flat_mem hy))) (by omega)).ok⟩
  obtain ⟨x, hx, hxo⟩ := hgood (l.length - 1) (by omega)
  generalize follow c l = F at *
  have g0 : (0 : Int) < l.length := by omega
  have g1 : IntKind.i64.wrap ((l.length : Int) - 1) = ((l.length - 1 : Nat) : Int) := by rw [w64 (by omega)]; omega
  have g2 : ¬ ((l.length - 1 : Nat) : Int) < 0 := by omega
  have g3 : ((l.length - 1 : Nat) : Int) < l.length := by omega
  refine AnsE.keep (run_fn e_kit_DemandOf fun G => ?_) (fun a ha => ⟨by simp, by simp only [go_sem], by simp only [go_sem], by simp only [go_sem], by rw [row_bel_cells]; simp only [go_sem], trivial⟩)
  simp only [go_sem, Ct.v, Ct.cs]
  refine cFN hF 6 ⟨.inl (ct_frz (H := _) rfl), .inl (sch_frz (H := _) rfl rfl), trivial⟩ ?_
  simp only [go_sem, ren, rens, CgR, List.length_map, hFl, g0, g1, g2, g3, hx, Cg.v, Cg.cs]
  refine loop_ind k_kit_DemandOf_r10.eq_1 (fun a : Nat × Int × Heap => a.1 ≤ l.length ∧ 0 ≤ a.2.1 ∧ a.2.1 ≤ 1000000) (fun a => l.length - a.1)
    (fun a => (tsets 81 [(0, .ptr 0 0 0 1), (4, .ptr 3 0 0 1), (6, .ptr 4 0 0 1), (7, .ptr 5 0 0 1), (8, .int .i64 a.2.1), (9, .sl 6 0 l.length), (11, .int .i64 a.1)], demH w c l g x (some (.cells true 13 (F.map Cg.v)) :: a.2.2)))
    (0, 0, []) ⟨Nat.zero_le _, by decide, by decide⟩ (by simp [go_sem]) rfl ?_
  rintro ⟨i, gas, X⟩ ⟨hi, hg0, hg1⟩ ih
  dsimp only at hi hg0 hg1 ih ⊢
  by_cases h1 : i < l.length
  · have h2 : (i : Int) < l.length := by omega
    have n0 : ¬ (i : Int) < 0 := by omega
    obtain ⟨y, hy, hyo⟩ := hgood i h1
    have h3 := idx_next h1 (by omega)
    have hyg := hyo.gas.all
    have hm := hc.amount
    simp only [go_sem, demH, h2, n0, hy, hFl, List.length_map, Cg.v, Cg.cs, h3]
    refine ih (i + 1, (if y.gas.hi > gas then y.gas.hi else gas), X) (by dsimp only; omega) ⟨h1, ?_⟩ _ (by simp [go_sem])
    dsimp only
    split <;> omega
  · have h2 : ¬ (i : Int) < l.length := by omega
    have hm := hc.amount
    have hu1 := upto_ok w (gas + 2) (by omega)
    have hu2 := upto_ok (dstep w) 3 (by decide)
    have q1 := upto_in (w := dstep w) (n := 3) (by decide)
    have s1 := sel3v_ok _ gas (upto w (gas + 2)) c.amount q1
    have e1 : IntKind.i64.wrap (gas + 2) = gas + 2 := w64 (by omega)
    have n1 : ¬ upto (dstep w) 3 < 0 := by omega
    have n2 : upto (dstep w) 3 < 3 := q1.2
    have r1 := near_run (dstep (dstep w)) x.wear hxo.wear (by decide)
    have r2 := near_run (dstep (dstep (dstep (dstep w)))) x.lost hxo.lost (by omega)
    have r3 := near_run (dstep (dstep (dstep (dstep (dstep (dstep w)))))) x.carb hxo.carb (by omega)
    have r4 := in_run (dstep (dstep (dstep (dstep (dstep (dstep (dstep (dstep w)))))))) x.ba hxo.ba (by omega)
    have hu3 := upto_ok (dstep (dstep (dstep (dstep (dstep (dstep (dstep (dstep (dstep w))))))))) 4 (by decide)
    have q2 := upto_in (w := dstep (dstep (dstep (dstep (dstep (dstep (dstep (dstep (dstep w))))))))) (n := 4) (by decide)
    have s2 := sel4v_ok _ 0 x.ba.lo x.ba.hi (btw (dstep (dstep (dstep (dstep (dstep (dstep (dstep (dstep w)))))))) x.ba.lo x.ba.hi) q2
    have n3 : ¬ upto (dstep (dstep (dstep (dstep (dstep (dstep (dstep (dstep (dstep w))))))))) 4 < 0 := by omega
    have n4 : upto (dstep (dstep (dstep (dstep (dstep (dstep (dstep (dstep (dstep w))))))))) 4 < 4 := q2.2
    have hok := demV_ok (w := w) hc hxo ⟨hg0, hg1⟩
    unfold demV at hok
    dsimp only at hok
    generalize nearV (dstep (dstep w)) x.wear = v1 at *
    generalize nearV (dstep (dstep (dstep (dstep w)))) x.lost = v2 at *
    generalize nearV (dstep (dstep (dstep (dstep (dstep (dstep w)))))) x.carb = v3 at *
    generalize btw (dstep (dstep (dstep (dstep (dstep (dstep (dstep (dstep w)))))))) x.ba.lo x.ba.hi = v4 at *
    generalize upto (dstep (dstep (dstep (dstep (dstep (dstep (dstep (dstep (dstep w))))))))) 4 = v5 at *
    generalize upto (dstep w) 3 = v6 at *
    generalize upto w (gas + 2) = v7 at *
    simp only [go_sem, demH, h2, hFl, List.length_map, Cg.v, Cg.cs, e1]
    refine dD hu1 ?_
    simp only [go_sem, Ct.v, Ct.cs]
    refine dD hu2 ?_
    simp only [go_sem, n1, n2, s1]
    refine dD r1 ?_
    simp only [go_sem]
    refine dD r2 ?_
    simp only [go_sem]
    refine dD r3 ?_
    simp only [go_sem]
    refine dD r4 ?_
    simp only [go_sem]
    refine ⟨by simp <;> omega, ?_⟩
    refine dD hu3 ?_
    simp only [go_sem, n3, n4, s2]
    refine ⟨by omega, by omega, (⟨sel3v v6 gas v7 c.amount, v1, v2, v3, sel4v v5 0 x.ba.lo x.ba.hi v4⟩, (dstep (dstep (dstep (dstep (dstep (dstep (dstep (dstep (dstep (dstep w))))))))))), hok, kept_id rfl (by simp only [go_sem]) ?_⟩
    intro i z hz
    have hi3 := (List.getElem?_eq_some_iff.1 hz).1
    simp only [List.length_cons, List.length_nil] at hi3
    obtain rfl | rfl | rfl : i = 0 ∨ i = 1 ∨ i = 2 := by omega
    · simp at hz; subst hz; exact ⟨by simp only [go_sem], rfl⟩
    · simp at hz; subst hz; exact ⟨by simp only [go_sem], rfl⟩
    · simp at hz; subst hz; exact ⟨by rw [row_bel_cells]; simp only [go_sem], rfl⟩

def zeroCg : Cg := ⟨⟨0, 0⟩, ⟨0, 0⟩, ⟨0, 0⟩, ⟨0, 0⟩, ⟨0, 0⟩, ⟨0, 0⟩, 0⟩
theorem zeroCg_ok {c : Ct} (hc : CtOK c) : CgOK c zeroCg := by
  have := hc.amount
  refine ⟨⟨?_, ?_, ?_⟩, ⟨?_, ?_, ?_⟩, ⟨?_, ?_, ?_⟩, ⟨?_, ?_, ?_⟩, ⟨?_, ?_, ?_⟩, ⟨?_, ?_, ?_⟩, ⟨?_, ?_⟩⟩ <;> simp only [zeroCg] <;> omega

set_option maxHeartbeats 4000000 in
set_option maxRecDepth 4000 in
theorem demandOf_nil (w : Int) (c : Ct) (hc : CtOK c) :
    AnsE Try.prog n_kit_DemandOf [.ptr 0 0 0 1, c.v (.sl 1 0 c.bands.length), .nilsl] [some (Dr w), some (BdR c.bands)] (fun a : Dm × Int => DmOK a.1 ∧ a.1.ba ≤ 1000000) (fun a => a.1.v) (fun a => [some (Dr a.2), some (BdR c.bands)]) := by
  have hxo := zeroCg_ok hc
  have hm := hc.amount
  have e1 : IntKind.i64.wrap 2 = 2 := rfl
  refine AnsE.keep (run_fn e_kit_DemandOf fun G => ?_) (fun a ha => ⟨by simp, by simp only [go_sem], by simp only [go_sem], by simp only [go_sem], trivial⟩)
  simp only [go_sem, Ct.v, Ct.cs]
  refine cF (rFollow_nil c hc) 6 ⟨.inl (ct_frz (H := _) rfl), .inr ⟨rfl, rfl⟩, trivial⟩ ?_
  simp only [go_sem]
  refine loop_body 200 k_kit_DemandOf_r10.eq_1 ?_
  simp only [go_sem, e1]
  have hu1 := upto_ok w 2 (by decide)
  have hu2 := upto_ok (dstep w) 3 (by decide)
  have q1 := upto_in (w := dstep w) (n := 3) (by decide)
  have s1 := sel3v_ok _ 0 (upto w 2) c.amount q1
  have e1 : IntKind.i64.wrap 2 = 2 := rfl
  have n1 : ¬ upto (dstep w) 3 < 0 := by omega
  have n2 : upto (dstep w) 3 < 3 := q1.2
  have r1 := near_run (dstep (dstep w)) ⟨0, 0⟩ hxo.wear (by decide)
  have r2 := near_run (dstep (dstep (dstep (dstep w)))) ⟨0, 0⟩ hxo.lost (by omega)
  have r3 := near_run (dstep (dstep (dstep (dstep (dstep (dstep w)))))) ⟨0, 0⟩ hxo.carb (by omega)
  have r4 := in_run (dstep (dstep (dstep (dstep (dstep (dstep (dstep (dstep w)))))))) ⟨0, 0⟩ hxo.ba (by omega)
  have hu3 := upto_ok (dstep (dstep (dstep (dstep (dstep (dstep (dstep (dstep (dstep w))))))))) 4 (by decide)
  have q2 := upto_in (w := dstep (dstep (dstep (dstep (dstep (dstep (dstep (dstep (dstep w))))))))) (n := 4) (by decide)
  have s2 := sel4v_ok _ 0 0 0 (btw (dstep (dstep (dstep (dstep (dstep (dstep (dstep (dstep w)))))))) 0 0) q2
  have n3 : ¬ upto (dstep (dstep (dstep (dstep (dstep (dstep (dstep (dstep (dstep w))))))))) 4 < 0 := by omega
  have n4 : upto (dstep (dstep (dstep (dstep (dstep (dstep (dstep (dstep (dstep w))))))))) 4 < 4 := q2.2
  have hok := demV_ok (w := w) hc hxo (gas := 0) ⟨by decide, by decide⟩
  unfold demV at hok
  dsimp only at hok
  rw [show (0 : Int) + 2 = 2 from rfl] at hok
  simp only [zeroCg] at hok hxo
  generalize nearV (dstep (dstep w)) ⟨0, 0⟩ = v1 at *
  generalize nearV (dstep (dstep (dstep (dstep w)))) ⟨0, 0⟩ = v2 at *
  generalize nearV (dstep (dstep (dstep (dstep (dstep (dstep w)))))) ⟨0, 0⟩ = v3 at *
  generalize btw (dstep (dstep (dstep (dstep (dstep (dstep (dstep (dstep w)))))))) 0 0 = v4 at *
  generalize upto (dstep (dstep (dstep (dstep (dstep (dstep (dstep (dstep (dstep w))))))))) 4 = v5 at *
  generalize upto (dstep w) 3 = v6 at *
  generalize upto w 2 = v7 at *
  refine dD hu1 ?_
  simp only [go_sem, Ct.v, Ct.cs]
  refine dD hu2 ?_
  simp only [go_sem, n1, n2, s1]
  refine dD r1 ?_
  simp only [go_sem]
  refine dD r2 ?_
  simp only [go_sem]
  refine dD r3 ?_
  simp only [go_sem]
  refine dD r4 ?_
  simp only [go_sem]
  refine dD hu3 ?_
  simp only [go_sem, n3, n4, s2]
  refine ⟨(⟨sel3v v6 0 v7 c.amount, v1, v2, v3, sel4v v5 0 0 0 v4⟩, (dstep (dstep (dstep (dstep (dstep (dstep (dstep (dstep (dstep (dstep w))))))))))), hok, kept_id rfl (by simp only [go_sem]) ?_⟩
  intro i z hz
  have hi3 := (List.getElem?_eq_some_iff.1 hz).1
  simp only [List.length_cons, List.length_nil] at hi3
  obtain rfl | rfl : i = 0 ∨ i = 1 := by omega
  · simp at hz; subst hz; exact ⟨by simp only [go_sem], rfl⟩
  · simp at hz; subst hz; exact ⟨by simp only [go_sem], rfl⟩
end Go.Proofs
namespace Go.Proofs
open Go Go.Sx
attribute [local irreducible] Run

theorem chkX_ok {c : Ct} {x : Cg} (h : chkX c x = 0) : CtOK c ∧ CgOK c x := by
  unfold chkX at h
  by_cases c0 : chkC c = 0
  rotate_left
  · rw [if_neg c0] at h; exact absurd h c0
  rw [if_pos c0] at h
  by_cases c1 : chkR c.amount [x.carb, x.ox, x.ba, x.lost, x.gas] = 0
  rotate_left
  · rw [if_neg c1] at h; exact absurd h c1
  rw [if_pos c1] at h
  by_cases c2 : chkR 1099511627776 [x.wear] = 0
  rotate_left
  · rw [if_neg c2] at h; exact absurd h c2
  rw [if_pos c2] at h
  by_cases c3 : 0 ≤ x.heat ∧ x.heat ≤ 2000
  rotate_left
  · rw [if_neg c3] at h; simp at h
  have q := chkR_zero c1
  have q2 := chkR_zero c2
  have r1 := q x.carb (by simp)
  have r2 := q x.ox (by simp)
  have r3 := q x.ba (by simp)
  have r4 := q x.lost (by simp)
  have r5 := q x.gas (by simp)
  have r6 := q2 x.wear (by simp)
  exact ⟨chkC_ok c0, ⟨by omega, by omega, by omega⟩, ⟨by omega, by omega, by omega⟩, ⟨by omega, by omega, by omega⟩, ⟨by omega, by omega, by omega⟩, ⟨by omega, by omega, by omega⟩, ⟨by omega, by omega, by omega⟩, c3⟩

/-- A tick, or the error that there is. -/
def tickV (c : Ct) (x : Cg) (heat cur : Int) : Cg × Int :=
  if chkX c x = 0 then
    (if 0 ≤ heat ∧ heat ≤ 2000 then (if 0 ≤ cur ∧ cur ≤ 1000 then
      (if 1099511627776 < (after c x heat cur).wear.hi then (zeroCg, 8) else (after c x heat cur, 0)) else (zeroCg, 2)) else (zeroCg, 2))
  else (zeroCg, chkX c x)
theorem rightHeat_raw (h : Int) : Ans Try.prog n_cathode_rightHeat [.int .i64 h] [] (.bool (decide (0 ≤ h ∧ h ≤ 2000))) [] := by
  refine spec_run e_cathode_rightHeat fun G => ?_
  simp only [go_sem]
  by_cases c1 : 0 ≤ h ∧ h ≤ 2000
  · refine cP (within_yes c1) ?_
    simp only [go_sem, c1, decide_true]
  · refine cP (within_no c1) ?_
    simp only [go_sem, c1, decide_false]
theorem rightCurrent_raw (h : Int) : Ans Try.prog n_cathode_rightCurrent [.int .i64 h] [] (.bool (decide (0 ≤ h ∧ h ≤ 1000))) [] := by
  refine spec_run e_cathode_rightCurrent fun G => ?_
  simp only [go_sem]
  by_cases c1 : 0 ≤ h ∧ h ≤ 1000
  · refine cP (within_yes c1) ?_
    simp only [go_sem, c1, decide_true]
  · refine cP (within_no c1) ?_
    simp only [go_sem, c1, decide_false]

def chkT (c : Ct) (x : Cg) (heat cur : Int) : Int := if chkX c x = 0 then (if 0 ≤ heat ∧ heat ≤ 2000 then (if 0 ≤ cur ∧ cur ≤ 1000 then 0 else 2) else 2) else chkX c x
theorem checkTick_raw (c : Ct) (hl : c.bands.length ≤ 1000) (x : Cg) (heat cur : Int) : Ans Try.prog n_cathode_checkTick [c.v (.view (c.bands.map Bd.v)), x.v, .int .i64 heat, .int .i64 cur] [] (.int .i64 (chkT c x heat cur)) [] := by
  have g := CheckCoating_raw c hl x
  generalize hRES : chkT c x heat cur = RES
  unfold chkT at hRES
  refine spec_run e_cathode_checkTick fun G => ?_
  simp only [go_sem, Ct.v, Ct.cs, Cg.v, Cg.cs]
  refine cP g ?_
  generalize chkX c x = e0 at *
  by_cases c0 : e0 = 0
  rotate_left
  · have b0 : (e0 != 0) = true := by simp [c0]
    rw [if_neg c0] at hRES
    subst hRES
    simp only [go_sem, b0]
  rw [if_pos c0] at hRES
  subst c0
  simp only [go_sem, Int.reduceBNe]
  refine cP (rightHeat_raw heat) ?_
  by_cases c1 : 0 ≤ heat ∧ heat ≤ 2000
  rotate_left
  · rw [if_neg c1] at hRES
    subst hRES
    simp only [go_sem, decide_eq_false c1]
  rw [if_pos c1] at hRES
  simp only [go_sem, decide_eq_true c1]
  refine cP (rightCurrent_raw cur) ?_
  by_cases c2 : 0 ≤ cur ∧ cur ≤ 1000
  rotate_left
  · rw [if_neg c2] at hRES
    subst hRES
    simp only [go_sem, decide_eq_false c2]
  rw [if_pos c2] at hRES
  subst hRES
  simp only [go_sem, decide_eq_true c2]

theorem Tick_raw (c : Ct) (hl : c.bands.length ≤ 1000) (x : Cg) (heat cur : Int) : Ans Try.prog n_cathode_Tick [c.v (.view (c.bands.map Bd.v)), x.v, .int .i64 heat, .int .i64 cur] [] (.tup [(tickV c x heat cur).1.v, .int .i64 (tickV c x heat cur).2]) [] := by
  generalize hRES : tickV c x heat cur = RES
  unfold tickV at hRES
  have g := checkTick_raw c hl x heat cur
  have hok := @chkX_ok c x
  unfold chkT at g
  refine spec_run e_cathode_Tick fun G => ?_
  simp only [go_sem, Ct.v, Ct.cs, Cg.v, Cg.cs]
  refine cP g ?_
  generalize chkX c x = e0 at *
  by_cases c0 : e0 = 0
  rotate_left
  · have b0 : (e0 != 0) = true := by simp [c0]
    rw [if_neg c0] at hRES
    subst hRES
    simp only [go_sem, b0, if_neg c0, zeroCg, Cg.v, Cg.cs]
  rw [if_pos c0] at hRES
  subst c0
  obtain ⟨hc, hx⟩ := hok rfl
  by_cases c1 : 0 ≤ heat ∧ heat ≤ 2000
  rotate_left
  · rw [if_neg c1] at hRES
    subst hRES
    simp only [go_sem, if_neg c1, zeroCg, Cg.v, Cg.cs, Int.reduceBNe]
  rw [if_pos c1] at hRES
  by_cases c2 : 0 ≤ cur ∧ cur ≤ 1000
  rotate_left
  · rw [if_neg c2] at hRES
    subst hRES
    simp only [go_sem, if_pos c1, if_neg c2, zeroCg, Cg.v, Cg.cs, Int.reduceBNe]
  rw [if_pos c2] at hRES
  have ha := after_run c hc x (hx.b hc.amount.2) heat cur c1 c2
  generalize after c x heat cur = y at *
  simp only [go_sem, if_pos c1, if_pos c2, Int.reduceBNe]
  refine cP ha ?_ (hr := by simp only [go_sem, Cg.v, Cg.cs])
  simp only [go_sem, Cg.v, Cg.cs]
  refine ⟨fun c3 => ?_, fun c3 => ?_⟩
  · rw [if_pos c3] at hRES
    subst hRES
    rfl
  · rw [if_neg c3] at hRES
    subst hRES
    rfl

theorem rTick_raw (c : Ct) (hl : c.bands.length ≤ 1000) (x : Cg) (heat cur : Int) : Ans Try.prog n_ref03_Tick [c.v (.view (c.bands.map Bd.v)), x.v, .int .i64 heat, .int .i64 cur] [] (.tup [(tickV c x heat cur).1.v, .int .i64 (tickV c x heat cur).2]) [] := by
  generalize hRES : tickV c x heat cur = RES
  unfold tickV at hRES
  have g := rCheckCoating_raw c hl x
  have hok := @chkX_ok c x
  refine spec_run e_ref03_Tick fun G => ?_
  simp only [go_sem, Ct.v, Ct.cs, Cg.v, Cg.cs]
  refine cP g ?_
  generalize chkX c x = e0 at *
  by_cases c0 : e0 = 0
  rotate_left
  · have b0 : (e0 != 0) = true := by simp [c0]
    rw [if_neg c0] at hRES
    subst hRES
    simp only [go_sem, b0, zeroCg, Cg.v, Cg.cs]
  rw [if_pos c0] at hRES
  subst c0
  obtain ⟨hc, hx⟩ := hok rfl
  simp only [go_sem, Int.reduceBNe]
  by_cases c1 : 0 ≤ heat ∧ heat ≤ 2000
  rotate_left
  · rw [if_neg c1] at hRES
    subst hRES
    refine cP (beyond_yes c1) ?_
    simp only [go_sem, zeroCg, Cg.v, Cg.cs]
  rw [if_pos c1] at hRES
  refine cP (beyond_no c1) ?_
  simp only [go_sem]
  by_cases c2 : 0 ≤ cur ∧ cur ≤ 1000
  rotate_left
  · rw [if_neg c2] at hRES
    subst hRES
    refine cP (beyond_yes c2) ?_
    simp only [go_sem, zeroCg, Cg.v, Cg.cs]
  rw [if_pos c2] at hRES
  refine cP (beyond_no c2) ?_
  have ha := rtick_run c hc x (hx.b hc.amount.2) heat cur c1 c2
  generalize after c x heat cur = y at *
  simp only [go_sem]
  refine cP ha ?_ (hr := by simp only [go_sem, Cg.v, Cg.cs])
  simp only [go_sem, Cg.v, Cg.cs]
  refine ⟨fun c3 => ?_, fun c3 => ?_⟩
  · rw [if_pos c3] at hRES
    subst hRES
    rfl
  · rw [if_neg c3] at hRES
    subst hRES
    rfl
end Go.Proofs
namespace Go.Proofs
open Go Go.Sx
attribute [local irreducible] Run

def freshV (c : Ct) : Cg × Int := if chkC c = 0 then (fresh c, 0) else (zeroCg, chkC c)
theorem Fresh_raw (c : Ct) (hl : c.bands.length ≤ 1000) : Ans Try.prog n_cathode_Fresh [c.v (.view (c.bands.map Bd.v))] [] (.tup [(freshV c).1.v, .int .i64 (freshV c).2]) [] := by
  have g := Check_raw c hl
  generalize hRES : freshV c = RES
  unfold freshV at hRES
  refine spec_run e_cathode_Fresh fun G => ?_
  simp only [go_sem, Ct.v, Ct.cs]
  refine cP g ?_
  generalize chkC c = e0 at *
  by_cases c0 : e0 = 0
  · rw [if_pos c0] at hRES
    subst c0
    subst hRES
    simp only [go_sem, Int.reduceBNe, Ct.v, Ct.cs]
    refine cP (fresh_run c) ?_ (hr := by simp only [go_sem, Cg.v, Cg.cs])
    simp only [go_sem, Cg.v, Cg.cs]
  · have b0 : (e0 != 0) = true := by simp [c0]
    rw [if_neg c0] at hRES
    subst hRES
    simp only [go_sem, b0, zeroCg, Cg.v, Cg.cs]
theorem rFresh_raw (c : Ct) (hl : c.bands.length ≤ 1000) : Ans Try.prog n_ref03_Fresh [c.v (.view (c.bands.map Bd.v))] [] (.tup [(freshV c).1.v, .int .i64 (freshV c).2]) [] := by
  have g := rCheck_raw c hl
  generalize hRES : freshV c = RES
  unfold freshV at hRES
  refine spec_run e_ref03_Fresh fun G => ?_
  simp only [go_sem, Ct.v, Ct.cs]
  refine cP g ?_
  generalize chkC c = e0 at *
  by_cases c0 : e0 = 0
  · rw [if_pos c0] at hRES
    subst c0
    subst hRES
    simp only [go_sem, Int.reduceBNe, Ct.v, Ct.cs]
    refine cP (rfresh_run c) ?_ (hr := by simp only [go_sem, Cg.v, Cg.cs])
    simp only [go_sem, Cg.v, Cg.cs]
  · have b0 : (e0 != 0) = true := by simp [c0]
    rw [if_neg c0] at hRES
    subst hRES
    simp only [go_sem, b0, zeroCg, Cg.v, Cg.cs]
end Go.Proofs
namespace Go.Proofs
open Go Go.Sx
attribute [local irreducible] Run

def okH (z : Ht) : Bool := decide (1 ≤ z.ticks ∧ z.ticks ≤ 2000) && decide (0 ≤ z.heat ∧ z.heat ≤ 2000) && decide (0 ≤ z.cur ∧ z.cur ≤ 1000)
theorem okH_ok {z : Ht} (h : okH z = true) : HtOK z := by
  simp only [okH, Bool.and_eq_true, decide_eq_true_eq] at h
  exact ⟨h.1.1, h.1.2, h.2⟩
/-- The first error of a schedule. -/
def chkS (l : List Ht) : Int := if 40 < l.length then 8 else if l.all okH = true then (if 20000 < lenOfL l then 5 else 0) else 2

theorem length_all (l : List Ht) (hlen : l.length ≤ 1000) (hall : ∀ z ∈ l, HtOK z) : Ans Try.prog n_cathode_length [.view (l.map Ht.v)] [] (.int .i64 (lenOfL l)) [] := by
  have hb : ∀ i, lenOfL (l.take i) ≤ 2000 * (l.take i).length ∧ 0 ≤ lenOfL (l.take i) := fun i => by
    have h : ∀ l : List Ht, (∀ z ∈ l, HtOK z) → lenOfL l ≤ 2000 * l.length ∧ 0 ≤ lenOfL l := fun l => by
      induction l with
      | nil => intro _; simp [lenOfL]
      | cons z l ih =>
        intro h
        have h1 := (h z (by simp)).ticks
        have h2 := ih fun y hy => h y (by simp [hy])
        simp only [lenOfL, List.length_cons]
        omega
    exact h _ fun z hz => hall z (List.mem_of_mem_take hz)
  refine spec_run e_cathode_length fun G => ?_
  simp only [go_sem]
  refine loop_ind k_cathode_length_r7.eq_1 (fun a : Nat × Heap => a.1 ≤ l.length) (fun a => l.length - a.1)
    (fun a => (tsets 18 [(3, .int .i64 (lenOfL (l.take a.1))), (6, .view (l.map Ht.v)), (7, .int .i64 l.length), (8, .int .i64 a.1)], a.2)) (0, []) (Nat.zero_le _) (by simp [go_sem, lenOfL]) rfl ?_
  rintro ⟨i, X⟩ hi ih
  dsimp only at hi ih ⊢
  by_cases h1 : i < l.length
  · have h2 : (i : Int) < l.length := by omega
    have hx : l[i]? = some l[i] := List.getElem?_eq_getElem h1
    have h3 := idx_next h1 (by omega)
    have hs := lenOfL_succ hx
    have hr := hb (i + 1)
    have hr0 := hb i
    have hl1 : (l.take (i + 1)).length ≤ 1000 := by simp; omega
    generalize l[i] = z at *
    have h4 : IntKind.i64.wrap (lenOfL (l.take i) + z.ticks) = lenOfL (l.take (i + 1)) := by rw [w64 (by omega)]; omega
    simp only [go_sem, hx, h2, Ht.v, Ht.cs, h4, h3]
    exact ih (i + 1, _) (by dsimp only; omega) h1 _ (by simp [go_sem])
  · have h2 : ¬ (i : Int) < l.length := by omega
    simp only [go_sem, h2]
    rw [List.take_of_length_le (by omega)]

theorem CheckSchedule_raw (l : List Ht) (hl : l.length ≤ 1000) : Ans Try.prog n_cathode_CheckSchedule [.view (l.map Ht.v)] [] (.int .i64 (chkS l)) [] := by
  generalize hRES : chkS l = RES
  unfold chkS at hRES
  refine spec_run e_cathode_CheckSchedule fun G => ?_
  simp only [go_sem]
  refine ⟨fun k1 => ?_, fun k1 => ?_⟩
  · rw [if_pos (by omega)] at hRES; exact hRES
  rw [if_neg (by omega)] at hRES
  refine loop_ind k_cathode_CheckSchedule_r9.eq_1 (fun a : Nat × Heap => a.1 ≤ l.length ∧ (∀ z ∈ l.take a.1, okH z = true)) (fun a => l.length - a.1)
    (fun a => (tsets 34 [(0, .view (l.map Ht.v)), (2, .int .i64 0), (8, .view (l.map Ht.v)), (9, .int .i64 l.length), (10, .int .i64 a.1)], a.2)) (0, []) ⟨Nat.zero_le _, by simp⟩ (by simp [go_sem]) rfl ?_
  rintro ⟨i, X⟩ ⟨hi, hR⟩ ih
  dsimp only at hi hR ih ⊢
  by_cases h1 : i < l.length
  · have h2 : (i : Int) < l.length := by omega
    have hx : l[i]? = some l[i] := List.getElem?_eq_getElem h1
    have h3 := idx_next h1 (by omega)
    have htk : l.take (i + 1) = l.take i ++ [l[i]] := by rw [List.take_add_one, hx]; rfl
    have hno : okH l[i] = false → 2 = RES := fun h => by
      rw [if_neg] at hRES
      · exact hRES
      · rw [List.all_eq_true]
        intro ha
        have := ha _ (List.getElem_mem h1)
        rw [h] at this; cases this
    have hyes : okH l[i] = true → ∀ z ∈ l.take (i + 1), okH z = true := fun h z hz => by
      rw [htk] at hz
      rcases List.mem_append.1 hz with hz | hz
      · exact hR z hz
      · simp at hz; subst hz; exact h
    generalize l[i] = z at *
    simp only [go_sem, hx, h2, Ht.v, Ht.cs]
    by_cases c1 : 1 ≤ z.ticks ∧ z.ticks ≤ 2000
    rotate_left
    · refine cP (within_no c1) ?_
      simp only [go_sem]
      exact hno (by simp [okH, c1])
    refine cP (within_yes c1) ?_
    simp only [go_sem]
    refine cP (rightHeat_raw z.heat) ?_
    by_cases c2 : 0 ≤ z.heat ∧ z.heat ≤ 2000
    rotate_left
    · simp only [go_sem, decide_eq_false c2]
      exact hno (by simp only [okH, decide_eq_false c2]; simp)
    simp only [go_sem, decide_eq_true c2]
    refine cP (rightCurrent_raw z.cur) ?_
    by_cases c3 : 0 ≤ z.cur ∧ z.cur ≤ 1000
    rotate_left
    · simp only [go_sem, decide_eq_false c3]
      exact hno (by simp only [okH, decide_eq_false c3]; simp)
    simp only [go_sem, decide_eq_true c3, h3]
    exact ih (i + 1, _) (by dsimp only; omega) ⟨h1, hyes (by simp only [okH, decide_eq_true c1, decide_eq_true c2, decide_eq_true c3]; rfl)⟩ _ (by simp [go_sem])
  · have h2 : ¬ (i : Int) < l.length := by omega
    rw [List.take_of_length_le (by omega)] at hR
    rw [if_pos (List.all_eq_true.2 hR)] at hRES
    have hLn := length_all l hl fun z hz => okH_ok (hR z hz)
    simp only [go_sem, h2]
    refine cP hLn ?_ ⟨by rw [bel_view]; exact bels_map _ _ fun h => by simp only [go_sem, Ht.v, Ht.cs], trivial⟩
    simp only [go_sem]
    refine ⟨fun k2 => ?_, fun k2 => ?_⟩
    · rw [if_pos k2] at hRES; exact hRES
    · rw [if_neg k2] at hRES; exact hRES

theorem lenOf_bound (l : List Ht) (h : ∀ z ∈ l, HtOK z) : lenOfL l ≤ 2000 * l.length ∧ 0 ≤ lenOfL l := by
  induction l with
  | nil => simp [lenOfL]
  | cons z l ih =>
    have h1 := (h z (by simp)).ticks
    have h2 := ih fun y hy => h y (by simp [hy])
    simp only [lenOfL, List.length_cons]
    omega
theorem rCheckSchedule_raw (l : List Ht) (hl : l.length ≤ 1000) : Ans Try.prog n_ref03_CheckSchedule [.view (l.map Ht.v)] [] (.int .i64 (chkS l)) [] := by
  generalize hRES : chkS l = RES
  unfold chkS at hRES
  refine spec_run e_ref03_CheckSchedule fun G => ?_
  simp only [go_sem, List.length_map]
  refine ⟨fun k1 => ?_, fun k1 => ?_⟩
  · rw [if_pos (by omega)] at hRES; exact hRES
  rw [if_neg (by omega)] at hRES
  refine loop_ind k_ref03_CheckSchedule_r10.eq_1 (fun a : Nat × Heap => a.1 ≤ l.length ∧ (∀ z ∈ l.take a.1, okH z = true)) (fun a => l.length - a.1)
    (fun a => (tsets 45 [(0, .view (l.map Ht.v)), (2, .int .i64 0), (3, .int .i64 (lenOfL (l.take a.1))), (4, .int .i64 a.1)], a.2)) (0, []) ⟨Nat.zero_le _, by simp⟩ (by simp [go_sem, lenOfL]) rfl ?_
  rintro ⟨i, X⟩ ⟨hi, hR⟩ ih
  dsimp only at hi hR ih ⊢
  by_cases h1 : i < l.length
  · have h2 : (i : Int) < l.length := by omega
    have n0 : ¬ (i : Int) < 0 := by omega
    have hx : l[i]? = some l[i] := List.getElem?_eq_getElem h1
    have h3 := idx_next h1 (by omega)
    have htk : l.take (i + 1) = l.take i ++ [l[i]] := by rw [List.take_add_one, hx]; rfl
    have hs := lenOfL_succ hx
    have hno : okH l[i] = false → 2 = RES := fun h => by
      rw [if_neg] at hRES
      · exact hRES
      · rw [List.all_eq_true]
        intro ha
        have := ha _ (List.getElem_mem h1)
        rw [h] at this; cases this
    have hyes : okH l[i] = true → ∀ z ∈ l.take (i + 1), okH z = true := fun h z hz => by
      rw [htk] at hz
      rcases List.mem_append.1 hz with hz | hz
      · exact hR z hz
      · simp at hz; subst hz; exact h
    have hr0 := lenOf_bound (l.take i) fun z hz => okH_ok (hR z hz)
    have hl0 : (l.take i).length ≤ 1000 := by simp; omega
    generalize l[i] = z at *
    simp only [go_sem, hx, h2, n0, Ht.v, Ht.cs, List.length_map]
    by_cases c1 : 1 ≤ z.ticks ∧ z.ticks ≤ 2000
    rotate_left
    · refine cP (beyond_yes c1) ?_
      simp only [go_sem]
      exact hno (by simp [okH, c1])
    refine cP (beyond_no c1) ?_
    have h4 : IntKind.i64.wrap (lenOfL (l.take i) + z.ticks) = lenOfL (l.take (i + 1)) := by rw [w64 (by omega)]; omega
    simp only [go_sem, hx, h2, n0, Ht.v, Ht.cs, List.length_map]
    by_cases c2 : 0 ≤ z.heat ∧ z.heat ≤ 2000
    rotate_left
    · refine cP (beyond_yes c2) ?_
      simp only [go_sem]
      exact hno (by simp only [okH, decide_eq_false c2]; simp)
    refine cP (beyond_no c2) ?_
    simp only [go_sem, hx, h2, n0, Ht.v, Ht.cs, List.length_map]
    by_cases c3 : 0 ≤ z.cur ∧ z.cur ≤ 1000
    rotate_left
    · refine cP (beyond_yes c3) ?_
      simp only [go_sem]
      exact hno (by simp only [okH, decide_eq_false c3]; simp)
    refine cP (beyond_no c3) ?_
    simp only [go_sem, hx, h2, n0, Ht.v, Ht.cs, List.length_map, h4]
    simp only [h3]
    exact ih (i + 1, _) (by dsimp only; omega) ⟨h1, hyes (by simp only [okH, decide_eq_true c1, decide_eq_true c2, decide_eq_true c3]; rfl)⟩ _ (by simp [go_sem])
  · have h2 : ¬ (i : Int) < l.length := by omega
    rw [List.take_of_length_le (by omega)] at hR
    rw [if_pos (List.all_eq_true.2 hR)] at hRES
    rw [List.take_of_length_le (by omega)]
    simp only [go_sem, h2, List.length_map]
    refine ⟨fun k2 => ?_, fun k2 => ?_⟩
    · rw [if_pos k2] at hRES; exact hRES
    · rw [if_neg k2] at hRES; exact hRES
end Go.Proofs
namespace Go.Proofs
open Go Go.Sx
attribute [local irreducible] Run

def chkF (c : Ct) (l : List Ht) : Int := if chkC c = 0 then chkS l else chkC c
theorem chkS_ok {l : List Ht} (h : chkS l = 0) : LsOK l := by
  unfold chkS at h
  by_cases c0 : 40 < l.length
  · rw [if_pos c0] at h; simp at h
  rw [if_neg c0] at h
  by_cases c1 : l.all okH = true
  rotate_left
  · rw [if_neg c1] at h; simp at h
  rw [if_pos c1] at h
  by_cases c2 : 20000 < lenOfL l
  · rw [if_pos c2] at h; simp at h
  exact ⟨by omega, fun z hz => okH_ok (List.all_eq_true.1 c1 z hz), by omega⟩
theorem Follow_err (c : Ct) (hc : c.bands.length ≤ 1000) (l : List Ht) (hl : l.length ≤ 1000) (he : chkF c l ≠ 0) : Ans Try.prog n_cathode_Follow [c.v (.view (c.bands.map Bd.v)), .view (l.map Ht.v)] [] (.tup [.nilsl, .int .i64 (chkF c l)]) [] := by
  have g := Check_raw c hc
  have g2 := CheckSchedule_raw l hl
  unfold chkF at he ⊢
  refine spec_run e_cathode_Follow fun G => ?_
  simp only [go_sem, Ct.v, Ct.cs]
  refine cP g ?_
  generalize chkC c = e0 at *
  by_cases c0 : e0 = 0
  rotate_left
  · have b0 : (e0 != 0) = true := by simp [c0]
    rw [if_neg c0]
    simp only [go_sem, b0]
  subst c0
  rw [if_pos rfl] at he ⊢
  simp only [go_sem, Int.reduceBNe]
  refine cP g2 ?_ ⟨by rw [bel_view]; exact bels_map _ _ fun h => by simp only [go_sem, Ht.v, Ht.cs], trivial⟩
  have b0 : (chkS l != 0) = true := by simp [he]
  simp only [go_sem, b0]
theorem rFollow_err (c : Ct) (hc : c.bands.length ≤ 1000) (l : List Ht) (hl : l.length ≤ 1000) (he : chkF c l ≠ 0) : Ans Try.prog n_ref03_Follow [c.v (.view (c.bands.map Bd.v)), .view (l.map Ht.v)] [] (.tup [.nilsl, .int .i64 (chkF c l)]) [] := by
  have g := rCheck_raw c hc
  have g2 := rCheckSchedule_raw l hl
  unfold chkF at he ⊢
  refine spec_run e_ref03_Follow fun G => ?_
  simp only [go_sem, Ct.v, Ct.cs]
  refine cP g ?_
  generalize chkC c = e0 at *
  by_cases c0 : e0 = 0
  rotate_left
  · have b0 : (e0 != 0) = true := by simp [c0]
    rw [if_neg c0]
    simp only [go_sem, b0]
  subst c0
  rw [if_pos rfl] at he ⊢
  simp only [go_sem, Int.reduceBNe]
  refine cP g2 ?_ ⟨by rw [bel_view]; exact bels_map _ _ fun h => by simp only [go_sem, Ht.v, Ht.cs], trivial⟩
  have b0 : (chkS l != 0) = true := by simp [he]
  simp only [go_sem, b0]
end Go.Proofs
