/- A part of the proof. -/
import Derived.Test.YtigaafcllfjniaaPF
set_option linter.unusedSimpArgs false
set_option linter.unusedVariables false
namespace Go.Proofs
open Go Go.Sx
attribute [local irreducible] Run

theorem bo_bel (bs : List Bo) : (Row.cells true 4 (bs.map Bo.v)).bel (fun _ => False) := by
  rw [row_bel_cells]; exact bels_map _ _ fun b => by simp only [go_sem, Bo.v, Bo.cs]
theorem bo_nv (bs : List Bo) : (Row.cells true 4 (bs.map Bo.v)).nv := row_nv_cells _ _ (nvs_map _ _ fun b => by simp only [go_sem, Bo.v, Bo.cs])
theorem each_val (d : Dm) (x : Cg) : (eachB d x).map Bo.val = [amV x.gas d.gas, amV x.wear d.wear, amV x.lost d.lost] := by simp [eachB, Bo.val]
theorem last_val (d : Dm) (x : Cg) : (lastB d x).map Bo.val = [amV x.carb d.rest, alV x.ba d.ba] := by simp [lastB, Bo.val]

set_option maxRecDepth 20000 in
set_option maxHeartbeats 4000000 in
theorem rjudge_run (c : Ct) (hc : CtOK c) (d : Dm) (l : List Ht) (hl : LsOK l) : Ans Try.prog n_ref03_judge [c.v (.view (c.bands.map Bd.v)), d.v, .view (l.map Ht.v)] [] (.tup [.int .i64 (judgeV c d l).1, .int .i64 (judgeV c d l).2]) [] := by
  have hlen := hl.len
  have hsum := hl.sum
  have hfl := flat_len hl.all
  have hcl := coats_len c (flat l)
  unfold judgeV
  generalize hRES : jgo (lastV d (coatOf c (flat l))) 0 (1, 0) (saids c d (flat l)) = RES
  refine spec_run e_ref03_judge fun G => ?_
  simp only [go_sem, Ct.v, Ct.cs, Dm.v, Dm.cs]
  refine cN1E (rticks_run c hc l hl) (fun a ha => ⟨by rw [bel_sl], by rw [row_bel_cells]; simp only [go_sem]⟩) ?_
  rintro b -
  simp only [go_sem, ren, rens]
  refine loop_ind k_ref03_judge_r15.eq_1 (fun a : Nat × (Int × Int) × Heap => a.1 ≤ (flat l).length + 1 ∧ (a.2.1.1 = 1 ∨ a.2.1.1 = 3) ∧ (a.1 ≤ (flat l).length → jgo (lastV d (coatOf c (flat l))) (a.1 - 1) a.2.1 ((saids c d (flat l)).drop (a.1 - 1)) = RES) ∧ (a.1 = (flat l).length + 1 → a.2.1 = RES)) (fun a => (flat l).length + 1 - a.1)
    (fun a => (tsets 60 [(3, .ptr 0 0 0 1), (4, .ptr 1 0 0 1), (8, .sl 2 0 ((flat l).length + 1)), (9, .int .i64 a.2.1.1), (10, .int .i64 a.2.1.2), (11, .int .i64 a.1)],
      [some (.cells false 7 [c.v (.view (c.bands.map Bd.v))]), some (.cells false 5 [d.v]), some (.cells b 13 ((coats c (flat l)).map Cg.v))] ++ a.2.2)) (0, (1, 0), []) ⟨Nat.zero_le _, .inl rfl, fun _ => hRES, fun h => by simp at h⟩ (by simp [go_sem, hcl]) rfl ?_
  rintro ⟨i, ⟨v, t⟩, X⟩ ⟨hi, hv, hR, hE⟩ ih
  dsimp only at hi hv hR hE ih ⊢
  by_cases h1 : i < (flat l).length + 1
  · have h2 : (i : Int) < (((flat l).length + 1 : Nat) : Int) := by omega
    have n0 : ¬ (i : Int) < 0 := by omega
    have hget := coats_get (c := c) (show i ≤ (flat l).length by omega)
    have h3 := idx_next h1 (by omega)
    have hw1 : IntKind.i64.wrap ((((flat l).length + 1 : Nat) : Int) - 1) = ((flat l).length : Int) := by rw [w64 (by omega)]; omega
    have hall0 : ∀ y ∈ (flat l).take i, HtOK y := fun y hy => hl.all _ (flat_mem (List.mem_of_mem_take hy))
    have hg := (coatOf_good hc hall0 (by simp; omega)).ok
    generalize hx : coatOf c ((flat l).take i) = x at *
    have hrE : ∀ b ∈ eachB d x, b.r.lo ≤ b.r.hi := fun b hb => by
      simp only [eachB, List.mem_cons, List.not_mem_nil, or_false] at hb
      rcases hb with rfl | rfl | rfl
      · exact hg.gas.le
      · exact hg.wear.le
      · exact hg.lost.le
    have hrL : ∀ b ∈ lastB d x, b.r.lo ≤ b.r.hi := fun b hb => by
      simp only [lastB, List.mem_cons, List.not_mem_nil, or_false] at hb
      rcases hb with rfl | rfl
      · exact hg.carb.le
      · exact hg.ba.le
    have hE3 : bgo i (v, t) ((eachB d x).map Bo.val) = (noted (v, t) (eachV d x) i, eachV d x == 2) := by
      rw [each_val]; exact bgo3 _ _ (amV_in _ _) (amV_in _ _) (amV_in _ _)
    have hL2 : ∀ st, (bgo i st ((lastB d x).map Bo.val)).1 = noted st (lastV d x) i := fun st => by
      rw [last_val]; exact bgo2 _ _ (amV_in _ _) (alV_in _ _)
    have hRi : 0 < i → (if eachV d x = 2 then noted (v, t) (eachV d x) i else jgo (lastV d (coatOf c (flat l))) i (noted (v, t) (eachV d x) i) ((saids c d (flat l)).drop i)) = RES := fun h0 => by
      have h := hR (by omega)
      rw [saids_drop (by omega), show i - 1 + 1 = i by omega, hx] at h
      simp only [jgo] at h
      rw [show i - 1 + 1 = i by omega] at h
      exact h
    have hlx : i = (flat l).length → coatOf c (flat l) = x := fun h => by
      rw [← hx, h, List.take_length]
    clear hx
    by_cases i0 : i = 0
    · have z0 : ¬ (0 : Int) < i := by omega
      by_cases hn : (flat l).length = 0
      · have z1 : ((i : Int) == (flat l).length) = true := by simp; omega
        have hst : noted (v, t) (lastV d x) i = RES := by
          have h := hR (by omega)
          rw [List.drop_of_length_le (by rw [saids_len]; omega)] at h
          simp only [jgo] at h
          rw [hlx (by omega), show i - 1 = i by omega] at h
          exact h
        have hb := hL2 (v, t)
        simp only [go_sem, hcl, h2, n0, hget, hw1, z0, z1, List.length_map, Dm.v, Dm.cs, Cg.v, Cg.cs]
        refine cFN (bounds_ft d x) 6 ⟨.inl rfl, .inl rfl, .inl rfl, .inl rfl, trivial⟩ ?_ (hx := bo_bel _) (hxn := bo_nv _)
        simp only [go_sem, ren, rens]
        refine bd_loop (bs := lastB d x) (v := v) (t := t) (i := i) (n := (flat l).length + 1) (j := X.length + 3) (by simp only [cellsAt_succ]; exact cells_end _ _ _ _) (by simp [lastB]) hrL hv ?_ ?_ (by simp [go_sem, rjT, lastB])
        · intro u s p b' hb'
          simp only [go_sem, Bo.v, Bo.cs]
          rw [hb'] at hb
          rw [← hst, ← hb]
        · intro u s hu hb'
          simp only [go_sem, rjT, h3]
          rw [hb'] at hb
          exact ih (i + 1, (u, s), _) (by dsimp only; omega) ⟨h1, hu, fun h => by dsimp only at h; omega, fun _ => by dsimp only; rw [← hst, ← hb]⟩ _ (by simp [go_sem])
      · have z1 : ((i : Int) == (flat l).length) = false := by simp; omega
        simp only [go_sem, hcl, h2, n0, hget, hw1, z0, z1, List.length_map, Dm.v, Dm.cs, Cg.v, Cg.cs]
        refine cP (bounds_ff d x) ?_
        simp only [go_sem]
        refine loop_body 200 k_ref03_judge_r13.eq_1 ?_
        simp only [go_sem, h3]
        exact ih (i + 1, (v, t), _) (by dsimp only; omega) ⟨h1, hv, fun _ => by have := hR (by omega); rw [show i - 1 = i by omega] at this; exact this, fun h => by dsimp only at h; omega⟩ _ (by simp [go_sem])
    · have z0 : (0 : Int) < i := by omega
      have hRi := hRi (by omega)
      by_cases hin : i = (flat l).length
      · have z1 : ((i : Int) == (flat l).length) = true := by simp; omega
        have hb := hL2 (noted (v, t) (eachV d x) i)
        rw [List.drop_of_length_le (by rw [saids_len]; omega), hlx hin] at hRi
        simp only [jgo] at hRi
        have hap := bgo_app i ((eachB d x).map Bo.val) ((lastB d x).map Bo.val) (v, t)
        rw [hE3, ← List.map_append] at hap
        dsimp only at hap
        have hev : eachV d x = 2 → noted (v, t) (eachV d x) i = (2, (i : Int)) := fun h => by rw [h]; simp [noted]
        generalize eachV d x = ev at *
        generalize hnt : noted (v, t) ev i = nt at *
        have hrB : ∀ b ∈ eachB d x ++ lastB d x, b.r.lo ≤ b.r.hi := fun b hb => (List.mem_append.1 hb).elim (hrE b) (hrL b)
        simp only [go_sem, hcl, h2, n0, hget, hw1, z0, z1, List.length_map, Dm.v, Dm.cs, Cg.v, Cg.cs]
        refine cFN (bounds_tt d x) 6 ⟨.inl rfl, .inl rfl, .inl rfl, .inl rfl, trivial⟩ ?_ (hx := bo_bel _) (hxn := bo_nv _)
        simp only [go_sem, ren, rens]
        refine bd_loop (bs := eachB d x ++ lastB d x) (v := v) (t := t) (i := i) (n := (flat l).length + 1) (j := X.length + 3) (by simp only [cellsAt_succ]; exact cells_end _ _ _ _) (by simp [eachB, lastB]) hrB hv ?_ ?_ (by simp [go_sem, rjT, eachB, lastB])
        · intro u s p b' hb'
          simp only [go_sem, Bo.v, Bo.cs]
          rw [hb'] at hap
          by_cases e2 : ev = 2
          · rw [if_pos e2, hev e2] at hRi
            rw [← hRi]
          · rw [if_neg e2] at hRi
            rw [if_neg (by simp [e2])] at hap
            rw [← hap] at hb
            rw [← hRi, ← hb]
        · intro u s hu hb'
          simp only [go_sem, rjT, h3]
          rw [hb'] at hap
          by_cases e2 : ev = 2
          · rw [if_pos (by simp [e2])] at hap
            simp [e2] at hap
          · rw [if_neg e2] at hRi
            rw [if_neg (by simp [e2])] at hap
            rw [← hap] at hb
            exact ih (i + 1, (u, s), _) (by dsimp only; omega) ⟨h1, hu, fun h => by dsimp only at h; omega, fun _ => by dsimp only; rw [← hRi, ← hb]⟩ _ (by simp [go_sem])
      · have z1 : ((i : Int) == (flat l).length) = false := by simp; omega
        have hev : eachV d x = 2 → noted (v, t) (eachV d x) i = (2, (i : Int)) := fun h => by rw [h]; simp [noted]
        generalize eachV d x = ev at *
        generalize hnt : noted (v, t) ev i = nt at *
        simp only [go_sem, hcl, h2, n0, hget, hw1, z0, z1, List.length_map, Dm.v, Dm.cs, Cg.v, Cg.cs]
        refine cFN (bounds_tf d x) 6 ⟨.inl rfl, .inl rfl, .inl rfl, .inl rfl, trivial⟩ ?_ (hx := bo_bel _) (hxn := bo_nv _)
        simp only [go_sem, ren, rens]
        refine bd_loop (bs := eachB d x) (v := v) (t := t) (i := i) (n := (flat l).length + 1) (j := X.length + 3) (by simp only [cellsAt_succ]; exact cells_end _ _ _ _) (by simp [eachB]) hrE hv ?_ ?_ (by simp [go_sem, rjT, eachB])
        · intro u s p b' hb'
          simp only [go_sem, Bo.v, Bo.cs]
          rw [hE3] at hb'
          have e2 : ev = 2 := by simpa using congrArg Prod.snd hb'
          rw [if_pos e2, hev e2] at hRi
          rw [← hRi]
        · intro u s hu hb'
          simp only [go_sem, rjT, h3]
          rw [hE3] at hb'
          have e2 : ¬ ev = 2 := by simpa using congrArg Prod.snd hb'
          have e3 : nt = (u, s) := congrArg Prod.fst hb'
          rw [if_neg e2, e3] at hRi
          exact ih (i + 1, (u, s), _) (by dsimp only; omega) ⟨h1, hu, fun _ => hRi, fun h => by dsimp only at h; omega⟩ _ (by simp [go_sem])
  · have h2 : ¬ (i : Int) < (((flat l).length + 1 : Nat) : Int) := by omega
    have e := hE (by omega)
    simp only [go_sem, hcl, h2, List.length_map]
    rw [← e]
end Go.Proofs
namespace Go.Proofs
open Go Go.Sx
attribute [local irreducible] Run

/-- The first error of a coat and a coating. -/
def chkX (c : Ct) (x : Cg) : Int :=
  if chkC c = 0 then
    (if chkR c.amount [x.carb, x.ox, x.ba, x.lost, x.gas] = 0 then
      (if chkR 1099511627776 [x.wear] = 0 then (if 0 ≤ x.heat ∧ x.heat ≤ 2000 then 0 else 2) else chkR 1099511627776 [x.wear])
    else chkR c.amount [x.carb, x.ox, x.ba, x.lost, x.gas])
  else chkC c

theorem CheckCoating_raw (c : Ct) (hl : c.bands.length ≤ 1000) (x : Cg) : Ans Try.prog n_cathode_CheckCoating [c.v (.view (c.bands.map Bd.v)), x.v] [] (.int .i64 (chkX c x)) [] := by
  have g0 := Check_raw c hl
  have g1 := checkRanges_raw c.amount [x.carb, x.ox, x.ba, x.lost, x.gas] (by simp)
  have g2 := checkRanges_raw 1099511627776 [x.wear] (by simp)
  generalize hRES : chkX c x = RES
  unfold chkX at hRES
  refine spec_run e_cathode_CheckCoating fun G => ?_
  simp only [go_sem, Ct.v, Ct.cs, Cg.v, Cg.cs]
  refine cP g0 ?_
  generalize chkC c = e0 at *
  by_cases c0 : e0 = 0
  rotate_left
  · have b0 : (e0 != 0) = true := by simp [c0]
    rw [if_neg c0] at hRES
    subst hRES
    simp only [go_sem, b0]
  rw [if_pos c0] at hRES
  subst c0
  simp only [go_sem, Int.reduceBNe]
  refine cF g1 6 (by simp only [go_sem, frz, Rg.v]) ?_
  generalize chkR c.amount [x.carb, x.ox, x.ba, x.lost, x.gas] = e1 at *
  by_cases c1 : e1 = 0
  rotate_left
  · have b1 : (e1 != 0) = true := by simp [c1]
    rw [if_neg c1] at hRES
    subst hRES
    simp only [go_sem, b1]
  rw [if_pos c1] at hRES
  subst c1
  simp only [go_sem, Int.reduceBNe]
  refine cF g2 6 (by simp only [go_sem, frz, Rg.v]) ?_
  generalize chkR 1099511627776 [x.wear] = e2 at *
  by_cases c2 : e2 = 0
  rotate_left
  · have b2 : (e2 != 0) = true := by simp [c2]
    rw [if_neg c2] at hRES
    subst hRES
    simp only [go_sem, b2]
  rw [if_pos c2] at hRES
  subst c2
  simp only [go_sem, Int.reduceBNe]
  by_cases c3 : 0 ≤ x.heat ∧ x.heat ≤ 2000
  · rw [if_pos c3] at hRES
    subst hRES
    refine cP (within_yes c3) ?_
    simp only [go_sem]
  · rw [if_neg c3] at hRES
    subst hRES
    refine cP (within_no c3) ?_
    simp only [go_sem]

theorem rCheckCoating_raw (c : Ct) (hl : c.bands.length ≤ 1000) (x : Cg) : Ans Try.prog n_ref03_CheckCoating [c.v (.view (c.bands.map Bd.v)), x.v] [] (.int .i64 (chkX c x)) [] := by
  have g0 := rCheck_raw c hl
  have g1 := rcheckRanges_raw c.amount [x.carb, x.ox, x.ba, x.lost, x.gas] (by simp)
  have g2 := rcheckRange_raw x.wear 1099511627776
  generalize hRES : chkX c x = RES
  unfold chkX at hRES
  refine spec_run e_ref03_CheckCoating fun G => ?_
  simp only [go_sem, Ct.v, Ct.cs, Cg.v, Cg.cs]
  refine cP g0 ?_
  generalize chkC c = e0 at *
  by_cases c0 : e0 = 0
  rotate_left
  · have b0 : (e0 != 0) = true := by simp [c0]
    rw [if_neg c0] at hRES
    subst hRES
    simp only [go_sem, b0]
  rw [if_pos c0] at hRES
  subst c0
  simp only [go_sem, Int.reduceBNe]
  refine cF g1 6 (by simp only [go_sem, frz, Rg.v]) ?_
  generalize chkR c.amount [x.carb, x.ox, x.ba, x.lost, x.gas] = e1 at *
  by_cases c1 : e1 = 0
  rotate_left
  · have b1 : (e1 != 0) = true := by simp [c1]
    rw [if_neg c1] at hRES
    subst hRES
    simp only [go_sem, b1]
  rw [if_pos c1] at hRES
  subst c1
  simp only [go_sem, Int.reduceBNe]
  refine cP g2 ?_
  generalize chkR 1099511627776 [x.wear] = e2 at *
  by_cases c2 : e2 = 0
  rotate_left
  · have b2 : (e2 != 0) = true := by simp [c2]
    rw [if_neg c2] at hRES
    subst hRES
    simp only [go_sem, b2]
  rw [if_pos c2] at hRES
  subst c2
  simp only [go_sem, Int.reduceBNe]
  by_cases c3 : 0 ≤ x.heat ∧ x.heat ≤ 2000
  · rw [if_pos c3] at hRES
    subst hRES
    refine cP (beyond_no c3) ?_
    simp only [go_sem]
  · rw [if_neg c3] at hRES
    subst hRES
    refine cP (beyond_yes c3) ?_
    simp only [go_sem]

end Go.Proofs
namespace Go.Proofs
open Go Go.Sx

def sel3v (q a b c : Int) : Int := if q = 0 then a else if q = 1 then b else c
theorem sel3v_ok (q a b c : Int) (h : 0 ≤ q ∧ q < 3) : [AVal.int .i64 a, .int .i64 b, .int .i64 c][q.toNat]? = some (.int .i64 (sel3v q a b c)) := by
  obtain rfl | rfl | rfl : q = 0 ∨ q = 1 ∨ q = 2 := by omega
  all_goals rfl
theorem sel3v_in {q a b c : Int} : sel3v q a b c = a ∨ sel3v q a b c = b ∨ sel3v q a b c = c := by unfold sel3v; split <;> (try split) <;> simp
def heating (w ticks : Int) : Ht := ⟨btw w 1 ticks, sel3v (upto (dstep (dstep (dstep w))) 3) (btw (dstep w) 0 800) (btw (dstep (dstep w)) 600 2000) 300, sel3v (upto (dstep (dstep (dstep (dstep (dstep (dstep w)))))) 3) 0 (upto (dstep (dstep (dstep (dstep w)))) 50) (upto (dstep (dstep (dstep (dstep (dstep w))))) 1001)⟩
def schedN (ticks : Int) : Nat → Int → List Ht → List Ht × Int
  | 0, w, l => (l, w)
  | n + 1, w, l => schedN ticks n (dstep (dstep (dstep (dstep (dstep (dstep (dstep w))))))) (l ++ [heating w ticks])
def schedOf (w most ticks : Int) : List Ht × Int := schedN ticks (upto w (most + 1)).toNat (dstep w) []

theorem heating_det (w ticks : Int) (ht : 1 ≤ ticks ∧ ticks ≤ 2000) : ∃ (h : Ht), h = heating w ticks ∧ HtOK h ∧ h.ticks ≤ ticks ∧ h.ticks = btw w 1 ticks ∧
    [AVal.int .i64 (btw (dstep w) 0 800), .int .i64 (btw (dstep (dstep w)) 600 2000), .int .i64 300][(upto (dstep (dstep (dstep w))) 3).toNat]? = some (.int .i64 h.heat) ∧ 0 ≤ upto (dstep (dstep (dstep w))) 3 ∧ upto (dstep (dstep (dstep w))) 3 < 3 ∧
    [AVal.int .i64 0, .int .i64 (upto (dstep (dstep (dstep (dstep w)))) 50), .int .i64 (upto (dstep (dstep (dstep (dstep (dstep w))))) 1001)][(upto (dstep (dstep (dstep (dstep (dstep (dstep w)))))) 3).toNat]? = some (.int .i64 h.cur) ∧ 0 ≤ upto (dstep (dstep (dstep (dstep (dstep (dstep w)))))) 3 ∧ upto (dstep (dstep (dstep (dstep (dstep (dstep w)))))) 3 < 3 := by
  have a1 := btw_in (w := w) (lo := 1) (hi := ticks) ht.1
  have a2 := btw_in (w := (dstep w)) (lo := 0) (hi := 800) (by decide)
  have a3 := btw_in (w := (dstep (dstep w))) (lo := 600) (hi := 2000) (by decide)
  have q1 := upto_in (w := (dstep (dstep (dstep w)))) (n := 3) (by decide)
  have a4 := upto_in (w := (dstep (dstep (dstep (dstep w))))) (n := 50) (by decide)
  have a5 := upto_in (w := (dstep (dstep (dstep (dstep (dstep w)))))) (n := 1001) (by decide)
  have q2 := upto_in (w := (dstep (dstep (dstep (dstep (dstep (dstep w))))))) (n := 3) (by decide)
  have s1 := sel3v_ok _ (btw (dstep w) 0 800) (btw (dstep (dstep w)) 600 2000) 300 q1
  have s2 := sel3v_ok _ 0 (upto (dstep (dstep (dstep (dstep w)))) 50) (upto (dstep (dstep (dstep (dstep (dstep w))))) 1001) q2
  have i1 := @sel3v_in (upto (dstep (dstep (dstep w))) 3) (btw (dstep w) 0 800) (btw (dstep (dstep w)) 600 2000) 300
  have i2 := @sel3v_in (upto (dstep (dstep (dstep (dstep (dstep (dstep w)))))) 3) 0 (upto (dstep (dstep (dstep (dstep w)))) 50) (upto (dstep (dstep (dstep (dstep (dstep w))))) 1001)
  exact ⟨_, rfl, ⟨by show 1 ≤ btw w 1 ticks ∧ btw w 1 ticks ≤ 2000; omega, by show 0 ≤ sel3v _ _ _ _ ∧ sel3v _ _ _ _ ≤ 2000; omega, by show 0 ≤ sel3v _ _ _ _ ∧ sel3v _ _ _ _ ≤ 1000; omega⟩, a1.2, rfl, s1, q1.1, q1.2, s2, q2.1, q2.2⟩

set_option maxHeartbeats 2000000 in
theorem scheduleOf_at (w most ticks : Int) (hm : 0 ≤ most ∧ most ≤ 40) (ht : 1 ≤ ticks ∧ ticks ≤ 2000) :
    Ans Try.prog n_kit_ScheduleOf [.ptr 0 0 0 1, .int .i64 most, .int .i64 ticks] [some (Dr w)] (slv 1 ((schedOf w most ticks).1.map Ht.v)) (some (Dr (schedOf w most ticks).2) :: slr 3 ((schedOf w most ticks).1.map Ht.v)) := by
  have hu := upto_ok w (most + 1) (by omega)
  have hq := upto_in (w := w) (n := most + 1) (by omega)
  have u0 : IntKind.i64.wrap (most + 1) = most + 1 := w64 (by omega)
  unfold schedOf
  generalize upto w (most + 1) = n at *
  generalize hS : schedN ticks n.toNat (dstep w) [] = S
  refine Ans.keep (run_fn e_kit_ScheduleOf fun G => ?_) (by simp) ?_ ⟨by simp only [go_sem], ?_⟩
  rotate_left
  · unfold slv slr slrG
    split
    · exact .nilsl
    · rw [bel_sl]; simp
  · unfold slr slrG
    split
    · trivial
    · exact ⟨by rw [row_bel_cells]; simp only [go_sem], trivial⟩
  obtain ⟨z, zd, zok, zt, ze, zs1, zq1, zn2, zs2, zq3, zn4⟩ := heating_det (dstep w) ticks ht
  have zn1 : ¬ upto (dstep (dstep (dstep (dstep w)))) 3 < 0 := by omega
  have zn3 : ¬ upto (dstep (dstep (dstep (dstep (dstep (dstep (dstep w))))))) 3 < 0 := by omega
  have p44 : 24 ≤ 2 ^ 44 := by decide
  have u1 : IntKind.i64.wrap (n - 1) = n - 1 := w64 (by omega)
  by_cases hn : 0 < n
  · simp only [go_sem, u0]
    refine cD hu ?_
    simp only [go_sem]
    refine loop_body 200 k_kit_ScheduleOf_r6.eq_1 ?_
    simp only [go_sem, hn]
    refine dD (between_ok _ 1 ticks (by decide) ht.1 (by omega)) ?_
    simp only [go_sem]
    refine dD (between_ok _ 0 800 (by decide) (by decide) (by decide)) ?_
    simp only [go_sem]
    refine dD (between_ok _ 600 2000 (by decide) (by decide) (by decide)) ?_
    simp only [go_sem]
    refine dD (upto_ok _ 3 (by decide)) ?_
    simp only [go_sem, zn1, zn2, zs1]
    refine dD (upto_ok _ 50 (by decide)) ?_
    simp only [go_sem]
    refine dD (upto_ok _ 1001 (by decide)) ?_
    simp only [go_sem]
    refine dD (upto_ok _ 3 (by decide)) ?_
    simp only [go_sem, zn3, zn4, zs2, p44]
    simp only [u1]
    generalize some (Row.cells false 1 [.int .i64 (btw (dstep (dstep w)) 0 800), .int .i64 (btw (dstep (dstep (dstep w))) 600 2000), .int .i64 300]) = Y1
    generalize some (Row.cells false 1 [.int .i64 0, .int .i64 (upto (dstep (dstep (dstep (dstep (dstep w))))) 50), .int .i64 (upto (dstep (dstep (dstep (dstep (dstep (dstep w)))))) 1001)]) = Y2
    have e0 : [AVal.agg [.int .i64 (btw (dstep w) 1 ticks), .int .i64 z.heat, .int .i64 z.cur]] = List.map Ht.v [z] := by rw [← ze]; rfl
    rw [e0]
    refine loop_ind k_kit_ScheduleOf_r6.eq_1 (fun a : Int × Int × List Ht × Heap => 0 ≤ a.1 ∧ a.2.2.1.length + a.1 ≤ most ∧ 1 ≤ a.2.2.1.length ∧ schedN ticks a.1.toNat a.2.1 a.2.2.1 = S) (fun a => a.1.toNat)
      (fun a => (tsets 43 [(0, .ptr 0 0 0 1), (1, .int .i64 most), (2, .int .i64 ticks), (6, .nilsl), (7, .sl 4 0 a.2.2.1.length), (8, .int .i64 a.1)],
        some (Dr a.2.1) :: Y1 :: Y2 :: some (.cells false 3 (List.map Ht.v [z])) :: some (.cells true 3 (a.2.2.1.map Ht.v)) :: a.2.2.2))
      (n - 1, _, [z], []) ⟨by dsimp only; omega, by simp; omega, by simp, by dsimp only; rw [← hS, show n.toNat = (n - 1).toNat + 1 by omega, zd]; rfl⟩ (by simp [go_sem]) rfl ?_
    rintro ⟨i, w', l, X⟩ ⟨hi0, hil, hl1, hl⟩ ih
    dsimp only at hi0 hil hl1 hl ih ⊢
    by_cases c1 : 0 < i
    · obtain ⟨y, yd, yok, yt, ye, ys1, yq1, yn2, ys2, yq3, yn4⟩ := heating_det w' ticks ht
      have yn1 : ¬ upto (dstep (dstep (dstep w'))) 3 < 0 := by omega
      have yn3 : ¬ upto (dstep (dstep (dstep (dstep (dstep (dstep w')))))) 3 < 0 := by omega
      have v1 : IntKind.i64.wrap (i - 1) = i - 1 := w64 (by omega)
      have q44 : (l.length + 1) * 24 ≤ 2 ^ 44 := by omega
      have e1 : ∀ xs : List Ht, List.map Ht.v xs ++ [AVal.agg [.int .i64 (btw w' 1 ticks), .int .i64 y.heat, .int .i64 y.cur]] = List.map Ht.v (xs ++ [y]) := fun xs => by rw [← ye]; exact ht_snoc xs y
      simp only [go_sem, c1]
      refine dD (between_ok _ 1 ticks (by decide) ht.1 (by omega)) ?_
      simp only [go_sem]
      repeat refine ⟨by first | omega | (simp; done) | (simp; omega), ?_⟩
      refine dD (between_ok _ 0 800 (by decide) (by decide) (by decide)) ?_
      simp only [go_sem]
      repeat refine ⟨by first | omega | (simp; done) | (simp; omega), ?_⟩
      refine dD (between_ok _ 600 2000 (by decide) (by decide) (by decide)) ?_
      simp only [go_sem]
      repeat refine ⟨by first | omega | (simp; done) | (simp; omega), ?_⟩
      refine dD (upto_ok _ 3 (by decide)) ?_
      simp only [go_sem, yn1, yn2, ys1]
      repeat refine ⟨by first | omega | (simp; done) | (simp; omega), ?_⟩
      refine dD (upto_ok _ 50 (by decide)) ?_
      simp only [go_sem]
      repeat refine ⟨by first | omega | (simp; done) | (simp; omega), ?_⟩
      refine dD (upto_ok _ 1001 (by decide)) ?_
      simp only [go_sem]
      repeat refine ⟨by first | omega | (simp; done) | (simp; omega), ?_⟩
      refine dD (upto_ok _ 3 (by decide)) ?_
      simp only [go_sem, yn3, yn4, ys2, q44]
      repeat refine ⟨by first | omega | (simp; done) | (simp; omega), ?_⟩
      simp only [e1, v1]
      rw [show l.length + 1 = (l ++ [y]).length by simp]
      exact ih (i - 1, _, l ++ [y], _) (by dsimp only; omega) ⟨by dsimp only; omega, by simp; omega, by simp, by dsimp only; rw [← hl, show i.toNat = (i - 1).toNat + 1 by omega, yd]; rfl⟩ _ (by simp [go_sem])
    · simp only [go_sem, c1]
      rw [← hl, show i.toNat = 0 by omega]
      show ∃ σ, Kept _ (some (Dr w') :: slr 3 (List.map Ht.v l)) (slv 1 (List.map Ht.v l)) _ _ σ
      have hne : List.map Ht.v l ≠ [] := fun h => by
        have : l.length = 0 := by simpa using congrArg List.length h
        omega
      simp only [slv, slr, slrG, hne, if_false]
      exact kept_two 4 (by decide) (by simp [ren]) (by simp only [go_sem]) (by rw [row_bel_cells]; simp only [go_sem]) rfl rfl
  · simp only [go_sem, u0]
    refine cD hu ?_
    simp only [go_sem]
    refine loop_body 200 k_kit_ScheduleOf_r6.eq_1 ?_
    simp only [go_sem, hn]
    rw [← hS, show n.toNat = 0 by omega]
    exact ⟨fun i => i, ⟨fun i hi => rfl, fun i j _ _ h => h, rfl, fun i x hx => by
      match i, hx with
      | 0, hx => simp [slr, slrG] at hx; subst hx; rfl
      | i + 1, hx =>
        have hx' : ([some (Dr (dstep w))] : Heap)[i + 1]? = some (some x) := hx
        simp at hx'⟩⟩
theorem schedN_sch (ticks most : Int) (ht : 1 ≤ ticks ∧ ticks ≤ 2000) : ∀ (n : Nat) (w : Int) (l : List Ht), l.length + (n : Int) ≤ most → Sch l most ticks → Sch (schedN ticks n w l).1 most ticks
  | 0, w, l, _, h => h
  | n + 1, w, l, hl, h => by
    obtain ⟨z, zd, zok, zt, _⟩ := heating_det w ticks ht
    refine schedN_sch ticks most ht n _ _ (by simp; omega) ?_
    rw [← zd]
    exact h.snoc ⟨zok, zt⟩ (by omega)
theorem schedOf_sch (w most ticks : Int) (hm : 0 ≤ most ∧ most ≤ 40) (ht : 1 ≤ ticks ∧ ticks ≤ 2000) : Sch (schedOf w most ticks).1 most ticks := by
  have hq := upto_in (w := w) (n := most + 1) (by omega)
  exact schedN_sch ticks most ht _ _ _ (by simp; omega) ⟨by simp; omega, fun x hx => by simp at hx⟩

/-- The same; the schedule's row stands still. -/
theorem scheduleOf_det (w most ticks : Int) (hm : 0 ≤ most ∧ most ≤ 40) (ht : 1 ≤ ticks ∧ ticks ≤ 2000) :
    Ans Try.prog n_kit_ScheduleOf [.ptr 0 0 0 1, .int .i64 most, .int .i64 ticks] [some (Dr w)] (slv 1 ((schedOf w most ticks).1.map Ht.v)) (some (Dr (schedOf w most ticks).2) :: slrG false 3 ((schedOf w most ticks).1.map Ht.v)) := by
  have h0 := scheduleOf_at w most ticks hm ht
  generalize schedOf w most ticks = S at *
  have e : settleFrom 1 (some (Dr S.2) :: slr 3 (S.1.map Ht.v)) = some (Dr S.2) :: slrG false 3 (S.1.map Ht.v) := by
    unfold slr slrG
    split <;> rfl
  have h1 : AnsE Try.prog n_kit_ScheduleOf [.ptr 0 0 0 1, .int .i64 most, .int .i64 ticks] [some (Dr w)] (fun _ : Unit => True) (fun _ => slv 1 (S.1.map Ht.v)) (fun _ => some (Dr S.2) :: slr 3 (S.1.map Ht.v)) := h0.toE (a := ()) trivial
  have h := h1.settle (fun a ha => ⟨by simp, ?_, by simp only [go_sem], ?_⟩) (fun a ha => ⟨?_, fun i x hx => ?_⟩)
  · intro G
    have := h G
    simp only [List.length_singleton, e] at this
    exact this.mono fun v H' ⟨_, _, h2, h3⟩ => ⟨h2, h3⟩
  · unfold slv slr slrG
    split
    · exact .nilsl
    · rw [bel_sl]; simp
  · unfold slr slrG
    split
    · trivial
    · exact ⟨by rw [row_bel_cells]; simp only [go_sem], trivial⟩
  · unfold slv slr slrG
    by_cases h0 : List.map Ht.v S.1 = []
    · simp only [h0, if_true]; exact .nilsl
    · simp only [h0, if_false]; exact .sl _ _ _ (by simp [lenIn, rowLen])
  · match i, hx with
    | 0, hx =>
      simp only [List.getElem?_cons_zero, Option.some.injEq] at hx
      subst hx
      show Fuls _ [AVal.agg [.int .u64 S.2]]
      exact ⟨by rw [ful_agg]; exact ⟨.int _ _, trivial⟩, trivial⟩
    | 1, hx =>
      unfold slr slrG at hx
      split at hx
      · simp at hx
      · simp only [List.getElem?_cons_succ, List.getElem?_cons_zero, Option.some.injEq] at hx
        subst hx
        exact fuls_map _ _ fun x => by unfold Ht.v; rw [ful_agg]; exact ⟨.int _ _, .int _ _, .int _ _, trivial⟩
    | i + 2, hx =>
      unfold slr slrG at hx
      split at hx <;> simp at hx
end Go.Proofs
namespace Go.Proofs
open Go Go.Sx
attribute [local irreducible] Run

def demV (w gas : Int) (c : Ct) (x : Cg) : Dm :=
  let w1 := dstep (dstep w)
  let w2 := dstep (dstep w1)
  let w3 := dstep (dstep w2)
  let w4 := dstep (dstep w3)
  ⟨sel3v (upto (dstep w) 3) gas (upto w (gas + 2)) c.amount, nearV w1 x.wear, nearV w2 x.lost, nearV w3 x.carb, sel4v (upto (dstep w4) 4) 0 x.ba.lo x.ba.hi (btw w4 x.ba.lo x.ba.hi)⟩
theorem demV_ok {w gas : Int} {c : Ct} {x : Cg} (hc : CtOK c) (hx : CgOK c x) (hg : 0 ≤ gas ∧ gas ≤ 1000000) : DmOK (demV w gas c x) ∧ (demV w gas c x).ba ≤ 1000000 := by
  have hm := hc.amount
  have u := upto_in (w := w) (n := gas + 2) (by omega)
  have hba := hx.ba.all
  have b := fun w => btw_in (w := w) hba.2.1
  refine ⟨⟨?_, nearV_in hx.wear (by decide), nearV_in hx.lost (by omega), nearV_in hx.carb (by omega), ?_⟩, ?_⟩
  · show 0 ≤ sel3v _ _ _ _ ∧ sel3v _ _ _ _ ≤ _
    unfold sel3v
    constructor <;> (repeat' split) <;> omega
  · show 0 ≤ sel4v _ _ _ _ _ ∧ sel4v _ _ _ _ _ ≤ _
    have b' := b (dstep (dstep (dstep (dstep (dstep (dstep (dstep (dstep w))))))))
    unfold sel4v
    constructor <;> (repeat' split) <;> omega
  · show sel4v _ _ _ _ _ ≤ _
    have b' := b (dstep (dstep (dstep (dstep (dstep (dstep (dstep (dstep w))))))))
    unfold sel4v
    (repeat' split) <;> omega

def demH (w : Int) (c : Ct) (l : List Ht) (g : Bool) (x : Cg) (X : Heap) : Heap := some (Dr w) :: some (BdR c.bands) :: some (.cells g 3 (l.map Ht.v)) :: some (.cells false 7 [c.v (.sl 1 0 c.bands.length)]) :: some (.cells false 5 [.agg [.int .i64 0, .int .i64 0, .int .i64 0, .int .i64 0, .int .i64 0]]) :: some (.cells false 13 [x.v]) :: X

set_option maxHeartbeats 4000000 in
set_option maxRecDepth 4000 in
theorem demandOf_run (w : Int) (c : Ct) (hc : CtOK c) (l : List Ht) (hl : LsOK l) (g : Bool) (h0 : l ≠ []) :
    AnsE Try.prog n_kit_DemandOf [.ptr 0 0 0 1, c.v (.sl 1 0 c.bands.length), .sl 2 0 l.length] [some (Dr w), some (BdR c.bands), some (.cells g 3 (l.map Ht.v))] (fun a : Dm × Int => DmOK a.1 ∧ a.1.ba ≤ 1000000) (fun a => a.1.v) (fun a => [some (Dr a.2), some (BdR c.bands), some (.cells g 3 (l.map Ht.v))]) := by
  have hlen := hl.len
  have hsum := hl.sum
  have hlp : 0 < l.length := List.length_pos_iff.2 h0
  have hF := rFollow_run c hc l hl h0
  have hFl : (follow c l).length = l.length := followX_len c _ _
  have hall : ∀ y ∈ flat l, HtOK y := fun y hy => hl.all y (flat_mem hy)
  have hfl := flat_len hl.all
  have hgood : ∀ i, i < l.length → ∃ y, (follow c l)[i]? = some y ∧ CgOK c y := fun i hi => ⟨_, follow_get hi, by
    have h1 := flat_len_le l (i + 1)
    exact (coatOf_good hc (fun y hy => hl.all y (List.mem_of_mem_take (flat_mem hy))) (by omega)).ok⟩
  obtain ⟨x, hx, hxo⟩ := hgood (l.length - 1) (by omega)
  generalize follow c l = F at *
  have g0 : (0 : Int) < l.length := by omega
  have g1 : IntKind.i64.wrap ((l.length : Int) - 1) = ((l.length - 1 : Nat) : Int) := by rw [w64 (by omega)]; omega
  have g2 : ¬ ((l.length - 1 : Nat) : Int) < 0 := by omega
  have g3 : ((l.length - 1 : Nat) : Int) < l.length := by omega
  refine AnsE.keep (run_fn e_kit_DemandOf fun G => ?_) (fun a ha => ⟨by simp, by simp only [go_sem], by simp only [go_sem], by simp only [go_sem], by rw [row_bel_cells]; simp only [go_sem], trivial⟩)
  simp only [go_sem, Ct.v, Ct.cs]
  refine cFN hF 6 ⟨.inl (ct_frz (H := _) rfl), .inl (sch_frz (H := _) rfl rfl), trivial⟩ ?_
  simp only [go_sem, ren, rens, CgR, List.length_map, hFl, g0, g1, g2, g3, hx, Cg.v, Cg.cs]
  refine loop_ind k_kit_DemandOf_r10.eq_1 (fun a : Nat × Int × Heap => a.1 ≤ l.length ∧ 0 ≤ a.2.1 ∧ a.2.1 ≤ 1000000) (fun a => l.length - a.1)
    (fun a => (tsets 81 [(0, .ptr 0 0 0 1), (4, .ptr 3 0 0 1), (6, .ptr 4 0 0 1), (7, .ptr 5 0 0 1), (8, .int .i64 a.2.1), (9, .sl 6 0 l.length), (11, .int .i64 a.1)], demH w c l g x (some (.cells true 13 (F.map Cg.v)) :: a.2.2)))
    (0, 0, []) ⟨Nat.zero_le _, by decide, by decide⟩ (by simp [go_sem]) rfl ?_
  rintro ⟨i, gas, X⟩ ⟨hi, hg0, hg1⟩ ih
  dsimp only at hi hg0 hg1 ih ⊢
  by_cases h1 : i < l.length
  · have h2 : (i : Int) < l.length := by omega
    have n0 : ¬ (i : Int) < 0 := by omega
    obtain ⟨y, hy, hyo⟩ := hgood i h1
    have h3 := idx_next h1 (by omega)
    have hyg := hyo.gas.all
    have hm := hc.amount
    simp only [go_sem, demH, h2, n0, hy, hFl, List.length_map, Cg.v, Cg.cs, h3]
    refine ih (i + 1, (if y.gas.hi > gas then y.gas.hi else gas), X) (by dsimp only; omega) ⟨h1, ?_⟩ _ (by simp [go_sem])
    dsimp only
    split <;> omega
  · have h2 : ¬ (i : Int) < l.length := by omega
    have hm := hc.amount
    have hu1 := upto_ok w (gas + 2) (by omega)
    have hu2 := upto_ok (dstep w) 3 (by decide)
    have q1 := upto_in (w := dstep w) (n := 3) (by decide)
    have s1 := sel3v_ok _ gas (upto w (gas + 2)) c.amount q1
    have e1 : IntKind.i64.wrap (gas + 2) = gas + 2 := w64 (by omega)
    have n1 : ¬ upto (dstep w) 3 < 0 := by omega
    have n2 : upto (dstep w) 3 < 3 := q1.2
    have r1 := near_run (dstep (dstep w)) x.wear hxo.wear (by decide)
    have r2 := near_run (dstep (dstep (dstep (dstep w)))) x.lost hxo.lost (by omega)
    have r3 := near_run (dstep (dstep (dstep (dstep (dstep (dstep w)))))) x.carb hxo.carb (by omega)
    have r4 := in_run (dstep (dstep (dstep (dstep (dstep (dstep (dstep (dstep w)))))))) x.ba hxo.ba (by omega)
    have hu3 := upto_ok (dstep (dstep (dstep (dstep (dstep (dstep (dstep (dstep (dstep w))))))))) 4 (by decide)
    have q2 := upto_in (w := dstep (dstep (dstep (dstep (dstep (dstep (dstep (dstep (dstep w))))))))) (n := 4) (by decide)
    have s2 := sel4v_ok _ 0 x.ba.lo x.ba.hi (btw (dstep (dstep (dstep (dstep (dstep (dstep (dstep (dstep w)))))))) x.ba.lo x.ba.hi) q2
    have n3 : ¬ upto (dstep (dstep (dstep (dstep (dstep (dstep (dstep (dstep (dstep w))))))))) 4 < 0 := by omega
    have n4 : upto (dstep (dstep (dstep (dstep (dstep (dstep (dstep (dstep (dstep w))))))))) 4 < 4 := q2.2
    have hok := demV_ok (w := w) hc hxo ⟨hg0, hg1⟩
    unfold demV at hok
    dsimp only at hok
    generalize nearV (dstep (dstep w)) x.wear = v1 at *
    generalize nearV (dstep (dstep (dstep (dstep w)))) x.lost = v2 at *
    generalize nearV (dstep (dstep (dstep (dstep (dstep (dstep w)))))) x.carb = v3 at *
    generalize btw (dstep (dstep (dstep (dstep (dstep (dstep (dstep (dstep w)))))))) x.ba.lo x.ba.hi = v4 at *
    generalize upto (dstep (dstep (dstep (dstep (dstep (dstep (dstep (dstep (dstep w))))))))) 4 = v5 at *
    generalize upto (dstep w) 3 = v6 at *
    generalize upto w (gas + 2) = v7 at *
    simp only [go_sem, demH, h2, hFl, List.length_map, Cg.v, Cg.cs, e1]
    refine dD hu1 ?_
    simp only [go_sem, Ct.v, Ct.cs]
    refine dD hu2 ?_
    simp only [go_sem, n1, n2, s1]
    refine dD r1 ?_
    simp only [go_sem]
    refine dD r2 ?_
    simp only [go_sem]
    refine dD r3 ?_
    simp only [go_sem]
    refine dD r4 ?_
    simp only [go_sem]
    refine ⟨by simp <;> omega, ?_⟩
    refine dD hu3 ?_
    simp only [go_sem, n3, n4, s2]
    refine ⟨by omega, by omega, (⟨sel3v v6 gas v7 c.amount, v1, v2, v3, sel4v v5 0 x.ba.lo x.ba.hi v4⟩, (dstep (dstep (dstep (dstep (dstep (dstep (dstep (dstep (dstep (dstep w))))))))))), hok, kept_id rfl (by simp only [go_sem]) ?_⟩
    intro i z hz
    have hi3 := (List.getElem?_eq_some_iff.1 hz).1
    simp only [List.length_cons, List.length_nil] at hi3
    obtain rfl | rfl | rfl : i = 0 ∨ i = 1 ∨ i = 2 := by omega
    · simp at hz; subst hz; exact ⟨by simp only [go_sem], rfl⟩
    · simp at hz; subst hz; exact ⟨by simp only [go_sem], rfl⟩
    · simp at hz; subst hz; exact ⟨by rw [row_bel_cells]; simp only [go_sem], rfl⟩

def zeroCg : Cg := ⟨⟨0, 0⟩, ⟨0, 0⟩, ⟨0, 0⟩, ⟨0, 0⟩, ⟨0, 0⟩, ⟨0, 0⟩, 0⟩
theorem zeroCg_ok {c : Ct} (hc : CtOK c) : CgOK c zeroCg := by
  have := hc.amount
  refine ⟨⟨?_, ?_, ?_⟩, ⟨?_, ?_, ?_⟩, ⟨?_, ?_, ?_⟩, ⟨?_, ?_, ?_⟩, ⟨?_, ?_, ?_⟩, ⟨?_, ?_, ?_⟩, ⟨?_, ?_⟩⟩ <;> simp only [zeroCg] <;> omega

set_option maxHeartbeats 4000000 in
set_option maxRecDepth 4000 in
theorem demandOf_nil (w : Int) (c : Ct) (hc : CtOK c) :
    AnsE Try.prog n_kit_DemandOf [.ptr 0 0 0 1, c.v (.sl 1 0 c.bands.length), .nilsl] [some (Dr w), some (BdR c.bands)] (fun a : Dm × Int => DmOK a.1 ∧ a.1.ba ≤ 1000000) (fun a => a.1.v) (fun a => [some (Dr a.2), some (BdR c.bands)]) := by
  have hxo := zeroCg_ok hc
  have hm := hc.amount
  have e1 : IntKind.i64.wrap 2 = 2 := rfl
  refine AnsE.keep (run_fn e_kit_DemandOf fun G => ?_) (fun a ha => ⟨by simp, by simp only [go_sem], by simp only [go_sem], by simp only [go_sem], trivial⟩)
  simp only [go_sem, Ct.v, Ct.cs]
  refine cF (rFollow_nil c hc) 6 ⟨.inl (ct_frz (H := _) rfl), .inr ⟨rfl, rfl⟩, trivial⟩ ?_
  simp only [go_sem]
  refine loop_body 200 k_kit_DemandOf_r10.eq_1 ?_
  simp only [go_sem, e1]
  have hu1 := upto_ok w 2 (by decide)
  have hu2 := upto_ok (dstep w) 3 (by decide)
  have q1 := upto_in (w := dstep w) (n := 3) (by decide)
  have s1 := sel3v_ok _ 0 (upto w 2) c.amount q1
  have e1 : IntKind.i64.wrap 2 = 2 := rfl
  have n1 : ¬ upto (dstep w) 3 < 0 := by omega
  have n2 : upto (dstep w) 3 < 3 := q1.2
  have r1 := near_run (dstep (dstep w)) ⟨0, 0⟩ hxo.wear (by decide)
  have r2 := near_run (dstep (dstep (dstep (dstep w)))) ⟨0, 0⟩ hxo.lost (by omega)
  have r3 := near_run (dstep (dstep (dstep (dstep (dstep (dstep w)))))) ⟨0, 0⟩ hxo.carb (by omega)
  have r4 := in_run (dstep (dstep (dstep (dstep (dstep (dstep (dstep (dstep w)))))))) ⟨0, 0⟩ hxo.ba (by omega)
  have hu3 := upto_ok (dstep (dstep (dstep (dstep (dstep (dstep (dstep (dstep (dstep w))))))))) 4 (by decide)
  have q2 := upto_in (w := dstep (dstep (dstep (dstep (dstep (dstep (dstep (dstep (dstep w))))))))) (n := 4) (by decide)
  have s2 := sel4v_ok _ 0 0 0 (btw (dstep (dstep (dstep (dstep (dstep (dstep (dstep (dstep w)))))))) 0 0) q2
  have n3 : ¬ upto (dstep (dstep (dstep (dstep (dstep (dstep (dstep (dstep (dstep w))))))))) 4 < 0 := by omega
  have n4 : upto (dstep (dstep (dstep (dstep (dstep (dstep (dstep (dstep (dstep w))))))))) 4 < 4 := q2.2
  have hok := demV_ok (w := w) hc hxo (gas := 0) ⟨by decide, by decide⟩
  unfold demV at hok
  dsimp only at hok
  rw [show (0 : Int) + 2 = 2 from rfl] at hok
  simp only [zeroCg] at hok hxo
  generalize nearV (dstep (dstep w)) ⟨0, 0⟩ = v1 at *
  generalize nearV (dstep (dstep (dstep (dstep w)))) ⟨0, 0⟩ = v2 at *
  generalize nearV (dstep (dstep (dstep (dstep (dstep (dstep w)))))) ⟨0, 0⟩ = v3 at *
  generalize btw (dstep (dstep (dstep (dstep (dstep (dstep (dstep (dstep w)))))))) 0 0 = v4 at *
  generalize upto (dstep (dstep (dstep (dstep (dstep (dstep (dstep (dstep (dstep w))))))))) 4 = v5 at *
  generalize upto (dstep w) 3 = v6 at *
  generalize upto w 2 = v7 at *
  refine dD hu1 ?_
  simp only [go_sem, Ct.v, Ct.cs]
  refine dD hu2 ?_
  simp only [go_sem, n1, n2, s1]
  refine dD r1 ?_
  simp only [go_sem]
  refine dD r2 ?_
  simp only [go_sem]
  refine dD r3 ?_
  simp only [go_sem]
  refine dD r4 ?_
  simp only [go_sem]
  refine dD hu3 ?_
  simp only [go_sem, n3, n4, s2]
  refine ⟨(⟨sel3v v6 0 v7 c.amount, v1, v2, v3, sel4v v5 0 0 0 v4⟩, (dstep (dstep (dstep (dstep (dstep (dstep (dstep (dstep (dstep (dstep w))))))))))), hok, kept_id rfl (by simp only [go_sem]) ?_⟩
  intro i z hz
  have hi3 := (List.getElem?_eq_some_iff.1 hz).1
  simp only [List.length_cons, List.length_nil] at hi3
  obtain rfl | rfl : i = 0 ∨ i = 1 := by omega
  · simp at hz; subst hz; exact ⟨by simp only [go_sem], rfl⟩
  · simp at hz; subst hz; exact ⟨by simp only [go_sem], rfl⟩
end Go.Proofs
namespace Go.Proofs
open Go Go.Sx
attribute [local irreducible] Run

theorem chkX_ok {c : Ct} {x : Cg} (h : chkX c x = 0) : CtOK c ∧ CgOK c x := by
  unfold chkX at h
  by_cases c0 : chkC c = 0
  rotate_left
  · rw [if_neg c0] at h; exact absurd h c0
  rw [if_pos c0] at h
  by_cases c1 : chkR c.amount [x.carb, x.ox, x.ba, x.lost, x.gas] = 0
  rotate_left
  · rw [if_neg c1] at h; exact absurd h c1
  rw [if_pos c1] at h
  by_cases c2 : chkR 1099511627776 [x.wear] = 0
  rotate_left
  · rw [if_neg c2] at h; exact absurd h c2
  rw [if_pos c2] at h
  by_cases c3 : 0 ≤ x.heat ∧ x.heat ≤ 2000
  rotate_left
  · rw [if_neg c3] at h; simp at h
  have q := chkR_zero c1
  have q2 := chkR_zero c2
  have r1 := q x.carb (by simp)
  have r2 := q x.ox (by simp)
  have r3 := q x.ba (by simp)
  have r4 := q x.lost (by simp)
  have r5 := q x.gas (by simp)
  have r6 := q2 x.wear (by simp)
  exact ⟨chkC_ok c0, ⟨by omega, by omega, by omega⟩, ⟨by omega, by omega, by omega⟩, ⟨by omega, by omega, by omega⟩, ⟨by omega, by omega, by omega⟩, ⟨by omega, by omega, by omega⟩, ⟨by omega, by omega, by omega⟩, c3⟩

/-- A tick, or the error that there is. -/
def tickV (c : Ct) (x : Cg) (heat cur : Int) : Cg × Int :=
  if chkX c x = 0 then
    (if 0 ≤ heat ∧ heat ≤ 2000 then (if 0 ≤ cur ∧ cur ≤ 1000 then
      (if 1099511627776 < (after c x heat cur).wear.hi then (zeroCg, 8) else (after c x heat cur, 0)) else (zeroCg, 2)) else (zeroCg, 2))
  else (zeroCg, chkX c x)
theorem rightHeat_raw (h : Int) : Ans Try.prog n_cathode_rightHeat [.int .i64 h] [] (.bool (decide (0 ≤ h ∧ h ≤ 2000))) [] := by
  refine spec_run e_cathode_rightHeat fun G => ?_
  simp only [go_sem]
  by_cases c1 : 0 ≤ h ∧ h ≤ 2000
  · refine cP (within_yes c1) ?_
    simp only [go_sem, c1, decide_true]
  · refine cP (within_no c1) ?_
    simp only [go_sem, c1, decide_false]
theorem rightCurrent_raw (h : Int) : Ans Try.prog n_cathode_rightCurrent [.int .i64 h] [] (.bool (decide (0 ≤ h ∧ h ≤ 1000))) [] := by
  refine spec_run e_cathode_rightCurrent fun G => ?_
  simp only [go_sem]
  by_cases c1 : 0 ≤ h ∧ h ≤ 1000
  · refine cP (within_yes c1) ?_
    simp only [go_sem, c1, decide_true]
  · refine cP (within_no c1) ?_
    simp only [go_sem, c1, decide_false]

def chkT (c : Ct) (x : Cg) (heat cur : Int) : Int := if chkX c x = 0 then (if 0 ≤ heat ∧ heat ≤ 2000 then (if 0 ≤ cur ∧ cur ≤ 1000 then 0 else 2) else 2) else chkX c x
theorem checkTick_raw (c : Ct) (hl : c.bands.length ≤ 1000) (x : Cg) (heat cur : Int) : Ans Try.prog n_cathode_checkTick [c.v (.view (c.bands.map Bd.v)), x.v, .int .i64 heat, .int .i64 cur] [] (.int .i64 (chkT c x heat cur)) [] := by
  have g := CheckCoating_raw c hl x
  generalize hRES : chkT c x heat cur = RES
  unfold chkT at hRES
  refine spec_run e_cathode_checkTick fun G => ?_
  simp only [go_sem, Ct.v, Ct.cs, Cg.v, Cg.cs]
  refine cP g ?_
  generalize chkX c x = e0 at *
  by_cases c0 : e0 = 0
  rotate_left
  · have b0 : (e0 != 0) = true := by simp [c0]
    rw [if_neg c0] at hRES
    subst hRES
    simp only [go_sem, b0]
  rw [if_pos c0] at hRES
  subst c0
  simp only [go_sem, Int.reduceBNe]
  refine cP (rightHeat_raw heat) ?_
  by_cases c1 : 0 ≤ heat ∧ heat ≤ 2000
  rotate_left
  · rw [if_neg c1] at hRES
    subst hRES
    simp only [go_sem, decide_eq_false c1]
  rw [if_pos c1] at hRES
  simp only [go_sem, decide_eq_true c1]
  refine cP (rightCurrent_raw cur) ?_
  by_cases c2 : 0 ≤ cur ∧ cur ≤ 1000
  rotate_left
  · rw [if_neg c2] at hRES
    subst hRES
    simp only [go_sem, decide_eq_false c2]
  rw [if_pos c2] at hRES
  subst hRES
  simp only [go_sem, decide_eq_true c2]

theorem Tick_raw (c : Ct) (hl : c.bands.length ≤ 1000) (x : Cg) (heat cur : Int) : Ans Try.prog n_cathode_Tick [c.v (.view (c.bands.map Bd.v)), x.v, .int .i64 heat, .int .i64 cur] [] (.tup [(tickV c x heat cur).1.v, .int .i64 (tickV c x heat cur).2]) [] := by
  generalize hRES : tickV c x heat cur = RES
  unfold tickV at hRES
  have g := checkTick_raw c hl x heat cur
  have hok := @chkX_ok c x
  unfold chkT at g
  refine spec_run e_cathode_Tick fun G => ?_
  simp only [go_sem, Ct.v, Ct.cs, Cg.v, Cg.cs]
  refine cP g ?_
  generalize chkX c x = e0 at *
  by_cases c0 : e0 = 0
  rotate_left
  · have b0 : (e0 != 0) = true := by simp [c0]
    rw [if_neg c0] at hRES
    subst hRES
    simp only [go_sem, b0, if_neg c0, zeroCg, Cg.v, Cg.cs]
  rw [if_pos c0] at hRES
  subst c0
  obtain ⟨hc, hx⟩ := hok rfl
  by_cases c1 : 0 ≤ heat ∧ heat ≤ 2000
  rotate_left
  · rw [if_neg c1] at hRES
    subst hRES
    simp only [go_sem, if_neg c1, zeroCg, Cg.v, Cg.cs, Int.reduceBNe]
  rw [if_pos c1] at hRES
  by_cases c2 : 0 ≤ cur ∧ cur ≤ 1000
  rotate_left
  · rw [if_neg c2] at hRES
    subst hRES
    simp only [go_sem, if_pos c1, if_neg c2, zeroCg, Cg.v, Cg.cs, Int.reduceBNe]
  rw [if_pos c2] at hRES
  have ha := after_run c hc x (hx.b hc.amount.2) heat cur c1 c2
  generalize after c x heat cur = y at *
  simp only [go_sem, if_pos c1, if_pos c2, Int.reduceBNe]
  refine cP ha ?_ (hr := by simp only [go_sem, Cg.v, Cg.cs])
  simp only [go_sem, Cg.v, Cg.cs]
  refine ⟨fun c3 => ?_, fun c3 => ?_⟩
  · rw [if_pos c3] at hRES
    subst hRES
    rfl
  · rw [if_neg c3] at hRES
    subst hRES
    rfl

theorem rTick_raw (c : Ct) (hl : c.bands.length ≤ 1000) (x : Cg) (heat cur : Int) : Ans Try.prog n_ref03_Tick [c.v (.view (c.bands.map Bd.v)), x.v, .int .i64 heat, .int .i64 cur] [] (.tup [(tickV c x heat cur).1.v, .int .i64 (tickV c x heat cur).2]) [] := by
  generalize hRES : tickV c x heat cur = RES
  unfold tickV at hRES
  have g := rCheckCoating_raw c hl x
  have hok := @chkX_ok c x
  refine spec_run e_ref03_Tick fun G => ?_
  simp only [go_sem, Ct.v, Ct.cs, Cg.v, Cg.cs]
  refine cP g ?_
  generalize chkX c x = e0 at *
  by_cases c0 : e0 = 0
  rotate_left
  · have b0 : (e0 != 0) = true := by simp [c0]
    rw [if_neg c0] at hRES
    subst hRES
    simp only [go_sem, b0, zeroCg, Cg.v, Cg.cs]
  rw [if_pos c0] at hRES
  subst c0
  obtain ⟨hc, hx⟩ := hok rfl
  simp only [go_sem, Int.reduceBNe]
  by_cases c1 : 0 ≤ heat ∧ heat ≤ 2000
  rotate_left
  · rw [if_neg c1] at hRES
    subst hRES
    refine cP (beyond_yes c1) ?_
    simp only [go_sem, zeroCg, Cg.v, Cg.cs]
  rw [if_pos c1] at hRES
  refine cP (beyond_no c1) ?_
  simp only [go_sem]
  by_cases c2 : 0 ≤ cur ∧ cur ≤ 1000
  rotate_left
  · rw [if_neg c2] at hRES
    subst hRES
    refine cP (beyond_yes c2) ?_
    simp only [go_sem, zeroCg, Cg.v, Cg.cs]
  rw [if_pos c2] at hRES
  refine cP (beyond_no c2) ?_
  have ha := rtick_run c hc x (hx.b hc.amount.2) heat cur c1 c2
  generalize after c x heat cur = y at *
  simp only [go_sem]
  refine cP ha ?_ (hr := by simp only [go_sem, Cg.v, Cg.cs])
  simp only [go_sem, Cg.v, Cg.cs]
  refine ⟨fun c3 => ?_, fun c3 => ?_⟩
  · rw [if_pos c3] at hRES
    subst hRES
    rfl
  · rw [if_neg c3] at hRES
    subst hRES
    rfl
end Go.Proofs
namespace Go.Proofs
open Go Go.Sx
attribute [local irreducible] Run

def freshV (c : Ct) : Cg × Int := if chkC c = 0 then (fresh c, 0) else (zeroCg, chkC c)
theorem Fresh_raw (c : Ct) (hl : c.bands.length ≤ 1000) : Ans Try.prog n_cathode_Fresh [c.v (.view (c.bands.map Bd.v))] [] (.tup [(freshV c).1.v, .int .i64 (freshV c).2]) [] := by
  have g := Check_raw c hl
  generalize hRES : freshV c = RES
  unfold freshV at hRES
  refine spec_run e_cathode_Fresh fun G => ?_
  simp only [go_sem, Ct.v, Ct.cs]
  refine cP g ?_
  generalize chkC c = e0 at *
  by_cases c0 : e0 = 0
  · rw [if_pos c0] at hRES
    subst c0
    subst hRES
    simp only [go_sem, Int.reduceBNe, Ct.v, Ct.cs]
    refine cP (fresh_run c) ?_ (hr := by simp only [go_sem, Cg.v, Cg.cs])
    simp only [go_sem, Cg.v, Cg.cs]
  · have b0 : (e0 != 0) = true := by simp [c0]
    rw [if_neg c0] at hRES
    subst hRES
    simp only [go_sem, b0, zeroCg, Cg.v, Cg.cs]
theorem rFresh_raw (c : Ct) (hl : c.bands.length ≤ 1000) : Ans Try.prog n_ref03_Fresh [c.v (.view (c.bands.map Bd.v))] [] (.tup [(freshV c).1.v, .int .i64 (freshV c).2]) [] := by
  have g := rCheck_raw c hl
  generalize hRES : freshV c = RES
  unfold freshV at hRES
  refine spec_run e_ref03_Fresh fun G => ?_
  simp only [go_sem, Ct.v, Ct.cs]
  refine cP g ?_
  generalize chkC c = e0 at *
  by_cases c0 : e0 = 0
  · rw [if_pos c0] at hRES
    subst c0
    subst hRES
    simp only [go_sem, Int.reduceBNe, Ct.v, Ct.cs]
    refine cP (rfresh_run c) ?_ (hr := by simp only [go_sem, Cg.v, Cg.cs])
    simp only [go_sem, Cg.v, Cg.cs]
  · have b0 : (e0 != 0) = true := by simp [c0]
    rw [if_neg c0] at hRES
    subst hRES
    simp only [go_sem, b0, zeroCg, Cg.v, Cg.cs]
end Go.Proofs
namespace Go.Proofs
open Go Go.Sx
attribute [local irreducible] Run

def okH (z : Ht) : Bool := decide (1 ≤ z.ticks ∧ z.ticks ≤ 2000) && decide (0 ≤ z.heat ∧ z.heat ≤ 2000) && decide (0 ≤ z.cur ∧ z.cur ≤ 1000)
theorem okH_ok {z : Ht} (h : okH z = true) : HtOK z := by
  simp only [okH, Bool.and_eq_true, decide_eq_true_eq] at h
  exact ⟨h.1.1, h.1.2, h.2⟩
/-- The first error of a schedule. -/
def chkS (l : List Ht) : Int := if 40 < l.length then 8 else if l.all okH = true then (if 20000 < lenOfL l then 5 else 0) else 2

theorem length_all (l : List Ht) (hlen : l.length ≤ 1000) (hall : ∀ z ∈ l, HtOK z) : Ans Try.prog n_cathode_length [.view (l.map Ht.v)] [] (.int .i64 (lenOfL l)) [] := by
  have hb : ∀ i, lenOfL (l.take i) ≤ 2000 * (l.take i).length ∧ 0 ≤ lenOfL (l.take i) := fun i => by
    have h : ∀ l : List Ht, (∀ z ∈ l, HtOK z) → lenOfL l ≤ 2000 * l.length ∧ 0 ≤ lenOfL l := fun l => by
      induction l with
      | nil => intro _; simp [lenOfL]
      | cons z l ih =>
        intro h
        have h1 := (h z (by simp)).ticks
        have h2 := ih fun y hy => h y (by simp [hy])
        simp only [lenOfL, List.length_cons]
        omega
    exact h _ fun z hz => hall z (List.mem_of_mem_take hz)
  refine spec_run e_cathode_length fun G => ?_
  simp only [go_sem]
  refine loop_ind k_cathode_length_r7.eq_1 (fun a : Nat × Heap => a.1 ≤ l.length) (fun a => l.length - a.1)
    (fun a => (tsets 18 [(3, .int .i64 (lenOfL (l.take a.1))), (6, .view (l.map Ht.v)), (7, .int .i64 l.length), (8, .int .i64 a.1)], a.2)) (0, []) (Nat.zero_le _) (by simp [go_sem, lenOfL]) rfl ?_
  rintro ⟨i, X⟩ hi ih
  dsimp only at hi ih ⊢
  by_cases h1 : i < l.length
  · have h2 : (i : Int) < l.length := by omega
    have hx : l[i]? = some l[i] := List.getElem?_eq_getElem h1
    have h3 := idx_next h1 (by omega)
    have hs := lenOfL_succ hx
    have hr := hb (i + 1)
    have hr0 := hb i
    have hl1 : (l.take (i + 1)).length ≤ 1000 := by simp; omega
    generalize l[i] = z at *
    have h4 : IntKind.i64.wrap (lenOfL (l.take i) + z.ticks) = lenOfL (l.take (i + 1)) := by rw [w64 (by omega)]; omega
    simp only [go_sem, hx, h2, Ht.v, Ht.cs, h4, h3]
    exact ih (i + 1, _) (by dsimp only; omega) h1 _ (by simp [go_sem])
  · have h2 : ¬ (i : Int) < l.length := by omega
    simp only [go_sem, h2]
    rw [List.take_of_length_le (by omega)]

theorem CheckSchedule_raw (l : List Ht) (hl : l.length ≤ 1000) : Ans Try.prog n_cathode_CheckSchedule [.view (l.map Ht.v)] [] (.int .i64 (chkS l)) [] := by
  generalize hRES : chkS l = RES
  unfold chkS at hRES
  refine spec_run e_cathode_CheckSchedule fun G => ?_
  simp only [go_sem]
  refine ⟨fun k1 => ?_, fun k1 => ?_⟩
  · rw [if_pos (by omega)] at hRES; exact hRES
  rw [if_neg (by omega)] at hRES
  refine loop_ind k_cathode_CheckSchedule_r9.eq_1 (fun a : Nat × Heap => a.1 ≤ l.length ∧ (∀ z ∈ l.take a.1, okH z = true)) (fun a => l.length - a.1)
    (fun a => (tsets 34 [(0, .view (l.map Ht.v)), (2, .int .i64 0), (8, .view (l.map Ht.v)), (9, .int .i64 l.length), (10, .int .i64 a.1)], a.2)) (0, []) ⟨Nat.zero_le _, by simp⟩ (by simp [go_sem]) rfl ?_
  rintro ⟨i, X⟩ ⟨hi, hR⟩ ih
  dsimp only at hi hR ih ⊢
  by_cases h1 : i < l.length
  · have h2 : (i : Int) < l.length := by omega
    have hx : l[i]? = some l[i] := List.getElem?_eq_getElem h1
    have h3 := idx_next h1 (by omega)
    have htk : l.take (i + 1) = l.take i ++ [l[i]] := by rw [List.take_add_one, hx]; rfl
    have hno : okH l[i] = false → 2 = RES := fun h => by
      rw [if_neg] at hRES
      · exact hRES
      · rw [List.all_eq_true]
        intro ha
        have := ha _ (List.getElem_mem h1)
        rw [h] at this; cases this
    have hyes : okH l[i] = true → ∀ z ∈ l.take (i + 1), okH z = true := fun h z hz => by
      rw [htk] at hz
      rcases List.mem_append.1 hz with hz | hz
      · exact hR z hz
      · simp at hz; subst hz; exact h
    generalize l[i] = z at *
    simp only [go_sem, hx, h2, Ht.v, Ht.cs]
    by_cases c1 : 1 ≤ z.ticks ∧ z.ticks ≤ 2000
    rotate_left
    · refine cP (within_no c1) ?_
      simp only [go_sem]
      exact hno (by simp [okH, c1])
    refine cP (within_yes c1) ?_
    simp only [go_sem]
    refine cP (rightHeat_raw z.heat) ?_
    by_cases c2 : 0 ≤ z.heat ∧ z.heat ≤ 2000
    rotate_left
    · simp only [go_sem, decide_eq_false c2]
      exact hno (by simp only [okH, decide_eq_false c2]; simp)
    simp only [go_sem, decide_eq_true c2]
    refine cP (rightCurrent_raw z.cur) ?_
    by_cases c3 : 0 ≤ z.cur ∧ z.cur ≤ 1000
    rotate_left
    · simp only [go_sem, decide_eq_false c3]
      exact hno (by simp only [okH, decide_eq_false c3]; simp)
    simp only [go_sem, decide_eq_true c3, h3]
    exact ih (i + 1, _) (by dsimp only; omega) ⟨h1, hyes (by simp only [okH, decide_eq_true c1, decide_eq_true c2, decide_eq_true c3]; rfl)⟩ _ (by simp [go_sem])
  · have h2 : ¬ (i : Int) < l.length := by omega
    rw [List.take_of_length_le (by omega)] at hR
    rw [if_pos (List.all_eq_true.2 hR)] at hRES
    have hLn := length_all l hl fun z hz => okH_ok (hR z hz)
    simp only [go_sem, h2]
    refine cP hLn ?_ ⟨by rw [bel_view]; exact bels_map _ _ fun h => by simp only [go_sem, Ht.v, Ht.cs], trivial⟩
    simp only [go_sem]
    refine ⟨fun k2 => ?_, fun k2 => ?_⟩
    · rw [if_pos k2] at hRES; exact hRES
    · rw [if_neg k2] at hRES; exact hRES

theorem lenOf_bound (l : List Ht) (h : ∀ z ∈ l, HtOK z) : lenOfL l ≤ 2000 * l.length ∧ 0 ≤ lenOfL l := by
  induction l with
  | nil => simp [lenOfL]
  | cons z l ih =>
    have h1 := (h z (by simp)).ticks
    have h2 := ih fun y hy => h y (by simp [hy])
    simp only [lenOfL, List.length_cons]
    omega
theorem rCheckSchedule_raw (l : List Ht) (hl : l.length ≤ 1000) : Ans Try.prog n_ref03_CheckSchedule [.view (l.map Ht.v)] [] (.int .i64 (chkS l)) [] := by
  generalize hRES : chkS l = RES
  unfold chkS at hRES
  refine spec_run e_ref03_CheckSchedule fun G => ?_
  simp only [go_sem, List.length_map]
  refine ⟨fun k1 => ?_, fun k1 => ?_⟩
  · rw [if_pos (by omega)] at hRES; exact hRES
  rw [if_neg (by omega)] at hRES
  refine loop_ind k_ref03_CheckSchedule_r10.eq_1 (fun a : Nat × Heap => a.1 ≤ l.length ∧ (∀ z ∈ l.take a.1, okH z = true)) (fun a => l.length - a.1)
    (fun a => (tsets 45 [(0, .view (l.map Ht.v)), (2, .int .i64 0), (3, .int .i64 (lenOfL (l.take a.1))), (4, .int .i64 a.1)], a.2)) (0, []) ⟨Nat.zero_le _, by simp⟩ (by simp [go_sem, lenOfL]) rfl ?_
  rintro ⟨i, X⟩ ⟨hi, hR⟩ ih
  dsimp only at hi hR ih ⊢
  by_cases h1 : i < l.length
  · have h2 : (i : Int) < l.length := by omega
    have n0 : ¬ (i : Int) < 0 := by omega
    have hx : l[i]? = some l[i] := List.getElem?_eq_getElem h1
    have h3 := idx_next h1 (by omega)
    have htk : l.take (i + 1) = l.take i ++ [l[i]] := by rw [List.take_add_one, hx]; rfl
    have hs := lenOfL_succ hx
    have hno : okH l[i] = false → 2 = RES := fun h => by
      rw [if_neg] at hRES
      · exact hRES
      · rw [List.all_eq_true]
        intro ha
        have := ha _ (List.getElem_mem h1)
        rw [h] at this; cases this
    have hyes : okH l[i] = true → ∀ z ∈ l.take (i + 1), okH z = true := fun h z hz => by
      rw [htk] at hz
      rcases List.mem_append.1 hz with hz | hz
      · exact hR z hz
      · simp at hz; subst hz; exact h
    have hr0 := lenOf_bound (l.take i) fun z hz => okH_ok (hR z hz)
    have hl0 : (l.take i).length ≤ 1000 := by simp; omega
    generalize l[i] = z at *
    simp only [go_sem, hx, h2, n0, Ht.v, Ht.cs, List.length_map]
    by_cases c1 : 1 ≤ z.ticks ∧ z.ticks ≤ 2000
    rotate_left
    · refine cP (beyond_yes c1) ?_
      simp only [go_sem]
      exact hno (by simp [okH, c1])
    refine cP (beyond_no c1) ?_
    have h4 : IntKind.i64.wrap (lenOfL (l.take i) + z.ticks) = lenOfL (l.take (i + 1)) := by rw [w64 (by omega)]; omega
    simp only [go_sem, hx, h2, n0, Ht.v, Ht.cs, List.length_map]
    by_cases c2 : 0 ≤ z.heat ∧ z.heat ≤ 2000
    rotate_left
    · refine cP (beyond_yes c2) ?_
      simp only [go_sem]
      exact hno (by simp only [okH, decide_eq_false c2]; simp)
    refine cP (beyond_no c2) ?_
    simp only [go_sem, hx, h2, n0, Ht.v, Ht.cs, List.length_map]
    by_cases c3 : 0 ≤ z.cur ∧ z.cur ≤ 1000
    rotate_left
    · refine cP (beyond_yes c3) ?_
      simp only [go_sem]
      exact hno (by simp only [okH, decide_eq_false c3]; simp)
    refine cP (beyond_no c3) ?_
    simp only [go_sem, hx, h2, n0, Ht.v, Ht.cs, List.length_map, h4]
    simp only [h3]
    exact ih (i + 1, _) (by dsimp only; omega) ⟨h1, hyes (by simp only [okH, decide_eq_true c1, decide_eq_true c2, decide_eq_true c3]; rfl)⟩ _ (by simp [go_sem])
  · have h2 : ¬ (i : Int) < l.length := by omega
    rw [List.take_of_length_le (by omega)] at hR
    rw [if_pos (List.all_eq_true.2 hR)] at hRES
    rw [List.take_of_length_le (by omega)]
    simp only [go_sem, h2, List.length_map]
    refine ⟨fun k2 => ?_, fun k2 => ?_⟩
    · rw [if_pos k2] at hRES; exact hRES
    · rw [if_neg k2] at hRES; exact hRES
end Go.Proofs
namespace Go.Proofs
open Go Go.Sx
attribute [local irreducible] Run

def chkF (c : Ct) (l : List Ht) : Int := if chkC c = 0 then chkS l else chkC c
theorem chkS_ok {l : List Ht} (h : chkS l = 0) : LsOK l := by
  unfold chkS at h
  by_cases c0 : 40 < l.length
  · rw [if_pos c0] at h; simp at h
  rw [if_neg c0] at h
  by_cases c1 : l.all okH = true
  rotate_left
  · rw [if_neg c1] at h; simp at h
  rw [if_pos c1] at h
  by_cases c2 : 20000 < lenOfL l
  · rw [if_pos c2] at h; simp at h
  exact ⟨by omega, fun z hz => okH_ok (List.all_eq_true.1 c1 z hz), by omega⟩
theorem Follow_err (c : Ct) (hc : c.bands.length ≤ 1000) (l : List Ht) (hl : l.length ≤ 1000) (he : chkF c l ≠ 0) : Ans Try.prog n_cathode_Follow [c.v (.view (c.bands.map Bd.v)), .view (l.map Ht.v)] [] (.tup [.nilsl, .int .i64 (chkF c l)]) [] := by
  have g := Check_raw c hc
  have g2 := CheckSchedule_raw l hl
  unfold chkF at he ⊢
  refine spec_run e_cathode_Follow fun G => ?_
  simp only [go_sem, Ct.v, Ct.cs]
  refine cP g ?_
  generalize chkC c = e0 at *
  by_cases c0 : e0 = 0
  rotate_left
  · have b0 : (e0 != 0) = true := by simp [c0]
    rw [if_neg c0]
    simp only [go_sem, b0]
  subst c0
  rw [if_pos rfl] at he ⊢
  simp only [go_sem, Int.reduceBNe]
  refine cP g2 ?_ ⟨by rw [bel_view]; exact bels_map _ _ fun h => by simp only [go_sem, Ht.v, Ht.cs], trivial⟩
  have b0 : (chkS l != 0) = true := by simp [he]
  simp only [go_sem, b0]
theorem rFollow_err (c : Ct) (hc : c.bands.length ≤ 1000) (l : List Ht) (hl : l.length ≤ 1000) (he : chkF c l ≠ 0) : Ans Try.prog n_ref03_Follow [c.v (.view (c.bands.map Bd.v)), .view (l.map Ht.v)] [] (.tup [.nilsl, .int .i64 (chkF c l)]) [] := by
  have g := rCheck_raw c hc
  have g2 := rCheckSchedule_raw l hl
  unfold chkF at he ⊢
  refine spec_run e_ref03_Follow fun G => ?_
  simp only [go_sem, Ct.v, Ct.cs]
  refine cP g ?_
  generalize chkC c = e0 at *
  by_cases c0 : e0 = 0
  rotate_left
  · have b0 : (e0 != 0) = true := by simp [c0]
    rw [if_neg c0]
    simp only [go_sem, b0]
  subst c0
  rw [if_pos rfl] at he ⊢
  simp only [go_sem, Int.reduceBNe]
  refine cP g2 ?_ ⟨by rw [bel_view]; exact bels_map _ _ fun h => by simp only [go_sem, Ht.v, Ht.cs], trivial⟩
  have b0 : (chkS l != 0) = true := by simp [he]
  simp only [go_sem, b0]
end Go.Proofs
namespace Go.Proofs
open Go Go.Sx
attribute [local irreducible] Run

set_option maxHeartbeats 1000000 in
theorem SameCoatings_run (l : List Cg) (hl : l.length ≤ 1000) : Ans Try.prog n_kit_SameCoatings [.view (l.map Cg.v), .view (l.map Cg.v)] [] (.bool true) [] := by
  have g0 : ((l.length : Int) != l.length) = false := by simp
  refine spec_run e_kit_SameCoatings fun G => ?_
  simp only [go_sem, List.length_map, g0]
  refine loop_ind k_kit_SameCoatings_r8.eq_1 (fun a : Nat => a ≤ l.length) (fun a => l.length - a)
    (fun a => (tsets 26 [(0, .view (l.map Cg.v)), (1, .view (l.map Cg.v)), (5, .int .i64 a)], [])) 0 (Nat.zero_le _) (by simp [go_sem]) rfl ?_
  intro i hi ih
  dsimp only at ih ⊢
  by_cases h1 : i < l.length
  · have h2 : (i : Int) < l.length := by omega
    have n0 : ¬ (i : Int) < 0 := by omega
    have hx : l[i]? = some l[i] := List.getElem?_eq_getElem h1
    have h3 := idx_next h1 (by omega)
    generalize l[i] = z at *
    simp only [go_sem, List.length_map, h2, n0, hx, h3, Cg.v, Cg.cs]
    exact ih (i + 1) (by omega) h1 _ (by simp [go_sem])
  · have h2 : ¬ (i : Int) < l.length := by omega
    simp only [go_sem, List.length_map, h2]

set_option maxHeartbeats 1000000 in
theorem rSame_run (c : Ct) (hl : c.bands.length ≤ 1000) : Ans Try.prog n_ref03_Same [c.v (.view (c.bands.map Bd.v)), c.v (.view (c.bands.map Bd.v))] [] (.bool true) [] := by
  have g0 : ((c.bands.length : Int) != c.bands.length) = false := by simp
  have b0 : ∀ x : Int, (x != x) = false := fun x => by simp
  refine spec_run e_ref03_Same fun G => ?_
  simp only [go_sem, List.length_map, g0, b0, Ct.v, Ct.cs]
  refine loop_ind k_ref03_Same_r8.eq_1 (fun a : Nat => a ≤ c.bands.length) (fun a => c.bands.length - a)
    (fun a => (tsets 59 [(2, .ptr 0 0 0 1), (3, .ptr 1 0 0 1), (5, .int .i64 a)], [some (.cells false 7 [c.v (.view (c.bands.map Bd.v))]), some (.cells false 7 [c.v (.view (c.bands.map Bd.v))])])) 0 (Nat.zero_le _) (by simp [go_sem]) rfl ?_
  intro i hi ih
  dsimp only at ih ⊢
  by_cases h1 : i < c.bands.length
  · have h2 : (i : Int) < c.bands.length := by omega
    have n0 : ¬ (i : Int) < 0 := by omega
    have hx : c.bands[i]? = some c.bands[i] := List.getElem?_eq_getElem h1
    have h3 := idx_next h1 (by omega)
    generalize c.bands[i] = z at *
    simp only [go_sem, List.length_map, h2, n0, hx, h3, Bd.v, Bd.cs, Ct.v, Ct.cs]
    exact ih (i + 1) (by omega) h1 _ (by simp [go_sem])
  · have h2 : ¬ (i : Int) < c.bands.length := by omega
    simp only [go_sem, List.length_map, h2, Ct.v, Ct.cs]
end Go.Proofs
namespace Go.Proofs
open Go Go.Sx
attribute [local irreducible] Run

/-- What follows a schedule, for the program and the reference. -/
theorem follow_both (c : Ct) (hc : c.bands.length ≤ 1000) (l : List Ht) (hl : l.length ≤ 1000) :
    (∃ e, Ans Try.prog n_cathode_Follow [c.v (.view (c.bands.map Bd.v)), .view (l.map Ht.v)] [] (.tup [.nilsl, .int .i64 e]) [] ∧ Ans Try.prog n_ref03_Follow [c.v (.view (c.bands.map Bd.v)), .view (l.map Ht.v)] [] (.tup [.nilsl, .int .i64 e]) []) ∨
    (∃ F : List Cg, F.length ≤ 1000 ∧ Ans Try.prog n_cathode_Follow [c.v (.view (c.bands.map Bd.v)), .view (l.map Ht.v)] [] (.tup [.sl 0 0 F.length, .int .i64 0]) [some (CgR F)] ∧ Ans Try.prog n_ref03_Follow [c.v (.view (c.bands.map Bd.v)), .view (l.map Ht.v)] [] (.tup [.sl 0 0 F.length, .int .i64 0]) [some (CgR F)]) := by
  by_cases he : chkF c l = 0
  · have h1 : CtOK c ∧ LsOK l := by
      unfold chkF at he
      by_cases h : chkC c = 0
      · rw [if_pos h] at he; exact ⟨chkC_ok h, chkS_ok he⟩
      · rw [if_neg h] at he; exact absurd he h
    by_cases h0 : l = []
    · subst h0
      exact .inl ⟨0, Follow_nil c h1.1, rFollow_nil c h1.1⟩
    · have hfl : (follow c l).length = l.length := followX_len c _ _
      have a := Follow_run c h1.1 l h1.2 h0
      have b := rFollow_run c h1.1 l h1.2 h0
      rw [← hfl] at a b
      exact .inr ⟨follow c l, by omega, a, b⟩
  · exact .inl ⟨_, Follow_err c hc l hl he, rFollow_err c hc l hl he⟩
theorem cg_frz {F : List Cg} {H : Heap} {j n : Nat} (h : H[j]? = some (some (CgR F))) (hn : n = F.length) : frz 6 H (.sl j 0 n) = .view (F.map Cg.v) := by
  rw [frz_sl (d := 5) h (by simpa using hn), List.map_map]; rfl

set_option maxRecDepth 20000 in
set_option maxHeartbeats 8000000 in
theorem follows_ok (c : Ct) (l : List Ht) (xs : List Int) (hxs : xs.length ≤ 9223372036854775807) : Ans Try.prog n_law03_CathodeFollows [c.v (.view (c.bands.map Bd.v)), .view (l.map Ht.v), .view (xs.map (.int .i64))] [] (.bool true) [] := by
  have hd := newdice_ok xs hxs
  generalize seedW xs = w at *
  refine spec_run e_law03_CathodeFollows fun G => ?_
  by_cases k1 : (30 : Int) < c.bands.length
  · simp only [go_sem, Ct.v, Ct.cs, List.length_map, k1]
    refine cP awake_ok ?_
    simp only [go_sem]
  by_cases k2 : (60 : Int) < l.length
  · simp only [go_sem, Ct.v, Ct.cs, List.length_map, k1, k2]
    refine cP awake_ok ?_
    simp only [go_sem]
  have hraw := follow_both c (by omega) l (by omega)
  have v0 : ∀ (H : Heap), frz 6 H (c.v (.view (c.bands.map Bd.v))) = c.v (.view (c.bands.map Bd.v)) := fun H => by simp only [go_sem, frz, bds_frz, Ct.v, Ct.cs]
  have l0 : ∀ (H : Heap), frz 6 H (.view (l.map Ht.v)) = .view (l.map Ht.v) := fun H => by
    show AVal.view ((l.map Ht.v).map (frz 5 H)) = _
    rw [hts_frz]
  simp only [go_sem, Ct.v, Ct.cs, List.length_map, k1, k2]
  refine callN1 hd ⟨by rw [bel_view]; exact bels_map _ _ fun _ => .int _ _, trivial⟩ (dr_bel _ _) (by simp) (by simp) ?_
  simp only [go_sem]
  refine callDN (coatOf_run w) rfl trivial (dr_bel _ _) (fun a ha => ⟨by simp only [go_sem], by simp only [go_sem], by simp only [go_sem]⟩) (by simp) (by simp) ?_
  rintro ⟨m, w1⟩ hm
  dsimp only at hm
  simp only [go_sem, Ct.v, Ct.cs, ren, rens]
  refine callDS (scheduleOf_run w1 12 60 (by decide) (by decide)) rfl ⟨.int _ _, .int _ _, trivial⟩ (dr_bel _ _) (fun a ha => ⟨by simp only [go_sem], by simp only [go_sem]⟩) (by simp) (by simp) ?_
  rintro ⟨p, w2⟩ hp
  dsimp only at hp
  have hps := hp.ok (by decide) (by decide) (by decide)
  have hml := hm.len
  have hcp := Copy_run m hm
  have hsm := rSame_run m (by omega)
  have hs0 := SameCoatings_run [] (by simp)
  by_cases hnil : p = []
  · have e1 : slv 3 (List.map Ht.v p) = .nilsl := by rw [hnil]; rfl
    have e2 : slrG true 3 (List.map Ht.v p) = [] := by rw [hnil]; rfl
    rcases hraw with ⟨e, ha, hb⟩ | ⟨F, hF, ha, hb⟩
    · have z0 : (e == e) = true := by simp
      simp only [go_sem, e1, e2, Ct.v, Ct.cs]
      refine cF ha 6 ⟨.inl (v0 _), .inl (l0 _), trivial⟩ ?_
      simp only [go_sem, Ct.v, Ct.cs]
      refine cF hb 6 ⟨.inl (v0 _), .inl (l0 _), trivial⟩ ?_
      simp only [go_sem, Ct.v, Ct.cs]
      refine cFN hcp 6 ⟨.inl (ct_frz (H := _) rfl), trivial⟩ ?_
      simp only [go_sem, Ct.v, Ct.cs, ren, rens]
      refine cF (Follow_nil m hm) 6 ⟨.inl (ct_frz (H := _) rfl), .inr ⟨rfl, rfl⟩, trivial⟩ ?_
      simp only [go_sem, Ct.v, Ct.cs]
      refine cF (rFollow_nil m hm) 6 ⟨.inl (ct_frz (H := _) rfl), .inr ⟨rfl, rfl⟩, trivial⟩ ?_
      simp only [go_sem, Ct.v, Ct.cs]
      refine cF hs0 6 ⟨.inr ⟨rfl, rfl⟩, .inr ⟨rfl, rfl⟩, trivial⟩ ?_
      simp only [go_sem, z0]
      refine cF hs0 6 ⟨.inr ⟨rfl, rfl⟩, .inr ⟨rfl, rfl⟩, trivial⟩ ?_
      simp only [go_sem, Int.reduceBEq, Ct.v, Ct.cs]
      refine cF hsm 6 ⟨.inl (ct_frz (H := _) rfl), .inl (ct_frz (H := _) rfl), trivial⟩ ?_
      simp only [go_sem]
      refine cP awake_ok ?_
      simp only [go_sem]
    · simp only [go_sem, e1, e2, Ct.v, Ct.cs]
      refine cFN ha 6 ⟨.inl (v0 _), .inl (l0 _), trivial⟩ ?_
      simp only [go_sem, Ct.v, Ct.cs, ren, rens]
      refine cFN hb 6 ⟨.inl (v0 _), .inl (l0 _), trivial⟩ ?_
      simp only [go_sem, Ct.v, Ct.cs, ren, rens]
      refine cFN hcp 6 ⟨.inl (ct_frz (H := _) rfl), trivial⟩ ?_
      simp only [go_sem, Ct.v, Ct.cs, ren, rens]
      refine cF (Follow_nil m hm) 6 ⟨.inl (ct_frz (H := _) rfl), .inr ⟨rfl, rfl⟩, trivial⟩ ?_
      simp only [go_sem, Ct.v, Ct.cs]
      refine cF (rFollow_nil m hm) 6 ⟨.inl (ct_frz (H := _) rfl), .inr ⟨rfl, rfl⟩, trivial⟩ ?_
      simp only [go_sem, Ct.v, Ct.cs]
      refine cF (SameCoatings_run F hF) 6 ⟨.inl (cg_frz (H := _) rfl rfl), .inl (cg_frz (H := _) rfl rfl), trivial⟩ ?_
      simp only [go_sem, Int.reduceBEq]
      refine cF hs0 6 ⟨.inr ⟨rfl, rfl⟩, .inr ⟨rfl, rfl⟩, trivial⟩ ?_
      simp only [go_sem, Int.reduceBEq, Ct.v, Ct.cs]
      refine cF hsm 6 ⟨.inl (ct_frz (H := _) rfl), .inl (ct_frz (H := _) rfl), trivial⟩ ?_
      simp only [go_sem]
      refine cP awake_ok ?_
      simp only [go_sem]
  have hne : List.map Ht.v p ≠ [] := by simpa using hnil
  have e1 : slv 3 (List.map Ht.v p) = .sl 3 0 p.length := by unfold slv; rw [if_neg hne, List.length_map]
  have e2 : slrG true 3 (List.map Ht.v p) = [some (.cells true 3 (List.map Ht.v p))] := by unfold slrG; rw [if_neg hne]
  have hfa := Follow_run m hm p hps hnil
  have hfb := rFollow_run m hm p hps hnil
  have hfl : (follow m p).length = p.length := followX_len m _ _
  have hpl := hps.len
  rw [← hfl] at hfa hfb
  rcases hraw with ⟨e, ha, hb⟩ | ⟨F, hF, ha, hb⟩
  · have z0 : (e == e) = true := by simp
    simp only [go_sem, e1, e2, Ct.v, Ct.cs]
    refine cF ha 6 ⟨.inl (v0 _), .inl (l0 _), trivial⟩ ?_
    simp only [go_sem, Ct.v, Ct.cs]
    refine cF hb 6 ⟨.inl (v0 _), .inl (l0 _), trivial⟩ ?_
    simp only [go_sem, Ct.v, Ct.cs]
    refine cFN hcp 6 ⟨.inl (ct_frz (H := _) rfl), trivial⟩ ?_
    simp only [go_sem, Ct.v, Ct.cs, ren, rens]
    refine cFN hfa 6 ⟨.inl (ct_frz (H := _) rfl), .inl (sch_frz (H := _) rfl rfl), trivial⟩ ?_
    simp only [go_sem, Ct.v, Ct.cs, ren, rens]
    refine cFN hfb 6 ⟨.inl (ct_frz (H := _) rfl), .inl (sch_frz (H := _) rfl rfl), trivial⟩ ?_
    simp only [go_sem, Ct.v, Ct.cs, ren, rens]
    refine cF hs0 6 ⟨.inr ⟨rfl, rfl⟩, .inr ⟨rfl, rfl⟩, trivial⟩ ?_
    simp only [go_sem, z0]
    refine cF (SameCoatings_run (follow m p) (by omega)) 6 ⟨.inl (cg_frz (H := _) rfl rfl), .inl (cg_frz (H := _) rfl rfl), trivial⟩ ?_
    simp only [go_sem, Int.reduceBEq, Ct.v, Ct.cs]
    refine cF hsm 6 ⟨.inl (ct_frz (H := _) rfl), .inl (ct_frz (H := _) rfl), trivial⟩ ?_
    simp only [go_sem]
    refine cP awake_ok ?_
    simp only [go_sem]
  · simp only [go_sem, e1, e2, Ct.v, Ct.cs]
    refine cFN ha 6 ⟨.inl (v0 _), .inl (l0 _), trivial⟩ ?_
    simp only [go_sem, Ct.v, Ct.cs, ren, rens]
    refine cFN hb 6 ⟨.inl (v0 _), .inl (l0 _), trivial⟩ ?_
    simp only [go_sem, Ct.v, Ct.cs, ren, rens]
    refine cFN hcp 6 ⟨.inl (ct_frz (H := _) rfl), trivial⟩ ?_
    simp only [go_sem, Ct.v, Ct.cs, ren, rens]
    refine cFN hfa 6 ⟨.inl (ct_frz (H := _) rfl), .inl (sch_frz (H := _) rfl rfl), trivial⟩ ?_
    simp only [go_sem, Ct.v, Ct.cs, ren, rens]
    refine cFN hfb 6 ⟨.inl (ct_frz (H := _) rfl), .inl (sch_frz (H := _) rfl rfl), trivial⟩ ?_
    simp only [go_sem, Ct.v, Ct.cs, ren, rens]
    refine cF (SameCoatings_run F hF) 6 ⟨.inl (cg_frz (H := _) rfl rfl), .inl (cg_frz (H := _) rfl rfl), trivial⟩ ?_
    simp only [go_sem, Int.reduceBEq]
    refine cF (SameCoatings_run (follow m p) (by omega)) 6 ⟨.inl (cg_frz (H := _) rfl rfl), .inl (cg_frz (H := _) rfl rfl), trivial⟩ ?_
    simp only [go_sem, Int.reduceBEq, Ct.v, Ct.cs]
    refine cF hsm 6 ⟨.inl (ct_frz (H := _) rfl), .inl (ct_frz (H := _) rfl), trivial⟩ ?_
    simp only [go_sem]
    refine cP awake_ok ?_
    simp only [go_sem]
end Go.Proofs
namespace Go.Proofs
open Go Go.Sx
attribute [local irreducible] AT
set_option maxRecDepth 100000

theorem at_heating {n : Nat} {vs : List AVal} (h : AT Try.prog (n + 2) 32 vs) : ∃ z : Ht, vs = z.cs ∧ I64 z.ticks ∧ I64 z.heat ∧ I64 z.cur := by
  obtain ⟨a, _, rfl, ha, b, _, rfl, hb, c, _, rfl, hc, rfl⟩ := at_struct Try.underlying32 h
  obtain ⟨x, rfl, hx⟩ := atn_int ha
  obtain ⟨y, rfl, hy⟩ := atn_int hb
  obtain ⟨z, rfl, hz⟩ := atn_int hc
  exact ⟨⟨x, y, z⟩, rfl, hx, hy, hz⟩
theorem at_schedule {n : Nat} {x : AVal} (h : AT Try.prog (n + 3) 29 [x]) : ∃ l : List Ht, x = .view (l.map Ht.v) ∧ l.length ≤ maxLen := by
  obtain ⟨es, h1, hl, he⟩ := at_slice Try.underlying29 h
  obtain rfl : x = .view es := by simpa using h1
  have hg : aggT Try.prog 32 = true := by unfold aggT; rw [Try.underlying32]
  obtain ⟨l, rfl, -⟩ := list_map (f := Ht.v) (Q := fun _ => True) es fun x hx => by
    have := he x hx
    rw [if_pos hg] at this
    obtain ⟨ws, rfl, hw⟩ := this
    obtain ⟨z, rfl, _⟩ := at_heating hw
    exact ⟨z, rfl, trivial⟩
  exact ⟨l, rfl, by simpa using hl⟩
end Go.Proofs
namespace Go.Proofs
open Go Go.Sx
attribute [local irreducible] Run

def judgeR (c : Ct) (d : Dm) (l : List Ht) : Int × Int × Int :=
  if chkCD c d = 0 then (if chkS l = 0 then ((judgeV c d l).1, (judgeV c d l).2, 0) else (0, 0, chkS l)) else (0, 0, chkCD c d)
theorem Judge_raw (c : Ct) (hc : c.bands.length ≤ 1000) (d : Dm) (l : List Ht) (hl : l.length ≤ 1000) :
    Ans Try.prog n_cathode_Judge [c.v (.view (c.bands.map Bd.v)), d.v, .view (l.map Ht.v)] [] (.tup [.int .i64 (judgeR c d l).1, .int .i64 (judgeR c d l).2.1, .int .i64 (judgeR c d l).2.2]) [] := by
  have g := checkDemand_raw c hc d
  have g2 := CheckSchedule_raw l hl
  generalize hRES : judgeR c d l = RES
  unfold judgeR at hRES
  refine spec_run e_cathode_Judge fun G => ?_
  simp only [go_sem, Ct.v, Ct.cs, Dm.v, Dm.cs]
  refine cP g ?_
  by_cases c0 : chkCD c d = 0
  rotate_left
  · have b0 : (chkCD c d != 0) = true := by simp [c0]
    rw [if_neg c0] at hRES
    subst hRES
    simp only [go_sem, b0]
  rw [if_pos c0] at hRES
  simp only [go_sem, c0, Int.reduceBNe]
  refine cP g2 ?_ ⟨by rw [bel_view]; exact bels_map _ _ fun h => by simp only [go_sem, Ht.v, Ht.cs], trivial⟩
  by_cases c1 : chkS l = 0
  rotate_left
  · have b0 : (chkS l != 0) = true := by simp [c1]
    rw [if_neg c1] at hRES
    subst hRES
    simp only [go_sem, b0]
  rw [if_pos c1] at hRES
  subst hRES
  have hcc : chkC c = 0 := by
    unfold chkCD at c0
    by_cases h : chkC c = 0
    · exact h
    · rw [if_neg h] at c0; exact absurd c0 h
  have hj := judge_run c (chkC_ok hcc) d l (chkS_ok c1)
  simp only [go_sem, c1, Int.reduceBNe, Ct.v, Ct.cs, Dm.v, Dm.cs]
  refine cP hj ?_
  simp only [go_sem]
theorem rJudge_raw (c : Ct) (hc : c.bands.length ≤ 1000) (d : Dm) (l : List Ht) (hl : l.length ≤ 1000) :
    Ans Try.prog n_ref03_Judge [c.v (.view (c.bands.map Bd.v)), d.v, .view (l.map Ht.v)] [] (.tup [.int .i64 (judgeR c d l).1, .int .i64 (judgeR c d l).2.1, .int .i64 (judgeR c d l).2.2]) [] := by
  have g := rCheck_raw c hc
  have g1 := rcheckDemand_raw d
  have g2 := rCheckSchedule_raw l hl
  generalize hRES : judgeR c d l = RES
  unfold judgeR chkCD at hRES
  refine spec_run e_ref03_Judge fun G => ?_
  simp only [go_sem, Ct.v, Ct.cs, Dm.v, Dm.cs]
  refine cP g ?_
  by_cases c0 : chkC c = 0
  rotate_left
  · have b0 : (chkC c != 0) = true := by simp [c0]
    rw [if_neg c0, if_neg c0] at hRES
    subst hRES
    simp only [go_sem, b0]
  rw [if_pos c0] at hRES
  simp only [go_sem, c0, Int.reduceBNe, Dm.v, Dm.cs]
  refine cP g1 ?_
  by_cases c1 : chkD d = 0
  rotate_left
  · have b0 : (chkD d != 0) = true := by simp [c1]
    rw [if_neg c1] at hRES
    subst hRES
    simp only [go_sem, b0]
  rw [if_pos c1] at hRES
  simp only [go_sem, c1, Int.reduceBNe]
  refine cP g2 ?_ ⟨by rw [bel_view]; exact bels_map _ _ fun h => by simp only [go_sem, Ht.v, Ht.cs], trivial⟩
  by_cases c2 : chkS l = 0
  rotate_left
  · have b0 : (chkS l != 0) = true := by simp [c2]
    rw [if_neg c2] at hRES
    subst hRES
    simp only [go_sem, b0]
  rw [if_pos c2] at hRES
  subst hRES
  have hj := rjudge_run c (chkC_ok c0) d l (chkS_ok c2)
  simp only [go_sem, c2, Int.reduceBNe, Ct.v, Ct.cs, Dm.v, Dm.cs]
  refine cP hj ?_
  simp only [go_sem]

set_option maxRecDepth 20000 in
set_option maxHeartbeats 8000000 in
theorem judges_ok (c : Ct) (x : Dm) (l : List Ht) (xs : List Int) (hxs : xs.length ≤ 9223372036854775807) : Ans Try.prog n_law03_CathodeJudges [c.v (.view (c.bands.map Bd.v)), x.v, .view (l.map Ht.v), .view (xs.map (.int .i64))] [] (.bool true) [] := by
  have hd := newdice_ok xs hxs
  generalize seedW xs = w at *
  refine spec_run e_law03_CathodeJudges fun G => ?_
  by_cases k1 : (30 : Int) < c.bands.length
  · simp only [go_sem, Ct.v, Ct.cs, Dm.v, Dm.cs, List.length_map, k1]
    refine cP awake_ok ?_
    simp only [go_sem]
  by_cases k2 : (60 : Int) < l.length
  · simp only [go_sem, Ct.v, Ct.cs, Dm.v, Dm.cs, List.length_map, k1, k2]
    refine cP awake_ok ?_
    simp only [go_sem]
  have q1 := Judge_raw c (by omega) x l (by omega)
  have p1 := rJudge_raw c (by omega) x l (by omega)
  generalize judgeR c x l = J1 at *
  obtain ⟨j1, j2, j3⟩ := J1
  have z0 : ∀ a : Int, (a != a) = false := fun a => by simp
  have z1 : ∀ a : Int, (a == a) = true := fun a => by simp
  have v0 : ∀ (H : Heap), frz 6 H (c.v (.view (c.bands.map Bd.v))) = c.v (.view (c.bands.map Bd.v)) := fun H => by simp only [go_sem, frz, bds_frz, Ct.v, Ct.cs]
  have l0 : ∀ (H : Heap), frz 6 H (.view (l.map Ht.v)) = .view (l.map Ht.v) := fun H => by
    show AVal.view ((l.map Ht.v).map (frz 5 H)) = _
    rw [hts_frz]
  simp only [go_sem, Ct.v, Ct.cs, Dm.v, Dm.cs, List.length_map, k1, k2]
  refine callN1 hd ⟨by rw [bel_view]; exact bels_map _ _ fun _ => .int _ _, trivial⟩ (dr_bel _ _) (by simp) (by simp) ?_
  simp only [go_sem]
  refine callDN (coatOf_run w) rfl trivial (dr_bel _ _) (fun a ha => ⟨by simp only [go_sem], by simp only [go_sem], by simp only [go_sem]⟩) (by simp) (by simp) ?_
  rintro ⟨m, w1⟩ hm
  dsimp only at hm
  simp only [go_sem, Ct.v, Ct.cs, ren, rens]
  refine callDS (scheduleOf_run w1 8 30 (by decide) (by decide)) rfl ⟨.int _ _, .int _ _, trivial⟩ (dr_bel _ _) (fun a ha => ⟨by simp only [go_sem], by simp only [go_sem]⟩) (by simp) (by simp) ?_
  rintro ⟨p, w2⟩ hp
  dsimp only at hp
  have hps := hp.ok (by decide) (by decide) (by decide)
  have hml := hm.len
  have hpl := hps.len
  by_cases hnil : p = []
  · have e1 : slv 4 (List.map Ht.v p) = .nilsl := by rw [hnil]; rfl
    have e2 : slrG true 3 (List.map Ht.v p) = [] := by rw [hnil]; rfl
    simp only [go_sem, e1, e2]
    refine callR1n (demandOf_nil w2 m hm) (j0 := 2) (j1 := 3) (by simp only [go_sem, ren, rens, nth, Ct.v, Ct.cs]; rfl) ⟨by rw [bel_ptr]; decide, by rw [ct_bel, bel_sl]; decide, .nilsl, trivial⟩ rfl rfl (by simp only [go_sem]) (by simp only [go_sem]) (by decide)
      (fun a ha => ⟨by simp only [go_sem], by simp only [go_sem]⟩) (by simp) (by simp) ?_
    rintro ⟨y, w3⟩ ⟨-, -⟩
    have q2 := Judge_raw m (by omega) y [] (by simp)
    have p2 := rJudge_raw m (by omega) y [] (by simp)
    generalize judgeR m y [] = J2 at *
    obtain ⟨y1, y2, y3⟩ := J2
    have q3 := Judge_raw m (by omega) x [] (by simp)
    have p3 := rJudge_raw m (by omega) x [] (by simp)
    generalize judgeR m x [] = J3 at *
    obtain ⟨x1, x2, x3⟩ := J3
    simp only [go_sem, Dm.v, Dm.cs]
    refine cF q1 6 ⟨.inl (v0 _), .inl rfl, .inl (l0 _), trivial⟩ ?_
    simp only [go_sem, Ct.v, Ct.cs, Dm.v, Dm.cs]
    refine cF p1 6 ⟨.inl (v0 _), .inl rfl, .inl (l0 _), trivial⟩ ?_
    simp only [go_sem, z0, z1, Ct.v, Ct.cs, Dm.v, Dm.cs]
    refine cF q2 6 ⟨.inl (ct_frz (H := _) rfl), .inl rfl, .inr ⟨rfl, rfl⟩, trivial⟩ ?_
    simp only [go_sem, Ct.v, Ct.cs, Dm.v, Dm.cs]
    refine cF p2 6 ⟨.inl (ct_frz (H := _) rfl), .inl rfl, .inr ⟨rfl, rfl⟩, trivial⟩ ?_
    simp only [go_sem, z0, z1, Ct.v, Ct.cs, Dm.v, Dm.cs]
    refine cF q3 6 ⟨.inl (ct_frz (H := _) rfl), .inl rfl, .inr ⟨rfl, rfl⟩, trivial⟩ ?_
    simp only [go_sem, Ct.v, Ct.cs, Dm.v, Dm.cs]
    refine cF p3 6 ⟨.inl (ct_frz (H := _) rfl), .inl rfl, .inr ⟨rfl, rfl⟩, trivial⟩ ?_
    simp only [go_sem, z0, z1, Ct.v, Ct.cs, Dm.v, Dm.cs]
    refine cP awake_ok ?_
    simp only [go_sem]
  · have hne : List.map Ht.v p ≠ [] := by simpa using hnil
    have e1 : slv 4 (List.map Ht.v p) = .sl 4 0 p.length := by unfold slv; rw [if_neg hne, List.length_map]
    have e2 : slrG true 3 (List.map Ht.v p) = [some (.cells true 3 (List.map Ht.v p))] := by unfold slrG; rw [if_neg hne]
    simp only [go_sem, e1, e2]
    refine callR2n (demandOf_run w2 m hm p hps true hnil) (j0 := 2) (j1 := 3) (j2 := 4) (by simp only [go_sem, ren, rens, nth, Ct.v, Ct.cs]; rfl) ⟨by rw [bel_ptr]; decide, by rw [ct_bel, bel_sl]; decide, by rw [bel_sl]; decide, trivial⟩ rfl rfl rfl (by simp only [go_sem]) (by simp only [go_sem]) (by rw [row_bel_cells]; simp only [go_sem]) (by decide)
      (fun a ha => ⟨by simp only [go_sem], by simp only [go_sem]⟩) (by simp) (by simp) ?_
    rintro ⟨y, w3⟩ ⟨-, -⟩
    have q2 := Judge_raw m (by omega) y p (by omega)
    have p2 := rJudge_raw m (by omega) y p (by omega)
    generalize judgeR m y p = J2 at *
    obtain ⟨y1, y2, y3⟩ := J2
    have q3 := Judge_raw m (by omega) x p (by omega)
    have p3 := rJudge_raw m (by omega) x p (by omega)
    generalize judgeR m x p = J3 at *
    obtain ⟨x1, x2, x3⟩ := J3
    simp only [go_sem, Dm.v, Dm.cs]
    refine cF q1 6 ⟨.inl (v0 _), .inl rfl, .inl (l0 _), trivial⟩ ?_
    simp only [go_sem, Ct.v, Ct.cs, Dm.v, Dm.cs]
    refine cF p1 6 ⟨.inl (v0 _), .inl rfl, .inl (l0 _), trivial⟩ ?_
    simp only [go_sem, z0, z1, Ct.v, Ct.cs, Dm.v, Dm.cs]
    refine cF q2 6 ⟨.inl (ct_frz (H := _) rfl), .inl rfl, .inl (sch_frz (H := _) rfl rfl), trivial⟩ ?_
    simp only [go_sem, Ct.v, Ct.cs, Dm.v, Dm.cs]
    refine cF p2 6 ⟨.inl (ct_frz (H := _) rfl), .inl rfl, .inl (sch_frz (H := _) rfl rfl), trivial⟩ ?_
    simp only [go_sem, z0, z1, Ct.v, Ct.cs, Dm.v, Dm.cs]
    refine cF q3 6 ⟨.inl (ct_frz (H := _) rfl), .inl rfl, .inl (sch_frz (H := _) rfl rfl), trivial⟩ ?_
    simp only [go_sem, Ct.v, Ct.cs, Dm.v, Dm.cs]
    refine cF p3 6 ⟨.inl (ct_frz (H := _) rfl), .inl rfl, .inl (sch_frz (H := _) rfl rfl), trivial⟩ ?_
    simp only [go_sem, z0, z1, Ct.v, Ct.cs, Dm.v, Dm.cs]
    refine cP awake_ok ?_
    simp only [go_sem]
end Go.Proofs
namespace Go.Proofs
open Go Go.Sx
attribute [local irreducible] AT
set_option maxRecDepth 100000
theorem at_demand' {n : Nat} {vs : List AVal} (h : AT Try.prog (n + 2) 68 vs) : ∃ d : Dm, vs = d.cs := by
  obtain ⟨a, _, rfl, ha, b, _, rfl, hb, c, _, rfl, hc, d, _, rfl, hd, e, _, rfl, he, rfl⟩ := at_struct Try.underlying68 h
  obtain ⟨x, rfl, -⟩ := atn_int ha
  obtain ⟨y, rfl, -⟩ := atn_int hb
  obtain ⟨z, rfl, -⟩ := atn_int hc
  obtain ⟨u, rfl, -⟩ := atn_int hd
  obtain ⟨v, rfl, -⟩ := atn_int he
  exact ⟨⟨x, y, z, u, v⟩, rfl⟩
end Go.Proofs
