/- A part of the proof. -/
import Derived.Test.YtigaafcllfjniaaPF
set_option linter.unusedSimpArgs false
set_option linter.unusedVariables false
namespace Go.Proofs
open Go Go.Sx
attribute [local irreducible] Run

theorem beyond_yes {n a b : Int} (h : ¬ (a ≤ n ∧ n ≤ b)) : Ans Try.prog n_ref03_beyond [.int .i64 n, .int .i64 a, .int .i64 b] [] (.bool true) [] := by
  refine spec_run e_ref03_beyond fun G => ?_
  by_cases h1 : n < a
  · simp only [go_sem, h1]
  · have h2 : b < n := by omega
    simp only [go_sem, h1, h2]
theorem rcheckRange_raw (r : Rg) (m : Int) : Ans Try.prog n_ref03_checkRange [r.v, .int .i64 m] [] (.int .i64 (chkR m [r])) [] := by
  unfold chkR chkR
  refine spec_run e_ref03_checkRange fun G => ?_
  simp only [go_sem, Rg.v]
  by_cases c1 : 0 ≤ r.lo ∧ r.lo ≤ m
  rotate_left
  · rw [if_neg c1]
    refine cP (beyond_yes c1) ?_
    simp only [go_sem]
  rw [if_pos c1]
  refine cP (beyond_no c1) ?_
  simp only [go_sem]
  by_cases c2 : 0 ≤ r.hi ∧ r.hi ≤ m
  rotate_left
  · rw [if_neg c2]
    refine cP (beyond_yes c2) ?_
    simp only [go_sem]
  rw [if_pos c2]
  refine cP (beyond_no c2) ?_
  simp only [go_sem]
  refine ⟨fun c3 => ?_, fun c3 => ?_⟩
  · rw [if_pos c3]
  · rw [if_neg c3]
theorem chkR_cons (m : Int) (r : Rg) (rs : List Rg) : chkR m (r :: rs) = if chkR m [r] = 0 then chkR m rs else chkR m [r] := by
  simp only [chkR]
  by_cases c1 : 0 ≤ r.lo ∧ r.lo ≤ m
  · by_cases c2 : 0 ≤ r.hi ∧ r.hi ≤ m
    · by_cases c3 : r.hi < r.lo
      · simp [c1, c2, c3]
      · simp [c1, c2, c3]
    · simp [c1, c2]
  · simp [c1]

theorem rcheckRanges_raw (m : Int) (rs : List Rg) (hl : rs.length ≤ 1000) : Ans Try.prog n_ref03_checkRanges [.view (rs.map Rg.v), .int .i64 m] [] (.int .i64 (chkR m rs)) [] := by
  generalize hRES : chkR m rs = RES
  refine spec_run e_ref03_checkRanges fun G => ?_
  simp only [go_sem]
  refine loop_ind k_ref03_checkRanges_r7.eq_1 (fun a : Nat × Heap => a.1 ≤ rs.length ∧ chkR m (rs.drop a.1) = RES) (fun a => rs.length - a.1)
    (fun a => (tsets 22 [(0, .view (rs.map Rg.v)), (1, .int .i64 m), (5, .int .i64 a.1)], a.2)) (0, []) ⟨Nat.zero_le _, hRES⟩ (by simp [go_sem]) rfl ?_
  rintro ⟨i, X⟩ ⟨hi, hR⟩ ih
  dsimp only at hi hR ih ⊢
  by_cases h1 : i < rs.length
  · have h2 : (i : Int) < rs.length := by omega
    have n0 : ¬ (i : Int) < 0 := by omega
    have hx : rs[i]? = some rs[i] := List.getElem?_eq_getElem h1
    have h3 := idx_next h1 (by omega)
    rw [List.drop_eq_getElem_cons h1, chkR_cons] at hR
    generalize rs[i] = z at *
    have hr := rcheckRange_raw z m
    generalize chkR m [z] = e1 at *
    simp only [go_sem, hx, h2, n0, Rg.v, List.length_map]
    refine cP hr ?_
    by_cases c1 : e1 = 0
    · rw [if_pos c1] at hR
      subst c1
      simp only [go_sem, Int.reduceBNe, h3]
      exact ih (i + 1, _) (by dsimp only; omega) ⟨h1, hR⟩ _ (by simp [go_sem])
    · have b1 : (e1 != 0) = true := by simp [c1]
      rw [if_neg c1] at hR
      subst hR
      simp only [go_sem, b1]
  · have h2 : ¬ (i : Int) < rs.length := by omega
    rw [List.drop_of_length_le (by omega)] at hR
    subst hR
    simp only [go_sem, h2, chkR, List.length_map]

set_option maxHeartbeats 2000000 in
theorem rCheck_raw (c : Ct) (hl : c.bands.length ≤ 1000) : Ans Try.prog n_ref03_Check [c.v (.view (c.bands.map Bd.v))] [] (.int .i64 (chkC c)) [] := by
  have g1 := rcheckRanges_raw 1000000 [c.aid, c.yld] (by simp)
  generalize hRES : chkC c = RES
  unfold chkC at hRES
  refine spec_run e_ref03_Check fun G => ?_
  simp only [go_sem, Ct.v, Ct.cs]
  by_cases c1 : 1 ≤ c.amount ∧ c.amount ≤ 1000000
  rotate_left
  · rw [if_neg c1] at hRES
    subst hRES
    refine cP (beyond_yes c1) ?_
    simp only [go_sem]
  rw [if_pos c1] at hRES
  refine cP (beyond_no c1) ?_
  simp only [go_sem]
  by_cases c2 : 1 ≤ c.slew ∧ c.slew ≤ 2000
  rotate_left
  · rw [if_neg c2] at hRES
    subst hRES
    refine cP (beyond_yes c2) ?_
    simp only [go_sem]
  rw [if_pos c2] at hRES
  refine cP (beyond_no c2) ?_
  simp only [go_sem]
  refine cF g1 6 (by simp only [go_sem, frz, Rg.v]) ?_
  generalize chkR 1000000 [c.aid, c.yld] = e1 at *
  by_cases c3 : e1 = 0
  rotate_left
  · have b3 : (e1 != 0) = true := by simp [c3]
    rw [if_neg c3] at hRES
    subst hRES
    simp only [go_sem, b3]
    done
  rw [if_pos c3] at hRES
  subst c3
  simp only [go_sem, Int.reduceBNe, List.length_map]
  refine ⟨fun k1 => ?_, fun k1 => ⟨fun k2 => ?_, fun k2 => ?_⟩⟩
  · rw [if_pos (by omega)] at hRES; exact hRES
  · rw [if_neg (by omega), if_pos (by omega)] at hRES; exact hRES
  rw [if_neg (by omega), if_neg (by omega)] at hRES
  refine loop_ind k_ref03_Check_r21.eq_1 (fun a : Nat × Heap => a.1 ≤ c.bands.length ∧ chkB (prevF c.bands a.1) (c.bands.drop a.1) = RES) (fun a => c.bands.length - a.1)
    (fun a => (tsets 83 [(1, .ptr 0 0 0 1), (2, .int .i64 0), (4, .int .i64 a.1)], some (.cells false 7 [c.v (.view (c.bands.map Bd.v))]) :: a.2)) (0, [_]) ⟨Nat.zero_le _, hRES⟩ (by simp [go_sem]) rfl ?_
  rintro ⟨i, X⟩ ⟨hi, hR⟩ ih
  dsimp only at hi hR ih ⊢
  by_cases h1 : i < c.bands.length
  · have h2 : (i : Int) < c.bands.length := by omega
    have hx : c.bands[i]? = some c.bands[i] := List.getElem?_eq_getElem h1
    have h3 := idx_next h1 (by omega)
    have n0 : ¬ (i : Int) < 0 := by omega
    have hpn : prevF c.bands (i + 1) = some (c.bands[i]).frm := by
      unfold prevF
      rw [if_neg (by omega), Nat.add_sub_cancel, List.getD_eq_getElem?_getD, hx]; rfl
    have hpi : 0 < i → ∃ b : Bd, c.bands[i - 1]? = some b ∧ prevF c.bands i = some b.frm := fun h0 => by
      refine ⟨_, List.getElem?_eq_getElem (by omega), ?_⟩
      unfold prevF
      rw [if_neg (by omega), List.getD_eq_getElem?_getD, List.getElem?_eq_getElem (by omega)]; rfl
    have hp0 : i = 0 → prevF c.bands i = none := fun h0 => by unfold prevF; rw [if_pos h0]
    rw [List.drop_eq_getElem_cons h1] at hR
    generalize c.bands[i] = b at *
    unfold chkB at hR
    have g2 := rcheckRanges_raw 1000000 [b.conv, b.red, b.evap, b.sint] (by simp)
    generalize chkR 1000000 [b.conv, b.red, b.evap, b.sint] = e2 at *
    simp only [go_sem, hx, h2, n0, Bd.v, Bd.cs, Ct.v, Ct.cs, List.length_map]
    by_cases c4 : 0 ≤ b.frm ∧ b.frm ≤ 2000
    rotate_left
    · rw [if_neg c4] at hR
      subst hR
      refine cP (beyond_yes c4) ?_
      simp only [go_sem]
    rw [if_pos c4] at hR
    refine cP (beyond_no c4) ?_
    by_cases h0 : i = 0
    · have hb : ((i : Int) == 0) = true := by simp [h0]
      have hg2 : ¬ (0 : Int) < i := by omega
      rw [hp0 h0] at hR
      by_cases c5 : b.frm = 0
      · have hb5 : (b.frm != 0) = false := by simp [c5]
        rw [if_pos (by simp [ordB, c5])] at hR
        simp only [go_sem, hb, hg2, hb5]
        refine cF g2 6 (by simp only [go_sem, frz, Rg.v]) ?_
        by_cases c6 : e2 = 0
        · rw [if_pos c6] at hR
          subst c6
          simp only [go_sem, Int.reduceBNe, h3]
          exact ih (i + 1, _) (by dsimp only; omega) ⟨h1, by dsimp only; rw [hpn]; exact hR⟩ _ (by simp [go_sem])
        · have b6 : (e2 != 0) = true := by simp [c6]
          rw [if_neg c6] at hR
          subst hR
          simp only [go_sem, b6]
      · have hb5 : (b.frm != 0) = true := by simp [c5]
        rw [if_neg (by simp [ordB, c5])] at hR
        subst hR
        simp only [go_sem, hb, hb5]
    · obtain ⟨b', hb1, hb2⟩ := hpi (by omega)
      have hb : ((i : Int) == 0) = false := by simp [h0]
      have hg2 : (0 : Int) < i := by omega
      have hg3 : IntKind.i64.wrap ((i : Int) - 1) = ((i - 1 : Nat) : Int) := by rw [w64 (by omega)]; omega
      rw [hb2] at hR
      simp only [go_sem, hb, hg2, hg3, hb1, Bd.v, Bd.cs]
      refine ⟨fun c5 => ?_, fun c5 => ?_⟩
      · have ho : ¬ ordB (some b'.frm) b.frm = true := by simp only [ordB, decide_eq_true_eq]; omega
        rw [if_neg ho] at hR
        exact hR
      · have ho : ordB (some b'.frm) b.frm = true := by simp only [ordB, decide_eq_true_eq]; omega
        rw [if_pos ho] at hR
        refine cF g2 6 (by simp only [go_sem, frz, Rg.v]) ?_
        by_cases c6 : e2 = 0
        · rw [if_pos c6] at hR
          subst c6
          simp only [go_sem, Int.reduceBNe, h3]
          exact ih (i + 1, _) (by dsimp only; omega) ⟨h1, by dsimp only; rw [hpn]; exact hR⟩ _ (by simp [go_sem])
        · have b6 : (e2 != 0) = true := by simp [c6]
          rw [if_neg c6] at hR
          subst hR
          simp only [go_sem, b6]
  · have h2 : ¬ (i : Int) < c.bands.length := by omega
    rw [List.drop_of_length_le (by omega)] at hR
    subst hR
    simp only [go_sem, h2, chkB, List.length_map, Ct.v, Ct.cs]
end Go.Proofs

namespace Go.Proofs
open Go Go.Sx
attribute [local irreducible] Run

def okW (n : Int) : Prop := 0 ≤ n ∧ n ≤ 1099511627776
instance (n : Int) : Decidable (okW n) := inferInstanceAs (Decidable (_ ∧ _))
def chkD (d : Dm) : Int := if okW d.gas then (if okW d.wear then (if okW d.lost then (if okW d.rest then (if okW d.ba then 0 else 2) else 2) else 2) else 2) else 2
def chkCD (c : Ct) (d : Dm) : Int := if chkC c = 0 then chkD d else chkC c

theorem checkDemand_raw (c : Ct) (hl : c.bands.length ≤ 1000) (d : Dm) : Ans Try.prog n_cathode_checkDemand [c.v (.view (c.bands.map Bd.v)), d.v] [] (.int .i64 (chkCD c d)) [] := by
  have g := Check_raw c hl
  have u1 : IntKind.i64.wrap 1 = 1 := rfl
  have u2 : IntKind.i64.wrap 2 = 2 := rfl
  have u3 : IntKind.i64.wrap 3 = 3 := rfl
  have u4 : IntKind.i64.wrap 4 = 4 := rfl
  have u5 : IntKind.i64.wrap 5 = 5 := rfl
  generalize hRES : chkCD c d = RES
  unfold chkCD chkD at hRES
  refine spec_run e_cathode_checkDemand fun G => ?_
  simp only [go_sem, Ct.v, Ct.cs, Dm.v, Dm.cs]
  refine cP g ?_
  generalize chkC c = e0 at *
  by_cases c0 : e0 = 0
  rotate_left
  · have b0 : (e0 != 0) = true := by simp [c0]
    rw [if_neg c0] at hRES
    subst hRES
    simp only [go_sem, b0]
  rw [if_pos c0] at hRES
  subst c0
  simp only [go_sem, Int.reduceBNe]
  refine loop_body 200 k_cathode_checkDemand_r10.eq_1 ?_
  simp only [go_sem]
  by_cases c1 : okW d.gas
  rotate_left
  · rw [if_neg c1] at hRES
    subst hRES
    refine cP (within_no c1) ?_
    simp only [go_sem]
  rw [if_pos c1] at hRES
  refine cP (within_yes c1) ?_
  simp only [go_sem, u1]
  refine loop_body 200 k_cathode_checkDemand_r10.eq_1 ?_
  simp only [go_sem]
  by_cases c2 : okW d.wear
  rotate_left
  · rw [if_neg c2] at hRES
    subst hRES
    refine cP (within_no c2) ?_
    simp only [go_sem]
  rw [if_pos c2] at hRES
  refine cP (within_yes c2) ?_
  simp only [go_sem, u2]
  refine loop_body 200 k_cathode_checkDemand_r10.eq_1 ?_
  simp only [go_sem]
  by_cases c3 : okW d.lost
  rotate_left
  · rw [if_neg c3] at hRES
    subst hRES
    refine cP (within_no c3) ?_
    simp only [go_sem]
  rw [if_pos c3] at hRES
  refine cP (within_yes c3) ?_
  simp only [go_sem, u3]
  refine loop_body 200 k_cathode_checkDemand_r10.eq_1 ?_
  simp only [go_sem]
  by_cases c4 : okW d.rest
  rotate_left
  · rw [if_neg c4] at hRES
    subst hRES
    refine cP (within_no c4) ?_
    simp only [go_sem]
  rw [if_pos c4] at hRES
  refine cP (within_yes c4) ?_
  simp only [go_sem, u4]
  refine loop_body 200 k_cathode_checkDemand_r10.eq_1 ?_
  simp only [go_sem]
  by_cases c5 : okW d.ba
  rotate_left
  · rw [if_neg c5] at hRES
    subst hRES
    refine cP (within_no c5) ?_
    simp only [go_sem]
  rw [if_pos c5] at hRES
  subst hRES
  refine cP (within_yes c5) ?_
  simp only [go_sem, u5]
  refine loop_body 200 k_cathode_checkDemand_r10.eq_1 ?_
  simp only [go_sem]

theorem rcheckDemand_raw (d : Dm) : Ans Try.prog n_ref03_checkDemand [d.v] [] (.int .i64 (chkD d)) [] := by
  have u1 : IntKind.i64.wrap 1 = 1 := rfl
  have u2 : IntKind.i64.wrap 2 = 2 := rfl
  have u3 : IntKind.i64.wrap 3 = 3 := rfl
  have u4 : IntKind.i64.wrap 4 = 4 := rfl
  have u5 : IntKind.i64.wrap 5 = 5 := rfl
  generalize hRES : chkD d = RES
  unfold chkD at hRES
  refine spec_run e_ref03_checkDemand fun G => ?_
  simp only [go_sem, Dm.v, Dm.cs]
  refine loop_body 200 k_ref03_checkDemand_r7.eq_1 ?_
  simp only [go_sem]
  by_cases c1 : okW d.gas
  rotate_left
  · rw [if_neg c1] at hRES
    subst hRES
    refine cP (beyond_yes c1) ?_
    simp only [go_sem]
  rw [if_pos c1] at hRES
  refine cP (beyond_no c1) ?_
  simp only [go_sem, u1]
  refine loop_body 200 k_ref03_checkDemand_r7.eq_1 ?_
  simp only [go_sem]
  by_cases c2 : okW d.wear
  rotate_left
  · rw [if_neg c2] at hRES
    subst hRES
    refine cP (beyond_yes c2) ?_
    simp only [go_sem]
  rw [if_pos c2] at hRES
  refine cP (beyond_no c2) ?_
  simp only [go_sem, u2]
  refine loop_body 200 k_ref03_checkDemand_r7.eq_1 ?_
  simp only [go_sem]
  by_cases c3 : okW d.lost
  rotate_left
  · rw [if_neg c3] at hRES
    subst hRES
    refine cP (beyond_yes c3) ?_
    simp only [go_sem]
  rw [if_pos c3] at hRES
  refine cP (beyond_no c3) ?_
  simp only [go_sem, u3]
  refine loop_body 200 k_ref03_checkDemand_r7.eq_1 ?_
  simp only [go_sem]
  by_cases c4 : okW d.rest
  rotate_left
  · rw [if_neg c4] at hRES
    subst hRES
    refine cP (beyond_yes c4) ?_
    simp only [go_sem]
  rw [if_pos c4] at hRES
  refine cP (beyond_no c4) ?_
  simp only [go_sem, u4]
  refine loop_body 200 k_ref03_checkDemand_r7.eq_1 ?_
  simp only [go_sem]
  by_cases c5 : okW d.ba
  rotate_left
  · rw [if_neg c5] at hRES
    subst hRES
    refine cP (beyond_yes c5) ?_
    simp only [go_sem]
  rw [if_pos c5] at hRES
  refine cP (beyond_no c5) ?_
  simp only [go_sem, u5]
  subst hRES
  refine loop_body 200 k_ref03_checkDemand_r7.eq_1 ?_
  simp only [go_sem]
end Go.Proofs

namespace Go.Proofs
open Go Go.Sx
attribute [local irreducible] Run

theorem bo_bel (bs : List Bo) : (Row.cells true 4 (bs.map Bo.v)).bel (fun _ => False) := by
  rw [row_bel_cells]; exact bels_map _ _ fun b => by simp only [go_sem, Bo.v, Bo.cs]
theorem bo_nv (bs : List Bo) : (Row.cells true 4 (bs.map Bo.v)).nv := row_nv_cells _ _ (nvs_map _ _ fun b => by simp only [go_sem, Bo.v, Bo.cs])
theorem each_val (d : Dm) (x : Cg) : (eachB d x).map Bo.val = [amV x.gas d.gas, amV x.wear d.wear, amV x.lost d.lost] := by simp [eachB, Bo.val]
theorem last_val (d : Dm) (x : Cg) : (lastB d x).map Bo.val = [amV x.carb d.rest, alV x.ba d.ba] := by simp [lastB, Bo.val]

set_option maxRecDepth 20000 in
set_option maxHeartbeats 4000000 in
theorem rjudge_run (c : Ct) (hc : CtOK c) (d : Dm) (l : List Ht) (hl : LsOK l) : Ans Try.prog n_ref03_judge [c.v (.view (c.bands.map Bd.v)), d.v, .view (l.map Ht.v)] [] (.tup [.int .i64 (judgeV c d l).1, .int .i64 (judgeV c d l).2]) [] := by
  have hlen := hl.len
  have hsum := hl.sum
  have hfl := flat_len hl.all
  have hcl := coats_len c (flat l)
  unfold judgeV
  generalize hRES : jgo (lastV d (coatOf c (flat l))) 0 (1, 0) (saids c d (flat l)) = RES
  refine spec_run e_ref03_judge fun G => ?_
  simp only [go_sem, Ct.v, Ct.cs, Dm.v, Dm.cs]
  refine cN1E (rticks_run c hc l hl) (fun a ha => ⟨by rw [bel_sl], by rw [row_bel_cells]; simp only [go_sem]⟩) ?_
  rintro b -
  simp only [go_sem, ren, rens]
  refine loop_ind k_ref03_judge_r15.eq_1 (fun a : Nat × (Int × Int) × Heap => a.1 ≤ (flat l).length + 1 ∧ (a.2.1.1 = 1 ∨ a.2.1.1 = 3) ∧ (a.1 ≤ (flat l).length → jgo (lastV d (coatOf c (flat l))) (a.1 - 1) a.2.1 ((saids c d (flat l)).drop (a.1 - 1)) = RES) ∧ (a.1 = (flat l).length + 1 → a.2.1 = RES)) (fun a => (flat l).length + 1 - a.1)
    (fun a => (tsets 60 [(3, .ptr 0 0 0 1), (4, .ptr 1 0 0 1), (8, .sl 2 0 ((flat l).length + 1)), (9, .int .i64 a.2.1.1), (10, .int .i64 a.2.1.2), (11, .int .i64 a.1)],
      [some (.cells false 7 [c.v (.view (c.bands.map Bd.v))]), some (.cells false 5 [d.v]), some (.cells b 13 ((coats c (flat l)).map Cg.v))] ++ a.2.2)) (0, (1, 0), []) ⟨Nat.zero_le _, .inl rfl, fun _ => hRES, fun h => by simp at h⟩ (by simp [go_sem, hcl]) rfl ?_
  rintro ⟨i, ⟨v, t⟩, X⟩ ⟨hi, hv, hR, hE⟩ ih
  dsimp only at hi hv hR hE ih ⊢
  by_cases h1 : i < (flat l).length + 1
  · have h2 : (i : Int) < (((flat l).length + 1 : Nat) : Int) := by omega
    have n0 : ¬ (i : Int) < 0 := by omega
    have hget := coats_get (c := c) (show i ≤ (flat l).length by omega)
    have h3 := idx_next h1 (by omega)
    have hw1 : IntKind.i64.wrap ((((flat l).length + 1 : Nat) : Int) - 1) = ((flat l).length : Int) := by rw [w64 (by omega)]; omega
    have hall0 : ∀ y ∈ (flat l).take i, HtOK y := fun y hy => hl.all _ (flat_mem (List.mem_of_mem_take hy))
    have hg := (coatOf_good hc hall0 (by simp; omega)).ok
    generalize hx : coatOf c ((flat l).take i) = x at *
    have hrE : ∀ b ∈ eachB d x, b.r.lo ≤ b.r.hi := fun b hb => by
      simp only [eachB, List.mem_cons, List.not_mem_nil, or_false] at hb
      rcases hb with rfl | rfl | rfl
      · exact hg.gas.le
      · exact hg.wear.le
      · exact hg.lost.le
    have hrL : ∀ b ∈ lastB d x, b.r.lo ≤ b.r.hi := fun b hb => by
      simp only [lastB, List.mem_cons, List.not_mem_nil, or_false] at hb
      rcases hb with rfl | rfl
      · exact hg.carb.le
      · exact hg.ba.le
    have hE3 : bgo i (v, t) ((eachB d x).map Bo.val) = (noted (v, t) (eachV d x) i, eachV d x == 2) := by
      rw [each_val]; exact bgo3 _ _ (amV_in _ _) (amV_in _ _) (amV_in _ _)
    have hL2 : ∀ st, (bgo i st ((lastB d x).map Bo.val)).1 = noted st (lastV d x) i := fun st => by
      rw [last_val]; exact bgo2 _ _ (amV_in _ _) (alV_in _ _)
    have hRi : 0 < i → (if eachV d x = 2 then noted (v, t) (eachV d x) i else jgo (lastV d (coatOf c (flat l))) i (noted (v, t) (eachV d x) i) ((saids c d (flat l)).drop i)) = RES := fun h0 => by
      have h := hR (by omega)
      rw [saids_drop (by omega), show i - 1 + 1 = i by omega, hx] at h
      simp only [jgo] at h
      rw [show i - 1 + 1 = i by omega] at h
      exact h
    have hlx : i = (flat l).length → coatOf c (flat l) = x := fun h => by
      rw [← hx, h, List.take_length]
    clear hx
    by_cases i0 : i = 0
    · have z0 : ¬ (0 : Int) < i := by omega
      by_cases hn : (flat l).length = 0
      · have z1 : ((i : Int) == (flat l).length) = true := by simp; omega
        have hst : noted (v, t) (lastV d x) i = RES := by
          have h := hR (by omega)
          rw [List.drop_of_length_le (by rw [saids_len]; omega)] at h
          simp only [jgo] at h
          rw [hlx (by omega), show i - 1 = i by omega] at h
          exact h
        have hb := hL2 (v, t)
        simp only [go_sem, hcl, h2, n0, hget, hw1, z0, z1, List.length_map, Dm.v, Dm.cs, Cg.v, Cg.cs]
        refine cFN (bounds_ft d x) 6 ⟨.inl rfl, .inl rfl, .inl rfl, .inl rfl, trivial⟩ ?_ (hx := bo_bel _) (hxn := bo_nv _)
        simp only [go_sem, ren, rens]
        refine bd_loop (bs := lastB d x) (v := v) (t := t) (i := i) (n := (flat l).length + 1) (j := X.length + 3) (by simp only [cellsAt_succ]; exact cells_end _ _ _ _) (by simp [lastB]) hrL hv ?_ ?_ (by simp [go_sem, rjT, lastB])
        · intro u s p b' hb'
          simp only [go_sem, Bo.v, Bo.cs]
          rw [hb'] at hb
          rw [← hst, ← hb]
        · intro u s hu hb'
          simp only [go_sem, rjT, h3]
          rw [hb'] at hb
          exact ih (i + 1, (u, s), _) (by dsimp only; omega) ⟨h1, hu, fun h => by dsimp only at h; omega, fun _ => by dsimp only; rw [← hst, ← hb]⟩ _ (by simp [go_sem])
      · have z1 : ((i : Int) == (flat l).length) = false := by simp; omega
        simp only [go_sem, hcl, h2, n0, hget, hw1, z0, z1, List.length_map, Dm.v, Dm.cs, Cg.v, Cg.cs]
        refine cP (bounds_ff d x) ?_
        simp only [go_sem]
        refine loop_body 200 k_ref03_judge_r13.eq_1 ?_
        simp only [go_sem, h3]
        exact ih (i + 1, (v, t), _) (by dsimp only; omega) ⟨h1, hv, fun _ => by have := hR (by omega); rw [show i - 1 = i by omega] at this; exact this, fun h => by dsimp only at h; omega⟩ _ (by simp [go_sem])
    · have z0 : (0 : Int) < i := by omega
      have hRi := hRi (by omega)
      by_cases hin : i = (flat l).length
      · have z1 : ((i : Int) == (flat l).length) = true := by simp; omega
        have hb := hL2 (noted (v, t) (eachV d x) i)
        rw [List.drop_of_length_le (by rw [saids_len]; omega), hlx hin] at hRi
        simp only [jgo] at hRi
        have hap := bgo_app i ((eachB d x).map Bo.val) ((lastB d x).map Bo.val) (v, t)
        rw [hE3, ← List.map_append] at hap
        dsimp only at hap
        have hev : eachV d x = 2 → noted (v, t) (eachV d x) i = (2, (i : Int)) := fun h => by rw [h]; simp [noted]
        generalize eachV d x = ev at *
        generalize hnt : noted (v, t) ev i = nt at *
        have hrB : ∀ b ∈ eachB d x ++ lastB d x, b.r.lo ≤ b.r.hi := fun b hb => (List.mem_append.1 hb).elim (hrE b) (hrL b)
        simp only [go_sem, hcl, h2, n0, hget, hw1, z0, z1, List.length_map, Dm.v, Dm.cs, Cg.v, Cg.cs]
        refine cFN (bounds_tt d x) 6 ⟨.inl rfl, .inl rfl, .inl rfl, .inl rfl, trivial⟩ ?_ (hx := bo_bel _) (hxn := bo_nv _)
        simp only [go_sem, ren, rens]
        refine bd_loop (bs := eachB d x ++ lastB d x) (v := v) (t := t) (i := i) (n := (flat l).length + 1) (j := X.length + 3) (by simp only [cellsAt_succ]; exact cells_end _ _ _ _) (by simp [eachB, lastB]) hrB hv ?_ ?_ (by simp [go_sem, rjT, eachB, lastB])
        · intro u s p b' hb'
          simp only [go_sem, Bo.v, Bo.cs]
          rw [hb'] at hap
          by_cases e2 : ev = 2
          · rw [if_pos e2, hev e2] at hRi
            rw [← hRi]
          · rw [if_neg e2] at hRi
            rw [if_neg (by simp [e2])] at hap
            rw [← hap] at hb
            rw [← hRi, ← hb]
        · intro u s hu hb'
          simp only [go_sem, rjT, h3]
          rw [hb'] at hap
          by_cases e2 : ev = 2
          · rw [if_pos (by simp [e2])] at hap
            simp [e2] at hap
          · rw [if_neg e2] at hRi
            rw [if_neg (by simp [e2])] at hap
            rw [← hap] at hb
            exact ih (i + 1, (u, s), _) (by dsimp only; omega) ⟨h1, hu, fun h => by dsimp only at h; omega, fun _ => by dsimp only; rw [← hRi, ← hb]⟩ _ (by simp [go_sem])
      · have z1 : ((i : Int) == (flat l).length) = false := by simp; omega
        have hev : eachV d x = 2 → noted (v, t) (eachV d x) i = (2, (i : Int)) := fun h => by rw [h]; simp [noted]
        generalize eachV d x = ev at *
        generalize hnt : noted (v, t) ev i = nt at *
        simp only [go_sem, hcl, h2, n0, hget, hw1, z0, z1, List.length_map, Dm.v, Dm.cs, Cg.v, Cg.cs]
        refine cFN (bounds_tf d x) 6 ⟨.inl rfl, .inl rfl, .inl rfl, .inl rfl, trivial⟩ ?_ (hx := bo_bel _) (hxn := bo_nv _)
        simp only [go_sem, ren, rens]
        refine bd_loop (bs := eachB d x) (v := v) (t := t) (i := i) (n := (flat l).length + 1) (j := X.length + 3) (by simp only [cellsAt_succ]; exact cells_end _ _ _ _) (by simp [eachB]) hrE hv ?_ ?_ (by simp [go_sem, rjT, eachB])
        · intro u s p b' hb'
          simp only [go_sem, Bo.v, Bo.cs]
          rw [hE3] at hb'
          have e2 : ev = 2 := by simpa using congrArg Prod.snd hb'
          rw [if_pos e2, hev e2] at hRi
          rw [← hRi]
        · intro u s hu hb'
          simp only [go_sem, rjT, h3]
          rw [hE3] at hb'
          have e2 : ¬ ev = 2 := by simpa using congrArg Prod.snd hb'
          have e3 : nt = (u, s) := congrArg Prod.fst hb'
          rw [if_neg e2, e3] at hRi
          exact ih (i + 1, (u, s), _) (by dsimp only; omega) ⟨h1, hu, fun _ => hRi, fun h => by dsimp only at h; omega⟩ _ (by simp [go_sem])
  · have h2 : ¬ (i : Int) < (((flat l).length + 1 : Nat) : Int) := by omega
    have e := hE (by omega)
    simp only [go_sem, hcl, h2, List.length_map]
    rw [← e]
end Go.Proofs

namespace Go.Proofs
open Go Go.Sx
attribute [local irreducible] Run

def srT (menu : List Ht) (m : Nat) (v : AVal) (t : Int) (s j n i : Nat) : List (Nat × AVal) := [(2, .view (menu.map Ht.v)), (3, .int .i64 m), (4, .ptr 0 0 0 1), (5, .ptr 1 0 0 1), (14, v), (15, .int .i64 t), (16, .int .i64 s), (17, .sl j 0 n), (18, .int .i64 i)]

set_option maxRecDepth 20000 in
set_option maxHeartbeats 4000000 in
theorem k_loop {G : Ctx} {Q : Goal} {fs : List Sx.Frame} {H : Heap} {M : List Ht} {m : Nat} {v : AVal} {t : Int} {s j i q : Nat} {g : Bool} {vs : List AVal} {L : List Int} (hlM : LsOK M) (hM : 1 ≤ M.length ∧ M.length ≤ 4) (hMt : ∀ z ∈ M, z.ticks ≤ 100)
    (hH : H.cellsAt j = some (g, 1, vs)) (hvi : vs[i]? = some (.sl q 0 L.length)) (hq : H.cellsAt q = some (true, 1, ivs L)) (hs : 1 ≤ s ∧ s ≤ 5) (hL : L.length = s) (hin : ∀ x ∈ L, 0 ≤ x ∧ x < M.length)
    (hK : ∀ g1 Y, Run Try.prog G 0 none 2987 (.out .normal) fs ⟨tsets 113 (srT M m v t s j vs.length i ++ [(19, .sl (H.length + 1) 0 s), (20, .int .i64 (lenOfL (pick M L))), (21, .int .i64 s), (55, .int .i64 s), (56, .int .i64 s), (57, .bool false)]), H ++ ([some g1, some (.cells true 3 ((pick M L).map Ht.v))] ++ Y), []⟩ Q)
    {ρ : List AVal} (hρ : Wk ρ (tsets 113 (srT M m v t s j vs.length i ++ [(19, .nilsl), (20, .int .i64 0), (21, .int .i64 0)]))) :
    Sx.Loop Try.prog G 0 none k_ref03_Shortest_r24 (.blk 4 :: fs) ⟨ρ, H, []⟩ Q := by
  have hHa := fun Y => cells_more hH Y
  have hqa := fun Y => cells_more hq Y
  have hi : i < vs.length := (List.getElem?_eq_some_iff.1 hvi).1
  have hi0 : ¬ (i : Int) < 0 := by omega
  have hi1 : (i : Int) < vs.length := by omega
  have hdg : ∀ k, k < s → ∃ (dg : Nat) (z : Ht), L[k]? = some (dg : Int) ∧ M[dg]? = some z ∧ (dg : Int) < M.length := fun k hk => by
    have hx : L[k]? = some L[k] := List.getElem?_eq_getElem (by omega)
    have h := hin _ (List.getElem_mem (show k < L.length by omega))
    obtain ⟨dg, e⟩ : ∃ dg : Nat, L[k] = (dg : Int) := ⟨L[k].toNat, by omega⟩
    rw [e] at hx h
    have h1 : dg < M.length := by omega
    exact ⟨dg, M[dg], hx, List.getElem?_eq_getElem h1, by omega⟩
  have hget : ∀ k dg : Nat, L[k]? = some (dg : Int) → (ivs L)[k]? = some (.int .i64 dg) := fun k dg h => by
    unfold ivs; rw [List.getElem?_map, h]; rfl
  refine loop_wk hρ ?_
  refine loop_body 2000 k_ref03_Shortest_r24.eq_1 ?_
  obtain ⟨dg, z, d0, d2, d3⟩ := hdg 0 (by omega)
  have hz := hlM.all z (List.mem_of_getElem? d2)
  have hztk := hz.ticks
  have d1 := hget 0 dg d0
  have s0 : (0 : Int) < s := by omega
  have sL : (0 : Int) < L.length := by omega
  have n1 : ¬ (dg : Int) < 0 := by omega
  have p1 : pick M (L.take 1) = [z] := by rw [pick_snoc d0 d2]; simp [pick]
  have w1 : IntKind.i64.wrap (0 + z.ticks) = lenOfL (pick M (L.take 1)) := by rw [p1, w64 (by omega)]; simp [lenOfL]
  have q1 : IntKind.i64.wrap 1 = 1 := rfl
  simp only [go_sem, srT, hH, hHa, hq, hqa, hvi, hi0, hi1, s0, sL, n1, d1, d2, d3, ivs_len, List.length_map, Ht.v, Ht.cs, w1, q1]
  refine ⟨by decide, ?_⟩
  refine loop_ind k_ref03_Shortest_r24.eq_1 (fun a : Nat × Row × Heap => 1 ≤ a.1 ∧ a.1 ≤ s) (fun a => s - a.1)
    (fun a => (tsets 113 (srT M m v t s j vs.length i ++ [(19, .sl (H.length + 1) 0 a.1), (20, .int .i64 (lenOfL (pick M (L.take a.1)))), (21, .int .i64 a.1)]),
      H ++ ([some a.2.1, some (.cells true 3 ((pick M (L.take a.1)).map Ht.v))] ++ a.2.2))) (1, .cells false 3 [z.v], []) ⟨Nat.le_refl _, hs.1⟩ (by simp [go_sem, srT]) (by dsimp only; rw [p1]; simp [Ht.v, Ht.cs]) ?_
  clear p1 n1 d1 d2 d3 d0 w1 hz hztk s0 sL
  clear z dg
  rintro ⟨k, g1, Y⟩ ⟨hj1, hj2⟩ ih
  dsimp only at hj1 hj2 ih ⊢
  by_cases h1 : k < s
  · obtain ⟨dg, z, d0, d2, d3⟩ := hdg k h1
    have hz := hlM.all z (List.mem_of_getElem? d2)
    have hzt := hMt z (List.mem_of_getElem? d2)
    have hztk := hz.ticks
    have d1 := hget k dg d0
    have s0 : (k : Int) < s := by omega
    have sL : (k : Int) < L.length := by omega
    have k0 : ¬ (k : Int) < 0 := by omega
    have n1 : ¬ (dg : Int) < 0 := by omega
    have h3 := idx_next h1 (by omega)
    have p1 : pick M (L.take (k + 1)) = pick M (L.take k) ++ [z] := pick_snoc d0 d2
    have hpo := pick_ok hlM hMt (fun x hx => hin x (List.mem_of_mem_take hx)) (by simp; omega : (L.take k).length ≤ 5)
    have hlo := hpo.sum
    have hlo2 := lenOf_nonneg _ hpo.all
    have hpl : (pick M (L.take k)).length = k := by rw [pick_len]; simp; omega
    have w1 : IntKind.i64.wrap (lenOfL (pick M (L.take k)) + z.ticks) = lenOfL (pick M (L.take (k + 1))) := by rw [p1, lenOf_snoc, w64 (by omega)]
    simp only [go_sem, srT, hHa, hqa, hvi, hi0, hi1, s0, sL, k0, n1, d1, d2, d3, ivs_len, List.length_map, Ht.v, Ht.cs, w1, h3, cellsAt_add, hpl, hts_snoc, ← p1]
    exact ⟨by omega, ih (k + 1, g1, Y ++ [_]) (by dsimp only; omega) ⟨by dsimp only; omega, h1⟩ _ (by simp [go_sem, srT])⟩
  · have h2 : k = s := by omega
    subst h2
    have s1 : ¬ (k : Int) < k := by omega
    have hLt : L.take k = L := List.take_of_length_le (by omega)
    have h := hK g1 Y
    simp only [go_sem, srT] at h
    simp only [go_sem, srT, s1, hLt]
    exact h

def BsOK (H : Heap) (b : Option (List Int × Int)) (v : AVal) (t : Int) : Prop :=
  match b with
  | none => v = .nilsl ∧ t = 0
  | some (l, n) => t = n ∧ 0 < l.length ∧ ∃ q, v = .sl q 0 l.length ∧ H[q]? = some (some (.cells true 1 (ivs l)))
theorem BsOK.app {H : Heap} {b : Option (List Int × Int)} {v : AVal} {t : Int} (h : BsOK H b v t) (Y : Heap) : BsOK (H ++ Y) b v t := by
  rcases b with _ | ⟨l, n⟩
  · exact h
  · obtain ⟨h0, h1, q, h2, h3⟩ := h
    exact ⟨h0, h1, q, h2, by rw [List.getElem?_append_left (List.getElem?_eq_some_iff.1 h3).1]; exact h3⟩

set_option maxRecDepth 20000 in
set_option maxHeartbeats 8000000 in
theorem sh_inner {G : Ctx} {Q : Goal} {fs : List Sx.Frame} {H : Heap} {M : List Ht} {c : Ct} (hc : CtOK c) {d : Dm} {m : Nat} {b0 : Option (List Int × Int)} {v : AVal} {t : Int} {s j : Nat} {g : Bool} {vs : List AVal} {L : List (List Int)} (hlM : LsOK M) (hM : 1 ≤ M.length ∧ M.length ≤ 4) (hMt : ∀ z ∈ M, z.ticks ≤ 100)
    (hr0 : H.cellsAt 0 = some (false, 7, [c.v (.view (c.bands.map Bd.v))])) (hr1 : H.cellsAt 1 = some (false, 5, [d.v]))
    (hH : H.cellsAt j = some (g, 1, vs)) (hvs : Sls H vs L) (hs : 1 ≤ s ∧ s ≤ 5) (hLs : ∀ l ∈ L, l.length = s ∧ ∀ x ∈ l, 0 ≤ x ∧ x < M.length) (hLl : L.length ≤ 100000) (hb : BsOK H b0 v t)
    (hK : ∀ H' v' t', (∃ Y, H' = H ++ Y) → BsOK H' (L.foldl (better c d M) b0) v' t' → Run Try.prog G 0 none 2986 (.out .normal) fs ⟨tsets 113 (srT M m v' t' s j L.length L.length ++ [(49, .int .i64 L.length), (50, .sl j 0 L.length), (51, .int .i64 L.length), (52, .bool false)]), H', []⟩ Q)
    {ρ : List AVal} (hρ : Wk ρ (tsets 113 (srT M m v t s j L.length 0))) :
    Sx.Loop Try.prog G 0 none k_ref03_Shortest_r30 (.blk 2 :: fs) ⟨ρ, H, []⟩ Q := by
  have hvl := hvs.len
  refine loop_ind k_ref03_Shortest_r30.eq_1 (fun a : Nat × AVal × Int × Heap => a.1 ≤ L.length ∧ BsOK (H ++ a.2.2.2) ((L.take a.1).foldl (better c d M) b0) a.2.1 a.2.2.1) (fun a => L.length - a.1)
    (fun a => (tsets 113 (srT M m a.2.1 a.2.2.1 s j L.length a.1), H ++ a.2.2.2)) (0, v, t, []) ⟨Nat.zero_le _, by simpa using hb⟩ hρ (by simp) ?_
  rintro ⟨i, u, e, X⟩ ⟨hi, hB⟩ ih
  dsimp only at hi hB ih ⊢
  have hHa := fun Y => cells_more hH Y
  have hr0a := fun Y => cells_more hr0 Y
  have hr1a := fun Y => cells_more hr1 Y
  by_cases h1 : i < L.length
  · have h2 : (i : Int) < L.length := by omega
    have h3 := idx_next h1 (by omega)
    have hx : L[i]? = some L[i] := List.getElem?_eq_getElem h1
    obtain ⟨hls, hlin⟩ := hLs _ (List.getElem_mem h1)
    obtain ⟨w, hw, hsw⟩ := hvs.get i _ hx
    have htk : (L.take (i + 1)).foldl (better c d M) b0 = better c d M ((L.take i).foldl (better c d M) b0) L[i] := by
      rw [List.take_add_one, hx, List.foldl_append]; rfl
    have hih := fun u' e' X' (hB' : BsOK (H ++ X') (better c d M ((L.take i).foldl (better c d M) b0) L[i]) u' e') => ih (i + 1, u', e', X') (by dsimp only; omega) ⟨h1, by dsimp only; rw [htk]; exact hB'⟩
    clear ih htk
    dsimp only at hih
    generalize (L.take i).foldl (better c d M) b0 = B at *
    generalize L[i] = l at *
    rcases hsw with ⟨rfl, rfl⟩ | ⟨q, rfl, hq⟩
    · simp at hls; omega
    have hqa := fun Y => cells_more (cells_at hq) Y
    have hpo := pick_ok hlM hMt hlin (by omega)
    have hpl := pick_len M l
    have hju := rjudge_run c hc d (pick M l) hpo
    simp only [go_sem, srT, h2, hHa, hvl]
    refine k_loop (m := m) (v := u) (t := e) (s := s) (j := j) (i := i) (q := q) (g := g) (vs := vs) hlM hM hMt (hHa X) hw (hqa X) hs hls hlin ?_ (by simp [go_sem, srT, hvl])
    intro g1 Y
    have hsc : ∀ R : Row, (H ++ (X ++ (some g1 :: some R :: Y)))[H.length + X.length + 1]? = some (some R) := fun R => by
      rw [List.getElem?_append_right (by omega), List.getElem?_append_right (by omega), show H.length + X.length + 1 - H.length - X.length = 1 by omega]; rfl
    have v0 : ∀ (H : Heap), frz 6 H (c.v (.view (c.bands.map Bd.v))) = c.v (.view (c.bands.map Bd.v)) := fun H => by simp only [go_sem, frz, bds_frz, Ct.v, Ct.cs]
    have hq' : ∀ Z : Heap, (H ++ Z)[q]? = some (some (.cells true 1 (ivs l))) := fun Z => by rw [List.getElem?_append_left (List.getElem?_eq_some_iff.1 hq).1]; exact hq
    have hBa := hB.app (some g1 :: some (.cells true 3 ((pick M l).map Ht.v)) :: Y)
    rw [List.append_assoc] at hBa
    generalize hjv : judgeV c d (pick M l) = J at *
    obtain ⟨jv, jt⟩ := J
    dsimp only at hju
    rcases B with _ | ⟨k, e0⟩
    · obtain ⟨rfl, rfl⟩ := hB
      simp only [go_sem, srT, hr0a, hr1a, Ct.v, Ct.cs, Dm.v, Dm.cs]
      refine cF hju 6 ⟨.inl (v0 _), .inl rfl, .inl (sch_frz (H := _) (hsc _) (by rw [hpl, hls])), trivial⟩ ?_
      simp only [go_sem]
      simp only [go_sem, h2, h3, hHa, hvl, hw]
      refine ⟨fun hj1 => ?_, fun hj1 => ?_⟩
      · exact hih _ _ _ (by simp only [better, hjv]; rw [if_pos hj1]; exact ⟨rfl, by omega, q, rfl, hq' _⟩) _ (by simp [go_sem, srT])
      · exact hih _ _ _ (by simp only [better, hjv]; rw [if_neg hj1]; exact ⟨rfl, rfl⟩) _ (by simp [go_sem, srT])
    · obtain ⟨rfl, hk0, qk, rfl, hqk⟩ := hB
      have hqka : ∀ Z : Heap, (H ++ (X ++ Z)).cellsAt qk = some (true, 1, ivs k) := fun Z => by rw [← List.append_assoc]; exact cells_more (cells_at hqk) Z
      have hk1 : (0 : Int) < k.length := by omega
      simp only [go_sem, srT, hqka, ivs_len, hk1]
      by_cases hle : e ≤ lenOfL (pick M l)
      · simp only [go_sem, hle, h3]
        exact hih _ _ _ (by simp only [better]; rw [if_pos hle]; exact hBa) _ (by simp [go_sem, srT, hvl])
      · simp only [go_sem, hle, hr0a, hr1a, Ct.v, Ct.cs, Dm.v, Dm.cs]
        refine cF hju 6 ⟨.inl (v0 _), .inl rfl, .inl (sch_frz (H := _) (hsc _) (by rw [hpl, hls])), trivial⟩ ?_
        simp only [go_sem, h2, h3, hHa, hvl, hw]
        refine ⟨fun hj1 => ?_, fun hj1 => ?_⟩
        · exact hih _ _ _ (by simp only [better, hjv]; rw [if_neg hle, if_pos hj1]; exact ⟨rfl, by omega, q, rfl, hq' _⟩) _ (by simp [go_sem, srT])
        · exact hih _ _ _ (by simp only [better, hjv]; rw [if_neg hle, if_neg hj1]; exact hBa) _ (by simp [go_sem, srT])
  · have h2 : ¬ (i : Int) < L.length := by omega
    obtain rfl : i = L.length := by omega
    rw [List.take_length] at hB
    have h := hK _ u e ⟨X, rfl⟩ hB
    simp only [go_sem, srT] at h
    simp only [go_sem, srT, h2, hHa, hvl]
    exact h
end Go.Proofs

namespace Go.Proofs
open Go Go.Sx
attribute [local irreducible] Run

theorem rCheckDemand_ok {d : Dm} (h : chkD d = 0) : Ans Try.prog n_ref03_checkDemand [d.v] [] (.int .i64 0) [] := by
  have := rcheckDemand_raw d
  rwa [h] at this

set_option maxRecDepth 20000 in
set_option maxHeartbeats 8000000 in
theorem rShortest_run (c : Ct) (hc : CtOK c) (d : Dm) (hd : chkD d = 0) (menu : List Ht) (hl : LsOK menu) (h0 : 1 ≤ menu.length ∧ menu.length ≤ 4) (ht : ∀ z ∈ menu, z.ticks ≤ 100) (m : Nat) (hm : 1 ≤ m ∧ m ≤ 5)
    (hcm : Ans Try.prog n_ref03_checkMenu [.view (menu.map Ht.v), .int .i64 m] [] (.int .i64 0) []) :
    Ans Try.prog n_ref03_Shortest [c.v (.view (c.bands.map Bd.v)), d.v, .view (menu.map Ht.v), .int .i64 m] [] (shR (prevB c d menu m)) (shP (prevB c d menu m)) := by
  have h : Go.Sx.Fn Try.prog n_ref03_Shortest [c.v (.view (c.bands.map Bd.v)), d.v, .view (menu.map Ht.v), .int .i64 m] [] fun v H' => ∃ σ, Kept [] (shP (prevB c d menu m)) (shR (prevB c d menu m)) v H' σ := by
    generalize hRES : prevB c d menu m = RES
    refine run_fn e_ref03_Shortest fun G => ?_
    simp only [go_sem, Ct.v, Ct.cs, Dm.v, Dm.cs]
    refine cP (rCheck_run c hc) ?_
    simp only [go_sem, Dm.v, Dm.cs]
    refine cP (rCheckDemand_ok hd) ?_
    simp only [go_sem]
    refine cP hcm ?_ ⟨by rw [bel_view]; exact bels_map _ _ fun h => by simp only [go_sem, Ht.v, Ht.cs], .int _ _, trivial⟩
    simp only [go_sem]
    refine loop_ind k_ref03_Shortest_r32.eq_1 (fun a : Nat × AVal × Int × Heap => 1 ≤ a.1 ∧ a.1 ≤ m + 1 ∧ BsOK ([some (.cells false 7 [c.v (.view (c.bands.map Bd.v))]), some (.cells false 5 [d.v])] ++ a.2.2.2) (prevB c d menu (a.1 - 1)) a.2.1 a.2.2.1) (fun a => m + 1 - a.1)
      (fun a => (tsets 113 [(2, .view (menu.map Ht.v)), (3, .int .i64 m), (4, .ptr 0 0 0 1), (5, .ptr 1 0 0 1), (14, a.2.1), (15, .int .i64 a.2.2.1), (16, .int .i64 a.1)], [some (.cells false 7 [c.v (.view (c.bands.map Bd.v))]), some (.cells false 5 [d.v])] ++ a.2.2.2)) (1, .nilsl, 0, []) ⟨Nat.le_refl _, by dsimp only; omega, ⟨rfl, rfl⟩⟩ (by simp [go_sem]) rfl ?_
    rintro ⟨s, v, t, X⟩ ⟨hs1, hs2, hB⟩ ih
    dsimp only at hs1 hs2 hB ih ⊢
    by_cases k1 : s < m + 1
    · have k2 : (s : Int) ≤ m := by omega
      have k3 := idx_next k1 (by omega)
      have hrl := rlists_run menu.length h0 s (by omega)
      simp only [go_sem, k2, List.length_map]
      refine callX hrl ⟨.int _ _, .int _ _, trivial⟩ (fun a ha => ⟨ha.wf, by rw [bel_sl]; exact (List.getElem?_eq_some_iff.1 ha.row).1⟩) (by simp) (by simp) ?_
      rintro ⟨Z, j, g, vs⟩ ⟨h1, h2, h3⟩
      dsimp only at h1 h2 h3
      generalize hH1 : (some (Row.cells false 7 [c.v (.view (c.bands.map Bd.v))]) :: some (Row.cells false 5 [d.v]) :: X : Heap) = H1
      have hB1 : BsOK H1 (prevB c d menu (s - 1)) v t := by rw [← hH1]; exact hB
      have hr0 : Heap.cellsAt H1 0 = some (false, 7, [c.v (.view (c.bands.map Bd.v))]) := by rw [← hH1]; rfl
      have hr1 : Heap.cellsAt H1 1 = some (false, 5, [d.v]) := by rw [← hH1]; rfl
      have hrow := renH_get (H := H1) rfl h2
      simp only [Row.ren, rens_eq] at hrow
      have hsl := h3.map (H' := H1 ++ renH H1.length Z) _ fun v l hv => SlI.ren (H := H1) hv
      have hll := LS_len menu.length s
      have hp1 : menu.length ^ s ≤ 4 ^ s := Nat.pow_le_pow_left h0.2 _
      have hp2 : 4 ^ s ≤ 4 ^ 5 := Nat.pow_le_pow_right (by decide) (by omega)
      have hfold : (LS menu.length s).foldl (better c d menu) (prevB c d menu (s - 1)) = prevB c d menu s := by
        obtain ⟨k, rfl⟩ : ∃ k, s = k + 1 := ⟨s - 1, by omega⟩
        rw [Nat.add_sub_cancel]
        exact (prevB_LS c d menu (by omega) k).symm
      simp only [go_sem, Sx.ren]
      refine sh_inner (m := m) hc hl h0 ht (cells_more hr0 _) (cells_more hr1 _) (cells_at hrow) hsl ⟨hs1, by omega⟩ (fun l hl => ⟨LS_mem _ _ l hl, LS_in _ _ l hl⟩) (by omega) (hB1.app _) ?_ (by simp [go_sem, srT])
      rintro H' v' t' ⟨Y, rfl⟩ hB'
      rw [hfold] at hB'
      simp only [go_sem, srT, k3]
      have e : H1 ++ renH H1.length Z ++ Y = [some (.cells false 7 [c.v (.view (c.bands.map Bd.v))]), some (.cells false 5 [d.v])] ++ (X ++ (renH H1.length Z ++ Y)) := by rw [← hH1]; simp
      rw [e] at hB'
      rw [← List.append_assoc, e]
      exact ih (s + 1, v', t', _) (by dsimp only; omega) ⟨by dsimp only; omega, by dsimp only; omega, hB'⟩ _ (by simp [go_sem])
    · have k2 : ¬ (s : Int) ≤ m := by omega
      obtain rfl : s = m + 1 := by omega
      rw [Nat.add_sub_cancel, hRES] at hB
      rcases RES with _ | ⟨l, n⟩
      · obtain ⟨rfl, rfl⟩ := hB
        simp only [go_sem, k2]
        exact kept_id rfl (by simp only [go_sem, shR]) (by simp [shP])
      · obtain ⟨rfl, hl0, q, rfl, hq⟩ := hB
        have hl1 : ((l.length : Int) == 0) = false := by rw [beq_eq_false_iff_ne]; omega
        have hqc : Heap.cellsAt (some (Row.cells false 7 [c.v (.view (c.bands.map Bd.v))]) :: some (Row.cells false 5 [d.v]) :: X) q = some (true, 1, ivs l) := cells_at hq
        simp only [go_sem, k2, hqc, ivs_len, hl1]
        exact kept_one q (by simp [shR, Sx.ren, rens]) (ivs_row _ _ _) hq
  generalize prevB c d menu m = RES at *
  refine Ans.keep h (Nat.zero_le _) ?_ ?_
  · rcases RES with _ | ⟨l, n⟩
    · simp only [shR, go_sem]
    · simp [shR, shP, go_sem]
  · rcases RES with _ | ⟨l, n⟩
    · trivial
    · exact ⟨ivs_row _ _ _, trivial⟩
end Go.Proofs

namespace Go.Proofs
open Go Go.Sx
attribute [local irreducible] Run

end Go.Proofs

namespace Go.Proofs
open Go Go.Sx

def sel3v (q a b c : Int) : Int := if q = 0 then a else if q = 1 then b else c
theorem sel3v_ok (q a b c : Int) (h : 0 ≤ q ∧ q < 3) : [AVal.int .i64 a, .int .i64 b, .int .i64 c][q.toNat]? = some (.int .i64 (sel3v q a b c)) := by
  obtain rfl | rfl | rfl : q = 0 ∨ q = 1 ∨ q = 2 := by omega
  all_goals rfl
def heating (w ticks : Int) : Ht := ⟨btw w 1 ticks, sel3v (upto (dstep (dstep (dstep w))) 3) (btw (dstep w) 0 800) (btw (dstep (dstep w)) 600 2000) 300, sel3v (upto (dstep (dstep (dstep (dstep (dstep (dstep w)))))) 3) 0 (upto (dstep (dstep (dstep (dstep w)))) 50) (upto (dstep (dstep (dstep (dstep (dstep w))))) 1001)⟩
end Go.Proofs

namespace Go.Proofs
open Go Go.Sx
attribute [local irreducible] Run

def demV (w gas : Int) (c : Ct) (x : Cg) : Dm :=
  let w1 := dstep (dstep w)
  let w2 := dstep (dstep w1)
  let w3 := dstep (dstep w2)
  let w4 := dstep (dstep w3)
  ⟨sel3v (upto (dstep w) 3) gas (upto w (gas + 2)) c.amount, nearV w1 x.wear, nearV w2 x.lost, nearV w3 x.carb, sel4v (upto (dstep w4) 4) 0 x.ba.lo x.ba.hi (btw w4 x.ba.lo x.ba.hi)⟩
theorem demV_ok {w gas : Int} {c : Ct} {x : Cg} (hc : CtOK c) (hx : CgOK c x) (hg : 0 ≤ gas ∧ gas ≤ 1000000) : DmOK (demV w gas c x) ∧ (demV w gas c x).ba ≤ 1000000 := by
  have hm := hc.amount
  have u := upto_in (w := w) (n := gas + 2) (by omega)
  have hba := hx.ba.all
  have b := fun w => btw_in (w := w) hba.2.1
  refine ⟨⟨?_, nearV_in hx.wear (by decide), nearV_in hx.lost (by omega), nearV_in hx.carb (by omega), ?_⟩, ?_⟩
  · show 0 ≤ sel3v _ _ _ _ ∧ sel3v _ _ _ _ ≤ _
    unfold sel3v
    constructor <;> (repeat' split) <;> omega
  · show 0 ≤ sel4v _ _ _ _ _ ∧ sel4v _ _ _ _ _ ≤ _
    have b' := b (dstep (dstep (dstep (dstep (dstep (dstep (dstep (dstep w))))))))
    unfold sel4v
    constructor <;> (repeat' split) <;> omega
  · show sel4v _ _ _ _ _ ≤ _
    have b' := b (dstep (dstep (dstep (dstep (dstep (dstep (dstep (dstep w))))))))
    unfold sel4v
    (repeat' split) <;> omega

def demH (w : Int) (c : Ct) (l : List Ht) (g : Bool) (x : Cg) (X : Heap) : Heap := some (Dr w) :: some (BdR c.bands) :: some (.cells g 3 (l.map Ht.v)) :: some (.cells false 7 [c.v (.sl 1 0 c.bands.length)]) :: some (.cells false 5 [.agg [.int .i64 0, .int .i64 0, .int .i64 0, .int .i64 0, .int .i64 0]]) :: some (.cells false 13 [x.v]) :: X

def zeroCg : Cg := ⟨⟨0, 0⟩, ⟨0, 0⟩, ⟨0, 0⟩, ⟨0, 0⟩, ⟨0, 0⟩, ⟨0, 0⟩, 0⟩
theorem zeroCg_ok {c : Ct} (hc : CtOK c) : CgOK c zeroCg := by
  have := hc.amount
  refine ⟨⟨?_, ?_, ?_⟩, ⟨?_, ?_, ?_⟩, ⟨?_, ?_, ?_⟩, ⟨?_, ?_, ?_⟩, ⟨?_, ?_, ?_⟩, ⟨?_, ?_, ?_⟩, ⟨?_, ?_⟩⟩ <;> simp only [zeroCg] <;> omega

end Go.Proofs

namespace Go.Proofs
open Go Go.Sx
attribute [local irreducible] Run

theorem rightHeat_raw (h : Int) : Ans Try.prog n_cathode_rightHeat [.int .i64 h] [] (.bool (decide (0 ≤ h ∧ h ≤ 2000))) [] := by
  refine spec_run e_cathode_rightHeat fun G => ?_
  simp only [go_sem]
  by_cases c1 : 0 ≤ h ∧ h ≤ 2000
  · refine cP (within_yes c1) ?_
    simp only [go_sem, c1, decide_true]
  · refine cP (within_no c1) ?_
    simp only [go_sem, c1, decide_false]
theorem rightCurrent_raw (h : Int) : Ans Try.prog n_cathode_rightCurrent [.int .i64 h] [] (.bool (decide (0 ≤ h ∧ h ≤ 1000))) [] := by
  refine spec_run e_cathode_rightCurrent fun G => ?_
  simp only [go_sem]
  by_cases c1 : 0 ≤ h ∧ h ≤ 1000
  · refine cP (within_yes c1) ?_
    simp only [go_sem, c1, decide_true]
  · refine cP (within_no c1) ?_
    simp only [go_sem, c1, decide_false]

end Go.Proofs

namespace Go.Proofs
open Go Go.Sx
attribute [local irreducible] Run

end Go.Proofs

namespace Go.Proofs
open Go Go.Sx
attribute [local irreducible] Run

def okH (z : Ht) : Bool := decide (1 ≤ z.ticks ∧ z.ticks ≤ 2000) && decide (0 ≤ z.heat ∧ z.heat ≤ 2000) && decide (0 ≤ z.cur ∧ z.cur ≤ 1000)
theorem okH_ok {z : Ht} (h : okH z = true) : HtOK z := by
  simp only [okH, Bool.and_eq_true, decide_eq_true_eq] at h
  exact ⟨h.1.1, h.1.2, h.2⟩
def chkS (l : List Ht) : Int := if 40 < l.length then 8 else if l.all okH = true then (if 20000 < lenOfL l then 5 else 0) else 2

theorem length_all (l : List Ht) (hlen : l.length ≤ 1000) (hall : ∀ z ∈ l, HtOK z) : Ans Try.prog n_cathode_length [.view (l.map Ht.v)] [] (.int .i64 (lenOfL l)) [] := by
  have hb : ∀ i, lenOfL (l.take i) ≤ 2000 * (l.take i).length ∧ 0 ≤ lenOfL (l.take i) := fun i => by
    have h : ∀ l : List Ht, (∀ z ∈ l, HtOK z) → lenOfL l ≤ 2000 * l.length ∧ 0 ≤ lenOfL l := fun l => by
      induction l with
      | nil => intro _; simp [lenOfL]
      | cons z l ih =>
        intro h
        have h1 := (h z (by simp)).ticks
        have h2 := ih fun y hy => h y (by simp [hy])
        simp only [lenOfL, List.length_cons]
        omega
    exact h _ fun z hz => hall z (List.mem_of_mem_take hz)
  refine spec_run e_cathode_length fun G => ?_
  simp only [go_sem]
  refine loop_ind k_cathode_length_r7.eq_1 (fun a : Nat × Heap => a.1 ≤ l.length) (fun a => l.length - a.1)
    (fun a => (tsets 18 [(3, .int .i64 (lenOfL (l.take a.1))), (6, .view (l.map Ht.v)), (7, .int .i64 l.length), (8, .int .i64 a.1)], a.2)) (0, []) (Nat.zero_le _) (by simp [go_sem, lenOfL]) rfl ?_
  rintro ⟨i, X⟩ hi ih
  dsimp only at hi ih ⊢
  by_cases h1 : i < l.length
  · have h2 : (i : Int) < l.length := by omega
    have hx : l[i]? = some l[i] := List.getElem?_eq_getElem h1
    have h3 := idx_next h1 (by omega)
    have hs := lenOfL_succ hx
    have hr := hb (i + 1)
    have hr0 := hb i
    have hl1 : (l.take (i + 1)).length ≤ 1000 := by simp; omega
    generalize l[i] = z at *
    have h4 : IntKind.i64.wrap (lenOfL (l.take i) + z.ticks) = lenOfL (l.take (i + 1)) := by rw [w64 (by omega)]; omega
    simp only [go_sem, hx, h2, Ht.v, Ht.cs, h4, h3]
    exact ih (i + 1, _) (by dsimp only; omega) h1 _ (by simp [go_sem])
  · have h2 : ¬ (i : Int) < l.length := by omega
    simp only [go_sem, h2]
    rw [List.take_of_length_le (by omega)]

theorem CheckSchedule_raw (l : List Ht) (hl : l.length ≤ 1000) : Ans Try.prog n_cathode_CheckSchedule [.view (l.map Ht.v)] [] (.int .i64 (chkS l)) [] := by
  generalize hRES : chkS l = RES
  unfold chkS at hRES
  refine spec_run e_cathode_CheckSchedule fun G => ?_
  simp only [go_sem]
  refine ⟨fun k1 => ?_, fun k1 => ?_⟩
  · rw [if_pos (by omega)] at hRES; exact hRES
  rw [if_neg (by omega)] at hRES
  refine loop_ind k_cathode_CheckSchedule_r9.eq_1 (fun a : Nat × Heap => a.1 ≤ l.length ∧ (∀ z ∈ l.take a.1, okH z = true)) (fun a => l.length - a.1)
    (fun a => (tsets 34 [(0, .view (l.map Ht.v)), (2, .int .i64 0), (8, .view (l.map Ht.v)), (9, .int .i64 l.length), (10, .int .i64 a.1)], a.2)) (0, []) ⟨Nat.zero_le _, by simp⟩ (by simp [go_sem]) rfl ?_
  rintro ⟨i, X⟩ ⟨hi, hR⟩ ih
  dsimp only at hi hR ih ⊢
  by_cases h1 : i < l.length
  · have h2 : (i : Int) < l.length := by omega
    have hx : l[i]? = some l[i] := List.getElem?_eq_getElem h1
    have h3 := idx_next h1 (by omega)
    have htk : l.take (i + 1) = l.take i ++ [l[i]] := by rw [List.take_add_one, hx]; rfl
    have hno : okH l[i] = false → 2 = RES := fun h => by
      rw [if_neg] at hRES
      · exact hRES
      · rw [List.all_eq_true]
        intro ha
        have := ha _ (List.getElem_mem h1)
        rw [h] at this; cases this
    have hyes : okH l[i] = true → ∀ z ∈ l.take (i + 1), okH z = true := fun h z hz => by
      rw [htk] at hz
      rcases List.mem_append.1 hz with hz | hz
      · exact hR z hz
      · simp at hz; subst hz; exact h
    generalize l[i] = z at *
    simp only [go_sem, hx, h2, Ht.v, Ht.cs]
    by_cases c1 : 1 ≤ z.ticks ∧ z.ticks ≤ 2000
    rotate_left
    · refine cP (within_no c1) ?_
      simp only [go_sem]
      exact hno (by simp [okH, c1])
    refine cP (within_yes c1) ?_
    simp only [go_sem]
    refine cP (rightHeat_raw z.heat) ?_
    by_cases c2 : 0 ≤ z.heat ∧ z.heat ≤ 2000
    rotate_left
    · simp only [go_sem, decide_eq_false c2]
      exact hno (by simp only [okH, decide_eq_false c2]; simp)
    simp only [go_sem, decide_eq_true c2]
    refine cP (rightCurrent_raw z.cur) ?_
    by_cases c3 : 0 ≤ z.cur ∧ z.cur ≤ 1000
    rotate_left
    · simp only [go_sem, decide_eq_false c3]
      exact hno (by simp only [okH, decide_eq_false c3]; simp)
    simp only [go_sem, decide_eq_true c3, h3]
    exact ih (i + 1, _) (by dsimp only; omega) ⟨h1, hyes (by simp only [okH, decide_eq_true c1, decide_eq_true c2, decide_eq_true c3]; rfl)⟩ _ (by simp [go_sem])
  · have h2 : ¬ (i : Int) < l.length := by omega
    rw [List.take_of_length_le (by omega)] at hR
    rw [if_pos (List.all_eq_true.2 hR)] at hRES
    have hLn := length_all l hl fun z hz => okH_ok (hR z hz)
    simp only [go_sem, h2]
    refine cP hLn ?_ ⟨by rw [bel_view]; exact bels_map _ _ fun h => by simp only [go_sem, Ht.v, Ht.cs], trivial⟩
    simp only [go_sem]
    refine ⟨fun k2 => ?_, fun k2 => ?_⟩
    · rw [if_pos k2] at hRES; exact hRES
    · rw [if_neg k2] at hRES; exact hRES

theorem lenOf_bound (l : List Ht) (h : ∀ z ∈ l, HtOK z) : lenOfL l ≤ 2000 * l.length ∧ 0 ≤ lenOfL l := by
  induction l with
  | nil => simp [lenOfL]
  | cons z l ih =>
    have h1 := (h z (by simp)).ticks
    have h2 := ih fun y hy => h y (by simp [hy])
    simp only [lenOfL, List.length_cons]
    omega
theorem rCheckSchedule_raw (l : List Ht) (hl : l.length ≤ 1000) : Ans Try.prog n_ref03_CheckSchedule [.view (l.map Ht.v)] [] (.int .i64 (chkS l)) [] := by
  generalize hRES : chkS l = RES
  unfold chkS at hRES
  refine spec_run e_ref03_CheckSchedule fun G => ?_
  simp only [go_sem, List.length_map]
  refine ⟨fun k1 => ?_, fun k1 => ?_⟩
  · rw [if_pos (by omega)] at hRES; exact hRES
  rw [if_neg (by omega)] at hRES
  refine loop_ind k_ref03_CheckSchedule_r10.eq_1 (fun a : Nat × Heap => a.1 ≤ l.length ∧ (∀ z ∈ l.take a.1, okH z = true)) (fun a => l.length - a.1)
    (fun a => (tsets 45 [(0, .view (l.map Ht.v)), (2, .int .i64 0), (3, .int .i64 (lenOfL (l.take a.1))), (4, .int .i64 a.1)], a.2)) (0, []) ⟨Nat.zero_le _, by simp⟩ (by simp [go_sem, lenOfL]) rfl ?_
  rintro ⟨i, X⟩ ⟨hi, hR⟩ ih
  dsimp only at hi hR ih ⊢
  by_cases h1 : i < l.length
  · have h2 : (i : Int) < l.length := by omega
    have n0 : ¬ (i : Int) < 0 := by omega
    have hx : l[i]? = some l[i] := List.getElem?_eq_getElem h1
    have h3 := idx_next h1 (by omega)
    have htk : l.take (i + 1) = l.take i ++ [l[i]] := by rw [List.take_add_one, hx]; rfl
    have hs := lenOfL_succ hx
    have hno : okH l[i] = false → 2 = RES := fun h => by
      rw [if_neg] at hRES
      · exact hRES
      · rw [List.all_eq_true]
        intro ha
        have := ha _ (List.getElem_mem h1)
        rw [h] at this; cases this
    have hyes : okH l[i] = true → ∀ z ∈ l.take (i + 1), okH z = true := fun h z hz => by
      rw [htk] at hz
      rcases List.mem_append.1 hz with hz | hz
      · exact hR z hz
      · simp at hz; subst hz; exact h
    have hr0 := lenOf_bound (l.take i) fun z hz => okH_ok (hR z hz)
    have hl0 : (l.take i).length ≤ 1000 := by simp; omega
    generalize l[i] = z at *
    simp only [go_sem, hx, h2, n0, Ht.v, Ht.cs, List.length_map]
    by_cases c1 : 1 ≤ z.ticks ∧ z.ticks ≤ 2000
    rotate_left
    · refine cP (beyond_yes c1) ?_
      simp only [go_sem]
      exact hno (by simp [okH, c1])
    refine cP (beyond_no c1) ?_
    have h4 : IntKind.i64.wrap (lenOfL (l.take i) + z.ticks) = lenOfL (l.take (i + 1)) := by rw [w64 (by omega)]; omega
    simp only [go_sem, hx, h2, n0, Ht.v, Ht.cs, List.length_map]
    by_cases c2 : 0 ≤ z.heat ∧ z.heat ≤ 2000
    rotate_left
    · refine cP (beyond_yes c2) ?_
      simp only [go_sem]
      exact hno (by simp only [okH, decide_eq_false c2]; simp)
    refine cP (beyond_no c2) ?_
    simp only [go_sem, hx, h2, n0, Ht.v, Ht.cs, List.length_map]
    by_cases c3 : 0 ≤ z.cur ∧ z.cur ≤ 1000
    rotate_left
    · refine cP (beyond_yes c3) ?_
      simp only [go_sem]
      exact hno (by simp only [okH, decide_eq_false c3]; simp)
    refine cP (beyond_no c3) ?_
    simp only [go_sem, hx, h2, n0, Ht.v, Ht.cs, List.length_map, h4]
    simp only [h3]
    exact ih (i + 1, _) (by dsimp only; omega) ⟨h1, hyes (by simp only [okH, decide_eq_true c1, decide_eq_true c2, decide_eq_true c3]; rfl)⟩ _ (by simp [go_sem])
  · have h2 : ¬ (i : Int) < l.length := by omega
    rw [List.take_of_length_le (by omega)] at hR
    rw [if_pos (List.all_eq_true.2 hR)] at hRES
    rw [List.take_of_length_le (by omega)]
    simp only [go_sem, h2, List.length_map]
    refine ⟨fun k2 => ?_, fun k2 => ?_⟩
    · rw [if_pos k2] at hRES; exact hRES
    · rw [if_neg k2] at hRES; exact hRES
end Go.Proofs

namespace Go.Proofs
open Go Go.Sx
attribute [local irreducible] Run

theorem chkS_ok {l : List Ht} (h : chkS l = 0) : LsOK l := by
  unfold chkS at h
  by_cases c0 : 40 < l.length
  · rw [if_pos c0] at h; simp at h
  rw [if_neg c0] at h
  by_cases c1 : l.all okH = true
  rotate_left
  · rw [if_neg c1] at h; simp at h
  rw [if_pos c1] at h
  by_cases c2 : 20000 < lenOfL l
  · rw [if_pos c2] at h; simp at h
  exact ⟨by omega, fun z hz => okH_ok (List.all_eq_true.1 c1 z hz), by omega⟩
end Go.Proofs

namespace Go.Proofs
open Go Go.Sx
attribute [local irreducible] Run

end Go.Proofs

namespace Go.Proofs
open Go Go.Sx
attribute [local irreducible] Run

end Go.Proofs

namespace Go.Proofs
open Go Go.Sx
attribute [local irreducible] AT
set_option maxRecDepth 100000

theorem at_heating {n : Nat} {vs : List AVal} (h : AT Try.prog (n + 2) 32 vs) : ∃ z : Ht, vs = z.cs ∧ I64 z.ticks ∧ I64 z.heat ∧ I64 z.cur := by
  obtain ⟨a, _, rfl, ha, b, _, rfl, hb, c, _, rfl, hc, rfl⟩ := at_struct Try.underlying32 h
  obtain ⟨x, rfl, hx⟩ := atn_int ha
  obtain ⟨y, rfl, hy⟩ := atn_int hb
  obtain ⟨z, rfl, hz⟩ := atn_int hc
  exact ⟨⟨x, y, z⟩, rfl, hx, hy, hz⟩
theorem at_schedule {n : Nat} {x : AVal} (h : AT Try.prog (n + 3) 29 [x]) : ∃ l : List Ht, x = .view (l.map Ht.v) ∧ l.length ≤ maxLen := by
  obtain ⟨es, h1, hl, he⟩ := at_slice Try.underlying29 h
  obtain rfl : x = .view es := by simpa using h1
  have hg : aggT Try.prog 32 = true := by unfold aggT; rw [Try.underlying32]
  obtain ⟨l, rfl, -⟩ := list_map (f := Ht.v) (Q := fun _ => True) es fun x hx => by
    have := he x hx
    rw [if_pos hg] at this
    obtain ⟨ws, rfl, hw⟩ := this
    obtain ⟨z, rfl, _⟩ := at_heating hw
    exact ⟨z, rfl, trivial⟩
  exact ⟨l, rfl, by simpa using hl⟩
end Go.Proofs

namespace Go.Proofs
open Go Go.Sx
attribute [local irreducible] Run

end Go.Proofs

namespace Go.Proofs
open Go Go.Sx
attribute [local irreducible] AT
set_option maxRecDepth 100000
theorem at_demand' {n : Nat} {vs : List AVal} (h : AT Try.prog (n + 2) 68 vs) : ∃ d : Dm, vs = d.cs := by
  obtain ⟨a, _, rfl, ha, b, _, rfl, hb, c, _, rfl, hc, d, _, rfl, hd, e, _, rfl, he, rfl⟩ := at_struct Try.underlying68 h
  obtain ⟨x, rfl, -⟩ := atn_int ha
  obtain ⟨y, rfl, -⟩ := atn_int hb
  obtain ⟨z, rfl, -⟩ := atn_int hc
  obtain ⟨u, rfl, -⟩ := atn_int hd
  obtain ⟨v, rfl, -⟩ := atn_int he
  exact ⟨⟨x, y, z, u, v⟩, rfl⟩
end Go.Proofs

namespace Go.Proofs
open Go Go.Sx
attribute [local irreducible] Run

theorem checkDemand_ok {c : Ct} (hc : CtOK c) (hcc : chkC c = 0) {d : Dm} (h : chkD d = 0) : Ans Try.prog n_cathode_checkDemand [c.v (.view (c.bands.map Bd.v)), d.v] [] (.int .i64 0) [] := by
  have hl := hc.len
  have := checkDemand_raw c (by omega) d
  unfold chkCD at this
  rwa [if_pos hcc, h] at this
set_option maxHeartbeats 4000000 in
set_option maxRecDepth 4000 in
theorem Shortest_fnR (c : Ct) (hc : CtOK c) (d : Dm) (hd : chkD d = 0) (menu : List Ht) (hl : LsOK menu) (h0 : 1 ≤ menu.length ∧ menu.length ≤ 4) (ht : ∀ z ∈ menu, z.ticks ≤ 100) (m : Nat) (hm : 1 ≤ m ∧ m ≤ 5) (hcc : chkC c = 0) :
    Go.Sx.Fn Try.prog n_cathode_Shortest [c.v (.view (c.bands.map Bd.v)), d.v, .view (menu.map Ht.v), .int .i64 m] [] fun v H' => ∃ σ, Kept [] (shP (prevB c d menu m)) (shR (prevB c d menu m)) v H' σ := by
  generalize hRES : prevB c d menu m = RES
  refine run_fn e_cathode_Shortest fun G => ?_
  simp only [go_sem, Ct.v, Ct.cs, Dm.v, Dm.cs]
  refine cP (checkDemand_ok hc hcc hd) ?_
  simp only [go_sem]
  refine cP (checkMenu_run menu hl h0 ht m (by omega)) ?_
  simp only [go_sem, List.length_map]
  refine callS (lists_run menu.length m) [] (by simp) trivial (by simp [ren]) (by simp only [go_sem]) trivial (by simp) (by simp [go_sem]) ⟨by rw [row_bel_cells]; simp only [go_sem], by rw [row_bel_cells]; simp only [go_sem], trivial⟩ (by simp) (by simp) (by simp) ?_
  simp only [go_sem, outΔ, outσ, ren, rens, Row.ren]
  refine rangeF 2000 (ρ := tsets 63 shT) (by simp [go_sem, shT]) (by simp only [go_sem, shT]; rfl)
    (lists1_iter (c := menu.length) (m := m) (r := 8) (jm := 6) (jc := 5) (N := 9) (by omega) (by omega) (Pre := fun s w H => ∃ v t X, H = shH c d menu m v t (shL .ready none) X ∧ BR (bst c d menu s w) v t X X.length)
      (PreQ := fun s w q H => ∃ v t X p, q = p + 9 ∧ p < X.length ∧ H = shH c d menu m v t (shL .ready none) X ∧ BR (bst c d menu s w) v t X p) ⟨?_, ?_, ?_, ?_, ?_, ?_⟩ ⟨_, _, [], rfl, rfl, rfl⟩) (by simp) ?_
  · rintro s w H ⟨v, t, X, rfl, -⟩
    exact ⟨by simp [shH], rfl, rfl⟩
  · rintro s w H x ⟨v, t, X, rfl, h⟩
    exact ⟨v, t, X ++ [x], X.length, by simp [shH], by simp, by simp [shH], h.app [x]⟩
  · rintro s w q H ⟨v, t, X, p, rfl, hp, rfl, h⟩
    exact ⟨v, t, X, rfl, h.out⟩
  · rintro s w q H x ⟨v, t, X, p, rfl, hp, rfl, h⟩
    exact ⟨v, t, X.set p x, p, rfl, by simpa using hp, rfl, h.put x⟩
  · rintro s H hs - ⟨v, t, X, rfl, h⟩
    exact ⟨v, t, X, rfl, by rw [bst_next c d menu hs]; exact h⟩
  · rintro s w H q hs1 hs2 hw ⟨v, t, X, p, rfl, hp, rfl, h⟩ hq
    rw [bst_succ]
    have hXp : X[p]? = some (some (.cells false 1 (ivs (digL menu.length s w)))) := hq
    have hLl := digL_len menu.length s w
    have hLi := digL_in (c := menu.length) (by omega) s w
    generalize digL menu.length s w = L at *
    generalize bst c d menu s w = B at *
    subst hLl
    have hCh := chosen_run menu L (by omega) (by omega) hLi
    have hpl := pick_len menu L
    have hpo := pick_ok hl ht (fun x hx => hLi x hx) (by omega : L.length ≤ 5)
    have hlg := length_run (pick menu L) hpo
    have hJ := judge_run c hc d (pick menu L) hpo
    have hCl := Clone_run L (by omega) (by omega)
    generalize hR : (fun (v : AVal) (H' : Heap) => _) = R
    have hfin : ∀ v' t' Y, BR (better c d menu B L) v' t' (X ++ Y) p → R (.bool true) (shH c d menu m v' t' (shL .ready none) (X ++ Y)) := fun v' t' Y hb => by
      rw [← hR]
      refine ⟨⟨by simp [shH], ?_⟩, rfl, v', t', X ++ Y, p, rfl, by simp; omega, rfl, hb⟩
      show (X ++ Y)[p]? = X[p]?
      rw [List.getElem?_append_left hp]
    clear hR
    have hget : ∀ x, (X ++ [x])[p]? = some (some (.cells false 1 (ivs L))) := fun x => by rw [List.getElem?_append_left hp]; exact hXp
    have hmf : ∀ (H : Heap), frz 6 H (.view (menu.map Ht.v)) = .view (menu.map Ht.v) := fun H => by
      show AVal.view ((menu.map Ht.v).map (frz 5 H)) = _
      rw [hts_frz]
    have hcf : ∀ (H : Heap), frz 6 H (c.v (.view (c.bands.map Bd.v))) = c.v (.view (c.bands.map Bd.v)) := fun H => by simp only [go_sem, frz, bds_frz, Ct.v, Ct.cs]
    refine roundW_run 500 k_cathode_Shortest_r15.eq_1 rfl rfl (ρ' := tsets 63 (shT ++ [(34, .sl (p + 9) 0 L.length)])) rfl ?_
    simp only [go_sem, shT, shH]
    refine roundMid_run 500 k_cathode_Shortest_r16.eq_1 rfl rfl ?_
    simp only [go_sem]
    refine cFN hCh 6 ⟨.inl (hmf _), .inl (ivs_frz (H := _) hXp rfl), trivial⟩ ?_ (hx := by rw [row_bel_cells]; exact hts_belS _) (hxn := hts_nvr _ _)
    simp only [go_sem, ren]
    refine cF hlg 6 ⟨.inl (sch_frz (H := _) (get_end X _) hpl.symm), trivial⟩ ?_
    simp only [go_sem]
    rcases B with _ | ⟨bl, bn⟩
    · obtain ⟨rfl, rfl⟩ := h
      simp only [go_sem, Ct.v, Ct.cs, Dm.v, Dm.cs]
      refine cF hJ 6 ⟨.inl (hcf _), .inl rfl, .inl (sch_frz (H := _) (get_end X _) hpl.symm), trivial⟩ ?_
      simp only [go_sem]
      refine ⟨fun hs => ?_, fun hs => ?_⟩
      · refine cRN hCl (j := p + 9) rfl ⟨by simp [go_sem], trivial⟩ (hget _) (ivs_row _ _ _) (ivs_row _ _ _) (by simp [go_sem]) (by simp) (by simp) ?_
        simp only [go_sem, ren]
        refine roundEnd_on rfl ?_
        simp only [go_sem]
        have hf := fun r => hfin (.sl (X.length + 1 + 9) 0 L.length) (lenOfL (pick menu L)) [some r, some (.cells true 1 (ivs L))] (by
          unfold better
          rw [if_pos hs]
          exact ⟨by omega, rfl, X.length + 1, rfl, by simp, by omega⟩)
        exact hf _
      · refine roundEnd_on rfl ?_
        simp only [go_sem]
        have hf := fun r => hfin .nilsl 0 [some r] (by
          unfold better
          rw [if_neg hs]
          exact ⟨rfl, rfl⟩)
        exact hf _
    · have hbr : ∀ Y, BR (some (bl, bn)) v t (X ++ Y) p := fun Y => BR.app (b := some (bl, bn)) h Y
      obtain ⟨hb0, rfl, Q, rfl, hQ, hQp⟩ := h
      have hQ' := fun x => by
        have h := List.getElem?_append_left (l₂ := [x]) (List.getElem?_eq_some_iff.1 hQ).1
        rw [hQ] at h
        exact cells_at h
      simp only [go_sem, hQ', ivs_len, Ct.v, Ct.cs, Dm.v, Dm.cs]
      refine ⟨fun hn => ?_, fun hn => ?_⟩
      · refine roundEnd_on rfl ?_
        simp only [go_sem]
        have hf := fun r => hfin (.sl (Q + 9) 0 bl.length) t [some r] (by
          unfold better
          simp only [if_pos hn]
          exact hbr _)
        exact hf _
      · refine cF hJ 6 ⟨.inl (hcf _), .inl rfl, .inl (sch_frz (H := _) (get_end X _) hpl.symm), trivial⟩ ?_
        simp only [go_sem]
        refine ⟨fun hs => ?_, fun hs => ?_⟩
        · refine cRN hCl (j := p + 9) rfl ⟨by simp [go_sem], trivial⟩ (hget _) (ivs_row _ _ _) (ivs_row _ _ _) (by simp [go_sem]) (by simp) (by simp) ?_
          simp only [go_sem, ren]
          refine roundEnd_on rfl ?_
          simp only [go_sem]
          have hf := fun r => hfin (.sl (X.length + 1 + 9) 0 L.length) (lenOfL (pick menu L)) [some r, some (.cells true 1 (ivs L))] (by
            unfold better
            simp only [if_neg hn, if_pos hs]
            exact ⟨by omega, rfl, X.length + 1, rfl, by simp, by omega⟩)
          exact hf _
        · refine roundEnd_on rfl ?_
          simp only [go_sem]
          have hf := fun r => hfin (.sl (Q + 9) 0 bl.length) t [some r] (by
            unfold better
            simp only [if_neg hn, if_neg hs]
            exact hbr _)
          exact hf _
  · rintro v H' ⟨rfl, v, t, X, rfl, h⟩
    refine ⟨fun q hq => by simp at hq; subst hq; rfl, _, _, _, _, _, _, _, rfl, by decide, ?_⟩
    rw [show bst c d menu (m + 1) 0 = RES from hRES] at h
    rcases RES with _ | ⟨l, n⟩
    · obtain ⟨rfl, rfl⟩ := h
      simp only [go_sem, shH, shT, tsets]
      exact ⟨by simp, kept_id rfl (by simp only [go_sem, shR]) (by simp [shP])⟩
    · obtain ⟨h0, rfl, Q, rfl, hQ, -⟩ := h
      simp only [go_sem, shH, shT, tsets, cells_at hQ, ivs_len]
      exact ⟨by simp, kept_one (Q + 9) (by simp [shR, ren, rens]) (ivs_row _ _ _) hQ⟩

theorem Shortest_runR (c : Ct) (hc : CtOK c) (d : Dm) (hd : chkD d = 0) (menu : List Ht) (hl : LsOK menu) (h0 : 1 ≤ menu.length ∧ menu.length ≤ 4) (ht : ∀ z ∈ menu, z.ticks ≤ 100) (m : Nat) (hm : 1 ≤ m ∧ m ≤ 5) (hcc : chkC c = 0) :
    Ans Try.prog n_cathode_Shortest [c.v (.view (c.bands.map Bd.v)), d.v, .view (menu.map Ht.v), .int .i64 m] [] (shR (prevB c d menu m)) (shP (prevB c d menu m)) := by
  have h := Shortest_fnR c hc d hd menu hl h0 ht m hm hcc
  generalize prevB c d menu m = RES at *
  refine Ans.keep h (Nat.zero_le _) ?_ ?_
  · rcases RES with _ | ⟨l, n⟩
    · simp only [shR, go_sem]
    · simp [shR, shP, go_sem]
  · rcases RES with _ | ⟨l, n⟩
    · trivial
    · exact ⟨ivs_row _ _ _, trivial⟩

def okM (z : Ht) : Bool := decide (z.ticks ≤ 100)
def chkMenu (menu : List Ht) (m : Int) : Int :=
  if menu.length = 0 then 6 else if 4 < menu.length then 8 else if chkS menu = 0 then (if menu.all okM = true then (if 1 ≤ m ∧ m ≤ 5 then 0 else 2) else 2) else chkS menu
set_option maxHeartbeats 2000000 in
theorem checkMenu_raw (menu : List Ht) (hl : menu.length ≤ 1000) (m : Int) : Ans Try.prog n_cathode_checkMenu [.view (menu.map Ht.v), .int .i64 m] [] (.int .i64 (chkMenu menu m)) [] := by
  generalize hRES : chkMenu menu m = RES
  unfold chkMenu at hRES
  refine spec_run e_cathode_checkMenu fun G => ?_
  by_cases k0 : menu.length = 0
  · have z : ((menu.length : Int) == 0) = true := by simp [k0]
    rw [if_pos k0] at hRES
    subst hRES
    simp only [go_sem, List.length_map, z]
  have z : ((menu.length : Int) == 0) = false := by rw [beq_eq_false_iff_ne]; omega
  rw [if_neg k0] at hRES
  by_cases k1 : 4 < menu.length
  · have z1 : (4 : Int) < menu.length := by omega
    rw [if_pos k1] at hRES
    subst hRES
    simp only [go_sem, List.length_map, z, z1]
  have z1 : ¬ (4 : Int) < menu.length := by omega
  rw [if_neg k1] at hRES
  simp only [go_sem, List.length_map, z, z1]
  refine cP (CheckSchedule_raw menu hl) ?_ ⟨by rw [bel_view]; exact bels_map _ _ fun h => by simp only [go_sem, Ht.v, Ht.cs], trivial⟩
  by_cases k2 : chkS menu = 0
  rotate_left
  · have b0 : (chkS menu != 0) = true := by simp [k2]
    rw [if_neg k2] at hRES
    subst hRES
    simp only [go_sem, b0]
  rw [if_pos k2] at hRES
  simp only [go_sem, k2, Int.reduceBNe, List.length_map]
  refine loop_ind k_cathode_checkMenu_r14.eq_1 (fun a : Nat × Heap => a.1 ≤ menu.length ∧ (∀ z ∈ menu.take a.1, okM z = true)) (fun a => menu.length - a.1)
    (fun a => (tsets 32 [(1, .int .i64 m), (19, .view (menu.map Ht.v)), (20, .int .i64 menu.length), (21, .int .i64 a.1)], a.2)) (0, []) ⟨Nat.zero_le _, by simp⟩ (by simp [go_sem]) rfl ?_
  rintro ⟨i, X⟩ ⟨hi, hR⟩ ih
  dsimp only at hi hR ih ⊢
  by_cases h1 : i < menu.length
  · have h2 : (i : Int) < menu.length := by omega
    have n0 : ¬ (i : Int) < 0 := by omega
    have hx : menu[i]? = some menu[i] := List.getElem?_eq_getElem h1
    have h3 := idx_next h1 (by omega)
    have htk : menu.take (i + 1) = menu.take i ++ [menu[i]] := by rw [List.take_add_one, hx]; rfl
    have hno : okM menu[i] = false → 2 = RES := fun h => by
      rw [if_neg] at hRES
      · exact hRES
      · rw [List.all_eq_true]
        intro ha
        have := ha _ (List.getElem_mem h1)
        rw [h] at this; cases this
    have hyes : okM menu[i] = true → ∀ z ∈ menu.take (i + 1), okM z = true := fun h z hz => by
      rw [htk] at hz
      rcases List.mem_append.1 hz with hz | hz
      · exact hR z hz
      · simp at hz; subst hz; exact h
    generalize menu[i] = z at *
    simp only [go_sem, hx, h2, n0, h3, Ht.v, Ht.cs, List.length_map]
    refine ⟨fun c1 => hno (by simp [okM]; omega), fun c1 => ?_⟩
    exact ih (i + 1, _) (by dsimp only; omega) ⟨h1, hyes (by simp [okM]; omega)⟩ _ (by simp [go_sem])
  · have h2 : ¬ (i : Int) < menu.length := by omega
    rw [List.take_of_length_le (by omega)] at hR
    rw [if_pos (List.all_eq_true.2 hR)] at hRES
    simp only [go_sem, h2]
    by_cases c1 : 1 ≤ m ∧ m ≤ 5
    · rw [if_pos c1] at hRES
      subst hRES
      refine cP (within_yes c1) ?_
      simp only [go_sem]
    · rw [if_neg c1] at hRES
      subst hRES
      refine cP (within_no c1) ?_
      simp only [go_sem]
set_option maxHeartbeats 2000000 in
theorem rcheckMenu_raw (menu : List Ht) (hl : menu.length ≤ 1000) (m : Int) : Ans Try.prog n_ref03_checkMenu [.view (menu.map Ht.v), .int .i64 m] [] (.int .i64 (chkMenu menu m)) [] := by
  generalize hRES : chkMenu menu m = RES
  unfold chkMenu at hRES
  refine spec_run e_ref03_checkMenu fun G => ?_
  by_cases k0 : menu.length = 0
  · have z : ((menu.length : Int) == 0) = true := by simp [k0]
    rw [if_pos k0] at hRES
    subst hRES
    simp only [go_sem, List.length_map, z]
  have z : ((menu.length : Int) == 0) = false := by rw [beq_eq_false_iff_ne]; omega
  rw [if_neg k0] at hRES
  by_cases k1 : 4 < menu.length
  · have z1 : (4 : Int) < menu.length := by omega
    rw [if_pos k1] at hRES
    subst hRES
    simp only [go_sem, List.length_map, z, z1]
  have z1 : ¬ (4 : Int) < menu.length := by omega
  rw [if_neg k1] at hRES
  simp only [go_sem, List.length_map, z, z1]
  refine cP (rCheckSchedule_raw menu hl) ?_ ⟨by rw [bel_view]; exact bels_map _ _ fun h => by simp only [go_sem, Ht.v, Ht.cs], trivial⟩
  by_cases k2 : chkS menu = 0
  rotate_left
  · have b0 : (chkS menu != 0) = true := by simp [k2]
    rw [if_neg k2] at hRES
    subst hRES
    simp only [go_sem, b0]
  rw [if_pos k2] at hRES
  simp only [go_sem, k2, Int.reduceBNe, List.length_map]
  refine loop_ind k_ref03_checkMenu_r13.eq_1 (fun a : Nat => a ≤ menu.length ∧ (∀ z ∈ menu.take a, okM z = true)) (fun a => menu.length - a)
    (fun a => (tsets 32 [(0, .view (menu.map Ht.v)), (1, .int .i64 m), (6, .int .i64 a)], [])) 0 ⟨Nat.zero_le _, by simp⟩ (by simp [go_sem]) rfl ?_
  rintro i ⟨hi, hR⟩ ih
  dsimp only at ih ⊢
  by_cases h1 : i < menu.length
  · have h2 : (i : Int) < menu.length := by omega
    have n0 : ¬ (i : Int) < 0 := by omega
    have hx : menu[i]? = some menu[i] := List.getElem?_eq_getElem h1
    have h3 := idx_next h1 (by omega)
    have htk : menu.take (i + 1) = menu.take i ++ [menu[i]] := by rw [List.take_add_one, hx]; rfl
    have hno : okM menu[i] = false → 2 = RES := fun h => by
      rw [if_neg] at hRES
      · exact hRES
      · rw [List.all_eq_true]
        intro ha
        have := ha _ (List.getElem_mem h1)
        rw [h] at this; cases this
    have hyes : okM menu[i] = true → ∀ z ∈ menu.take (i + 1), okM z = true := fun h z hz => by
      rw [htk] at hz
      rcases List.mem_append.1 hz with hz | hz
      · exact hR z hz
      · simp at hz; subst hz; exact h
    generalize menu[i] = z at *
    simp only [go_sem, hx, h2, n0, h3, Ht.v, Ht.cs, List.length_map]
    refine ⟨fun c1 => hno (by simp [okM]; omega), fun c1 => ?_⟩
    exact ih (i + 1) (by omega) ⟨h1, hyes (by simp [okM]; omega)⟩ _ (by simp [go_sem])
  · have h2 : ¬ (i : Int) < menu.length := by omega
    rw [List.take_of_length_le (by omega)] at hR
    rw [if_pos (List.all_eq_true.2 hR)] at hRES
    simp only [go_sem, h2, List.length_map]
    by_cases c1 : 1 ≤ m ∧ m ≤ 5
    · rw [if_pos c1] at hRES
      subst hRES
      refine cP (beyond_no c1) ?_
      simp only [go_sem]
    · rw [if_neg c1] at hRES
      subst hRES
      refine cP (beyond_yes c1) ?_
      simp only [go_sem]
end Go.Proofs

namespace Go.Proofs
open Go Go.Sx
attribute [local irreducible] Run

set_option maxHeartbeats 4000000 in
set_option maxRecDepth 4000 in
theorem demandOf_none (w : Int) (c : Ct) (hc : CtOK c) (g : Bool) :
    ∃ D w', Ans Try.prog n_kit_DemandOf [.ptr 0 0 0 1, c.v (.sl 1 0 c.bands.length), .sl 2 0 0] [some (Dr w), some (BdR c.bands), some (.cells g 3 [])] (Dm.v D) [some (Dr w'), some (BdR c.bands), some (.cells g 3 [])] := by
  have hxo := zeroCg_ok hc
  have hm := hc.amount
  have e1 : IntKind.i64.wrap 2 = 2 := rfl
  have hu1 := upto_ok w 2 (by decide)
  have hu2 := upto_ok (dstep w) 3 (by decide)
  have q1 := upto_in (w := dstep w) (n := 3) (by decide)
  have s1 := sel3v_ok _ 0 (upto w 2) c.amount q1
  have e1 : IntKind.i64.wrap 2 = 2 := rfl
  have n1 : ¬ upto (dstep w) 3 < 0 := by omega
  have n2 : upto (dstep w) 3 < 3 := q1.2
  have r1 := near_run (dstep (dstep w)) ⟨0, 0⟩ hxo.wear (by decide)
  have r2 := near_run (dstep (dstep (dstep (dstep w)))) ⟨0, 0⟩ hxo.lost (by omega)
  have r3 := near_run (dstep (dstep (dstep (dstep (dstep (dstep w)))))) ⟨0, 0⟩ hxo.carb (by omega)
  have r4 := in_run (dstep (dstep (dstep (dstep (dstep (dstep (dstep (dstep w)))))))) ⟨0, 0⟩ hxo.ba (by omega)
  have hu3 := upto_ok (dstep (dstep (dstep (dstep (dstep (dstep (dstep (dstep (dstep w))))))))) 4 (by decide)
  have q2 := upto_in (w := dstep (dstep (dstep (dstep (dstep (dstep (dstep (dstep (dstep w))))))))) (n := 4) (by decide)
  have s2 := sel4v_ok _ 0 0 0 (btw (dstep (dstep (dstep (dstep (dstep (dstep (dstep (dstep w)))))))) 0 0) q2
  have n3 : ¬ upto (dstep (dstep (dstep (dstep (dstep (dstep (dstep (dstep (dstep w))))))))) 4 < 0 := by omega
  have n4 : upto (dstep (dstep (dstep (dstep (dstep (dstep (dstep (dstep (dstep w))))))))) 4 < 4 := q2.2
  have hok := demV_ok (w := w) hc hxo (gas := 0) ⟨by decide, by decide⟩
  unfold demV at hok
  dsimp only at hok
  rw [show (0 : Int) + 2 = 2 from rfl] at hok
  simp only [zeroCg] at hok hxo
  generalize nearV (dstep (dstep w)) ⟨0, 0⟩ = v1 at *
  generalize nearV (dstep (dstep (dstep (dstep w)))) ⟨0, 0⟩ = v2 at *
  generalize nearV (dstep (dstep (dstep (dstep (dstep (dstep w)))))) ⟨0, 0⟩ = v3 at *
  generalize btw (dstep (dstep (dstep (dstep (dstep (dstep (dstep (dstep w)))))))) 0 0 = v4 at *
  generalize upto (dstep (dstep (dstep (dstep (dstep (dstep (dstep (dstep (dstep w))))))))) 4 = v5 at *
  generalize upto (dstep w) 3 = v6 at *
  generalize upto w 2 = v7 at *
  refine ⟨⟨sel3v v6 0 v7 c.amount, v1, v2, v3, sel4v v5 0 0 0 v4⟩, (dstep (dstep (dstep (dstep (dstep (dstep (dstep (dstep (dstep (dstep w)))))))))), ?_⟩
  refine Ans.keep (run_fn e_kit_DemandOf fun G => ?_) (by simp) (by simp only [go_sem]) ⟨by simp only [go_sem], by simp only [go_sem], by rw [row_bel_cells]; trivial, trivial⟩
  simp only [go_sem, Ct.v, Ct.cs]
  refine cF (rFollow_nil c hc) 6 ⟨.inl (ct_frz (H := _) rfl), .inl (sch_frz (l := []) (H := _) rfl rfl), trivial⟩ ?_
  simp only [go_sem]
  refine loop_body 200 k_kit_DemandOf_r10.eq_1 ?_
  simp only [go_sem, e1]
  refine dD hu1 ?_
  simp only [go_sem, Ct.v, Ct.cs]
  refine dD hu2 ?_
  simp only [go_sem, n1, n2, s1]
  refine dD r1 ?_
  simp only [go_sem]
  refine dD r2 ?_
  simp only [go_sem]
  refine dD r3 ?_
  simp only [go_sem]
  refine dD r4 ?_
  simp only [go_sem]
  refine dD hu3 ?_
  simp only [go_sem, n3, n4, s2]
  refine kept_id rfl (by simp only [go_sem]) ?_
  intro i z hz
  have hi3 := (List.getElem?_eq_some_iff.1 hz).1
  simp only [List.length_cons, List.length_nil] at hi3
  obtain rfl | rfl | rfl : i = 0 ∨ i = 1 ∨ i = 2 := by omega
  · simp at hz; subst hz; exact ⟨by simp only [go_sem], rfl⟩
  · simp at hz; subst hz; exact ⟨by simp only [go_sem], rfl⟩
  · simp at hz; subst hz; exact ⟨by rw [row_bel_cells]; trivial, rfl⟩

theorem chkMenu_ok {menu : List Ht} {m : Int} (h : chkMenu menu m = 0) : (1 ≤ menu.length ∧ menu.length ≤ 4) ∧ LsOK menu ∧ (∀ z ∈ menu, z.ticks ≤ 100) ∧ (1 ≤ m ∧ m ≤ 5) := by
  unfold chkMenu at h
  by_cases k0 : menu.length = 0
  · rw [if_pos k0] at h; simp at h
  rw [if_neg k0] at h
  by_cases k1 : 4 < menu.length
  · rw [if_pos k1] at h; simp at h
  rw [if_neg k1] at h
  by_cases k2 : chkS menu = 0
  rotate_left
  · rw [if_neg k2] at h; exact absurd h k2
  rw [if_pos k2] at h
  by_cases k3 : menu.all okM = true
  rotate_left
  · rw [if_neg k3] at h; simp at h
  rw [if_pos k3] at h
  by_cases k4 : 1 ≤ m ∧ m ≤ 5
  rotate_left
  · rw [if_neg k4] at h; simp at h
  exact ⟨by omega, chkS_ok k2, fun z hz => by have := List.all_eq_true.1 k3 z hz; simpa [okM] using this, k4⟩
theorem prevB_len' {c : Ct} {d : Dm} {M : List Ht} (hM : 0 < M.length) : ∀ k, k ≤ 5 → ∀ l n, prevB c d M k = some (l, n) → l.length ≤ 5
  | 0, _, l, n, h => by simp [prevB] at h
  | k + 1, hk, l, n, h => by
    rw [prevB_LS c d M hM] at h
    have key : ∀ (L : List (List Int)) (b : Option (List Int × Int)), (∀ l ∈ L, l.length ≤ 5) → (∀ l n, b = some (l, n) → l.length ≤ 5) → ∀ l n, L.foldl (better c d M) b = some (l, n) → l.length ≤ 5 := fun L => by
      induction L with
      | nil => intro b _ hb l n h; exact hb l n h
      | cons a L ih =>
        intro b hL hb l n h
        refine ih _ (fun l hl => hL l (by simp [hl])) ?_ l n h
        intro l' n' h'
        unfold better at h'
        rcases b with _ | ⟨k0, e0⟩
        · dsimp only at h'
          split at h'
          · cases h'; exact hL _ (by simp)
          · cases h'
        · dsimp only at h'
          split at h'
          · cases h'; exact hb _ _ rfl
          · split at h'
            · cases h'; exact hL _ (by simp)
            · cases h'; exact hb _ _ rfl
    exact key _ _ (fun l hl => by rw [LS_mem _ _ l hl]; exact hk) (prevB_len' hM k (by omega)) l n h

set_option maxHeartbeats 2000000 in
theorem sh_both (c : Ct) (hc : c.bands.length ≤ 1000) (d : Dm) (menu : List Ht) (hl : menu.length ≤ 1000) (m : Int) :
    (∃ e, Ans Try.prog n_cathode_Shortest [c.v (.view (c.bands.map Bd.v)), d.v, .view (menu.map Ht.v), .int .i64 m] [] (.tup [.nilsl, .int .i64 0, .int .i64 e]) [] ∧ Ans Try.prog n_ref03_Shortest [c.v (.view (c.bands.map Bd.v)), d.v, .view (menu.map Ht.v), .int .i64 m] [] (.tup [.nilsl, .int .i64 0, .int .i64 e]) []) ∨
    (∃ l n, l.length ≤ 5 ∧ Ans Try.prog n_cathode_Shortest [c.v (.view (c.bands.map Bd.v)), d.v, .view (menu.map Ht.v), .int .i64 m] [] (.tup [.sl 0 0 l.length, .int .i64 n, .int .i64 0]) [some (.cells true 1 (ivs l))] ∧ Ans Try.prog n_ref03_Shortest [c.v (.view (c.bands.map Bd.v)), d.v, .view (menu.map Ht.v), .int .i64 m] [] (.tup [.sl 0 0 l.length, .int .i64 n, .int .i64 0]) [some (.cells true 1 (ivs l))]) := by
  have g1 := checkDemand_raw c hc d
  have g2 := rCheck_raw c hc
  have g3 := rcheckDemand_raw d
  have g4 := checkMenu_raw menu hl m
  have g5 := rcheckMenu_raw menu hl m
  have hbm : Bels (fun _ => False) [AVal.view (menu.map Ht.v), .int .i64 m] := ⟨by rw [bel_view]; exact bels_map _ _ fun h => by simp only [go_sem, Ht.v, Ht.cs], .int _ _, trivial⟩
  unfold chkCD at g1
  by_cases c0 : chkC c = 0
  rotate_left
  · have b0 : (chkC c != 0) = true := by simp [c0]
    rw [if_neg c0] at g1
    refine .inl ⟨chkC c, ?_, ?_⟩
    · refine spec_run e_cathode_Shortest fun G => ?_
      simp only [go_sem, Ct.v, Ct.cs, Dm.v, Dm.cs]
      refine cP g1 ?_
      simp only [go_sem, b0]
    · refine spec_run e_ref03_Shortest fun G => ?_
      simp only [go_sem, Ct.v, Ct.cs, Dm.v, Dm.cs]
      refine cP g2 ?_
      simp only [go_sem, b0]
  rw [if_pos c0] at g1
  rw [c0] at g2
  by_cases c1 : chkD d = 0
  rotate_left
  · have b0 : (chkD d != 0) = true := by simp [c1]
    refine .inl ⟨chkD d, ?_, ?_⟩
    · refine spec_run e_cathode_Shortest fun G => ?_
      simp only [go_sem, Ct.v, Ct.cs, Dm.v, Dm.cs]
      refine cP g1 ?_
      simp only [go_sem, b0]
    · refine spec_run e_ref03_Shortest fun G => ?_
      simp only [go_sem, Ct.v, Ct.cs, Dm.v, Dm.cs]
      refine cP g2 ?_
      simp only [go_sem, Dm.v, Dm.cs]
      refine cP g3 ?_
      simp only [go_sem, b0]
  rw [c1] at g1 g3
  by_cases c2 : chkMenu menu m = 0
  rotate_left
  · have b0 : (chkMenu menu m != 0) = true := by simp [c2]
    refine .inl ⟨chkMenu menu m, ?_, ?_⟩
    · refine spec_run e_cathode_Shortest fun G => ?_
      simp only [go_sem, Ct.v, Ct.cs, Dm.v, Dm.cs]
      refine cP g1 ?_
      simp only [go_sem]
      refine cP g4 ?_ hbm
      simp only [go_sem, b0]
    · refine spec_run e_ref03_Shortest fun G => ?_
      simp only [go_sem, Ct.v, Ct.cs, Dm.v, Dm.cs]
      refine cP g2 ?_
      simp only [go_sem, Dm.v, Dm.cs]
      refine cP g3 ?_
      simp only [go_sem]
      refine cP g5 ?_ hbm
      simp only [go_sem, b0]
  obtain ⟨h0, hls, ht, hm⟩ := chkMenu_ok c2
  obtain ⟨k, rfl⟩ : ∃ k : Nat, m = (k : Int) := ⟨m.toNat, by omega⟩
  rw [c2] at g5
  have hk : 1 ≤ k ∧ k ≤ 5 := by omega
  have r1 := Shortest_runR c (chkC_ok c0) d c1 menu hls h0 ht k hk c0
  have r2 := rShortest_run c (chkC_ok c0) d c1 menu hls h0 ht k hk g5
  have hpl := prevB_len' (c := c) (d := d) (M := menu) (by omega) k hk.2
  rcases hB : prevB c d menu k with _ | ⟨l, n⟩
  · rw [hB] at r1 r2
    exact .inl ⟨7, r1, r2⟩
  · rw [hB] at r1 r2
    exact .inr ⟨l, n, hpl l n hB, r1, r2⟩
end Go.Proofs

namespace Go.Proofs
open Go Go.Sx
attribute [local irreducible] Run

structure FB (B : Heap) (c : Ct) (d : Dm) (M : List Ht) (jM : Nat) (H : Heap) : Prop where
  ext : ∃ Y, H = B ++ Y
  bands : H[1]? = some (some (BdR c.bands))
  coat : H.cellsAt 2 = some (false, 7, [c.v (.sl 1 0 c.bands.length)])
  dem : H.cellsAt 7 = some (false, 5, [d.v])
  menu : H.cellsAt jM = some (true, 3, M.map Ht.v)
theorem get_app {H : Heap} {j : Nat} {x : Option Row} (h : H[j]? = some x) (Y : Heap) : (H ++ Y)[j]? = some x := by
  rw [List.getElem?_append_left (List.getElem?_eq_some_iff.1 h).1]; exact h
theorem FB.app {B : Heap} {c : Ct} {d : Dm} {M : List Ht} {jM : Nat} {H : Heap} (h : FB B c d M jM H) (Y : Heap) : FB B c d M jM (H ++ Y) :=
  ⟨by obtain ⟨Z, rfl⟩ := h.ext; exact ⟨Z ++ Y, by simp⟩, get_app h.bands Y, cellsAt_app h.coat Y, cellsAt_app h.dem Y, cellsAt_app h.menu Y⟩
def BL (b : Option (List Int × Int)) (v : AVal) (t : Int) (H : Heap) : Prop :=
  match b with
  | none => v = .nilsl ∧ t = 0
  | some (l, n) => 0 < l.length ∧ t = n ∧ ∃ Q, v = .sl Q 0 l.length ∧ H[Q]? = some (some (.cells true 1 (ivs l)))
theorem BL.app {b : Option (List Int × Int)} {v : AVal} {t : Int} {H : Heap} (h : BL b v t H) (Y : Heap) : BL b v t (H ++ Y) := by
  cases b with
  | none => exact h
  | some l =>
    obtain ⟨h0, h1, Q, h2, h3⟩ := h
    exact ⟨h0, h1, Q, h2, get_app h3 Y⟩

end Go.Proofs

