/- The reference's check of a raw coat. -/
import Derived.Test.YtigaafcllfjniaaYeD
import Derived.Test.YtigaafcllfjniaaYdC
namespace Go.Proofs
open Go Go.Sx
attribute [local irreducible] Run

theorem beyond_yes {n a b : Int} (h : ¬ (a ≤ n ∧ n ≤ b)) : Ans Try.prog n_ref03_beyond [.int .i64 n, .int .i64 a, .int .i64 b] [] (.bool true) [] := by
  refine spec_run e_ref03_beyond fun G => ?_
  by_cases h1 : n < a
  · simp only [go_sem, h1]
  · have h2 : b < n := by omega
    simp only [go_sem, h1, h2]
theorem rcheckRange_raw (r : Rg) (m : Int) : Ans Try.prog n_ref03_checkRange [r.v, .int .i64 m] [] (.int .i64 (chkR m [r])) [] := by
  unfold chkR chkR
  refine spec_run e_ref03_checkRange fun G => ?_
  simp only [go_sem, Rg.v]
  by_cases c1 : 0 ≤ r.lo ∧ r.lo ≤ m
  rotate_left
  · rw [if_neg c1]
    refine cP (beyond_yes c1) ?_
    simp only [go_sem]
  rw [if_pos c1]
  refine cP (beyond_no c1) ?_
  simp only [go_sem]
  by_cases c2 : 0 ≤ r.hi ∧ r.hi ≤ m
  rotate_left
  · rw [if_neg c2]
    refine cP (beyond_yes c2) ?_
    simp only [go_sem]
  rw [if_pos c2]
  refine cP (beyond_no c2) ?_
  simp only [go_sem]
  refine ⟨fun c3 => ?_, fun c3 => ?_⟩
  · rw [if_pos c3]
  · rw [if_neg c3]
theorem chkR_cons (m : Int) (r : Rg) (rs : List Rg) : chkR m (r :: rs) = if chkR m [r] = 0 then chkR m rs else chkR m [r] := by
  simp only [chkR]
  by_cases c1 : 0 ≤ r.lo ∧ r.lo ≤ m
  · by_cases c2 : 0 ≤ r.hi ∧ r.hi ≤ m
    · by_cases c3 : r.hi < r.lo
      · simp [c1, c2, c3]
      · simp [c1, c2, c3]
    · simp [c1, c2]
  · simp [c1]

theorem rcheckRanges_raw (m : Int) (rs : List Rg) (hl : rs.length ≤ 1000) : Ans Try.prog n_ref03_checkRanges [.view (rs.map Rg.v), .int .i64 m] [] (.int .i64 (chkR m rs)) [] := by
  generalize hRES : chkR m rs = RES
  refine spec_run e_ref03_checkRanges fun G => ?_
  simp only [go_sem]
  refine loop_ind k_ref03_checkRanges_r7.eq_1 (fun a : Nat × Heap => a.1 ≤ rs.length ∧ chkR m (rs.drop a.1) = RES) (fun a => rs.length - a.1)
    (fun a => (tsets 22 [(0, .view (rs.map Rg.v)), (1, .int .i64 m), (5, .int .i64 a.1)], a.2)) (0, []) ⟨Nat.zero_le _, hRES⟩ (by simp [go_sem]) rfl ?_
  rintro ⟨i, X⟩ ⟨hi, hR⟩ ih
  dsimp only at hi hR ih ⊢
  by_cases h1 : i < rs.length
  · have h2 : (i : Int) < rs.length := by omega
    have n0 : ¬ (i : Int) < 0 := by omega
    have hx : rs[i]? = some rs[i] := List.getElem?_eq_getElem h1
    have h3 := idx_next h1 (by omega)
    rw [List.drop_eq_getElem_cons h1, chkR_cons] at hR
    generalize rs[i] = z at *
    have hr := rcheckRange_raw z m
    generalize chkR m [z] = e1 at *
    simp only [go_sem, hx, h2, n0, Rg.v, List.length_map]
    refine cP hr ?_
    by_cases c1 : e1 = 0
    · rw [if_pos c1] at hR
      subst c1
      simp only [go_sem, Int.reduceBNe, h3]
      exact ih (i + 1, _) (by dsimp only; omega) ⟨h1, hR⟩ _ (by simp [go_sem])
    · have b1 : (e1 != 0) = true := by simp [c1]
      rw [if_neg c1] at hR
      subst hR
      simp only [go_sem, b1]
  · have h2 : ¬ (i : Int) < rs.length := by omega
    rw [List.drop_of_length_le (by omega)] at hR
    subst hR
    simp only [go_sem, h2, chkR, List.length_map]

set_option maxHeartbeats 2000000 in
theorem rCheck_raw (c : Ct) (hl : c.bands.length ≤ 1000) : Ans Try.prog n_ref03_Check [c.v (.view (c.bands.map Bd.v))] [] (.int .i64 (chkC c)) [] := by
  have g1 := rcheckRanges_raw 1000000 [c.aid, c.yld] (by simp)
  generalize hRES : chkC c = RES
  unfold chkC at hRES
  refine spec_run e_ref03_Check fun G => ?_
  simp only [go_sem, Ct.v, Ct.cs]
  by_cases c1 : 1 ≤ c.amount ∧ c.amount ≤ 1000000
  rotate_left
  · rw [if_neg c1] at hRES
    subst hRES
    refine cP (beyond_yes c1) ?_
    simp only [go_sem]
  rw [if_pos c1] at hRES
  refine cP (beyond_no c1) ?_
  simp only [go_sem]
  by_cases c2 : 1 ≤ c.slew ∧ c.slew ≤ 2000
  rotate_left
  · rw [if_neg c2] at hRES
    subst hRES
    refine cP (beyond_yes c2) ?_
    simp only [go_sem]
  rw [if_pos c2] at hRES
  refine cP (beyond_no c2) ?_
  simp only [go_sem]
  refine cF g1 6 (by simp only [go_sem, frz, Rg.v]) ?_
  generalize chkR 1000000 [c.aid, c.yld] = e1 at *
  by_cases c3 : e1 = 0
  rotate_left
  · have b3 : (e1 != 0) = true := by simp [c3]
    rw [if_neg c3] at hRES
    subst hRES
    simp only [go_sem, b3]
    done
  rw [if_pos c3] at hRES
  subst c3
  simp only [go_sem, Int.reduceBNe, List.length_map]
  refine ⟨fun k1 => ?_, fun k1 => ⟨fun k2 => ?_, fun k2 => ?_⟩⟩
  · rw [if_pos (by omega)] at hRES; exact hRES
  · rw [if_neg (by omega), if_pos (by omega)] at hRES; exact hRES
  rw [if_neg (by omega), if_neg (by omega)] at hRES
  refine loop_ind k_ref03_Check_r21.eq_1 (fun a : Nat × Heap => a.1 ≤ c.bands.length ∧ chkB (prevF c.bands a.1) (c.bands.drop a.1) = RES) (fun a => c.bands.length - a.1)
    (fun a => (tsets 83 [(1, .ptr 0 0 0 1), (2, .int .i64 0), (4, .int .i64 a.1)], some (.cells false 7 [c.v (.view (c.bands.map Bd.v))]) :: a.2)) (0, [_]) ⟨Nat.zero_le _, hRES⟩ (by simp [go_sem]) rfl ?_
  rintro ⟨i, X⟩ ⟨hi, hR⟩ ih
  dsimp only at hi hR ih ⊢
  by_cases h1 : i < c.bands.length
  · have h2 : (i : Int) < c.bands.length := by omega
    have hx : c.bands[i]? = some c.bands[i] := List.getElem?_eq_getElem h1
    have h3 := idx_next h1 (by omega)
    have n0 : ¬ (i : Int) < 0 := by omega
    have hpn : prevF c.bands (i + 1) = some (c.bands[i]).frm := by
      unfold prevF
      rw [if_neg (by omega), Nat.add_sub_cancel, List.getD_eq_getElem?_getD, hx]; rfl
    have hpi : 0 < i → ∃ b : Bd, c.bands[i - 1]? = some b ∧ prevF c.bands i = some b.frm := fun h0 => by
      refine ⟨_, List.getElem?_eq_getElem (by omega), ?_⟩
      unfold prevF
      rw [if_neg (by omega), List.getD_eq_getElem?_getD, List.getElem?_eq_getElem (by omega)]; rfl
    have hp0 : i = 0 → prevF c.bands i = none := fun h0 => by unfold prevF; rw [if_pos h0]
    rw [List.drop_eq_getElem_cons h1] at hR
    generalize c.bands[i] = b at *
    unfold chkB at hR
    have g2 := rcheckRanges_raw 1000000 [b.conv, b.red, b.evap, b.sint] (by simp)
    generalize chkR 1000000 [b.conv, b.red, b.evap, b.sint] = e2 at *
    simp only [go_sem, hx, h2, n0, Bd.v, Bd.cs, Ct.v, Ct.cs, List.length_map]
    by_cases c4 : 0 ≤ b.frm ∧ b.frm ≤ 2000
    rotate_left
    · rw [if_neg c4] at hR
      subst hR
      refine cP (beyond_yes c4) ?_
      simp only [go_sem]
    rw [if_pos c4] at hR
    refine cP (beyond_no c4) ?_
    by_cases h0 : i = 0
    · have hb : ((i : Int) == 0) = true := by simp [h0]
      have hg2 : ¬ (0 : Int) < i := by omega
      rw [hp0 h0] at hR
      by_cases c5 : b.frm = 0
      · have hb5 : (b.frm != 0) = false := by simp [c5]
        rw [if_pos (by simp [ordB, c5])] at hR
        simp only [go_sem, hb, hg2, hb5]
        refine cF g2 6 (by simp only [go_sem, frz, Rg.v]) ?_
        by_cases c6 : e2 = 0
        · rw [if_pos c6] at hR
          subst c6
          simp only [go_sem, Int.reduceBNe, h3]
          exact ih (i + 1, _) (by dsimp only; omega) ⟨h1, by dsimp only; rw [hpn]; exact hR⟩ _ (by simp [go_sem])
        · have b6 : (e2 != 0) = true := by simp [c6]
          rw [if_neg c6] at hR
          subst hR
          simp only [go_sem, b6]
      · have hb5 : (b.frm != 0) = true := by simp [c5]
        rw [if_neg (by simp [ordB, c5])] at hR
        subst hR
        simp only [go_sem, hb, hb5]
    · obtain ⟨b', hb1, hb2⟩ := hpi (by omega)
      have hb : ((i : Int) == 0) = false := by simp [h0]
      have hg2 : (0 : Int) < i := by omega
      have hg3 : IntKind.i64.wrap ((i : Int) - 1) = ((i - 1 : Nat) : Int) := by rw [w64 (by omega)]; omega
      rw [hb2] at hR
      simp only [go_sem, hb, hg2, hg3, hb1, Bd.v, Bd.cs]
      refine ⟨fun c5 => ?_, fun c5 => ?_⟩
      · have ho : ¬ ordB (some b'.frm) b.frm = true := by simp only [ordB, decide_eq_true_eq]; omega
        rw [if_neg ho] at hR
        exact hR
      · have ho : ordB (some b'.frm) b.frm = true := by simp only [ordB, decide_eq_true_eq]; omega
        rw [if_pos ho] at hR
        refine cF g2 6 (by simp only [go_sem, frz, Rg.v]) ?_
        by_cases c6 : e2 = 0
        · rw [if_pos c6] at hR
          subst c6
          simp only [go_sem, Int.reduceBNe, h3]
          exact ih (i + 1, _) (by dsimp only; omega) ⟨h1, by dsimp only; rw [hpn]; exact hR⟩ _ (by simp [go_sem])
        · have b6 : (e2 != 0) = true := by simp [c6]
          rw [if_neg c6] at hR
          subst hR
          simp only [go_sem, b6]
  · have h2 : ¬ (i : Int) < c.bands.length := by omega
    rw [List.drop_of_length_le (by omega)] at hR
    subst hR
    simp only [go_sem, h2, chkB, List.length_map, Ct.v, Ct.cs]
end Go.Proofs
