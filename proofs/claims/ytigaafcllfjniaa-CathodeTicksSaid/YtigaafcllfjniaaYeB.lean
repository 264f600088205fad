/- Checks of raw coats. -/
import Derived.Test.YtigaafcllfjniaaYeA
namespace Go.Proofs
open Go Go.Sx
attribute [local irreducible] Run

/-- The first error of ranges. -/
def chkR (m : Int) : List Rg → Int
  | [] => 0
  | r :: rs => if 0 ≤ r.lo ∧ r.lo ≤ m then (if 0 ≤ r.hi ∧ r.hi ≤ m then (if r.hi < r.lo then 11 else chkR m rs) else 2) else 2
theorem within_no {n a b : Int} (h : ¬ (a ≤ n ∧ n ≤ b)) : Ans Try.prog n_cathode_within [.int .i64 n, .int .i64 a, .int .i64 b] [] (.bool false) [] := by
  have := within_ok n a b
  rwa [show (decide (a ≤ n) && decide (n ≤ b)) = false by simp; omega] at this

theorem checkRanges_raw (m : Int) (rs : List Rg) (hl : rs.length ≤ 1000) : Ans Try.prog n_cathode_checkRanges [.int .i64 m, .view (rs.map Rg.v)] [] (.int .i64 (chkR m rs)) [] := by
  generalize hRES : chkR m rs = RES
  refine spec_run e_cathode_checkRanges fun G => ?_
  simp only [go_sem]
  refine loop_ind k_cathode_checkRanges_r9.eq_1 (fun a : Nat × Heap => a.1 ≤ rs.length ∧ chkR m (rs.drop a.1) = RES) (fun a => rs.length - a.1)
    (fun a => ([.int .i64 m, .view (rs.map Rg.v), .any, .any, .int .i64 0, .any, .any, .view (rs.map Rg.v), .int .i64 rs.length, .int .i64 a.1] ++ List.replicate 21 .any, a.2)) (0, []) ⟨Nat.zero_le _, hRES⟩ (by simp [Wk]) rfl ?_
  rintro ⟨i, X⟩ ⟨hi, hR⟩ ih
  dsimp only at hi hR ih ⊢
  by_cases h1 : i < rs.length
  · have h2 : (i : Int) < rs.length := by omega
    have hx : rs[i]? = some rs[i] := List.getElem?_eq_getElem h1
    have h3 := idx_next h1 (by omega)
    rw [List.drop_eq_getElem_cons h1] at hR
    generalize rs[i] = z at *
    unfold chkR at hR
    simp only [go_sem, hx, h2, Rg.v]
    by_cases c1 : 0 ≤ z.lo ∧ z.lo ≤ m
    · rw [if_pos c1] at hR
      refine cP (within_yes c1) ?_
      simp only [go_sem]
      by_cases c2 : 0 ≤ z.hi ∧ z.hi ≤ m
      · rw [if_pos c2] at hR
        refine cP (within_yes c2) ?_
        simp only [go_sem, h3]
        refine ⟨fun c3 => ?_, fun c3 => ?_⟩
        · rw [if_pos c3] at hR
          exact hR
        · rw [if_neg c3] at hR
          exact ih (i + 1, _) (by dsimp only; omega) ⟨h1, hR⟩ _ (by simp [Wk])
      · rw [if_neg c2] at hR
        subst hR
        refine cP (within_no c2) ?_
        simp only [go_sem]
    · rw [if_neg c1] at hR
      subst hR
      refine cP (within_no c1) ?_
      simp only [go_sem]
  · have h2 : ¬ (i : Int) < rs.length := by omega
    rw [List.drop_of_length_le (by omega)] at hR
    subst hR
    simp only [go_sem, h2, chkR]
end Go.Proofs
