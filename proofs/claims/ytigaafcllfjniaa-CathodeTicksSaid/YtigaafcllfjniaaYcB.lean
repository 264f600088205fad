/- Coats: parts, ranges, ticks. -/
import Derived.Test.YtigaafcllfjniaaYcA
import Derived.Test.YtigaafcllfjniaaYkCath
namespace Go.Proofs
open Go Go.Sx

theorem within_ok (n a b : Int) : Ans Try.prog n_cathode_within [.int .i64 n, .int .i64 a, .int .i64 b] [] (.bool (decide (a ≤ n) && decide (n ≤ b))) [] := by
  refine spec_run e_cathode_within fun G => ?_
  simp only [go_sem]
  refine ⟨fun h => ?_, fun h => ?_⟩ <;> simp [h]
theorem within_yes {n a b : Int} (h : a ≤ n ∧ n ≤ b) : Ans Try.prog n_cathode_within [.int .i64 n, .int .i64 a, .int .i64 b] [] (.bool true) [] := by
  have := within_ok n a b
  rwa [show (decide (a ≤ n) && decide (n ≤ b)) = true by simp [h]] at this

theorem idx_next {i n : Nat} (h : i < n) (hn : n ≤ 9223372036854775807) : IntKind.i64.wrap ((i : Int) + 1) = ((i + 1 : Nat) : Int) := by rw [IntWalk.i64_in _ (by omega)]; rfl

theorem checkRanges_ok (m : Int) (rs : List Rg) (h : ∀ r ∈ rs, RgIn r m) (hl : rs.length ≤ 1000) : Ans Try.prog n_cathode_checkRanges [.int .i64 m, .view (rs.map Rg.v)] [] (.int .i64 0) [] := by
  refine spec_run e_cathode_checkRanges fun G => ?_
  simp only [go_sem]
  refine loop_ind k_cathode_checkRanges_r9.eq_1 (fun a : Nat × Heap => a.1 ≤ rs.length) (fun a => rs.length - a.1)
    (fun a => ([.int .i64 m, .view (rs.map Rg.v), .any, .any, .int .i64 0, .any, .any, .view (rs.map Rg.v), .int .i64 rs.length, .int .i64 a.1] ++ List.replicate 21 .any, a.2)) (0, []) (Nat.zero_le _) (by simp [Wk]) rfl ?_
  rintro ⟨i, X⟩ hi ih
  dsimp only at hi ih ⊢
  by_cases h1 : i < rs.length
  · have h2 : (i : Int) < rs.length := by omega
    obtain ⟨r1, r2, r3⟩ := h _ (List.getElem_mem h1)
    have hx : rs[i]? = some rs[i] := List.getElem?_eq_getElem h1
    have h3 := idx_next h1 (by omega)
    generalize rs[i] = z at *
    have r4 : ¬ z.hi < z.lo := by omega
    simp only [go_sem, hx, h2, Rg.v]
    refine cP (within_yes ⟨r1, by omega⟩) ?_
    simp only [go_sem]
    refine cP (within_yes ⟨by omega, r3⟩) ?_
    simp only [go_sem, r4, h3]
    exact ih (i + 1, _) (by dsimp only; omega) h1 _ (by simp [Wk])
  · have h2 : ¬ (i : Int) < rs.length := by omega
    simp only [go_sem, h2]

theorem partDown_ok (a r : Int) (ha : 0 ≤ a ∧ a ≤ 1000000) (hr : 0 ≤ r ∧ r ≤ 1000000) : Ans Try.prog n_cathode_partDown [.int .i64 a, .int .i64 r] [] (.int .i64 (dn a r)) [] := by
  have h1 := mul_rng ha.1 ha.2 hr.1 hr.2
  have h2 : IntKind.i64.wrap (a * r) = a * r := w64 (by omega)
  have h3 : (a * r).tdiv 1000000 = dn a r := Int.tdiv_eq_ediv_of_nonneg h1.1
  have h4 : IntKind.i64.wrap (dn a r) = dn a r := w64 (by have := dn_in ha.1 hr.1 hr.2; omega)
  refine spec_run e_cathode_partDown fun G => ?_
  simp only [go_sem, h2, h3, h4]
theorem partUp_ok (a r : Int) (ha : 0 ≤ a ∧ a ≤ 1000000) (hr : 0 ≤ r ∧ r ≤ 1000000) : Ans Try.prog n_cathode_partUp [.int .i64 a, .int .i64 r] [] (.int .i64 (up a r)) [] := by
  have h1 := mul_rng ha.1 ha.2 hr.1 hr.2
  have h2 : IntKind.i64.wrap (a * r) = a * r := w64 (by omega)
  have h5 : IntKind.i64.wrap (a * r + 1000000) = a * r + 1000000 := w64 (by omega)
  have h6 : IntKind.i64.wrap (a * r + 1000000 - 1) = a * r + 999999 := by rw [w64 (by omega)]; omega
  have h3 : (a * r + 999999).tdiv 1000000 = up a r := Int.tdiv_eq_ediv_of_nonneg (by omega)
  have h4 : IntKind.i64.wrap (up a r) = up a r := w64 (by have := up_in ha.1 hr.1 hr.2; omega)
  refine spec_run e_cathode_partUp fun G => ?_
  simp only [go_sem, h2, h5, h6, h3, h4]

/-- Both of its numbers are in range. -/
structure RgB (r : Rg) : Prop where
  lo : 0 ≤ r.lo ∧ r.lo ≤ 1000000
  hi : 0 ≤ r.hi ∧ r.hi ≤ 1000000
theorem RgIn.b {r : Rg} {m : Int} (h : RgIn r m) (hm : m ≤ 1000000) : RgB r := by
  obtain ⟨a, b, c⟩ := h
  exact ⟨⟨a, by omega⟩, ⟨by omega, by omega⟩⟩

theorem parts_ok (a r : Rg) (ha : RgB a) (hr : RgB r) : Ans Try.prog n_cathode_parts [a.v, r.v] [] (parts a r).v [] := by
  refine spec_run e_cathode_parts fun G => ?_
  simp only [go_sem, Rg.v]
  refine dP (partDown_ok _ _ ha.lo hr.lo) ?_
  simp only [go_sem]
  refine cP (partUp_ok _ _ ha.hi hr.hi) ?_
  simp only [go_sem, parts]

theorem remains_ok (a r : Rg) (ha : RgB a) (hr : RgB r) : Ans Try.prog n_cathode_remains [a.v, r.v] [] (remains a r).v [] := by
  have u := up_in ha.lo.1 hr.hi.1 hr.hi.2
  have d := dn_in ha.hi.1 hr.lo.1 hr.lo.2
  have h1 := ha.lo; have h2 := ha.hi
  have e1 : IntKind.i64.wrap (a.lo - up a.lo r.hi) = a.lo - up a.lo r.hi := w64 (by omega)
  have e2 : IntKind.i64.wrap (a.hi - dn a.hi r.lo) = a.hi - dn a.hi r.lo := w64 (by omega)
  refine spec_run e_cathode_remains fun G => ?_
  simp only [go_sem, Rg.v]
  refine dP (partUp_ok _ _ ha.lo hr.hi) ?_
  simp only [go_sem, e1]
  refine dP (partDown_ok _ _ ha.hi hr.lo) ?_
  simp only [go_sem, e2, remains]

theorem sum_ok (a b : Rg) (h : -1000000000000000 ≤ a.lo ∧ a.lo ≤ 1000000000000000) (h2 : -1000000000000000 ≤ a.hi ∧ a.hi ≤ 1000000000000000) (h3 : -1000000000000000 ≤ b.lo ∧ b.lo ≤ 1000000000000000) (h4 : -1000000000000000 ≤ b.hi ∧ b.hi ≤ 1000000000000000) :
    Ans Try.prog n_cathode_sum [a.v, b.v] [] (sumR a b).v [] := by
  have e1 : IntKind.i64.wrap (a.lo + b.lo) = a.lo + b.lo := w64 (by omega)
  have e2 : IntKind.i64.wrap (a.hi + b.hi) = a.hi + b.hi := w64 (by omega)
  refine spec_run e_cathode_sum fun G => ?_
  simp only [go_sem, Rg.v, e1, e2, sumR]

theorem moved_ok (h a s : Int) (hh : 0 ≤ h ∧ h ≤ 2000) (ha : 0 ≤ a ∧ a ≤ 2000) (hs : 1 ≤ s ∧ s ≤ 2000) : Ans Try.prog n_cathode_moved [.int .i64 h, .int .i64 a, .int .i64 s] [] (.int .i64 (moved h a s)) [] := by
  have e1 : IntKind.i64.wrap (h - s) = h - s := w64 (by omega)
  have e2 : IntKind.i64.wrap (h + s) = h + s := w64 (by omega)
  refine spec_run e_cathode_moved fun G => ?_
  simp only [go_sem, e1, e2, moved, mi, mx]
  rfl
end Go.Proofs
