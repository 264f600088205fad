/- CathodeKnown. -/
import Derived.Test.YtgikocfbedopmaaYdL
import Derived.Test.YtgikocfbedopmaaYdX
import Derived.Test.YtgikocfbedopmaaYdY
namespace Go.Proofs
open Go Go.Sx
attribute [local irreducible] Run

theorem kfrz {H : Heap} {j : Nat} {g : Bool} {c : Ct} {bs : List Bd} (h : H[j]? = some (some (.cells g 9 (bs.map Bd.v)))) (hl : bs.length = 2) : frz 6 H (c.v (.sl j 0 2)) = c.v (.view (bs.map Bd.v)) := by
  have h1 : frz 5 H (.sl j 0 2) = .view (bs.map Bd.v) := by
    rw [frz_sl (d := 4) h (by simpa using hl.symm), bds_frz]
  show AVal.agg [_, _, _, _, _, _, frz 5 H (.sl j 0 2)] = _
  rw [h1]; rfl

set_option maxRecDepth 20000 in
set_option maxHeartbeats 8000000 in
theorem known_ok : Ans Try.prog n_law03_CathodeKnown [] [] (.bool true) [] := by
  have u1 : IntKind.i64.wrap 1 = 1 := rfl
  have u2 : IntKind.i64.wrap 2 = 2 := rfl
  have u3 : IntKind.i64.wrap 3 = 3 := rfl
  have u4 : IntKind.i64.wrap 4 = 4 := rfl
  have hS := sample_run
  have hs := span_run 2 1
  refine spec_run e_law03_CathodeKnown fun G => ?_
  simp only [go_sem]
  refine cN1 hS ?_ (hr := by simp [go_sem, Ct.v, Ct.cs]) (hx := by rw [row_bel_cells]; simp only [go_sem])
  simp only [go_sem, ren, rens, Ct.v, Ct.cs, kC]
  refine loop_body 200 k_law03_CathodeKnown_r7.eq_1 ?_
  simp only [go_sem]
  refine cN1 hS ?_ (hr := by simp [go_sem, Ct.v, Ct.cs]) (hx := by rw [row_bel_cells]; simp only [go_sem])
  simp only [go_sem, ren, rens, Ct.v, Ct.cs, kC, u1]
  refine loop_body 200 k_law03_CathodeKnown_r7.eq_1 ?_
  simp only [go_sem]
  refine cN1 hS ?_ (hr := by simp [go_sem, Ct.v, Ct.cs]) (hx := by rw [row_bel_cells]; simp only [go_sem])
  simp only [go_sem, ren, rens, Ct.v, Ct.cs, kC, u2]
  refine loop_body 200 k_law03_CathodeKnown_r7.eq_1 ?_
  simp only [go_sem]
  refine cN1 hS ?_ (hr := by simp [go_sem, Ct.v, Ct.cs]) (hx := by rw [row_bel_cells]; simp only [go_sem])
  simp only [go_sem, ren, rens, Ct.v, Ct.cs, kC, u3]
  refine loop_body 200 k_law03_CathodeKnown_r7.eq_1 ?_
  simp only [go_sem]
  refine cN1 hS ?_ (hr := by simp [go_sem, Ct.v, Ct.cs]) (hx := by rw [row_bel_cells]; simp only [go_sem])
  simp only [go_sem, ren, rens, Ct.v, Ct.cs, kC, u4]
  refine loop_body 3000 k_law03_CathodeKnown_r7.eq_1 ?_
  simp only [go_sem, kB0, kB1, Bd.v, Bd.cs]
  refine dP hs ?_
  simp only [go_sem, Rg.v]
  refine cP awake_ok ?_
  simp only [go_sem]
  refine cF (Check_run kC kC_ok) 6 ⟨.inl (kfrz (c := kC) (bs := kC.bands) (H := _) rfl rfl), trivial⟩ ?_
  simp only [go_sem, Int.reduceBNe, Int.reduceBEq]
  refine cF chk0 6 ⟨.inl (kfrz (c := { kC with amount := 0 }) (bs := kC.bands) (H := _) rfl rfl), trivial⟩ ?_
  simp only [go_sem, Int.reduceBNe, Int.reduceBEq]
  refine cF chk1 6 ⟨.inl rfl, trivial⟩ ?_
  simp only [go_sem, Int.reduceBNe, Int.reduceBEq]
  refine cF chk2 6 ⟨.inl (kfrz (c := kC) (bs := [{ kB0 with frm := 5 }, kB1]) (H := _) rfl rfl), trivial⟩ ?_
  simp only [go_sem, Int.reduceBNe, Int.reduceBEq]
  refine cF chk3 6 ⟨.inl (kfrz (c := { kC with aid := ⟨2, 1⟩ }) (bs := kC.bands) (H := _) rfl rfl), trivial⟩ ?_
  simp only [go_sem, Int.reduceBNe, Int.reduceBEq]
  -- ticks
  have hF := Fresh_run kC kC_ok
  have hx0 := fresh_good kC_ok
  have hT := Tick_run kC kC_ok kF hx0.ok 1100 0 (by decide) (by decide) (by rw [k_warm]; decide)
  rw [k_warm] at hT
  refine cF hF 6 ⟨.inl (kfrz (c := kC) (bs := kC.bands) (H := _) rfl rfl), trivial⟩ ?_
  simp only [go_sem, Cg.v, Cg.cs, fresh, kC]
  refine cF hT 6 ⟨.inl (kfrz (c := kC) (bs := kC.bands) (H := _) rfl rfl), .inl rfl, .inl rfl, .inl rfl, trivial⟩ ?_ (by simp only [go_sem, Cg.v, Cg.cs]) (by simp only [go_sem, Cg.v, Cg.cs])
  simp only [go_sem, Cg.v, Cg.cs, kF, fresh, kC]
  refine dP (span_run 1000 1000) ?_
  simp only [go_sem, Rg.v]
  refine dP (span_run 1000 1000) ?_
  simp only [go_sem, Rg.v, Int.reduceBNe, Int.reduceBEq]
  -- what follows
  have hm2 : LsOK [⟨2, 1100, 0⟩, ⟨2, 1100, 0⟩] := ⟨by decide, fun h hh => by
    simp only [List.mem_cons, List.not_mem_nil, or_false] at hh
    rcases hh with rfl | rfl <;> exact ⟨by decide, by decide, by decide⟩, by decide⟩
  have hFo := Follow_run kC kC_ok _ hm2 (by simp)
  have hFl : (follow kC [⟨2, 1100, 0⟩, ⟨2, 1100, 0⟩]).length = 2 := rfl
  have hF1 := k_follow
  have hgx : CgOK kC kX1 := by
    have h2 : (follow kC [⟨2, 1100, 0⟩, ⟨2, 1100, 0⟩])[1]? = some (endX kC (fresh kC) [⟨2, 1100, 0⟩, ⟨2, 1100, 0⟩]) := rfl
    have h3 := endX_good (l := [⟨2, 1100, 0⟩, ⟨2, 1100, 0⟩]) kC_ok (fresh_good kC_ok) hm2.all (by decide)
    have h4 : endX kC (fresh kC) [⟨2, 1100, 0⟩, ⟨2, 1100, 0⟩] = kX1 := Option.some.inj (h2.symm.trans hF1)
    rw [h4] at h3
    exact h3.ok
  have hE := Emission_run kC kC_ok kX1 hgx
  rw [k_emit] at hE
  have hL0 := Life_run kC kC_ok kF 0 hx0 (by decide) 300 0 0 (by decide) (by decide) (by decide)
  have hL1 := Life_run kC kC_ok kF 0 hx0 (by decide) 300 0 1 (by decide) (by decide) (by decide)
  have l0 : lifeLo kC kF 300 0 0 = 5000 ∧ lifeHi kC kF 300 0 0 = 5000 := by
    constructor
    · unfold lifeLo
      rw [lifeN_all (fun j => by rw [k_tickN]; decide)]
    · unfold lifeHi
      rw [lifeN_all (fun j => by rw [k_tickN]; decide)]
  have l1 : lifeLo kC kF 300 0 1 = 0 ∧ lifeHi kC kF 300 0 1 = 0 := by
    constructor
    · unfold lifeLo
      rw [show (5000 : Nat) = 4999 + 1 from rfl, lifeN, if_neg (by rw [k_tickN]; decide)]
    · unfold lifeHi
      rw [show (5000 : Nat) = 4999 + 1 from rfl, lifeN, if_neg (by rw [k_tickN]; decide)]
  rw [l0.1, l0.2] at hL0
  rw [l1.1, l1.2] at hL1
  generalize follow kC [⟨2, 1100, 0⟩, ⟨2, 1100, 0⟩] = F at *
  refine dP hot_run ?_ (hr := by simp only [go_sem])
  simp only [go_sem, Ht.v, Ht.cs]
  refine dP hot_run ?_ (hr := by simp only [go_sem])
  simp only [go_sem, Ht.v, Ht.cs]
  refine cFN hFo 6 ⟨.inl (kfrz (c := kC) (bs := kC.bands) (H := _) rfl rfl), .inl (sch_frz (l := [⟨2, 1100, 0⟩, ⟨2, 1100, 0⟩]) (H := _) rfl rfl), trivial⟩ ?_
  simp only [go_sem, ren, rens, CgR, List.length_map, hFl, hF1, kX1, Cg.v, Cg.cs, Int.reduceBNe, Int.reduceBEq]
  refine dP (span_run 512 729) ?_
  simp only [go_sem, Rg.v]
  refine dP (span_run 217 486) ?_
  simp only [go_sem, Rg.v]
  refine dP (span_run 26 56) ?_
  simp only [go_sem, Rg.v]
  refine dP (span_run 0 1) ?_
  simp only [go_sem, Rg.v]
  refine dP (span_run 64 162) ?_
  simp only [go_sem, Rg.v]
  refine dP (span_run 3 6) ?_
  simp only [go_sem, Rg.v, kX1, Cg.v, Cg.cs, List.length_map, hFl, hF1, Int.reduceBNe, Int.reduceBEq]
  refine dF hE 6 [0] ⟨.inl (kfrz (c := kC) (bs := kC.bands) (H := _) (onlyR_row rfl (by simp)) rfl), .inl rfl, trivial⟩ ?_
  simp only [go_sem, Rg.v]
  refine cF hL0 6 ⟨.inl (kfrz (c := kC) (bs := kC.bands) (H := _) rfl rfl), .inl rfl, .inl rfl, .inl rfl, .inl rfl, trivial⟩ ?_
  simp only [go_sem, Rg.v]
  refine cF hL1 6 ⟨.inl (kfrz (c := kC) (bs := kC.bands) (H := _) rfl rfl), .inl rfl, .inl rfl, .inl rfl, .inl rfl, trivial⟩ ?_
  simp only [go_sem, Rg.v]
  refine dP (span_run 13 28) ?_
  simp only [go_sem, Rg.v]
  refine dP (span_run 5000 5000) ?_
  simp only [go_sem, Rg.v]
  refine dP (span_run 0 0) ?_
  simp only [go_sem, Rg.v, Int.reduceBNe, Int.reduceBEq]
  refine cP courses_ok ?_
  simp only [go_sem]
  refine cP kverdicts_ok ?_
  simp only [go_sem]
end Go.Proofs
