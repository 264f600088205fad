/- CathodeParts. -/
import Derived.Test.YtbjfjgiinjhikacYcK
namespace Go.Proofs
open Go Go.Sx

set_option maxRecDepth 20000 in
set_option maxHeartbeats 8000000 in
theorem parts_law (xs : List Int) (hl : xs.length ≤ 9223372036854775807) (a1 a2 : Int) : Ans Try.prog n_law03_CathodeParts [.view (xs.map (.int .i64)), .int .i64 a1, .int .i64 a2] [] (.bool true) [] := by
  have hd := newdice_ok xs hl
  generalize seedW xs = w at *
  refine spec_run e_law03_CathodeParts fun G => ?_
  simp only [go_sem]
  refine callN1 hd ⟨by rw [bel_view]; exact bels_map _ _ fun _ => .int _ _, trivial⟩ (dr_bel _ _) (by simp) (by simp) ?_
  simp only [go_sem]
  refine callDN (coatOf_run w) rfl trivial (dr_bel _ _) (fun a ha => ⟨by simp only [go_sem], by simp only [go_sem], by simp only [go_sem]⟩) (by simp) (by simp) ?_
  rintro ⟨c, w1⟩ hc
  dsimp only at hc
  simp only [go_sem, Ct.v, Ct.cs, ren, rens]
  refine callDS (scheduleOf_set w1 5 20 (by decide) (by decide)) rfl ⟨.int _ _, .int _ _, trivial⟩ (dr_bel _ _) (fun a ha => ⟨by simp only [go_sem], by simp only [go_sem]⟩) (by simp) (by simp) ?_
  rintro ⟨l, w2⟩ hl
  dsimp only at hl
  have hls := hl.ok (by decide) (by decide) (by decide)
  by_cases hnil : l = []
  · have e1 : slv 3 (List.map Ht.v l) = .nilsl := by rw [hnil]; rfl
    have e2 : slrG false 3 (List.map Ht.v l) = [] := by rw [hnil]; rfl
    simp only [go_sem, e1, e2]
    refine cP awake_ok ?_
    simp only [go_sem]
  have hne : List.map Ht.v l ≠ [] := by simpa using hnil
  have e1 : slv 3 (List.map Ht.v l) = .sl 3 0 l.length := by unfold slv; rw [if_neg hne, List.length_map]
  have e2 : slrG false 3 (List.map Ht.v l) = [some (.cells false 3 (List.map Ht.v l))] := by unfold slrG; rw [if_neg hne]
  have hlp : 0 < l.length := List.length_pos_iff.2 hnil
  have hlen := hl.len
  have b0 : ((l.length : Int) == 0) = false := by simp; omega
  have hmod := mod_pos a1 l.length (by omega)
  have hj0 := Int.emod_nonneg a1 (show (l.length : Int) ≠ 0 by omega)
  have hj1 := Int.emod_lt_of_pos a1 (show (0 : Int) < l.length by omega)
  obtain ⟨j, hj⟩ : ∃ j : Nat, a1 % (l.length : Int) = j := ⟨(a1 % (l.length : Int)).toNat, by omega⟩
  rw [hj] at hmod hj0 hj1
  have hjl : j < l.length := by omega
  have hx : l[j]? = some l[j] := List.getElem?_eq_getElem hjl
  have hz := hls.all _ (List.getElem_mem hjl)
  generalize l[j] = z at *
  have hzt := hz.ticks
  have n0 : ¬ (j : Int) < 0 := by omega
  simp only [go_sem, e1, e2, b0]
  refine cP hmod ?_
  by_cases ht1 : z.ticks = 1
  · have bt : (z.ticks == 1) = true := by simp [ht1]
    simp only [go_sem, hx, n0, hj1, Ht.v, Ht.cs, bt]
    refine cP awake_ok ?_
    simp only [go_sem]
  have bt : (z.ticks == 1) = false := by simp [ht1]
  have u1 : IntKind.i64.wrap (z.ticks - 1) = z.ticks - 1 := w64 (by omega)
  have hmod2 := mod_pos a2 (z.ticks - 1) (by omega)
  have hk0 := Int.emod_nonneg a2 (show z.ticks - 1 ≠ 0 by omega)
  have hk1 := Int.emod_lt_of_pos a2 (show 0 < z.ticks - 1 by omega)
  generalize a2 % (z.ticks - 1) = q at *
  have u2 : IntKind.i64.wrap (1 + q) = 1 + q := w64 (by omega)
  have u3 : IntKind.i64.wrap (z.ticks - (1 + q)) = z.ticks - (1 + q) := w64 (by omega)
  have u4 : IntKind.i64.wrap ((j : Int) + 1) = ((j + 1 : Nat) : Int) := by rw [w64 (by omega)]; omega
  simp only [go_sem, bt, hx, n0, hj1, Ht.v, Ht.cs, u1]
  refine cP hmod2 ?_
  have hjle : (j : Int) ≤ l.length := by omega
  have hjz : (0 : Int) ≤ j := by omega
  have ht : 1 ≤ 1 + q ∧ 1 + q < z.ticks := by omega
  have hmo := inParts_ok hx hls (by omega) (1 + q) ht
  have hme : ∀ i, _ := parts_same (c := c) hx (1 + q) ht
  have hml : (inParts l j ⟨1 + q, z.heat, z.cur⟩ ⟨z.ticks - (1 + q), z.heat, z.cur⟩).length = l.length + 1 := inParts_len hjl
  have hmm : List.take j (List.map Ht.v l) ++ AVal.agg [.int .i64 (1 + q), .int .i64 z.heat, .int .i64 z.cur] :: AVal.agg [.int .i64 (z.ticks - (1 + q)), .int .i64 z.heat, .int .i64 z.cur] :: List.drop (j + 1) (List.map Ht.v l) =
      List.map Ht.v (inParts l j ⟨1 + q, z.heat, z.cur⟩ ⟨z.ticks - (1 + q), z.heat, z.cur⟩) := by
    simp only [inParts, List.map_append, List.map_take, List.map_drop, List.map_cons, List.map_nil, List.cons_append, List.nil_append]; rfl
  generalize inParts l j ⟨1 + q, z.heat, z.cur⟩ ⟨z.ticks - (1 + q), z.heat, z.cur⟩ = m at *
  have hmne : m ≠ [] := fun h => by rw [h] at hml; simp at hml
  have hF1 := Follow_run c hc l hls hnil
  have hF2 := Follow_run c hc m hmo hmne
  have hL1 : (follow c l).length = l.length := followX_len c l (fresh c)
  have hL2 : (follow c m).length = m.length := followX_len c m (fresh c)
  generalize follow c l = A at *
  generalize follow c m = B at *
  have d2 : j ≤ l.length := by omega
  have d3 : j * 24 ≤ 2 ^ 44 := by omega
  have d4 : (j + 2) * 24 ≤ 2 ^ 44 := by omega
  have d5 : (List.take j (List.map Ht.v l)).length = j := by simp; omega
  have d6 : (j + 2 + (l.length - (j + 1))) * 24 ≤ 2 ^ 44 := by omega
  have d7 : (List.drop (j + 1) (List.map Ht.v l)).length = l.length - (j + 1) := by simp
  have d8 : j + 2 + (l.length - (j + 1)) = m.length := by omega
  have d9 : (0 : Int) ≤ ((j + 1 : Nat) : Int) := by omega
  have d10 : ((j + 1 : Nat) : Int) ≤ l.length := by omega
  have c0 : ((l.length : Int) != l.length) = false := by simp
  have c1 : ((m.length : Int) != m.length) = false := by simp
  by_cases hj0 : j = 0
  · have d1 : (0 = (j : Int)) = True := by simp; omega
    have e8 : 2 + (l.length - (j + 1)) = m.length := by omega
    have e9 : 2 * 24 ≤ 2 ^ 44 := by omega
    rw [show List.take j (List.map Ht.v l) = [] by simp [hj0], List.nil_append] at hmm
    by_cases hjn : j + 1 = l.length
    · rw [show List.drop (j + 1) (List.map Ht.v l) = [] by simp; omega] at hmm
      have e10 : 2 = m.length := by omega
      have d11 : (((j + 1 : Nat) : Int) = (l.length : Int)) = True := by simp; omega
      simp only [go_sem, u2, hx, n0, hj1, Ht.v, Ht.cs, u3, hjle, hjz, d2, d3, d4, d5, Nat.sub_zero, u4, d9, d10, d1, e8, e9, d11, Nat.add_zero]
      refine ⟨by decide, Int.le_refl _, ?_⟩
      rw [hmm, show AVal.sl 6 0 2 = AVal.sl 6 0 m.length by rw [← e10]]
      refine cFN hF1 6 ⟨.inl (ct_frz (H := _) rfl), .inl (sch_frz (H := _) rfl rfl), trivial⟩ ?_
      simp only [go_sem, ren, rens]
      refine cFN hF2 6 ⟨.inl (ct_frz (H := _) rfl), .inl (sch_frz (H := _) rfl rfl), trivial⟩ ?_
      simp only [go_sem, ren, rens, hL1, hL2, c0, c1, CgR, List.length_map]
      refine loop_indH k_law03_CathodeParts_r26.eq_1 (fun a : Nat => a ≤ l.length) (fun a => l.length - a)
        (fun a => tsets 136 [(1, .int .i64 j), (6, .bool false), (13, .sl 8 0 l.length), (15, .sl 9 0 m.length), (17, .int .i64 a)]) 0 (Nat.zero_le _) (by simp [go_sem]) ?_
      intro i hi ih
      by_cases h1 : i < l.length
      · have h2 : (i : Int) < l.length := by omega
        have h3 := idx_next h1 (by omega)
        have i0 : ¬ (i : Int) < 0 := by omega
        have hA : A[i]? = some A[i] := List.getElem?_eq_getElem (by omega)
        have hB := hme i
        rw [hA] at hB
        generalize A[i] = x at *
        by_cases hij : j ≤ i
        · rw [if_pos hij] at hB
          have g1 : (j : Int) ≤ i := by omega
          have i1 : ((i + 1 : Nat) : Int) < m.length := by omega
          have i2 : ¬ ((i + 1 : Nat) : Int) < 0 := by omega
          simp only [go_sem, h2, h3, i0, i1, i2, hL1, hL2, hA, hB, g1, Cg.v, Cg.cs]
          exact ih (i + 1) (by omega) h1 _ (by simp [go_sem])
        · rw [if_neg hij] at hB
          have g1 : ¬ (j : Int) ≤ i := by omega
          have i1 : (i : Int) < m.length := by omega
          simp only [go_sem, h2, h3, i0, i1, hL1, hL2, hA, hB, g1, Cg.v, Cg.cs]
          exact ih (i + 1) (by omega) h1 _ (by simp [go_sem])
      · have h2 : ¬ (i : Int) < l.length := by omega
        simp only [go_sem, h2, hL1]
        refine cP awake_ok ?_
        simp only [go_sem]
    · have e12 : m.length * 24 ≤ 2 ^ 44 := by omega
      have d11 : (((j + 1 : Nat) : Int) = (l.length : Int)) = False := by simp; omega
      have d12 : j + 1 + (l.length - (j + 1)) ≤ l.length := by omega
      have d13 : List.take (l.length - (j + 1)) (List.drop (j + 1) (List.map Ht.v l)) = List.drop (j + 1) (List.map Ht.v l) := List.take_of_length_le (by rw [d7]; exact Nat.le_refl _)
      simp only [go_sem, u2, hx, n0, hj1, Ht.v, Ht.cs, u3, hjle, hjz, d2, d3, d4, d5, Nat.sub_zero, u4, d9, d10, d1, e8, e9, d6, d7, d11, d12, d13, hmm, e12]
      refine ⟨by decide, Int.le_refl _, ?_⟩
      refine cFN hF1 6 ⟨.inl (ct_frz (H := _) rfl), .inl (sch_frz (H := _) rfl rfl), trivial⟩ ?_
      simp only [go_sem, ren, rens]
      refine cFN hF2 6 ⟨.inl (ct_frz (H := _) rfl), .inl (sch_frz (H := _) rfl rfl), trivial⟩ ?_
      simp only [go_sem, ren, rens, hL1, hL2, c0, c1, CgR, List.length_map]
      refine loop_indH k_law03_CathodeParts_r26.eq_1 (fun a : Nat => a ≤ l.length) (fun a => l.length - a)
        (fun a => tsets 136 [(1, .int .i64 j), (6, .bool false), (13, .sl 8 0 l.length), (15, .sl 9 0 m.length), (17, .int .i64 a)]) 0 (Nat.zero_le _) (by simp [go_sem]) ?_
      intro i hi ih
      by_cases h1 : i < l.length
      · have h2 : (i : Int) < l.length := by omega
        have h3 := idx_next h1 (by omega)
        have i0 : ¬ (i : Int) < 0 := by omega
        have hA : A[i]? = some A[i] := List.getElem?_eq_getElem (by omega)
        have hB := hme i
        rw [hA] at hB
        generalize A[i] = x at *
        by_cases hij : j ≤ i
        · rw [if_pos hij] at hB
          have g1 : (j : Int) ≤ i := by omega
          have i1 : ((i + 1 : Nat) : Int) < m.length := by omega
          have i2 : ¬ ((i + 1 : Nat) : Int) < 0 := by omega
          simp only [go_sem, h2, h3, i0, i1, i2, hL1, hL2, hA, hB, g1, Cg.v, Cg.cs]
          exact ih (i + 1) (by omega) h1 _ (by simp [go_sem])
        · rw [if_neg hij] at hB
          have g1 : ¬ (j : Int) ≤ i := by omega
          have i1 : (i : Int) < m.length := by omega
          simp only [go_sem, h2, h3, i0, i1, hL1, hL2, hA, hB, g1, Cg.v, Cg.cs]
          exact ih (i + 1) (by omega) h1 _ (by simp [go_sem])
      · have h2 : ¬ (i : Int) < l.length := by omega
        simp only [go_sem, h2, hL1]
        refine cP awake_ok ?_
        simp only [go_sem]
  · have d1 : (0 = (j : Int)) = False := by simp; omega
    by_cases hjn : j + 1 = l.length
    · have e8 : j + 2 = m.length := by omega
      rw [show List.drop (j + 1) (List.map Ht.v l) = [] by simp; omega] at hmm
      have e12 : m.length * 24 ≤ 2 ^ 44 := by omega
      have d11 : (((j + 1 : Nat) : Int) = (l.length : Int)) = True := by simp; omega
      simp only [go_sem, u2, hx, n0, hj1, Ht.v, Ht.cs, u3, hjle, hjz, d2, d3, d4, d5, Nat.sub_zero, u4, d9, d10, d1, e8, d11, hmm, e12]
      refine ⟨Int.le_refl _, ?_⟩
      refine cFN hF1 6 ⟨.inl (ct_frz (H := _) rfl), .inl (sch_frz (H := _) rfl rfl), trivial⟩ ?_
      simp only [go_sem, ren, rens]
      refine cFN hF2 6 ⟨.inl (ct_frz (H := _) rfl), .inl (sch_frz (H := _) rfl rfl), trivial⟩ ?_
      simp only [go_sem, ren, rens, hL1, hL2, c0, c1, CgR, List.length_map]
      refine loop_indH k_law03_CathodeParts_r26.eq_1 (fun a : Nat => a ≤ l.length) (fun a => l.length - a)
        (fun a => tsets 136 [(1, .int .i64 j), (6, .bool false), (13, .sl 8 0 l.length), (15, .sl 9 0 m.length), (17, .int .i64 a)]) 0 (Nat.zero_le _) (by simp [go_sem]) ?_
      intro i hi ih
      by_cases h1 : i < l.length
      · have h2 : (i : Int) < l.length := by omega
        have h3 := idx_next h1 (by omega)
        have i0 : ¬ (i : Int) < 0 := by omega
        have hA : A[i]? = some A[i] := List.getElem?_eq_getElem (by omega)
        have hB := hme i
        rw [hA] at hB
        generalize A[i] = x at *
        by_cases hij : j ≤ i
        · rw [if_pos hij] at hB
          have g1 : (j : Int) ≤ i := by omega
          have i1 : ((i + 1 : Nat) : Int) < m.length := by omega
          have i2 : ¬ ((i + 1 : Nat) : Int) < 0 := by omega
          simp only [go_sem, h2, h3, i0, i1, i2, hL1, hL2, hA, hB, g1, Cg.v, Cg.cs]
          exact ih (i + 1) (by omega) h1 _ (by simp [go_sem])
        · rw [if_neg hij] at hB
          have g1 : ¬ (j : Int) ≤ i := by omega
          have i1 : (i : Int) < m.length := by omega
          simp only [go_sem, h2, h3, i0, i1, hL1, hL2, hA, hB, g1, Cg.v, Cg.cs]
          exact ih (i + 1) (by omega) h1 _ (by simp [go_sem])
      · have h2 : ¬ (i : Int) < l.length := by omega
        simp only [go_sem, h2, hL1]
        refine cP awake_ok ?_
        simp only [go_sem]
    · have e12 : m.length * 24 ≤ 2 ^ 44 := by omega
      have d11 : (((j + 1 : Nat) : Int) = (l.length : Int)) = False := by simp; omega
      have d12 : j + 1 + (l.length - (j + 1)) ≤ l.length := by omega
      have d13 : List.take (l.length - (j + 1)) (List.drop (j + 1) (List.map Ht.v l)) = List.drop (j + 1) (List.map Ht.v l) := List.take_of_length_le (by rw [d7]; exact Nat.le_refl _)
      simp only [go_sem, u2, hx, n0, hj1, Ht.v, Ht.cs, u3, hjle, hjz, d2, d3, d4, d5, Nat.sub_zero, u4, d9, d10, d1, d8, d6, d7, d11, d12, d13, hmm, e12]
      refine ⟨Int.le_refl _, ?_⟩
      refine cFN hF1 6 ⟨.inl (ct_frz (H := _) rfl), .inl (sch_frz (H := _) rfl rfl), trivial⟩ ?_
      simp only [go_sem, ren, rens]
      refine cFN hF2 6 ⟨.inl (ct_frz (H := _) rfl), .inl (sch_frz (H := _) rfl rfl), trivial⟩ ?_
      simp only [go_sem, ren, rens, hL1, hL2, c0, c1, CgR, List.length_map]
      refine loop_indH k_law03_CathodeParts_r26.eq_1 (fun a : Nat => a ≤ l.length) (fun a => l.length - a)
        (fun a => tsets 136 [(1, .int .i64 j), (6, .bool false), (13, .sl 8 0 l.length), (15, .sl 9 0 m.length), (17, .int .i64 a)]) 0 (Nat.zero_le _) (by simp [go_sem]) ?_
      intro i hi ih
      by_cases h1 : i < l.length
      · have h2 : (i : Int) < l.length := by omega
        have h3 := idx_next h1 (by omega)
        have i0 : ¬ (i : Int) < 0 := by omega
        have hA : A[i]? = some A[i] := List.getElem?_eq_getElem (by omega)
        have hB := hme i
        rw [hA] at hB
        generalize A[i] = x at *
        by_cases hij : j ≤ i
        · rw [if_pos hij] at hB
          have g1 : (j : Int) ≤ i := by omega
          have i1 : ((i + 1 : Nat) : Int) < m.length := by omega
          have i2 : ¬ ((i + 1 : Nat) : Int) < 0 := by omega
          simp only [go_sem, h2, h3, i0, i1, i2, hL1, hL2, hA, hB, g1, Cg.v, Cg.cs]
          exact ih (i + 1) (by omega) h1 _ (by simp [go_sem])
        · rw [if_neg hij] at hB
          have g1 : ¬ (j : Int) ≤ i := by omega
          have i1 : (i : Int) < m.length := by omega
          simp only [go_sem, h2, h3, i0, i1, hL1, hL2, hA, hB, g1, Cg.v, Cg.cs]
          exact ih (i + 1) (by omega) h1 _ (by simp [go_sem])
      · have h2 : ¬ (i : Int) < l.length := by omega
        simp only [go_sem, h2, hL1]
        refine cP awake_ok ?_
        simp only [go_sem]
end Go.Proofs
