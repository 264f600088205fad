/- CathodeAges. -/
import Derived.Test.YtbjfjgiinjhikacYcQ
import Derived.Test.YtbjfjgiinjhikacYcN
namespace Go.Proofs
open Go Go.Sx
attribute [local irreducible] Run

set_option maxRecDepth 20000 in
set_option maxHeartbeats 8000000 in
theorem ages_law (xs : List Int) (hl : xs.length ≤ 9223372036854775807) (a1 a2 a3 a4 : Int) : Ans Try.prog n_law03_CathodeAges [.view (xs.map (.int .i64)), .int .i64 a1, .int .i64 a2, .int .i64 a3, .int .i64 a4] [] (.bool true) [] := by
  have hd := newdice_ok xs hl
  generalize seedW xs = w at *
  refine spec_run e_law03_CathodeAges fun G => ?_
  simp only [go_sem]
  refine callN1 hd ⟨by rw [bel_view]; exact bels_map _ _ fun _ => .int _ _, trivial⟩ (dr_bel _ _) (by simp) (by simp) ?_
  simp only [go_sem]
  refine callDN (coatOf_run w) rfl trivial (dr_bel _ _) (fun a ha => ⟨by simp only [go_sem], by simp only [go_sem], by simp only [go_sem]⟩) (by simp) (by simp) ?_
  rintro ⟨c, w1⟩ hc
  dsimp only at hc
  have hsd := scheduleOf_det w1 5 20 (by decide) (by decide)
  have hsc := schedOf_sch w1 5 20 (by decide) (by decide)
  generalize schedOf w1 5 20 = S at *
  obtain ⟨l, w2⟩ := S
  dsimp only at hsd hsc
  have hls := hsc.ok (by decide) (by decide) (by decide)
  have hlen := hsc.len
  have hsum := Sch.sum (most := 5) hsc.all
  have hmo : LsOK (l ++ [⟨1, 900, 0⟩]) := LsOK.snoc hls.all ⟨by decide, by decide, by decide⟩ (by omega) (by dsimp only; omega)
  have hF := Follow_run c hc (l ++ [⟨1, 900, 0⟩]) hmo (by simp)
  have hlast := follow_last c l ⟨1, 900, 0⟩
  have hgl := last_good hc hmo
  have hms := hmo.sum
  have hfl : (follow c (l ++ [⟨1, 900, 0⟩])).length = (l ++ [(⟨1, 900, 0⟩ : Ht)]).length := followX_len c _ _
  have hml : (l ++ [(⟨1, 900, 0⟩ : Ht)]).length = l.length + 1 := by simp
  generalize heatN c ⟨1, 900, 0⟩ (endX c (fresh c) l) = x at *
  generalize follow c (l ++ [⟨1, 900, 0⟩]) = F at *
  have hsn := ht_snoc l ⟨1, 900, 0⟩
  generalize l ++ [(⟨1, 900, 0⟩ : Ht)] = m at *
  have hm1 := mod_pos a1 2001 (by decide)
  have hm2 := mod_pos a2 1001 (by decide)
  have g1 : 0 ≤ a1 % 2001 ∧ a1 % 2001 ≤ 2000 := by omega
  have g2 : 0 ≤ a2 % 1001 ∧ a2 % 1001 ≤ 1000 := by omega
  have ham := hc.amount
  have u1 : IntKind.i64.wrap (c.amount + 1) = c.amount + 1 := w64 (by omega)
  have hm3 := mod_pos a3 (c.amount + 1) (by omega)
  have hm4 := mod_pos a4 (c.amount + 1) (by omega)
  have g3 := Int.emod_nonneg a3 (show c.amount + 1 ≠ 0 by omega)
  have g3' := Int.emod_lt_of_pos a3 (show 0 < c.amount + 1 by omega)
  have g4 := Int.emod_nonneg a4 (show c.amount + 1 ≠ 0 by omega)
  have g4' := Int.emod_lt_of_pos a4 (show 0 < c.amount + 1 by omega)
  generalize a1 % 2001 = heat at *
  generalize a2 % 1001 = cur at *
  generalize a3 % (c.amount + 1) = p at *
  generalize a4 % (c.amount + 1) = q at *
  have hA := Life_run c hc x _ hgl (by omega) heat cur (if q < p then q else p) g1 g2 (by split <;> omega)
  have hB := Life_run c hc x _ hgl (by omega) heat cur (if q > p then q else p) g1 g2 (by split <;> omega)
  obtain ⟨s1, s2, s3, s4, s5⟩ := life_says hc hgl (by omega) g1 g2 (a := if q < p then q else p) (b := if q > p then q else p) (by split <;> split <;> omega)
  generalize lifeLo c x heat cur (if q < p then q else p) = A1 at *
  generalize lifeHi c x heat cur (if q < p then q else p) = A2 at *
  generalize lifeLo c x heat cur (if q > p then q else p) = B1 at *
  generalize lifeHi c x heat cur (if q > p then q else p) = B2 at *
  dsimp only at hsn
  have b0 : ((m.length : Int) == 0) = false := beq_eq_false_iff_ne.2 (by omega)
  have w0 : IntKind.i64.wrap ((m.length : Int) - 1) = (l.length : Int) := by rw [w64 (by omega)]; omega
  have n0 : ¬ (l.length : Int) < 0 := by omega
  have n1 : (l.length : Int) < m.length := by omega
  have t1 : (A1 : Int) ≤ A2 := by omega
  have t2 : (B1 : Int) ≤ B2 := by omega
  have t3 : (B1 : Int) ≤ A1 := by omega
  have t4 : (B2 : Int) ≤ A2 := by omega
  have t5 : (0 : Int) ≤ A1 := by omega
  have t6 : (A2 : Int) ≤ 5000 := by omega
  simp only [go_sem, Ct.v, Ct.cs, ren, rens]
  by_cases hnil : l = []
  · have e1 : slv 1 (List.map Ht.v l) = .nilsl := by rw [hnil]; rfl
    have e2 : slrG false 3 (List.map Ht.v l) = [] := by rw [hnil]; rfl
    rw [e1, e2] at hsd
    rw [show List.map Ht.v l = [] by rw [hnil]; rfl, List.nil_append] at hsn
    refine dD hsd ?_
    simp only [go_sem]
    refine ⟨by decide, ?_⟩
    rw [hsn, show AVal.sl 4 0 1 = AVal.sl 4 0 m.length by rw [hml, hnil]; rfl]
    refine cFN hF 6 ⟨.inl (ct_frz (H := _) rfl), .inl (sch_frz (H := _) rfl rfl), trivial⟩ ?_
    simp only [go_sem, ren, rens, CgR, List.length_map, hfl, b0]
    simp only [go_sem, w0, n0, n1, hlast, Cg.v, Cg.cs, hfl, List.length_map]
    refine cP hm1 ?_
    simp only [go_sem]
    refine cP hm2 ?_
    simp only [go_sem, u1]
    refine dP hm3 ?_
    simp only [go_sem, u1]
    first | refine cP hm4 ?_ | refine dP hm4 ?_
    simp only [go_sem]
    refine cF hA 6 ⟨.inl (ct_frz (H := _) rfl), .inl rfl, .inl rfl, .inl rfl, .inl rfl, trivial⟩ ?_
    simp only [go_sem, Rg.v]
    refine cF hB 6 ⟨.inl (ct_frz (H := _) rfl), .inl rfl, .inl rfl, .inl rfl, .inl rfl, trivial⟩ ?_
    simp only [go_sem, Rg.v, t1, t2, t3, t4, t5, t6]
    refine cP awake_ok ?_
    simp only [go_sem]
  have hne : List.map Ht.v l ≠ [] := by simpa using hnil
  refine dDs hsd hne rfl ⟨.int _ _, .int _ _, trivial⟩ (dr_bel _ _) (dr_bel _ _) (by simp only [go_sem]) (by simp) ?_ ?_
  · simp only [go_sem]
  simp only [go_sem, List.length_map, hsn]
  refine ⟨by omega, ?_⟩
  refine cFN hF 6 ⟨.inl (ct_frz (H := _) rfl), .inl (sch_frz (H := _) rfl (by rw [hml])), trivial⟩ ?_
  simp only [go_sem, ren, rens, CgR, List.length_map, hfl, b0]
  simp only [go_sem, w0, n0, n1, hlast, Cg.v, Cg.cs, hfl, List.length_map]
  refine cP hm1 ?_
  simp only [go_sem]
  refine cP hm2 ?_
  simp only [go_sem, u1]
  refine dP hm3 ?_
  simp only [go_sem, u1]
  first | refine cP hm4 ?_ | refine dP hm4 ?_
  simp only [go_sem]
  refine cF hA 6 ⟨.inl (ct_frz (H := _) rfl), .inl rfl, .inl rfl, .inl rfl, .inl rfl, trivial⟩ ?_
  simp only [go_sem, Rg.v]
  refine cF hB 6 ⟨.inl (ct_frz (H := _) rfl), .inl rfl, .inl rfl, .inl rfl, .inl rfl, trivial⟩ ?_
  simp only [go_sem, Rg.v, t1, t2, t3, t4, t5, t6]
  refine cP awake_ok ?_
  simp only [go_sem]
end Go.Proofs
