/- A part of the proof. -/
import Derived.Test.YtdodlephmmpemaaPI
set_option linter.unusedSimpArgs false
set_option linter.unusedVariables false
namespace Go.Proofs
open Go Go.Sx
attribute [local irreducible] Run

def shE (p : Rp) (e r d : Int) : Int := if p.err ≠ 0 then p.err else shErr p.pl e r d
theorem Shift_bad (p : Rp) (e r d : Int) (hlen : p.cs.length ≤ 1000000) (h : shE p e r d ≠ 0) : Ans Try.prog n_field_Shift [p.v, .int .i64 e, .int .i64 r, .int .i64 d] [] (.tup [noPl, .int .i64 (shE p e r d)]) [] := by
  unfold shE at h ⊢
  by_cases h1 : p.err = 0
  · rw [if_neg fun h2 => h2 h1] at h ⊢
    obtain ⟨hp, hpv⟩ := Rp.ok h1
    rw [hpv]
    exact Shift_no hp e r d h
  · rw [if_pos h1]
    have c1 := Check_raw p hlen
    have h1' : (p.err != 0) = true := by simp [h1]
    refine spec_run e_field_Shift fun G => ?_
    simp only [go_sem, Rp.v, vw]
    refine cP c1 ?_
    simp only [go_sem, h1', noPl]
theorem rShift_bad (p : Rp) (e r d : Int) (hlen : p.cs.length ≤ 1000000) (h : shE p e r d ≠ 0) : Ans Try.prog n_ref01_Shift [p.v, .int .i64 e, .int .i64 r, .int .i64 d] [] (.tup [noPl, .int .i64 (shE p e r d)]) [] := by
  have c1 := rCheck_raw p hlen
  unfold shE at h ⊢
  by_cases h1 : p.err = 0
  · rw [if_neg fun h2 => h2 h1] at h ⊢
    obtain ⟨hp, hpv⟩ := Rp.ok h1
    rw [h1] at c1
    rw [hpv] at c1 ⊢
    exact rShift_no hp c1 e r d h
  · rw [if_pos h1]
    have h1' : (p.err != 0) = true := by simp [h1]
    refine spec_run e_ref01_Shift fun G => ?_
    simp only [go_sem, Rp.v, vw]
    refine cP c1 ?_
    simp only [go_sem, h1', noPl]
theorem refSame_none : Ans Try.prog n_ref01_Same [noPl, noPl] [] (.bool true) [] := by
  have h := (SameInts_self (l := []) (by simp)).lss (args' := [.nilsl, .nilsl]) ⟨.inr ⟨rfl, rfl⟩, .inr ⟨rfl, rfl⟩, trivial⟩
  refine spec_run e_ref01_Same fun G => ?_
  simp only [go_sem, noPl]
  refine cP h ?_
  simp only [go_sem]

set_option maxHeartbeats 8000000 in
set_option maxRecDepth 10000 in
theorem plays_ok (zs : List Int) (hl : zs.length ≤ 9223372036854775807) (sw k g a : Int) : Ans Try.prog n_law01_plays [.view (zs.map (.int .i64)), .int .i64 sw, .int .i64 k, .int .i64 g, .int .i64 a] [] (.bool true) [] := by
  have m0 := mod_pos sw 26 (by omega)
  have hn : 0 ≤ sw % 26 ∧ sw % 26 ≤ 25 := by omega
  generalize sw % 26 = ni at *
  obtain ⟨n, rfl⟩ : ∃ n : Nat, (n : Int) = ni := ⟨ni.toNat, by omega⟩
  have m1 := fun x : Int => mod_pos x 5 (by omega)
  have w1' : IntKind.i64.wrap 1 = 1 := by decide
  have w2' : IntKind.i64.wrap (1 + 1) = 2 := by decide
  have w4' : IntKind.i64.wrap 2 = 2 := by decide
  have hq4 : (n : Int).tmod 4 = (n : Int) % 4 := Int.tmod_eq_emod_of_nonneg hn.1
  refine spec_run e_law01_plays fun G => ?_
  simp only [go_sem]
  refine callN1 (newdice_ok zs hl) (by simp only [go_sem]) (dr_bel _ _) (by simp) (by simp) ?_
  generalize seedW zs = w
  simp only [go_sem]
  refine callDN (PlanOf_ok w 6 4 (by omega) (by omega)) rfl (by simp only [go_sem]) (dr_bel _ _) (fun q hq => ⟨pla_bel _ _ _ _ rfl, dr_bel _ _, iv_row _ _ _⟩) (by simp) (by simp) ?_
  rintro ⟨w1, q⟩ hq
  dsimp only at hq ⊢
  have hqo := hq.ok
  simp only [go_sem, Pl.a, Pl.c4, ren, rens]
  refine callDN (Tube_ok w1 7 5 (by omega) (by omega)) rfl (by simp only [go_sem]) (dr_bel _ _) (fun q hq => ⟨pla_bel _ _ _ _ rfl, dr_bel _ _, iv_row _ _ _⟩) (by simp) (by simp) ?_
  rintro ⟨w2, t⟩ hto
  dsimp only at hto ⊢
  simp only [go_sem, Pl.a, Pl.c4, ren, rens]
  refine cP m0 ?_
  simp only [go_sem]
  refine loop_body 3000 k_law01_plays_r14.eq_1 ?_
  simp only [go_sem, Pl.a, Pl.c4, ren, rens, w1', w2', w4', hq4]
  refine cP (m1 k) ?_
  simp only [go_sem, Pl.a, Pl.c4, ren, rens, w1', w2', w4', hq4]
  refine cP (m1 g) ?_
  simp only [go_sem, Pl.a, Pl.c4, ren, rens, w1', w2', w4', hq4]
  refine cP (m1 a) ?_
  simp only [go_sem, Pl.a, Pl.c4, ren, rens, w1', w2', w4', hq4]
  generalize k % 5 = k1
  generalize g % 5 = g1
  generalize a % 5 = a1
  have A1 := Play_gen hqo (n := n) (by omega) k1 g1 a1
  have B1 := rPlay_gen hqo (n := n) (by omega) k1 g1 a1
  generalize (playR q n k1 g1 a1).1 = x1 at *
  generalize (playR q n k1 g1 a1).2 = x2 at *
  refine cF A1 6 ⟨.inl (pla_frz 3 (p := q) (j := 1) (g := true) rfl rfl), .inl rfl, .inl rfl, .inl rfl, .inl rfl, trivial⟩ ?_
  simp only [go_sem, Pl.a, Pl.c4, ren, rens, w1', w2', w4', hq4]
  refine cF B1 6 ⟨.inl (pla_frz 3 (p := q) (j := 1) (g := true) rfl rfl), .inl rfl, .inl rfl, .inl rfl, .inl rfl, trivial⟩ ?_
  simp only [go_sem, Pl.a, Pl.c4, ren, rens, w1', w2', w4', hq4]
  refine loop_body 3000 k_law01_plays_r14.eq_1 ?_
  simp only [go_sem, Pl.a, Pl.c4, ren, rens, w1', w2', w4', hq4]
  refine cP (m1 k1) ?_
  simp only [go_sem, Pl.a, Pl.c4, ren, rens, w1', w2', w4', hq4]
  refine cP (m1 g1) ?_
  simp only [go_sem, Pl.a, Pl.c4, ren, rens, w1', w2', w4', hq4]
  refine cP (m1 a1) ?_
  by_cases h4 : 0 < (n : Int) % 4
  · simp only [go_sem, Pl.a, Pl.c4, ren, rens, w1', w2', w4', hq4, h4]
    have A2 := Play_gen hto (n := n) (by omega) 1 2 3
    have B2 := rPlay_gen hto (n := n) (by omega) 1 2 3
    generalize (playR t n 1 2 3).1 = y1 at *
    generalize (playR t n 1 2 3).2 = y2 at *
    refine cF A2 6 ⟨.inl (pla_frz 3 (p := t) (j := 2) (g := true) rfl rfl), .inl rfl, .inl rfl, .inl rfl, .inl rfl, trivial⟩ ?_
    simp only [go_sem, Pl.a, Pl.c4, ren, rens, w1', w2', w4', hq4]
    refine cF B2 6 ⟨.inl (pla_frz 3 (p := t) (j := 2) (g := true) rfl rfl), .inl rfl, .inl rfl, .inl rfl, .inl rfl, trivial⟩ ?_
    simp only [go_sem, Pl.a, Pl.c4, ren, rens, w1', w2', w4', hq4]
    refine loop_body 3000 k_law01_plays_r14.eq_1 ?_
    simp only [go_sem, Pl.a, Pl.c4, ren, rens, w1', w2', w4', hq4]
  · simp only [go_sem, Pl.a, Pl.c4, ren, rens, w1', w2', w4', hq4, h4]
    generalize k1 % 5 = k2
    generalize g1 % 5 = g2
    generalize a1 % 5 = a2
    have A2 := Play_gen hto (n := n) (by omega) k2 g2 a2
    have B2 := rPlay_gen hto (n := n) (by omega) k2 g2 a2
    generalize (playR t n k2 g2 a2).1 = y1 at *
    generalize (playR t n k2 g2 a2).2 = y2 at *
    refine cF A2 6 ⟨.inl (pla_frz 3 (p := t) (j := 2) (g := true) rfl rfl), .inl rfl, .inl rfl, .inl rfl, .inl rfl, trivial⟩ ?_
    simp only [go_sem, Pl.a, Pl.c4, ren, rens, w1', w2', w4', hq4]
    refine cF B2 6 ⟨.inl (pla_frz 3 (p := t) (j := 2) (g := true) rfl rfl), .inl rfl, .inl rfl, .inl rfl, .inl rfl, trivial⟩ ?_
    simp only [go_sem, Pl.a, Pl.c4, ren, rens, w1', w2', w4', hq4]
    refine loop_body 3000 k_law01_plays_r14.eq_1 ?_
    simp only [go_sem, Pl.a, Pl.c4, ren, rens, w1', w2', w4', hq4]

set_option maxHeartbeats 16000000 in
set_option maxRecDepth 20000 in
theorem shifts_law (p : Rp) (e r d sw : Int) (zs : List Int) (hl : zs.length ≤ 9223372036854775807) : Ans Try.prog n_law01_FieldShifts [p.v, .int .i64 e, .int .i64 r, .int .i64 d, .int .i64 sw, .view (zs.map (.int .i64))] [] (.bool true) [] := by
  by_cases hb : p.cs.length ≤ 300
  rotate_left
  · have hB := big_gen p [] (by simp) true (by simp; omega)
    refine spec_run e_law01_FieldShifts fun G => ?_
    simp only [go_sem, Rp.v, vw]
    refine cF hB 6 ⟨.inl (rp_frz 3 _ p), .inr ⟨rfl, rfl⟩, trivial⟩ ?_
    simp only [go_sem]
    refine cP awake_ok ?_
    simp only [go_sem]
  have hB := big_gen p [] (by simp) false (by simp; omega)
  have mE := mod_pos e 4 (by omega)
  have mR := mod_pos r 5 (by omega)
  have mD := mod_pos d 5 (by omega)
  have hE5 : 0 ≤ e % 4 ∧ e % 4 < 4 := ⟨Int.emod_nonneg _ (by decide), Int.emod_lt_of_pos _ (by decide)⟩
  have hR5 : 0 ≤ r % 5 ∧ r % 5 < 5 := ⟨Int.emod_nonneg _ (by decide), Int.emod_lt_of_pos _ (by decide)⟩
  have hD5 : 0 ≤ d % 5 ∧ d % 5 < 5 := ⟨Int.emod_nonneg _ (by decide), Int.emod_lt_of_pos _ (by decide)⟩
  generalize e % 4 = e' at *
  generalize r % 5 = rr at *
  generalize d % 5 = dd at *
  have wr : IntKind.i64.wrap (rr - 2) = rr - 2 := w64 (by omega)
  have wd : IntKind.i64.wrap (dd - 2) = dd - 2 := w64 (by omega)
  have wr2 : IntKind.i64.wrap (rr - 2 + 2) = rr := by rw [w64 (by omega)]; omega
  have wd2 : IntKind.i64.wrap (dd - 2 + 2) = dd := by rw [w64 (by omega)]; omega
  have hPl := plays_ok zs hl sw e' rr dd
  refine spec_run e_law01_FieldShifts fun G => ?_
  simp only [go_sem, Rp.v, vw]
  refine cF hB 6 ⟨.inl (rp_frz 3 _ p), .inr ⟨rfl, rfl⟩, trivial⟩ ?_
  simp only [go_sem]
  refine callN1 (newdice_ok zs hl) (by simp only [go_sem]) (dr_bel _ _) (by simp) (by simp) ?_
  generalize seedW zs = w
  simp only [go_sem]
  refine callDN (PlanOf_ok w 8 6 (by omega) (by omega)) rfl (by simp only [go_sem]) (dr_bel _ _) (fun q hq => ⟨pla_bel _ _ _ _ rfl, dr_bel _ _, iv_row _ _ _⟩) (by simp) (by simp) ?_
  rintro ⟨w1, q⟩ hq
  dsimp only at hq ⊢
  have hqo := hq.ok
  have hqN : q.cs.length ≤ 256 := by rw [hqo.len]; exact Nat.mul_le_mul hqo.w.2 hqo.h.2
  have hql : q.cs.length ≤ 1000000 := by omega
  have hq1 : 1 ≤ q.cs.length := by rw [hqo.len]; exact Nat.mul_pos hqo.w.1 hqo.h.1
  have hqC := rCheck_raw q.rp hql
  rw [hqo.err, Pl.rp_v] at hqC
  have sS := refSame_self (p := q) hql
  simp only [go_sem, Pl.a, Pl.c4, ren, rens]
  refine cFN (Copy_ok hql hq1) 6 ⟨.inl (pla_frz 3 (j := 2) (g := true) rfl rfl), trivial⟩ ?_ (by simp [go_sem, Pl.a, Pl.c4]) (by simp only [go_sem, Pl.a, Pl.c4]) (iv_row _ _ _) (iv_nv _ _)
  simp only [go_sem, Pl.a, Pl.c4, ren, rens]
  by_cases hE : shE p e r d = 0
  · have hpe : p.err = 0 := by
      unfold shE at hE
      by_cases h : p.err = 0
      · exact h
      · rw [if_pos h] at hE; exact absurd hE h
    have hE1 : shErr p.pl e r d = 0 := by unfold shE at hE; rwa [if_neg fun h => h hpe] at hE
    obtain ⟨hp, hpv⟩ := Rp.ok hpe
    have he1 : 1 ≤ e ∧ e ≤ 6 := by
      have h := (shErr_parts hE1).1
      have := hp.cell e h.2
      omega
    have hC := rCheck_raw p (by omega)
    rw [hpe, hpv] at hC
    have b1 := Shift_yes hp he1 hE1
    have b2 := rShift_yes hp hC hE1
    have hpl : p.pl.cs.length ≤ 300 := hb
    have hsl : (p.pl.shift e r d).cs.length = p.pl.cs.length := shT_len _ _ _ _
    have sT := refSame_self (p := p.pl.shift e r d) (by omega)
    rw [← hpv] at b1 b2
    refine cN1 b1 ?_ (hr := by simp [go_sem, Pl.a, Pl.c4]) (hx := iv_row _ _ _)
    simp only [go_sem, noPl, Pl.a, Pl.c4, ren, rens, wr, wd, wr2, wd2]
    refine cN1 b2 ?_ (hr := by simp [go_sem, Pl.a, Pl.c4]) (hx := iv_row _ _ _)
    simp only [go_sem, noPl, Pl.a, Pl.c4, ren, rens, wr, wd, wr2, wd2]
    refine cF sT 6 ⟨.inl (pla_frz 3 (p := p.pl.shift e r d) (j := 6) (g := true) rfl hsl.symm), .inl (pla_frz 3 (p := p.pl.shift e r d) (j := 8) (g := true) rfl hsl.symm), trivial⟩ ?_
    simp only [go_sem, noPl, Pl.a, Pl.c4, ren, rens, wr, wd, wr2, wd2]
    refine cP mE ?_
    simp only [go_sem, noPl, Pl.a, Pl.c4, ren, rens, wr, wd, wr2, wd2]
    refine cP mR ?_
    simp only [go_sem, noPl, Pl.a, Pl.c4, ren, rens, wr, wd, wr2, wd2]
    refine cP mD ?_
    simp only [go_sem, noPl, Pl.a, Pl.c4, ren, rens, wr, wd, wr2, wd2]
    by_cases hE2 : shErr q e' (rr - 2) (dd - 2) = 0
    · have he2 : 1 ≤ e' ∧ e' ≤ 6 := by
        have h := (shErr_parts hE2).1
        have := hqo.cell e' h.2
        omega
      have a1 := Shift_yes hqo he2 hE2
      have a2 := rShift_yes hqo hqC hE2
      have hsl : (q.shift e' (rr - 2) (dd - 2)).cs.length = q.cs.length := shT_len _ _ _ _
      have sT := refSame_self (p := q.shift e' (rr - 2) (dd - 2)) (by omega)
      refine cFN a1 6 ⟨.inl (pla_frz 3 (p := q) (j := 4) (g := true) rfl rfl), .inl rfl, .inl rfl, .inl rfl, trivial⟩ ?_ (by simp [go_sem, Pl.a, Pl.c4]) (by simp only [go_sem, Pl.a, Pl.c4]) (iv_row _ _ _) (iv_nv _ _)
      simp only [go_sem, noPl, Pl.a, Pl.c4, ren, rens, wr, wd, wr2, wd2]
      refine cFN a2 6 ⟨.inl (pla_frz 3 (p := q) (j := 2) (g := true) rfl rfl), .inl rfl, .inl rfl, .inl rfl, trivial⟩ ?_ (by simp [go_sem, Pl.a, Pl.c4]) (by simp only [go_sem, Pl.a, Pl.c4]) (iv_row _ _ _) (iv_nv _ _)
      simp only [go_sem, noPl, Pl.a, Pl.c4, ren, rens, wr, wd, wr2, wd2]
      refine cF sT 6 ⟨.inl (pla_frz 3 (p := q.shift e' (rr - 2) (dd - 2)) (j := 10) (g := true) rfl hsl.symm), .inl (pla_frz 3 (p := q.shift e' (rr - 2) (dd - 2)) (j := 11) (g := true) rfl hsl.symm), trivial⟩ ?_
      simp only [go_sem, noPl, Pl.a, Pl.c4, ren, rens, wr, wd, wr2, wd2]
      refine cF sS 6 ⟨.inl (pla_frz 3 (p := q) (j := 4) (g := true) rfl rfl), .inl (pla_frz 3 (p := q) (j := 2) (g := true) rfl rfl), trivial⟩ ?_
      simp only [go_sem, noPl, Pl.a, Pl.c4, ren, rens, wr, wd, wr2, wd2]
      refine cP hPl ?_
      simp only [go_sem]
      refine cP awake_ok ?_
      simp only [go_sem]
    · have a1 := Shift_no hqo e' (rr - 2) (dd - 2) hE2
      have a2 := rShift_no hqo hqC e' (rr - 2) (dd - 2) hE2
      generalize shErr q e' (rr - 2) (dd - 2) = er at *
      refine cF a1 6 ⟨.inl (pla_frz 3 (p := q) (j := 4) (g := true) rfl rfl), .inl rfl, .inl rfl, .inl rfl, trivial⟩ ?_ (hr := by simp only [go_sem, noPl]) (hnv := by simp only [go_sem, noPl])
      simp only [go_sem, noPl, Pl.a, Pl.c4, ren, rens, wr, wd, wr2, wd2]
      refine cF a2 6 ⟨.inl (pla_frz 3 (p := q) (j := 2) (g := true) rfl rfl), .inl rfl, .inl rfl, .inl rfl, trivial⟩ ?_ (hr := by simp only [go_sem, noPl]) (hnv := by simp only [go_sem, noPl])
      simp only [go_sem, noPl, Pl.a, Pl.c4, ren, rens, wr, wd, wr2, wd2]
      refine cP refSame_none ?_ (hb := by simp only [go_sem, noPl])
      simp only [go_sem, noPl, Pl.a, Pl.c4, ren, rens, wr, wd, wr2, wd2]
      refine cF sS 6 ⟨.inl (pla_frz 3 (p := q) (j := 4) (g := true) rfl rfl), .inl (pla_frz 3 (p := q) (j := 2) (g := true) rfl rfl), trivial⟩ ?_
      simp only [go_sem, noPl, Pl.a, Pl.c4, ren, rens, wr, wd, wr2, wd2]
      refine cP hPl ?_
      simp only [go_sem]
      refine cP awake_ok ?_
      simp only [go_sem]
  · have b1 := Shift_bad p e r d (by omega) hE
    have b2 := rShift_bad p e r d (by omega) hE
    generalize shE p e r d = er0 at *
    refine cP b1 ?_ (hr := by simp only [go_sem, noPl])
    simp only [go_sem, noPl, Pl.a, Pl.c4, ren, rens, wr, wd, wr2, wd2]
    refine cP b2 ?_ (hr := by simp only [go_sem, noPl])
    simp only [go_sem, noPl, Pl.a, Pl.c4, ren, rens, wr, wd, wr2, wd2]
    refine cP refSame_none ?_ (hb := by simp only [go_sem, noPl])
    simp only [go_sem, noPl, Pl.a, Pl.c4, ren, rens, wr, wd, wr2, wd2]
    refine cP mE ?_
    simp only [go_sem, noPl, Pl.a, Pl.c4, ren, rens, wr, wd, wr2, wd2]
    refine cP mR ?_
    simp only [go_sem, noPl, Pl.a, Pl.c4, ren, rens, wr, wd, wr2, wd2]
    refine cP mD ?_
    simp only [go_sem, noPl, Pl.a, Pl.c4, ren, rens, wr, wd, wr2, wd2]
    by_cases hE2 : shErr q e' (rr - 2) (dd - 2) = 0
    · have he2 : 1 ≤ e' ∧ e' ≤ 6 := by
        have h := (shErr_parts hE2).1
        have := hqo.cell e' h.2
        omega
      have a1 := Shift_yes hqo he2 hE2
      have a2 := rShift_yes hqo hqC hE2
      have hsl : (q.shift e' (rr - 2) (dd - 2)).cs.length = q.cs.length := shT_len _ _ _ _
      have sT := refSame_self (p := q.shift e' (rr - 2) (dd - 2)) (by omega)
      refine cFN a1 6 ⟨.inl (pla_frz 3 (p := q) (j := 4) (g := true) rfl rfl), .inl rfl, .inl rfl, .inl rfl, trivial⟩ ?_ (by simp [go_sem, Pl.a, Pl.c4]) (by simp only [go_sem, Pl.a, Pl.c4]) (iv_row _ _ _) (iv_nv _ _)
      simp only [go_sem, noPl, Pl.a, Pl.c4, ren, rens, wr, wd, wr2, wd2]
      refine cFN a2 6 ⟨.inl (pla_frz 3 (p := q) (j := 2) (g := true) rfl rfl), .inl rfl, .inl rfl, .inl rfl, trivial⟩ ?_ (by simp [go_sem, Pl.a, Pl.c4]) (by simp only [go_sem, Pl.a, Pl.c4]) (iv_row _ _ _) (iv_nv _ _)
      simp only [go_sem, noPl, Pl.a, Pl.c4, ren, rens, wr, wd, wr2, wd2]
      refine cF sT 6 ⟨.inl (pla_frz 3 (p := q.shift e' (rr - 2) (dd - 2)) (j := 8) (g := true) rfl hsl.symm), .inl (pla_frz 3 (p := q.shift e' (rr - 2) (dd - 2)) (j := 9) (g := true) rfl hsl.symm), trivial⟩ ?_
      simp only [go_sem, noPl, Pl.a, Pl.c4, ren, rens, wr, wd, wr2, wd2]
      refine cF sS 6 ⟨.inl (pla_frz 3 (p := q) (j := 4) (g := true) rfl rfl), .inl (pla_frz 3 (p := q) (j := 2) (g := true) rfl rfl), trivial⟩ ?_
      simp only [go_sem, noPl, Pl.a, Pl.c4, ren, rens, wr, wd, wr2, wd2]
      refine cP hPl ?_
      simp only [go_sem]
      refine cP awake_ok ?_
      simp only [go_sem]
    · have a1 := Shift_no hqo e' (rr - 2) (dd - 2) hE2
      have a2 := rShift_no hqo hqC e' (rr - 2) (dd - 2) hE2
      generalize shErr q e' (rr - 2) (dd - 2) = er at *
      refine cF a1 6 ⟨.inl (pla_frz 3 (p := q) (j := 4) (g := true) rfl rfl), .inl rfl, .inl rfl, .inl rfl, trivial⟩ ?_ (hr := by simp only [go_sem, noPl]) (hnv := by simp only [go_sem, noPl])
      simp only [go_sem, noPl, Pl.a, Pl.c4, ren, rens, wr, wd, wr2, wd2]
      refine cF a2 6 ⟨.inl (pla_frz 3 (p := q) (j := 2) (g := true) rfl rfl), .inl rfl, .inl rfl, .inl rfl, trivial⟩ ?_ (hr := by simp only [go_sem, noPl]) (hnv := by simp only [go_sem, noPl])
      simp only [go_sem, noPl, Pl.a, Pl.c4, ren, rens, wr, wd, wr2, wd2]
      refine cP refSame_none ?_ (hb := by simp only [go_sem, noPl])
      simp only [go_sem, noPl, Pl.a, Pl.c4, ren, rens, wr, wd, wr2, wd2]
      refine cF sS 6 ⟨.inl (pla_frz 3 (p := q) (j := 4) (g := true) rfl rfl), .inl (pla_frz 3 (p := q) (j := 2) (g := true) rfl rfl), trivial⟩ ?_
      simp only [go_sem, noPl, Pl.a, Pl.c4, ren, rens, wr, wd, wr2, wd2]
      refine cP hPl ?_
      simp only [go_sem]
      refine cP awake_ok ?_
      simp only [go_sem]
end Go.Proofs

