/- FieldReturns. -/
import Derived.Test.YtmkijjaecnnonaaPI
set_option linter.unusedSimpArgs false
set_option linter.unusedVariables false
namespace Go.Proofs
open Go Go.Sx
attribute [local irreducible] Run

theorem SameInts_self {l : List Int} (hlen : l.length ≤ 1000000) : Ans Try.prog n_ref01_SameInts [vw l, vw l] [] (.bool true) [] := by
  refine spec_run e_ref01_SameInts fun G => ?_
  simp only [go_sem, vw, bne_self_eq_false]
  refine loop_ind k_ref01_SameInts_r8.eq_1 (fun i : Nat => i ≤ l.length) (fun i => l.length - i)
    (fun i => (tsets 26 [(0, vw l), (1, vw l), (5, .int .i64 i)], [])) 0 (Nat.zero_le _) (by simp [go_sem, vw]) rfl ?_
  intro i hi ih
  dsimp only at hi ih ⊢
  by_cases h1 : i < l.length
  · have h2 : (i : Int) < l.length := by omega
    have h3 := idx_next h1 (by omega)
    have n0 : ¬ (i : Int) < 0 := by omega
    have hx := gt_get h1
    generalize gt l i = z at *
    simp only [go_sem, vw, List.length_map, h2, n0, hx, bne_self_eq_false, h3]
    exact ih (i + 1) (by omega) h1 _ (by simp [go_sem, vw])
  · have h2 : ¬ (i : Int) < l.length := by omega
    simp only [go_sem, vw, List.length_map, h2]
theorem refSame_self {p : Pl} (hlen : p.cs.length ≤ 1000000) : Ans Try.prog n_ref01_Same [p.v, p.v] [] (.bool true) [] := by
  have h := SameInts_self hlen
  refine spec_run e_ref01_Same fun G => ?_
  have e1 : ((p.w : Int) == p.w) = true := by simp
  have e2 : ((p.h : Int) == p.h) = true := by simp
  have e3 : (p.rd == p.rd) = true := by simp
  simp only [go_sem, Pl.v, Pl.a, Pl.c4, vw, e1, e2, e3]
  refine cP h ?_
  simp only [go_sem]

theorem Check_none : Ans Try.prog n_field_Check [noPl] [] (.int .i64 2) [] := by
  refine spec_run e_field_Check fun G => ?_
  simp only [go_sem, noPl]
  refine cP (within_no (n := 0) (a := 1) (b := 16) (by omega)) ?_
  simp only [go_sem]
theorem checkOf_none (n : Nat) (l : List Int) : Ans Try.prog n_field_checkOf [noPl, .int .i64 n, vw l] [] (.int .i64 2) [] := by
  refine spec_run e_field_checkOf fun G => ?_
  simp only [go_sem, noPl, vw]
  refine cP Check_none ?_
  simp only [go_sem]
theorem Amp_none (n : Nat) (k g a : Int) : Ans Try.prog n_field_Amplification [noPl, .int .i64 n, .int .i64 k, .int .i64 g, .int .i64 a] [] (.tup [Rg.v ⟨0, 0⟩, .int .i64 2]) [] := by
  have h1 := checkOf_none n [k, g, a]
  refine spec_run e_field_Amplification fun G => ?_
  simp only [go_sem, noPl, vw]
  refine cF h1 6 ⟨.inl rfl, .inl rfl, .inl (iv_frz_sl (d := 4) (j := 2) (g := false) (l := [k, g, a]) rfl rfl), trivial⟩ ?_
  simp only [go_sem, Rg.v]

theorem step_zero {p : Pl} (hp : PlOK p) (n : Nat) {k g : Int} (hg : 1 ≤ g ∧ g ≤ 6) (hgk : g ≠ k) (a : Int) {s0 s1 : Int} (hs : s0 ≤ s1) {acc r d : Int} (h0 : playStep p n k g a s0 s1 acc r d ≤ 0) (hE : shErr p g r d = 0) (hA : (ampR (p.shift g r d) n k g a (gm (p.shift g r d))).2 = 0) :
    (ampR (p.shift g r d) n k g a (gm (p.shift g r d))).1.lo = s0 ∧ (ampR (p.shift g r d) n k g a (gm (p.shift g r d))).1.hi = s0 ∧ s1 = s0 := by
  have ab := ampR_in (shift_of hp hg hE) n hgk a
  unfold playStep at h0
  rw [if_pos hE, if_pos hA] at h0
  generalize ampR (p.shift g r d) n k g a (gm (p.shift g r d)) = am at *
  unfold mx3 at h0
  split at h0 <;> split at h0 <;> omega
/-- If no shift changes anything, all amplifications are one number. -/
theorem play_zero {p : Pl} (hp : PlOK p) (n : Nat) {k g : Int} (hg : 1 ≤ g ∧ g ≤ 6) (hgk : g ≠ k) (a : Int) {s0 s1 : Int} (hs : s0 ≤ s1 ∧ -100000000000000 ≤ s0 ∧ s1 ≤ 100000000000000) (h0 : playTo p n k g a s0 s1 4 ≤ 0) {r d : Int} (hrd : (r = 1 ∧ d = 0) ∨ (r = -1 ∧ d = 0) ∨ (r = 0 ∧ d = 1) ∨ (r = 0 ∧ d = -1)) (hE : shErr p g r d = 0) (hA : (ampR (p.shift g r d) n k g a (gm (p.shift g r d))).2 = 0) :
    (ampR (p.shift g r d) n k g a (gm (p.shift g r d))).1.lo = s0 ∧ (ampR (p.shift g r d) n k g a (gm (p.shift g r d))).1.hi = s0 ∧ s1 = s0 := by
  have e0 : (0 : Int) ≤ 0 ∧ (0 : Int) ≤ 200000000000000 := by omega
  have e1 := playStep_in hp n hg hgk a hs e0 1 0
  have e2 := playStep_in hp n hg hgk a hs (acc := playStep p n k g a s0 s1 0 1 0) (by omega) (-1) 0
  have e3 := playStep_in hp n hg hgk a hs (acc := playStep p n k g a s0 s1 (playStep p n k g a s0 s1 0 1 0) (-1) 0) (by omega) 0 1
  have e4 := playStep_in hp n hg hgk a hs (acc := playStep p n k g a s0 s1 (playStep p n k g a s0 s1 (playStep p n k g a s0 s1 0 1 0) (-1) 0) 0 1) (by omega) 0 (-1)
  simp only [playTo] at h0
  rcases hrd with ⟨rfl, rfl⟩ | ⟨rfl, rfl⟩ | ⟨rfl, rfl⟩ | ⟨rfl, rfl⟩
  · exact step_zero hp n hg hgk a hs.1 (acc := 0) (by omega) hE hA
  · exact step_zero hp n hg hgk a hs.1 (acc := playStep p n k g a s0 s1 0 1 0) (by omega) hE hA
  · exact step_zero hp n hg hgk a hs.1 (acc := playStep p n k g a s0 s1 (playStep p n k g a s0 s1 0 1 0) (-1) 0) (by omega) hE hA
  · exact step_zero hp n hg hgk a hs.1 (acc := playStep p n k g a s0 s1 (playStep p n k g a s0 s1 (playStep p n k g a s0 s1 0 1 0) (-1) 0) 0 1) (by omega) hE hA




set_option maxHeartbeats 16000000 in
set_option maxRecDepth 10000 in
theorem returns_law (zs : List Int) (hl : zs.length ≤ 9223372036854775807) (a1 a2 a3 a4 : Int) : Ans Try.prog n_law01_FieldReturns [.view (zs.map (.int .i64)), .int .i64 a1, .int .i64 a2, .int .i64 a3, .int .i64 a4] [] (.bool true) [] := by
  have m1 := mod_in a1 3 (by omega)
  have e1 := mod_pos a1 3 (by omega)
  have m2 := mod_in a2 5 (by omega)
  have e2 := mod_pos a2 5 (by omega)
  have m3 := mod_in a3 5 (by omega)
  have e3 := mod_pos a3 5 (by omega)
  have m4 := mod_in a4 21 (by omega)
  have e4 := mod_pos a4 21 (by omega)
  generalize a1 % 3 = x1 at *
  generalize a2 % 5 = x2 at *
  generalize a3 % 5 = x3 at *
  generalize a4 % 21 = x4 at *
  obtain ⟨n, rfl⟩ : ∃ n : Nat, x4 = n := ⟨x4.toNat, by omega⟩
  obtain ⟨e, rfl⟩ : ∃ e : Int, x1 = e - 1 := ⟨x1 + 1, by omega⟩
  obtain ⟨r, rfl⟩ : ∃ r : Int, x2 = r + 2 := ⟨x2 - 2, by omega⟩
  obtain ⟨d, rfl⟩ : ∃ d : Int, x3 = d + 2 := ⟨x3 - 2, by omega⟩
  have w1' : IntKind.i64.wrap (1 + (e - 1)) = e := by rw [w64 (by omega)]; omega
  have w2' : IntKind.i64.wrap (r + 2 - 2) = r := by rw [w64 (by omega)]; omega
  have w3' : IntKind.i64.wrap (d + 2 - 2) = d := by rw [w64 (by omega)]; omega
  have w4' : IntKind.i64.wrap (0 - r) = -r := by rw [w64 (by omega)]; omega
  have w5' : IntKind.i64.wrap (0 - d) = -d := by rw [w64 (by omega)]; omega
  have he : 1 ≤ e ∧ e ≤ 6 := by omega
  refine spec_run e_law01_FieldReturns fun G => ?_
  simp only [go_sem]
  refine callN1 (newdice_ok zs hl) (by simp only [go_sem]) (dr_bel _ _) (by simp) (by simp) ?_
  generalize seedW zs = w
  simp only [go_sem]
  refine callDN (PlanOf_ok w 8 6 (by omega) (by omega)) rfl (by simp only [go_sem]) (dr_bel _ _) (fun q hq => ⟨pla_bel _ _ _ _ rfl, dr_bel _ _, iv_row _ _ _⟩) (by simp) (by simp) ?_
  rintro ⟨w1, p⟩ hp
  dsimp only at hp ⊢
  have hpo := hp.ok
  have hpl : p.cs.length ≤ 1000000 := by
    rw [hpo.len]; have := Nat.mul_le_mul hpo.w.2 hpo.h.2; omega
  simp only [go_sem, Pl.a, Pl.c4, ren, rens]
  refine callDN (Tube_ok w1 7 4 (by omega) (by omega)) rfl (by simp only [go_sem]) (dr_bel _ _) (fun q hq => ⟨pla_bel _ _ _ _ rfl, dr_bel _ _, iv_row _ _ _⟩) (by simp) (by simp) ?_
  rintro ⟨w2, t⟩ ht
  dsimp only at ht ⊢
  simp only [go_sem, Pl.a, Pl.c4, ren, rens]
  refine cP e1 ?_
  simp only [go_sem]
  refine cP e2 ?_
  simp only [go_sem]
  refine cP e3 ?_
  simp only [go_sem, w1', w2', w3', Pl.a, Pl.c4]
  have PL := Play_ok ht (n := n) (by omega) (k := 1) (g := 2) (by omega) (by omega) 3
  have AM := Amp_ok ht (gm_eq ht) (n := n) (by omega) 1 2 3
  have ab := ampR_in ht n (k := 1) (g := 2) (by omega) 3
  unfold playR at PL
  have hz := fun (s0 s1 : Int) (hs : s0 ≤ s1 ∧ -100000000000000 ≤ s0 ∧ s1 ≤ 100000000000000) => playTo_in ht n (k := 1) (g := 2) (by omega) (by omega) 3 hs 4 (by omega)
  have hz0 := fun (s0 s1 : Int) (hs : s0 ≤ s1 ∧ -100000000000000 ≤ s0 ∧ s1 ≤ 100000000000000) h0 r d hrd hE hA => play_zero ht n (k := 1) (g := 2) (by omega) (by omega) 3 hs (r := r) (d := d) h0 hrd hE hA
  generalize ampR t n 1 2 3 (gm t) = A at *
  obtain ⟨⟨s0, s1⟩, se⟩ := A
  dsimp only at PL AM ab
  have hz := hz s0 s1 ab
  have hz0 := hz0 s0 s1 ab
  generalize playTo t n 1 2 3 s0 s1 4 = P4 at *
  by_cases hE : shErr p e r d = 0
  · have SY := Shift_yes hpo he hE
    obtain ⟨k1, k2⟩ := shift_back hpo he hE
    have hq := shift_of hpo he hE
    have SY2 := Shift_yes hq he k1
    have hbk : (p.shift e r d).shift e (-r) (-d) = p :=
      calc (p.shift e r d).shift e (-r) (-d) = { p with cs := ((p.shift e r d).shift e (-r) (-d)).cs } := rfl
        _ = { p with cs := p.cs } := by rw [k2]
        _ = p := rfl
    rw [hbk] at SY2
    have hql : (p.shift e r d).cs.length = p.cs.length := shT_len _ _ _ _
    have SM := refSame_self hpl
    refine cFN SY 6 ⟨.inl (pla_frz 3 (j := 1) (g := true) rfl rfl), .inl rfl, .inl rfl, .inl rfl, trivial⟩ ?_ (hr := by simp [go_sem, Pl.a, Pl.c4]) (hnv := by simp only [go_sem, Pl.a, Pl.c4]) (hx := iv_row _ _ _) (hxn := iv_nv _ _)
    simp only [go_sem, ren, rens, Pl.a, Pl.c4, w4', w5']
    refine cFN SY2 6 ⟨.inl (pla_frz 3 (p := p.shift e r d) (j := 5) (g := true) rfl hql.symm), .inl rfl, .inl rfl, .inl rfl, trivial⟩ ?_ (hr := by simp [go_sem, Pl.a, Pl.c4]) (hnv := by simp only [go_sem, Pl.a, Pl.c4]) (hx := iv_row _ _ _) (hxn := iv_nv _ _)
    simp only [go_sem, ren, rens, Pl.a, Pl.c4]
    refine cF SM 6 ⟨.inl (pla_frz 3 (p := p) (j := 7) (g := true) rfl hql), .inl (pla_frz 3 (j := 1) (g := true) rfl rfl), trivial⟩ ?_
    simp only [go_sem, Pl.a, Pl.c4]
    refine cP e4 ?_
    simp only [go_sem, Pl.a, Pl.c4]
    refine cF PL 6 ⟨.inl (pla_frz 3 (j := 2) (g := true) rfl rfl), .inl rfl, .inl rfl, .inl rfl, .inl rfl, trivial⟩ ?_ (hr := by simp only [go_sem]) (hnv := by simp only [go_sem])
    simp only [go_sem, Pl.a, Pl.c4]
    refine cF AM 6 ⟨.inl (pla_frz 3 (j := 2) (g := true) rfl rfl), .inl rfl, .inl rfl, .inl rfl, .inl rfl, trivial⟩ ?_ (hr := by simp only [go_sem, Rg.v]) (hnv := by simp only [go_sem, Rg.v])
    by_cases hse : se = 0
    · subst hse
      have hP0 : ¬ P4 < 0 := by omega
      simp only [if_true] at PL
      by_cases hpp : 0 < P4
      · simp only [go_sem, Rg.v, bne_self_eq_false, hP0, hpp, if_true]
        refine cP awake_ok ?_
        simp only [go_sem]
      · simp only [go_sem, Rg.v, bne_self_eq_false, hP0, hpp, if_true]
        have u1 : IntKind.i64.wrap 1 = 1 := rfl
        have u2 : IntKind.i64.wrap 2 = 2 := rfl
        have u3 : IntKind.i64.wrap 3 = 3 := rfl
        have u4 : IntKind.i64.wrap 4 = 4 := rfl
        clear PL AM hz
        refine loop_ind k_law01_FieldReturns_r24.eq_1 (fun q : Nat × Heap => q.1 ≤ 4) (fun q => 4 - q.1)
          (fun q => (tsets 156 [(13, .ptr 4 0 0 1), (18, .int .i64 n), (20, .ptr 9 0 0 1), (22, .sl 14 0 4), (23, .int .i64 q.1)],
            some (Dr w2) :: some (.cells true 1 (iv p.cs)) :: some (.cells true 1 (iv t.cs)) :: some (.cells false 4 [p.a (.sl 1 0 p.cs.length)]) :: some (.cells false 4 [t.a (.sl 2 0 t.cs.length)]) :: some (.cells true 1 (iv (p.shift e r d).cs)) :: some (.cells false 4 [p.a (.sl 5 0 p.cs.length)]) :: some (.cells true 1 (iv p.cs)) :: some (.cells false 4 [.agg [.int .i64 (p.shift e r d).w, .int .i64 (p.shift e r d).h, .bool (p.shift e r d).rd, .sl 7 0 (p.shift e r d).cs.length]]) :: some (.cells false 2 [.agg [.int .i64 s0, .int .i64 s1]]) :: some (.cells false 1 [.int .i64 1, .int .i64 0]) :: some (.cells false 1 [.int .i64 (-1), .int .i64 0]) :: some (.cells false 1 [.int .i64 0, .int .i64 1]) :: some (.cells false 1 [.int .i64 0, .int .i64 (-1)]) :: some (.cells false 1 [.sl 10 0 2, .sl 11 0 2, .sl 12 0 2, .sl 13 0 2]) :: q.2)) (0, []) (Nat.zero_le _) (by simp [go_sem]) rfl ?_
        rintro ⟨i, X⟩ hi ih
        dsimp only at hi ih ⊢
        have hci : i = 0 ∨ i = 1 ∨ i = 2 ∨ i = 3 ∨ i = 4 := by omega
        rcases hci with rfl | rfl | rfl | rfl | rfl
        · -- step 0
          have ihn := fun X => ih (0 + 1, X) (by dsimp only; omega) (by show 0 + 1 ≤ 4; omega)
          clear ih
          have hz1 := hz0 (by omega) 1 0 (by omega)
          by_cases hF : shErr t 2 1 0 = 0
          · have SYt := Shift_yes ht (e := 2) (by omega) hF
            have htq := shift_of ht (e := 2) (by omega) hF
            have htl : (t.shift 2 1 0).cs.length = t.cs.length := shT_len _ _ _ _
            have AMq := Amp_ok htq (gm_eq htq) (n := n) (by omega) 1 2 3
            have hz2 := hz1 hF
            clear hz1
            generalize ampR (t.shift 2 1 0) n 1 2 3 (gm (t.shift 2 1 0)) = am at *
            obtain ⟨⟨b0, b1⟩, be⟩ := am
            dsimp only at AMq hz2
            simp only [go_sem, u1, u2, u3, u4, Pl.a, Pl.c4]
            refine dFN SYt 6 [2] ⟨.inl (pla_frz 3 (j := 2) (g := true) (onlyR_row rfl (by simp)) rfl), .inl rfl, .inl rfl, .inl rfl, trivial⟩ ?_ (hr := by simp [go_sem, Pl.a, Pl.c4]) (hnv := by simp only [go_sem, Pl.a, Pl.c4]) (hx := iv_row _ _ _) (hxn := iv_nv _ _) (hd := by simp [go_sem] <;> omega)
            simp only [go_sem, ren, rens, u1, u2, u3, u4, Pl.a, Pl.c4]
            refine ⟨by simp <;> omega, ?_⟩
            refine cF AMq 6 ⟨.inl (pla_frz 3 (p := t.shift 2 1 0) (j := X.length + 15) (g := true) (by simp) htl.symm), .inl rfl, .inl rfl, .inl rfl, .inl rfl, trivial⟩ ?_ (hr := by simp only [go_sem, Rg.v]) (hnv := by simp only [go_sem, Rg.v])
            by_cases hbe : be = 0
            · obtain ⟨rfl, rfl, rfl⟩ := hz2 hbe
              have hbe' : (be == 0) = true := by simp [hbe]
              simp only [go_sem, Rg.v, hbe', bne_self_eq_false, u1, u2, u3, u4, Pl.a, Pl.c4]
              exact ihn _ _ (by simp [go_sem, u1, u2, u3, u4])
            · have hbe' : (be == 0) = false := by simp [hbe]
              simp only [go_sem, Rg.v, hbe', u1, u2, u3, u4, Pl.a, Pl.c4]
              exact ihn _ _ (by simp [go_sem, u1, u2, u3, u4])
          · have SNt := Shift_no ht 2 1 0 hF
            have hF' : (shErr t 2 1 0 == 0) = false := by simp [hF]
            simp only [go_sem, u1, u2, u3, u4, Pl.a, Pl.c4]
            refine dF SNt 6 [2] ⟨.inl (pla_frz 3 (j := 2) (g := true) (onlyR_row rfl (by simp)) rfl), .inl rfl, .inl rfl, .inl rfl, trivial⟩ ?_ (hr := by simp only [go_sem, noPl]) (hnv := by simp only [go_sem, noPl])
            simp only [go_sem, noPl, u1, u2, u3, u4, Pl.a, Pl.c4]
            refine ⟨by simp <;> omega, ?_⟩
            refine cF (Amp_none n 1 2 3) 6 ⟨.inl rfl, .inl rfl, .inl rfl, .inl rfl, .inl rfl, trivial⟩ ?_ (hr := by simp only [go_sem, Rg.v]) (hnv := by simp only [go_sem, Rg.v])
            simp only [go_sem, Rg.v, hF', u1, u2, u3, u4, Pl.a, Pl.c4]
            exact ihn _ _ (by simp [go_sem, u1, u2, u3, u4])
        · -- step 1
          have ihn := fun X => ih (1 + 1, X) (by dsimp only; omega) (by show 1 + 1 ≤ 4; omega)
          clear ih
          have hz1 := hz0 (by omega) (-1) 0 (by omega)
          by_cases hF : shErr t 2 (-1) 0 = 0
          · have SYt := Shift_yes ht (e := 2) (by omega) hF
            have htq := shift_of ht (e := 2) (by omega) hF
            have htl : (t.shift 2 (-1) 0).cs.length = t.cs.length := shT_len _ _ _ _
            have AMq := Amp_ok htq (gm_eq htq) (n := n) (by omega) 1 2 3
            have hz2 := hz1 hF
            clear hz1
            generalize ampR (t.shift 2 (-1) 0) n 1 2 3 (gm (t.shift 2 (-1) 0)) = am at *
            obtain ⟨⟨b0, b1⟩, be⟩ := am
            dsimp only at AMq hz2
            simp only [go_sem, u1, u2, u3, u4, Pl.a, Pl.c4]
            refine dFN SYt 6 [2] ⟨.inl (pla_frz 3 (j := 2) (g := true) (onlyR_row rfl (by simp)) rfl), .inl rfl, .inl rfl, .inl rfl, trivial⟩ ?_ (hr := by simp [go_sem, Pl.a, Pl.c4]) (hnv := by simp only [go_sem, Pl.a, Pl.c4]) (hx := iv_row _ _ _) (hxn := iv_nv _ _) (hd := by simp [go_sem] <;> omega)
            simp only [go_sem, ren, rens, u1, u2, u3, u4, Pl.a, Pl.c4]
            refine ⟨by simp <;> omega, ?_⟩
            refine cF AMq 6 ⟨.inl (pla_frz 3 (p := t.shift 2 (-1) 0) (j := X.length + 15) (g := true) (by simp) htl.symm), .inl rfl, .inl rfl, .inl rfl, .inl rfl, trivial⟩ ?_ (hr := by simp only [go_sem, Rg.v]) (hnv := by simp only [go_sem, Rg.v])
            by_cases hbe : be = 0
            · obtain ⟨rfl, rfl, rfl⟩ := hz2 hbe
              have hbe' : (be == 0) = true := by simp [hbe]
              simp only [go_sem, Rg.v, hbe', bne_self_eq_false, u1, u2, u3, u4, Pl.a, Pl.c4]
              exact ihn _ _ (by simp [go_sem, u1, u2, u3, u4])
            · have hbe' : (be == 0) = false := by simp [hbe]
              simp only [go_sem, Rg.v, hbe', u1, u2, u3, u4, Pl.a, Pl.c4]
              exact ihn _ _ (by simp [go_sem, u1, u2, u3, u4])
          · have SNt := Shift_no ht 2 (-1) 0 hF
            have hF' : (shErr t 2 (-1) 0 == 0) = false := by simp [hF]
            simp only [go_sem, u1, u2, u3, u4, Pl.a, Pl.c4]
            refine dF SNt 6 [2] ⟨.inl (pla_frz 3 (j := 2) (g := true) (onlyR_row rfl (by simp)) rfl), .inl rfl, .inl rfl, .inl rfl, trivial⟩ ?_ (hr := by simp only [go_sem, noPl]) (hnv := by simp only [go_sem, noPl])
            simp only [go_sem, noPl, u1, u2, u3, u4, Pl.a, Pl.c4]
            refine ⟨by simp <;> omega, ?_⟩
            refine cF (Amp_none n 1 2 3) 6 ⟨.inl rfl, .inl rfl, .inl rfl, .inl rfl, .inl rfl, trivial⟩ ?_ (hr := by simp only [go_sem, Rg.v]) (hnv := by simp only [go_sem, Rg.v])
            simp only [go_sem, Rg.v, hF', u1, u2, u3, u4, Pl.a, Pl.c4]
            exact ihn _ _ (by simp [go_sem, u1, u2, u3, u4])
        · -- step 2
          have ihn := fun X => ih (2 + 1, X) (by dsimp only; omega) (by show 2 + 1 ≤ 4; omega)
          clear ih
          have hz1 := hz0 (by omega) 0 1 (by omega)
          by_cases hF : shErr t 2 0 1 = 0
          · have SYt := Shift_yes ht (e := 2) (by omega) hF
            have htq := shift_of ht (e := 2) (by omega) hF
            have htl : (t.shift 2 0 1).cs.length = t.cs.length := shT_len _ _ _ _
            have AMq := Amp_ok htq (gm_eq htq) (n := n) (by omega) 1 2 3
            have hz2 := hz1 hF
            clear hz1
            generalize ampR (t.shift 2 0 1) n 1 2 3 (gm (t.shift 2 0 1)) = am at *
            obtain ⟨⟨b0, b1⟩, be⟩ := am
            dsimp only at AMq hz2
            simp only [go_sem, u1, u2, u3, u4, Pl.a, Pl.c4]
            refine dFN SYt 6 [2] ⟨.inl (pla_frz 3 (j := 2) (g := true) (onlyR_row rfl (by simp)) rfl), .inl rfl, .inl rfl, .inl rfl, trivial⟩ ?_ (hr := by simp [go_sem, Pl.a, Pl.c4]) (hnv := by simp only [go_sem, Pl.a, Pl.c4]) (hx := iv_row _ _ _) (hxn := iv_nv _ _) (hd := by simp [go_sem] <;> omega)
            simp only [go_sem, ren, rens, u1, u2, u3, u4, Pl.a, Pl.c4]
            refine ⟨by simp <;> omega, ?_⟩
            refine cF AMq 6 ⟨.inl (pla_frz 3 (p := t.shift 2 0 1) (j := X.length + 15) (g := true) (by simp) htl.symm), .inl rfl, .inl rfl, .inl rfl, .inl rfl, trivial⟩ ?_ (hr := by simp only [go_sem, Rg.v]) (hnv := by simp only [go_sem, Rg.v])
            by_cases hbe : be = 0
            · obtain ⟨rfl, rfl, rfl⟩ := hz2 hbe
              have hbe' : (be == 0) = true := by simp [hbe]
              simp only [go_sem, Rg.v, hbe', bne_self_eq_false, u1, u2, u3, u4, Pl.a, Pl.c4]
              exact ihn _ _ (by simp [go_sem, u1, u2, u3, u4])
            · have hbe' : (be == 0) = false := by simp [hbe]
              simp only [go_sem, Rg.v, hbe', u1, u2, u3, u4, Pl.a, Pl.c4]
              exact ihn _ _ (by simp [go_sem, u1, u2, u3, u4])
          · have SNt := Shift_no ht 2 0 1 hF
            have hF' : (shErr t 2 0 1 == 0) = false := by simp [hF]
            simp only [go_sem, u1, u2, u3, u4, Pl.a, Pl.c4]
            refine dF SNt 6 [2] ⟨.inl (pla_frz 3 (j := 2) (g := true) (onlyR_row rfl (by simp)) rfl), .inl rfl, .inl rfl, .inl rfl, trivial⟩ ?_ (hr := by simp only [go_sem, noPl]) (hnv := by simp only [go_sem, noPl])
            simp only [go_sem, noPl, u1, u2, u3, u4, Pl.a, Pl.c4]
            refine ⟨by simp <;> omega, ?_⟩
            refine cF (Amp_none n 1 2 3) 6 ⟨.inl rfl, .inl rfl, .inl rfl, .inl rfl, .inl rfl, trivial⟩ ?_ (hr := by simp only [go_sem, Rg.v]) (hnv := by simp only [go_sem, Rg.v])
            simp only [go_sem, Rg.v, hF', u1, u2, u3, u4, Pl.a, Pl.c4]
            exact ihn _ _ (by simp [go_sem, u1, u2, u3, u4])
        · -- step 3
          have ihn := fun X => ih (3 + 1, X) (by dsimp only; omega) (by show 3 + 1 ≤ 4; omega)
          clear ih
          have hz1 := hz0 (by omega) 0 (-1) (by omega)
          by_cases hF : shErr t 2 0 (-1) = 0
          · have SYt := Shift_yes ht (e := 2) (by omega) hF
            have htq := shift_of ht (e := 2) (by omega) hF
            have htl : (t.shift 2 0 (-1)).cs.length = t.cs.length := shT_len _ _ _ _
            have AMq := Amp_ok htq (gm_eq htq) (n := n) (by omega) 1 2 3
            have hz2 := hz1 hF
            clear hz1
            generalize ampR (t.shift 2 0 (-1)) n 1 2 3 (gm (t.shift 2 0 (-1))) = am at *
            obtain ⟨⟨b0, b1⟩, be⟩ := am
            dsimp only at AMq hz2
            simp only [go_sem, u1, u2, u3, u4, Pl.a, Pl.c4]
            refine dFN SYt 6 [2] ⟨.inl (pla_frz 3 (j := 2) (g := true) (onlyR_row rfl (by simp)) rfl), .inl rfl, .inl rfl, .inl rfl, trivial⟩ ?_ (hr := by simp [go_sem, Pl.a, Pl.c4]) (hnv := by simp only [go_sem, Pl.a, Pl.c4]) (hx := iv_row _ _ _) (hxn := iv_nv _ _) (hd := by simp [go_sem] <;> omega)
            simp only [go_sem, ren, rens, u1, u2, u3, u4, Pl.a, Pl.c4]
            refine ⟨by simp <;> omega, ?_⟩
            refine cF AMq 6 ⟨.inl (pla_frz 3 (p := t.shift 2 0 (-1)) (j := X.length + 15) (g := true) (by simp) htl.symm), .inl rfl, .inl rfl, .inl rfl, .inl rfl, trivial⟩ ?_ (hr := by simp only [go_sem, Rg.v]) (hnv := by simp only [go_sem, Rg.v])
            by_cases hbe : be = 0
            · obtain ⟨rfl, rfl, rfl⟩ := hz2 hbe
              have hbe' : (be == 0) = true := by simp [hbe]
              simp only [go_sem, Rg.v, hbe', bne_self_eq_false, u1, u2, u3, u4, Pl.a, Pl.c4]
              exact ihn _ _ (by simp [go_sem, u1, u2, u3, u4])
            · have hbe' : (be == 0) = false := by simp [hbe]
              simp only [go_sem, Rg.v, hbe', u1, u2, u3, u4, Pl.a, Pl.c4]
              exact ihn _ _ (by simp [go_sem, u1, u2, u3, u4])
          · have SNt := Shift_no ht 2 0 (-1) hF
            have hF' : (shErr t 2 0 (-1) == 0) = false := by simp [hF]
            simp only [go_sem, u1, u2, u3, u4, Pl.a, Pl.c4]
            refine dF SNt 6 [2] ⟨.inl (pla_frz 3 (j := 2) (g := true) (onlyR_row rfl (by simp)) rfl), .inl rfl, .inl rfl, .inl rfl, trivial⟩ ?_ (hr := by simp only [go_sem, noPl]) (hnv := by simp only [go_sem, noPl])
            simp only [go_sem, noPl, u1, u2, u3, u4, Pl.a, Pl.c4]
            refine ⟨by simp <;> omega, ?_⟩
            refine cF (Amp_none n 1 2 3) 6 ⟨.inl rfl, .inl rfl, .inl rfl, .inl rfl, .inl rfl, trivial⟩ ?_ (hr := by simp only [go_sem, Rg.v]) (hnv := by simp only [go_sem, Rg.v])
            simp only [go_sem, Rg.v, hF', u1, u2, u3, u4, Pl.a, Pl.c4]
            exact ihn _ _ (by simp [go_sem, u1, u2, u3, u4])
        · simp only [go_sem]
          refine cP awake_ok ?_
          simp only [go_sem]
    · have hse' : (se != 0) = true := by simp [hse]
      have hse2 : (se == 0) = false := by simp [hse]
      simp only [go_sem, Rg.v, bne_self_eq_false, hse', hse2, if_neg hse]
      refine cP awake_ok ?_
      simp only [go_sem]
  · have SN := Shift_no hpo e r d hE
    have hE' : (shErr p e r d == 0) = false := by simp [hE]
    refine cF SN 6 ⟨.inl (pla_frz 3 (j := 1) (g := true) rfl rfl), .inl rfl, .inl rfl, .inl rfl, trivial⟩ ?_ (hr := by simp only [go_sem, noPl]) (hnv := by simp only [go_sem, noPl])
    simp only [go_sem, noPl, hE', Pl.a, Pl.c4]
    refine cP e4 ?_
    simp only [go_sem, Pl.a, Pl.c4]
    refine cF PL 6 ⟨.inl (pla_frz 3 (j := 2) (g := true) rfl rfl), .inl rfl, .inl rfl, .inl rfl, .inl rfl, trivial⟩ ?_ (hr := by simp only [go_sem]) (hnv := by simp only [go_sem])
    simp only [go_sem, Pl.a, Pl.c4]
    refine cF AM 6 ⟨.inl (pla_frz 3 (j := 2) (g := true) rfl rfl), .inl rfl, .inl rfl, .inl rfl, .inl rfl, trivial⟩ ?_ (hr := by simp only [go_sem, Rg.v]) (hnv := by simp only [go_sem, Rg.v])
    by_cases hse : se = 0
    · subst hse
      have hP0 : ¬ P4 < 0 := by omega
      simp only [if_true] at PL
      by_cases hpp : 0 < P4
      · simp only [go_sem, Rg.v, bne_self_eq_false, hP0, hpp, if_true]
        refine cP awake_ok ?_
        simp only [go_sem]
      · simp only [go_sem, Rg.v, bne_self_eq_false, hP0, hpp, if_true]
        have u1 : IntKind.i64.wrap 1 = 1 := rfl
        have u2 : IntKind.i64.wrap 2 = 2 := rfl
        have u3 : IntKind.i64.wrap 3 = 3 := rfl
        have u4 : IntKind.i64.wrap 4 = 4 := rfl
        clear PL AM hz
        refine loop_ind k_law01_FieldReturns_r24.eq_1 (fun q : Nat × Heap => q.1 ≤ 4) (fun q => 4 - q.1)
          (fun q => (tsets 156 [(13, .ptr 4 0 0 1), (18, .int .i64 n), (20, .ptr 6 0 0 1), (22, .sl 11 0 4), (23, .int .i64 q.1)],
            some (Dr w2) :: some (.cells true 1 (iv p.cs)) :: some (.cells true 1 (iv t.cs)) :: some (.cells false 4 [p.a (.sl 1 0 p.cs.length)]) :: some (.cells false 4 [t.a (.sl 2 0 t.cs.length)]) :: some (.cells false 4 [.agg [.int .i64 0, .int .i64 0, .bool false, .nilsl]]) :: some (.cells false 2 [.agg [.int .i64 s0, .int .i64 s1]]) :: some (.cells false 1 [.int .i64 1, .int .i64 0]) :: some (.cells false 1 [.int .i64 (-1), .int .i64 0]) :: some (.cells false 1 [.int .i64 0, .int .i64 1]) :: some (.cells false 1 [.int .i64 0, .int .i64 (-1)]) :: some (.cells false 1 [.sl 7 0 2, .sl 8 0 2, .sl 9 0 2, .sl 10 0 2]) :: q.2)) (0, []) (Nat.zero_le _) (by simp [go_sem]) rfl ?_
        rintro ⟨i, X⟩ hi ih
        dsimp only at hi ih ⊢
        have hci : i = 0 ∨ i = 1 ∨ i = 2 ∨ i = 3 ∨ i = 4 := by omega
        rcases hci with rfl | rfl | rfl | rfl | rfl
        · -- step 0
          have ihn := fun X => ih (0 + 1, X) (by dsimp only; omega) (by show 0 + 1 ≤ 4; omega)
          clear ih
          have hz1 := hz0 (by omega) 1 0 (by omega)
          by_cases hF : shErr t 2 1 0 = 0
          · have SYt := Shift_yes ht (e := 2) (by omega) hF
            have htq := shift_of ht (e := 2) (by omega) hF
            have htl : (t.shift 2 1 0).cs.length = t.cs.length := shT_len _ _ _ _
            have AMq := Amp_ok htq (gm_eq htq) (n := n) (by omega) 1 2 3
            have hz2 := hz1 hF
            clear hz1
            generalize ampR (t.shift 2 1 0) n 1 2 3 (gm (t.shift 2 1 0)) = am at *
            obtain ⟨⟨b0, b1⟩, be⟩ := am
            dsimp only at AMq hz2
            simp only [go_sem, u1, u2, u3, u4, Pl.a, Pl.c4]
            refine dFN SYt 6 [2] ⟨.inl (pla_frz 3 (j := 2) (g := true) (onlyR_row rfl (by simp)) rfl), .inl rfl, .inl rfl, .inl rfl, trivial⟩ ?_ (hr := by simp [go_sem, Pl.a, Pl.c4]) (hnv := by simp only [go_sem, Pl.a, Pl.c4]) (hx := iv_row _ _ _) (hxn := iv_nv _ _) (hd := by simp [go_sem] <;> omega)
            simp only [go_sem, ren, rens, u1, u2, u3, u4, Pl.a, Pl.c4]
            refine ⟨by simp <;> omega, ?_⟩
            refine cF AMq 6 ⟨.inl (pla_frz 3 (p := t.shift 2 1 0) (j := X.length + 12) (g := true) (by simp) htl.symm), .inl rfl, .inl rfl, .inl rfl, .inl rfl, trivial⟩ ?_ (hr := by simp only [go_sem, Rg.v]) (hnv := by simp only [go_sem, Rg.v])
            by_cases hbe : be = 0
            · obtain ⟨rfl, rfl, rfl⟩ := hz2 hbe
              have hbe' : (be == 0) = true := by simp [hbe]
              simp only [go_sem, Rg.v, hbe', bne_self_eq_false, u1, u2, u3, u4, Pl.a, Pl.c4]
              exact ihn _ _ (by simp [go_sem, u1, u2, u3, u4])
            · have hbe' : (be == 0) = false := by simp [hbe]
              simp only [go_sem, Rg.v, hbe', u1, u2, u3, u4, Pl.a, Pl.c4]
              exact ihn _ _ (by simp [go_sem, u1, u2, u3, u4])
          · have SNt := Shift_no ht 2 1 0 hF
            have hF' : (shErr t 2 1 0 == 0) = false := by simp [hF]
            simp only [go_sem, u1, u2, u3, u4, Pl.a, Pl.c4]
            refine dF SNt 6 [2] ⟨.inl (pla_frz 3 (j := 2) (g := true) (onlyR_row rfl (by simp)) rfl), .inl rfl, .inl rfl, .inl rfl, trivial⟩ ?_ (hr := by simp only [go_sem, noPl]) (hnv := by simp only [go_sem, noPl])
            simp only [go_sem, noPl, u1, u2, u3, u4, Pl.a, Pl.c4]
            refine ⟨by simp <;> omega, ?_⟩
            refine cF (Amp_none n 1 2 3) 6 ⟨.inl rfl, .inl rfl, .inl rfl, .inl rfl, .inl rfl, trivial⟩ ?_ (hr := by simp only [go_sem, Rg.v]) (hnv := by simp only [go_sem, Rg.v])
            simp only [go_sem, Rg.v, hF', u1, u2, u3, u4, Pl.a, Pl.c4]
            exact ihn _ _ (by simp [go_sem, u1, u2, u3, u4])
        · -- step 1
          have ihn := fun X => ih (1 + 1, X) (by dsimp only; omega) (by show 1 + 1 ≤ 4; omega)
          clear ih
          have hz1 := hz0 (by omega) (-1) 0 (by omega)
          by_cases hF : shErr t 2 (-1) 0 = 0
          · have SYt := Shift_yes ht (e := 2) (by omega) hF
            have htq := shift_of ht (e := 2) (by omega) hF
            have htl : (t.shift 2 (-1) 0).cs.length = t.cs.length := shT_len _ _ _ _
            have AMq := Amp_ok htq (gm_eq htq) (n := n) (by omega) 1 2 3
            have hz2 := hz1 hF
            clear hz1
            generalize ampR (t.shift 2 (-1) 0) n 1 2 3 (gm (t.shift 2 (-1) 0)) = am at *
            obtain ⟨⟨b0, b1⟩, be⟩ := am
            dsimp only at AMq hz2
            simp only [go_sem, u1, u2, u3, u4, Pl.a, Pl.c4]
            refine dFN SYt 6 [2] ⟨.inl (pla_frz 3 (j := 2) (g := true) (onlyR_row rfl (by simp)) rfl), .inl rfl, .inl rfl, .inl rfl, trivial⟩ ?_ (hr := by simp [go_sem, Pl.a, Pl.c4]) (hnv := by simp only [go_sem, Pl.a, Pl.c4]) (hx := iv_row _ _ _) (hxn := iv_nv _ _) (hd := by simp [go_sem] <;> omega)
            simp only [go_sem, ren, rens, u1, u2, u3, u4, Pl.a, Pl.c4]
            refine ⟨by simp <;> omega, ?_⟩
            refine cF AMq 6 ⟨.inl (pla_frz 3 (p := t.shift 2 (-1) 0) (j := X.length + 12) (g := true) (by simp) htl.symm), .inl rfl, .inl rfl, .inl rfl, .inl rfl, trivial⟩ ?_ (hr := by simp only [go_sem, Rg.v]) (hnv := by simp only [go_sem, Rg.v])
            by_cases hbe : be = 0
            · obtain ⟨rfl, rfl, rfl⟩ := hz2 hbe
              have hbe' : (be == 0) = true := by simp [hbe]
              simp only [go_sem, Rg.v, hbe', bne_self_eq_false, u1, u2, u3, u4, Pl.a, Pl.c4]
              exact ihn _ _ (by simp [go_sem, u1, u2, u3, u4])
            · have hbe' : (be == 0) = false := by simp [hbe]
              simp only [go_sem, Rg.v, hbe', u1, u2, u3, u4, Pl.a, Pl.c4]
              exact ihn _ _ (by simp [go_sem, u1, u2, u3, u4])
          · have SNt := Shift_no ht 2 (-1) 0 hF
            have hF' : (shErr t 2 (-1) 0 == 0) = false := by simp [hF]
            simp only [go_sem, u1, u2, u3, u4, Pl.a, Pl.c4]
            refine dF SNt 6 [2] ⟨.inl (pla_frz 3 (j := 2) (g := true) (onlyR_row rfl (by simp)) rfl), .inl rfl, .inl rfl, .inl rfl, trivial⟩ ?_ (hr := by simp only [go_sem, noPl]) (hnv := by simp only [go_sem, noPl])
            simp only [go_sem, noPl, u1, u2, u3, u4, Pl.a, Pl.c4]
            refine ⟨by simp <;> omega, ?_⟩
            refine cF (Amp_none n 1 2 3) 6 ⟨.inl rfl, .inl rfl, .inl rfl, .inl rfl, .inl rfl, trivial⟩ ?_ (hr := by simp only [go_sem, Rg.v]) (hnv := by simp only [go_sem, Rg.v])
            simp only [go_sem, Rg.v, hF', u1, u2, u3, u4, Pl.a, Pl.c4]
            exact ihn _ _ (by simp [go_sem, u1, u2, u3, u4])
        · -- step 2
          have ihn := fun X => ih (2 + 1, X) (by dsimp only; omega) (by show 2 + 1 ≤ 4; omega)
          clear ih
          have hz1 := hz0 (by omega) 0 1 (by omega)
          by_cases hF : shErr t 2 0 1 = 0
          · have SYt := Shift_yes ht (e := 2) (by omega) hF
            have htq := shift_of ht (e := 2) (by omega) hF
            have htl : (t.shift 2 0 1).cs.length = t.cs.length := shT_len _ _ _ _
            have AMq := Amp_ok htq (gm_eq htq) (n := n) (by omega) 1 2 3
            have hz2 := hz1 hF
            clear hz1
            generalize ampR (t.shift 2 0 1) n 1 2 3 (gm (t.shift 2 0 1)) = am at *
            obtain ⟨⟨b0, b1⟩, be⟩ := am
            dsimp only at AMq hz2
            simp only [go_sem, u1, u2, u3, u4, Pl.a, Pl.c4]
            refine dFN SYt 6 [2] ⟨.inl (pla_frz 3 (j := 2) (g := true) (onlyR_row rfl (by simp)) rfl), .inl rfl, .inl rfl, .inl rfl, trivial⟩ ?_ (hr := by simp [go_sem, Pl.a, Pl.c4]) (hnv := by simp only [go_sem, Pl.a, Pl.c4]) (hx := iv_row _ _ _) (hxn := iv_nv _ _) (hd := by simp [go_sem] <;> omega)
            simp only [go_sem, ren, rens, u1, u2, u3, u4, Pl.a, Pl.c4]
            refine ⟨by simp <;> omega, ?_⟩
            refine cF AMq 6 ⟨.inl (pla_frz 3 (p := t.shift 2 0 1) (j := X.length + 12) (g := true) (by simp) htl.symm), .inl rfl, .inl rfl, .inl rfl, .inl rfl, trivial⟩ ?_ (hr := by simp only [go_sem, Rg.v]) (hnv := by simp only [go_sem, Rg.v])
            by_cases hbe : be = 0
            · obtain ⟨rfl, rfl, rfl⟩ := hz2 hbe
              have hbe' : (be == 0) = true := by simp [hbe]
              simp only [go_sem, Rg.v, hbe', bne_self_eq_false, u1, u2, u3, u4, Pl.a, Pl.c4]
              exact ihn _ _ (by simp [go_sem, u1, u2, u3, u4])
            · have hbe' : (be == 0) = false := by simp [hbe]
              simp only [go_sem, Rg.v, hbe', u1, u2, u3, u4, Pl.a, Pl.c4]
              exact ihn _ _ (by simp [go_sem, u1, u2, u3, u4])
          · have SNt := Shift_no ht 2 0 1 hF
            have hF' : (shErr t 2 0 1 == 0) = false := by simp [hF]
            simp only [go_sem, u1, u2, u3, u4, Pl.a, Pl.c4]
            refine dF SNt 6 [2] ⟨.inl (pla_frz 3 (j := 2) (g := true) (onlyR_row rfl (by simp)) rfl), .inl rfl, .inl rfl, .inl rfl, trivial⟩ ?_ (hr := by simp only [go_sem, noPl]) (hnv := by simp only [go_sem, noPl])
            simp only [go_sem, noPl, u1, u2, u3, u4, Pl.a, Pl.c4]
            refine ⟨by simp <;> omega, ?_⟩
            refine cF (Amp_none n 1 2 3) 6 ⟨.inl rfl, .inl rfl, .inl rfl, .inl rfl, .inl rfl, trivial⟩ ?_ (hr := by simp only [go_sem, Rg.v]) (hnv := by simp only [go_sem, Rg.v])
            simp only [go_sem, Rg.v, hF', u1, u2, u3, u4, Pl.a, Pl.c4]
            exact ihn _ _ (by simp [go_sem, u1, u2, u3, u4])
        · -- step 3
          have ihn := fun X => ih (3 + 1, X) (by dsimp only; omega) (by show 3 + 1 ≤ 4; omega)
          clear ih
          have hz1 := hz0 (by omega) 0 (-1) (by omega)
          by_cases hF : shErr t 2 0 (-1) = 0
          · have SYt := Shift_yes ht (e := 2) (by omega) hF
            have htq := shift_of ht (e := 2) (by omega) hF
            have htl : (t.shift 2 0 (-1)).cs.length = t.cs.length := shT_len _ _ _ _
            have AMq := Amp_ok htq (gm_eq htq) (n := n) (by omega) 1 2 3
            have hz2 := hz1 hF
            clear hz1
            generalize ampR (t.shift 2 0 (-1)) n 1 2 3 (gm (t.shift 2 0 (-1))) = am at *
            obtain ⟨⟨b0, b1⟩, be⟩ := am
            dsimp only at AMq hz2
            simp only [go_sem, u1, u2, u3, u4, Pl.a, Pl.c4]
            refine dFN SYt 6 [2] ⟨.inl (pla_frz 3 (j := 2) (g := true) (onlyR_row rfl (by simp)) rfl), .inl rfl, .inl rfl, .inl rfl, trivial⟩ ?_ (hr := by simp [go_sem, Pl.a, Pl.c4]) (hnv := by simp only [go_sem, Pl.a, Pl.c4]) (hx := iv_row _ _ _) (hxn := iv_nv _ _) (hd := by simp [go_sem] <;> omega)
            simp only [go_sem, ren, rens, u1, u2, u3, u4, Pl.a, Pl.c4]
            refine ⟨by simp <;> omega, ?_⟩
            refine cF AMq 6 ⟨.inl (pla_frz 3 (p := t.shift 2 0 (-1)) (j := X.length + 12) (g := true) (by simp) htl.symm), .inl rfl, .inl rfl, .inl rfl, .inl rfl, trivial⟩ ?_ (hr := by simp only [go_sem, Rg.v]) (hnv := by simp only [go_sem, Rg.v])
            by_cases hbe : be = 0
            · obtain ⟨rfl, rfl, rfl⟩ := hz2 hbe
              have hbe' : (be == 0) = true := by simp [hbe]
              simp only [go_sem, Rg.v, hbe', bne_self_eq_false, u1, u2, u3, u4, Pl.a, Pl.c4]
              exact ihn _ _ (by simp [go_sem, u1, u2, u3, u4])
            · have hbe' : (be == 0) = false := by simp [hbe]
              simp only [go_sem, Rg.v, hbe', u1, u2, u3, u4, Pl.a, Pl.c4]
              exact ihn _ _ (by simp [go_sem, u1, u2, u3, u4])
          · have SNt := Shift_no ht 2 0 (-1) hF
            have hF' : (shErr t 2 0 (-1) == 0) = false := by simp [hF]
            simp only [go_sem, u1, u2, u3, u4, Pl.a, Pl.c4]
            refine dF SNt 6 [2] ⟨.inl (pla_frz 3 (j := 2) (g := true) (onlyR_row rfl (by simp)) rfl), .inl rfl, .inl rfl, .inl rfl, trivial⟩ ?_ (hr := by simp only [go_sem, noPl]) (hnv := by simp only [go_sem, noPl])
            simp only [go_sem, noPl, u1, u2, u3, u4, Pl.a, Pl.c4]
            refine ⟨by simp <;> omega, ?_⟩
            refine cF (Amp_none n 1 2 3) 6 ⟨.inl rfl, .inl rfl, .inl rfl, .inl rfl, .inl rfl, trivial⟩ ?_ (hr := by simp only [go_sem, Rg.v]) (hnv := by simp only [go_sem, Rg.v])
            simp only [go_sem, Rg.v, hF', u1, u2, u3, u4, Pl.a, Pl.c4]
            exact ihn _ _ (by simp [go_sem, u1, u2, u3, u4])
        · simp only [go_sem]
          refine cP awake_ok ?_
          simp only [go_sem]
    · have hse' : (se != 0) = true := by simp [hse]
      have hse2 : (se == 0) = false := by simp [hse]
      simp only [go_sem, Rg.v, bne_self_eq_false, hse', hse2, if_neg hse]
      refine cP awake_ok ?_
      simp only [go_sem]
end Go.Proofs
