/- CathodeNarrows. -/
import Derived.Test.YtbjfjgiinjhikacYcN
namespace Go.Proofs
open Go Go.Sx

set_option maxRecDepth 20000 in
set_option maxHeartbeats 8000000 in
theorem narrows_law (xs : List Int) (hl : xs.length ≤ 9223372036854775807) : Ans Try.prog n_law03_CathodeNarrows [.view (xs.map (.int .i64))] [] (.bool true) [] := by
  have hd := newdice_ok xs hl
  generalize seedW xs = w at *
  refine spec_run e_law03_CathodeNarrows fun G => ?_
  simp only [go_sem]
  refine callN1 hd ⟨by rw [bel_view]; exact bels_map _ _ fun _ => .int _ _, trivial⟩ (dr_bel _ _) (by simp) (by simp) ?_
  simp only [go_sem]
  refine callDN (coatOf_run w) rfl trivial (dr_bel _ _) (fun a ha => ⟨by simp only [go_sem], by simp only [go_sem], by simp only [go_sem]⟩) (by simp) (by simp) ?_
  rintro ⟨c, w1⟩ hc
  dsimp only at hc
  simp only [go_sem, Ct.v, Ct.cs, ren, rens]
  refine callDS (scheduleOf_set w1 5 20 (by decide) (by decide)) rfl ⟨.int _ _, .int _ _, trivial⟩ (dr_bel _ _) (fun a ha => ⟨by simp only [go_sem], by simp only [go_sem]⟩) (by simp) (by simp) ?_
  rintro ⟨l, w2⟩ hl
  dsimp only at hl
  have hls := hl.ok (by decide) (by decide) (by decide)
  have hcp := Copy_run c hc
  have hlen := hl.len
  have hbl := hc.len
  obtain ⟨aid, w3, ha1, ha2, ha3⟩ := inside_run w2 c.aid hc.aid (by decide)
  by_cases hnil : l = []
  · have e1 : slv 3 (List.map Ht.v l) = .nilsl := by rw [hnil]; rfl
    have e2 : slrG false 3 (List.map Ht.v l) = [] := by rw [hnil]; rfl
    simp only [go_sem, e1, e2]
    refine cFN hcp 6 ⟨.inl (ct_frz (H := _) rfl), trivial⟩ ?_
    simp only [go_sem, Ct.v, Ct.cs, ren, rens]
    refine cD ha3 ?_
    simp only [go_sem, Rg.v]
    refine loop_ind k_law03_CathodeNarrows_r11.eq_1 (fun a : Nat × Int × List Bd × Heap => a.1 ≤ c.bands.length ∧ Part c a.2.2.1 a.1) (fun a => c.bands.length - a.1)
      (fun a => (tsets 147 [(2, .bool false), (3, .ptr 0 0 0 1), (4, .ptr 2 0 0 1), (5, .nilsl), (6, .ptr 4 0 0 1), (7, .int .i64 a.1)],
        some (Dr a.2.1) :: some (BdR c.bands) :: some (.cells false 7 [c.v (.sl 1 0 c.bands.length)]) :: some (.cells true 9 (a.2.2.1.map Bd.v)) :: some (.cells false 7 [.agg [.int .i64 c.amount, .int .i64 c.slew, .int .i64 aid.lo, .int .i64 aid.hi, .int .i64 c.yld.lo, .int .i64 c.yld.hi, .sl 3 0 c.bands.length]]) :: a.2.2.2))
      (0, w3, c.bands, []) ⟨Nat.zero_le _, Part.zero c⟩ (by simp [go_sem]) rfl ?_
    rintro ⟨i, w', bs, X⟩ ⟨hi, hp⟩ ih
    dsimp only at hi hp ih ⊢
    have hbsl := hp.len
    by_cases h1 : i < c.bands.length
    · have h2 : (i : Int) < c.bands.length := by omega
      have h3 := idx_next h1 (by omega)
      have i0 : ¬ (i : Int) < 0 := by omega
      have hb0 : c.bands[i]? = some c.bands[i] := List.getElem?_eq_getElem h1
      have hbok := hc.bands _ (List.getElem_mem h1)
      have hbg : c.bands.getD i default = c.bands[i] := by rw [List.getD_eq_getElem?_getD, hb0]; rfl
      have hb1 : bs[i]? = some c.bands[i] := by
        have e := hp.rest i (Nat.le_refl _)
        rw [hbg, List.getD_eq_getElem?_getD, List.getElem?_eq_getElem (by omega)] at e
        rw [List.getElem?_eq_getElem (by omega)]
        simpa using e
      generalize c.bands[i] = b0 at *
      obtain ⟨f0, f1, f2, f3, f4⟩ := hbok
      obtain ⟨r1, v1, p1, q1, k1⟩ := inside_run w' b0.conv f1 (by decide)
      obtain ⟨r2, v2, p2, q2, k2⟩ := inside_run v1 b0.red f2 (by decide)
      obtain ⟨r3, v3, p3, q3, k3⟩ := inside_run v2 b0.evap f3 (by decide)
      obtain ⟨r4, v4, p4, q4, k4⟩ := inside_run v3 b0.sint f4 (by decide)
      have hset : ∀ zs : List Bd, (List.map Bd.v zs).set i (.agg [.int .i64 b0.frm, .int .i64 r1.lo, .int .i64 r1.hi, .int .i64 r2.lo, .int .i64 r2.hi, .int .i64 r3.lo, .int .i64 r3.hi, .int .i64 r4.lo, .int .i64 r4.hi]) = List.map Bd.v (zs.set i ⟨b0.frm, r1, r2, r3, r4⟩) := fun zs => bd_set zs i ⟨b0.frm, r1, r2, r3, r4⟩
      simp only [go_sem, Ct.v, Ct.cs, BdR, h2, i0, hb0, Bd.v, Bd.cs]
      refine dD k1 ?_
      simp only [go_sem]
      refine dD k2 ?_
      simp only [go_sem]
      refine dD k3 ?_
      simp only [go_sem]
      refine dD k4 ?_
      simp only [go_sem, Rg.v, hb1, hbsl, h2, i0, Bd.v, Bd.cs, hset, h3]
      exact ih (i + 1, v4, bs.set i ⟨b0.frm, r1, r2, r3, r4⟩, _) (by dsimp only; omega) ⟨h1, hp.step h1 ⟨f0, q1, q2, q3, q4⟩ (by rw [hbg]; exact ⟨rfl, p1, p2, p3, p4⟩)⟩ _ (by simp [go_sem])
    have h2 : ¬ (i : Int) < c.bands.length := by omega
    obtain ⟨hn, hsub⟩ := Part.coat (aid := aid) (show Part c bs c.bands.length from (show i = c.bands.length by omega) ▸ hp) hc (ha2.up (by decide)) ha1
    have hF1 := Follow_nil _ hn
    have hF2 := Follow_nil c hc
    simp only [go_sem, Ct.v, Ct.cs, h2, BdR, List.length_map]
    refine cF hF1 6 ⟨.inl (ct_frz2 (H := _) (c := ⟨c.amount, c.slew, aid, c.yld, bs⟩) rfl hbsl.symm), .inr ⟨rfl, rfl⟩, trivial⟩ ?_
    simp only [go_sem, Ct.v, Ct.cs]
    refine cF hF2 6 ⟨.inl (ct_frz (H := _) rfl), .inr ⟨rfl, rfl⟩, trivial⟩ ?_
    simp only [go_sem]
    refine loop_body 200 k_law03_CathodeNarrows_r23.eq_1 ?_
    simp only [go_sem]
    refine cP awake_ok ?_
    simp only [go_sem]
  have hne : List.map Ht.v l ≠ [] := by simpa using hnil
  have e1 : slv 3 (List.map Ht.v l) = .sl 3 0 l.length := by unfold slv; rw [if_neg hne, List.length_map]
  have e2 : slrG false 3 (List.map Ht.v l) = [some (.cells false 3 (List.map Ht.v l))] := by unfold slrG; rw [if_neg hne]
  simp only [go_sem, e1, e2]
  refine cFN hcp 6 ⟨.inl (ct_frz (H := _) rfl), trivial⟩ ?_
  simp only [go_sem, Ct.v, Ct.cs, ren, rens]
  refine cD ha3 ?_
  simp only [go_sem, Rg.v]
  refine loop_ind k_law03_CathodeNarrows_r11.eq_1 (fun a : Nat × Int × List Bd × Heap => a.1 ≤ c.bands.length ∧ Part c a.2.2.1 a.1) (fun a => c.bands.length - a.1)
    (fun a => (tsets 147 [(2, .bool false), (3, .ptr 0 0 0 1), (4, .ptr 2 0 0 1), (5, .sl 3 0 l.length), (6, .ptr 5 0 0 1), (7, .int .i64 a.1)],
      some (Dr a.2.1) :: some (BdR c.bands) :: some (.cells false 7 [c.v (.sl 1 0 c.bands.length)]) :: some (.cells false 3 (l.map Ht.v)) :: some (.cells true 9 (a.2.2.1.map Bd.v)) :: some (.cells false 7 [.agg [.int .i64 c.amount, .int .i64 c.slew, .int .i64 aid.lo, .int .i64 aid.hi, .int .i64 c.yld.lo, .int .i64 c.yld.hi, .sl 4 0 c.bands.length]]) :: a.2.2.2))
    (0, w3, c.bands, []) ⟨Nat.zero_le _, Part.zero c⟩ (by simp [go_sem]) rfl ?_
  rintro ⟨i, w', bs, X⟩ ⟨hi, hp⟩ ih
  dsimp only at hi hp ih ⊢
  have hbsl := hp.len
  by_cases h1 : i < c.bands.length
  · have h2 : (i : Int) < c.bands.length := by omega
    have h3 := idx_next h1 (by omega)
    have i0 : ¬ (i : Int) < 0 := by omega
    have hb0 : c.bands[i]? = some c.bands[i] := List.getElem?_eq_getElem h1
    have hbok := hc.bands _ (List.getElem_mem h1)
    have hbg : c.bands.getD i default = c.bands[i] := by rw [List.getD_eq_getElem?_getD, hb0]; rfl
    have hb1 : bs[i]? = some c.bands[i] := by
      have e := hp.rest i (Nat.le_refl _)
      rw [hbg, List.getD_eq_getElem?_getD, List.getElem?_eq_getElem (by omega)] at e
      rw [List.getElem?_eq_getElem (by omega)]
      simpa using e
    generalize c.bands[i] = b0 at *
    obtain ⟨f0, f1, f2, f3, f4⟩ := hbok
    obtain ⟨r1, v1, p1, q1, k1⟩ := inside_run w' b0.conv f1 (by decide)
    obtain ⟨r2, v2, p2, q2, k2⟩ := inside_run v1 b0.red f2 (by decide)
    obtain ⟨r3, v3, p3, q3, k3⟩ := inside_run v2 b0.evap f3 (by decide)
    obtain ⟨r4, v4, p4, q4, k4⟩ := inside_run v3 b0.sint f4 (by decide)
    have hset : ∀ zs : List Bd, (List.map Bd.v zs).set i (.agg [.int .i64 b0.frm, .int .i64 r1.lo, .int .i64 r1.hi, .int .i64 r2.lo, .int .i64 r2.hi, .int .i64 r3.lo, .int .i64 r3.hi, .int .i64 r4.lo, .int .i64 r4.hi]) = List.map Bd.v (zs.set i ⟨b0.frm, r1, r2, r3, r4⟩) := fun zs => bd_set zs i ⟨b0.frm, r1, r2, r3, r4⟩
    simp only [go_sem, Ct.v, Ct.cs, BdR, h2, i0, hb0, Bd.v, Bd.cs]
    refine dD k1 ?_
    simp only [go_sem]
    refine dD k2 ?_
    simp only [go_sem]
    refine dD k3 ?_
    simp only [go_sem]
    refine dD k4 ?_
    simp only [go_sem, Rg.v, hb1, hbsl, h2, i0, Bd.v, Bd.cs, hset, h3]
    exact ih (i + 1, v4, bs.set i ⟨b0.frm, r1, r2, r3, r4⟩, _) (by dsimp only; omega) ⟨h1, hp.step h1 ⟨f0, q1, q2, q3, q4⟩ (by rw [hbg]; exact ⟨rfl, p1, p2, p3, p4⟩)⟩ _ (by simp [go_sem])
  have h2 : ¬ (i : Int) < c.bands.length := by omega
  obtain ⟨hn, hsub⟩ := Part.coat (aid := aid) (show Part c bs c.bands.length from (show i = c.bands.length by omega) ▸ hp) hc (ha2.up (by decide)) ha1
  have hsame : ∀ (j : Nat) (a b : Cg), _ := follow_sub hn hc hsub hls
  have hF1 := Follow_run _ hn l hls hnil
  have hF2 := Follow_run c hc l hls hnil
  have hL1 : (follow ⟨c.amount, c.slew, aid, c.yld, bs⟩ l).length = l.length := followX_len _ l _
  have hL2 : (follow c l).length = l.length := followX_len c l (fresh c)
  generalize follow ⟨c.amount, c.slew, aid, c.yld, bs⟩ l = A at *
  generalize follow c l = B at *
  simp only [go_sem, Ct.v, Ct.cs, h2, BdR, List.length_map]
  refine cFN hF1 6 ⟨.inl (ct_frz2 (H := _) (c := ⟨c.amount, c.slew, aid, c.yld, bs⟩) rfl hbsl.symm), .inl (sch_frz (H := _) rfl rfl), trivial⟩ ?_
  simp only [go_sem, Ct.v, Ct.cs, ren, rens]
  refine cFN hF2 6 ⟨.inl (ct_frz (H := _) rfl), .inl (sch_frz (H := _) rfl rfl), trivial⟩ ?_
  have c0 : ((l.length : Int) != l.length) = false := by simp
  simp only [go_sem, ren, rens, CgR, List.length_map, hL1, hL2, c0]
  refine loop_ind k_law03_CathodeNarrows_r23.eq_1 (fun a : Nat × Heap => a.1 ≤ l.length) (fun a => l.length - a.1)
    (fun a => (tsets 147 [(2, .bool false), (4, .ptr 2 0 0 1), (9, .sl (List.length X + 1 + 1 + 1 + 1 + 1 + 1) 0 l.length), (11, .sl (List.length X + 1 + 1 + 1 + 1 + 1 + 1 + 1) 0 l.length), (13, .int .i64 a.1)],
      some (Dr w') :: some (BdR c.bands) :: some (.cells false 7 [c.v (.sl 1 0 c.bands.length)]) :: some (.cells false 3 (l.map Ht.v)) :: some (.cells true 9 (bs.map Bd.v)) :: some (.cells false 7 [.agg [.int .i64 c.amount, .int .i64 c.slew, .int .i64 aid.lo, .int .i64 aid.hi, .int .i64 c.yld.lo, .int .i64 c.yld.hi, .sl 4 0 c.bands.length]]) :: (X ++ some (.cells true 13 (A.map Cg.v)) :: some (.cells true 13 (B.map Cg.v)) :: a.2)))
    (0, []) (Nat.zero_le _) (by simp [go_sem]) (by simp [go_sem, BdR, Ct.v, Ct.cs]) ?_
  rintro ⟨j, Y⟩ hj ih2
  dsimp only at hj ih2 ⊢
  by_cases h4 : j < l.length
  · have h5 : (j : Int) < l.length := by omega
    have h6 := idx_next h4 (by omega)
    have j0 : ¬ (j : Int) < 0 := by omega
    have hxA : A[j]? = some A[j] := List.getElem?_eq_getElem (by omega)
    have hxB : B[j]? = some B[j] := List.getElem?_eq_getElem (by omega)
    obtain ⟨hs1, hs2, hs3⟩ := hsame j _ _ hxA hxB
    generalize A[j] = x at *
    generalize B[j] = y at *
    have hs2 : CgOK c x := ⟨hs2.carb, hs2.ox, hs2.ba, hs2.lost, hs2.gas, hs2.wear, hs2.heat⟩
    have hE1 := Emission_run c hc x hs2
    have hE2 := Emission_run c hc y hs3
    have hW := lwithin_run x y hs1
    have hsp : RgSub (parts x.ba c.yld) (parts y.ba c.yld) := parts_sub hs1.ba ⟨Int.le_refl _, Int.le_refl _⟩ hs3.ba.lo (Int.le_trans hs2.ba.lo hs2.ba.le) hc.yld.lo (Int.le_trans hc.yld.lo hc.yld.le)
    have hV := within3_run _ _ hsp
    generalize parts x.ba c.yld = ex at *
    generalize parts y.ba c.yld = ey at *
    simp only [go_sem, Ct.v, Ct.cs, h5, j0, hL1, hL2, hxA, hxB, Cg.v, Cg.cs, List.length_map]
    refine dF hE1 6 [1] ⟨.inl (ct_frz (H := _) (onlyR_row rfl (by simp))), .inl rfl, trivial⟩ ?_
    simp only [go_sem, Rg.v, Ct.v, Ct.cs, h5, j0, hL1, hL2, hxA, hxB, Cg.v, Cg.cs, List.length_map]
    refine ⟨by simp <;> omega, ?_⟩
    refine dF hE2 6 [1] ⟨.inl (ct_frz (H := _) (onlyR_row rfl (by simp))), .inl rfl, trivial⟩ ?_
    simp only [go_sem, Rg.v, Ct.v, Ct.cs, h5, j0, hL1, hL2, hxA, hxB, Cg.v, Cg.cs, List.length_map]
    refine ⟨by simp <;> omega, ?_⟩
    refine cP hW ?_
    simp only [go_sem]
    refine cP hV ?_
    simp only [go_sem, h6]
    refine ih2 (j + 1, _) (by dsimp only; omega) h4 _ ?_
    simp [go_sem]
  have h5 : ¬ (j : Int) < l.length := by omega
  simp only [go_sem, h5, hL1, hL2, List.length_map]
  refine cP awake_ok ?_
  simp only [go_sem]
end Go.Proofs
