/- CathodeStill. -/
import Derived.Test.YtbjfjgiinjhikacYcQ
import Derived.Test.YtbjfjgiinjhikacYcN
namespace Go.Proofs
open Go Go.Sx
attribute [local irreducible] Run

theorem bd_zero (bs : List Bd) (i : Nat) (f : Int) : (List.map Bd.v bs).set i (.agg [.int .i64 f, .int .i64 0, .int .i64 0, .int .i64 0, .int .i64 0, .int .i64 0, .int .i64 0, .int .i64 0, .int .i64 0]) = List.map Bd.v (bs.set i ⟨f, ⟨0, 0⟩, ⟨0, 0⟩, ⟨0, 0⟩, ⟨0, 0⟩⟩) := by
  rw [List.map_set]; rfl

structure StillInv (c : Ct) (x : Cg) (heat : Int) (y : Cg) (i : Nat) : Prop where
  ok : CgOK c y
  carb : y.carb = x.carb
  ox : y.ox = x.ox
  ba : y.ba = x.ba
  lost : y.lost = x.lost
  wear : y.wear = x.wear
  gas : 1 ≤ i → y.gas = ⟨0, 0⟩
  near : y.heat = heat ∨ (y.heat - heat + i * c.slew ≤ 2000 ∧ heat - y.heat + i * c.slew ≤ 2000)

set_option maxRecDepth 20000 in
set_option maxHeartbeats 8000000 in
theorem still_law (xs : List Int) (hl : xs.length ≤ 9223372036854775807) (a1 a2 : Int) : Ans Try.prog n_law03_CathodeStill [.view (xs.map (.int .i64)), .int .i64 a1, .int .i64 a2] [] (.bool true) [] := by
  have hd := newdice_ok xs hl
  generalize seedW xs = w at *
  refine spec_run e_law03_CathodeStill fun G => ?_
  simp only [go_sem]
  refine callN1 hd ⟨by rw [bel_view]; exact bels_map _ _ fun _ => .int _ _, trivial⟩ (dr_bel _ _) (by simp) (by simp) ?_
  simp only [go_sem]
  refine callDN (coatOf_run w) rfl trivial (dr_bel _ _) (fun a ha => ⟨by simp only [go_sem], by simp only [go_sem], by simp only [go_sem]⟩) (by simp) (by simp) ?_
  rintro ⟨c, w1⟩ hc
  dsimp only at hc
  have hsd := scheduleOf_det w1 5 20 (by decide) (by decide)
  have hsc := schedOf_sch w1 5 20 (by decide) (by decide)
  generalize schedOf w1 5 20 = S at *
  obtain ⟨l, w2⟩ := S
  dsimp only at hsd hsc
  have hls := hsc.ok (by decide) (by decide) (by decide)
  have hlen := hsc.len
  have hsum := Sch.sum (most := 5) hsc.all
  have hmo : LsOK (l ++ [⟨3, 1300, 0⟩]) := LsOK.snoc hls.all ⟨by decide, by decide, by decide⟩ (by omega) (by dsimp only; omega)
  have hF := Follow_run c hc (l ++ [⟨3, 1300, 0⟩]) hmo (by simp)
  have hlast := follow_last c l ⟨3, 1300, 0⟩
  have hgl := last_good hc hmo
  have hms := hmo.sum
  have hfl : (follow c (l ++ [⟨3, 1300, 0⟩])).length = (l ++ [(⟨3, 1300, 0⟩ : Ht)]).length := followX_len c _ _
  have hml : (l ++ [(⟨3, 1300, 0⟩ : Ht)]).length = l.length + 1 := by simp
  generalize heatN c ⟨3, 1300, 0⟩ (endX c (fresh c) l) = x at *
  generalize follow c (l ++ [⟨3, 1300, 0⟩]) = F at *
  have hsn := ht_snoc l ⟨3, 1300, 0⟩
  generalize l ++ [(⟨3, 1300, 0⟩ : Ht)] = m at *
  dsimp only at hsn
  have hm1 := mod_pos a1 2001 (by decide)
  have hm2 := mod_pos a2 1001 (by decide)
  have g1 : 0 ≤ a1 % 2001 ∧ a1 % 2001 ≤ 2000 := by omega
  have g2 : 0 ≤ a2 % 1001 ∧ a2 % 1001 ≤ 1000 := by omega
  have hcp := Copy_run c hc
  have hsl := hc.slew
  have hbl := hc.len
  have b0 : ((m.length : Int) == 0) = false := beq_eq_false_iff_ne.2 (by omega)
  have w0 : IntKind.i64.wrap ((m.length : Int) - 1) = (l.length : Int) := by rw [w64 (by omega)]; omega
  have n0 : ¬ (l.length : Int) < 0 := by omega
  have n1 : (l.length : Int) < m.length := by omega
  have hq0 : 0 ≤ 2000 / c.slew := Int.ediv_nonneg (by decide) (by omega)
  have hq1 : 2000 / c.slew ≤ 2000 := Int.ediv_le_self _ (by decide)
  have hq2 : 2000 < (2000 / c.slew + 1) * c.slew := Int.lt_ediv_add_one_mul_self 2000 (by omega)
  have k1 : (2000 : Int).tdiv c.slew = 2000 / c.slew := Int.tdiv_eq_ediv_of_nonneg (by decide)
  have k2 : IntKind.i64.wrap (2000 / c.slew) = 2000 / c.slew := w64 (by omega)
  have k3 : IntKind.i64.wrap (2000 / c.slew + 1) = 2000 / c.slew + 1 := w64 (by omega)
  obtain ⟨q, hq⟩ : ∃ q : Nat, (2000 / c.slew : Int) = q := ⟨(2000 / c.slew).toNat, by omega⟩
  rw [hq] at hq0 hq1 hq2 k1 k2 k3
  have ks : ¬ c.slew = 0 := by omega
  simp only [go_sem, Ct.v, Ct.cs, ren, rens]
  by_cases hnil : l = []
  · have e1 : slv 1 (List.map Ht.v l) = .nilsl := by rw [hnil]; rfl
    have e2 : slrG false 3 (List.map Ht.v l) = [] := by rw [hnil]; rfl
    rw [e1, e2] at hsd
    rw [show List.map Ht.v l = [] by rw [hnil]; rfl, List.nil_append] at hsn
    refine dD hsd ?_
    simp only [go_sem]
    refine ⟨by decide, ?_⟩
    rw [hsn, show AVal.sl 4 0 1 = AVal.sl 4 0 m.length by rw [hml, hnil]; rfl]
    refine cFN hF 6 ⟨.inl (ct_frz (H := _) rfl), .inl (sch_frz (H := _) rfl rfl), trivial⟩ ?_
    simp only [go_sem, ren, rens, CgR, List.length_map, hfl, b0]
    simp only [go_sem, w0, n0, n1, hlast, Cg.v, Cg.cs, hfl, List.length_map]
    refine cFN hcp 6 ⟨.inl (ct_frz (H := _) rfl), trivial⟩ ?_
    simp only [go_sem, Ct.v, Ct.cs, ren, rens]
    refine loop_ind k_law03_CathodeStill_r13.eq_1 (fun a : Nat × List Bd => a.1 ≤ c.bands.length ∧ Zer c a.2 a.1) (fun a => c.bands.length - a.1)
      (fun a => (tsets 101 [(1, .int .i64 a1), (2, .int .i64 a2), (6, .bool false), (8, .ptr 2 0 0 1), (11, .ptr 6 0 0 1), (12, .ptr 8 0 0 1), (13, .int .i64 a.1)],
        some (Dr w2) :: some (BdR c.bands) :: some (.cells false 7 [c.v (.sl 1 0 c.bands.length)]) :: some (.cells false 3 (m.map Ht.v)) :: some (.cells true 3 (m.map Ht.v)) :: some (CgR F) :: some (.cells false 13 [x.v]) :: some (.cells true 9 (a.2.map Bd.v)) :: some (.cells false 7 [.agg [.int .i64 c.amount, .int .i64 c.slew, .int .i64 0, .int .i64 0, .int .i64 c.yld.lo, .int .i64 c.yld.hi, .sl 7 0 c.bands.length]]) :: []))
      (0, c.bands) ⟨Nat.zero_le _, Zer.zero c⟩ (by simp [go_sem]) rfl ?_
    rintro ⟨i, bs⟩ ⟨hi, hp⟩ ih
    dsimp only at hi hp ih ⊢
    have hbsl := hp.len
    by_cases h1 : i < c.bands.length
    · have h2 : (i : Int) < c.bands.length := by omega
      have h3 := idx_next h1 (by omega)
      have i0 : ¬ (i : Int) < 0 := by omega
      have hb1 : bs[i]? = some (c.bands.getD i default) := by
        have e := hp.rest i (Nat.le_refl _)
        rw [← e, List.getD_eq_getElem?_getD, List.getElem?_eq_getElem (by omega)]; rfl
      have hst := hp.step h1 (b := ⟨(c.bands.getD i default).frm, ⟨0, 0⟩, ⟨0, 0⟩, ⟨0, 0⟩, ⟨0, 0⟩⟩) rfl
      generalize c.bands.getD i default = b0 at *
      simp only [go_sem, Ct.v, Ct.cs, BdR, h2, i0, hb1, hbsl, Bd.v, Bd.cs, bd_zero, h3]
      exact ih (i + 1, bs.set i ⟨b0.frm, ⟨0, 0⟩, ⟨0, 0⟩, ⟨0, 0⟩, ⟨0, 0⟩⟩) (by dsimp only; omega) ⟨h1, hst⟩ _ (by simp [go_sem])
    have h2 : ¬ (i : Int) < c.bands.length := by omega
    have hz : Zer c bs c.bands.length := (show i = c.bands.length by omega) ▸ hp
    have hn := hz.coat hc
    simp only [go_sem, Ct.v, Ct.cs, h2, hbsl, List.length_map]
    refine cP hm1 ?_
    simp only [go_sem]
    refine cP hm2 ?_
    generalize a1 % 2001 = heat at *
    generalize a2 % 1001 = cur at *
    simp only [go_sem, Cg.v, Cg.cs]
    refine loop_ind k_law03_CathodeStill_r24.eq_1 (fun a : Nat × Cg × Heap => a.1 ≤ q + 2 ∧ StillInv c x heat a.2.1 a.1) (fun a => q + 2 - a.1)
      (fun a => (tsets 101 [(1, .int .i64 heat), (2, .int .i64 cur), (6, .bool false), (11, .ptr 6 0 0 1), (12, .ptr 8 0 0 1), (14, .ptr 9 0 0 1), (15, .int .i64 a.1)],
        some (Dr w2) :: some (BdR c.bands) :: some (.cells false 7 [c.v (.sl 1 0 c.bands.length)]) :: some (.cells false 3 (m.map Ht.v)) :: some (.cells true 3 (m.map Ht.v)) :: some (CgR F) :: some (.cells false 13 [a.2.1.v]) :: some (BdR bs) :: some (.cells false 7 [.agg [.int .i64 c.amount, .int .i64 c.slew, .int .i64 0, .int .i64 0, .int .i64 c.yld.lo, .int .i64 c.yld.hi, .sl 7 0 c.bands.length]]) :: some (.cells false 13 [Cg.v { x with gas := ⟨0, 0⟩, heat := heat }]) :: a.2.2))
      (0, x, []) ⟨Nat.zero_le _, ⟨hgl.ok, rfl, rfl, rfl, rfl, rfl, fun h => by omega, by have := hgl.ok.heat; right; simp; omega⟩⟩ (by simp [go_sem]) rfl ?_
    rintro ⟨j, y, X⟩ ⟨hj, hs⟩ ih2
    dsimp only at hj hs ih2 ⊢
    by_cases h4 : j ≤ q + 1
    · have h5 : (j : Int) ≤ q + 1 := by omega
      have h6 : IntKind.i64.wrap ((j : Int) + 1) = ((j + 1 : Nat) : Int) := by rw [w64 (by omega)]; omega
      have hyn : CgOK ⟨c.amount, c.slew, ⟨0, 0⟩, c.yld, bs⟩ y := ⟨hs.ok.carb, hs.ok.ox, hs.ok.ba, hs.ok.lost, hs.ok.gas, hs.ok.wear, hs.ok.heat⟩
      have haf := hz.after hc hs.ok (heat := heat) (cur := cur) g1
      have htk := Tick_run _ hn y hyn heat cur g1 g2 (by rw [haf]; exact hs.ok.wear.hi)
      rw [haf] at htk
      have hmv := moved_in hs.ok.heat g1 hsl.1
      have hnr := moved_near (i := (j : Int)) hsl.1 hs.near
      have hs' : StillInv c x heat { y with gas := ⟨0, 0⟩, heat := moved y.heat heat c.slew } (j + 1) := ⟨⟨hs.ok.carb, hs.ok.ox, hs.ok.ba, hs.ok.lost, ⟨by simp, by simp, by have := hc.amount; simp; omega⟩, hs.ok.wear, hmv⟩, hs.carb, hs.ox, hs.ba, hs.lost, hs.wear, fun _ => rfl, by push_cast; exact hnr⟩
      generalize hz2 : ({ y with gas := ⟨0, 0⟩, heat := moved y.heat heat c.slew } : Cg) = z at *
      simp only [go_sem, k1, k2, k3, ks, h5, Ct.v, Ct.cs, Cg.v, Cg.cs]
      refine cF htk 6 ⟨.inl (ct_frz2 (H := _) (c := ⟨c.amount, c.slew, ⟨0, 0⟩, c.yld, bs⟩) rfl hbsl.symm), .inl rfl, .inl rfl, .inl rfl, trivial⟩ ?_ (by simp only [go_sem, Cg.v, Cg.cs]) (by simp only [go_sem, Cg.v, Cg.cs])
      simp only [go_sem, Cg.v, Cg.cs, h6]
      exact ih2 (j + 1, z, _) (by dsimp only; omega) ⟨by dsimp only; omega, hs'⟩ _ (by simp [go_sem])
    have h5 : ¬ (j : Int) ≤ q + 1 := by omega
    have hyh : y.heat = heat := by
      rcases hs.near with h | ⟨e1, e2⟩
      · exact h
      · exfalso
        have e3 : ((q : Int) + 1) * c.slew ≤ (j : Int) * c.slew := Int.mul_le_mul_of_nonneg_right (by omega) (by omega)
        omega
    have f1 := hs.carb; have f2 := hs.ox; have f3 := hs.ba; have f4 := hs.lost; have f5 := hs.wear; have f6 := hs.gas (by omega)
    simp only [go_sem, k1, k2, k3, ks, h5, Ct.v, Ct.cs, Cg.v, Cg.cs, f1, f2, f3, f4, f5, f6, hyh]
    refine cP awake_ok ?_
    simp only [go_sem]
  have hne : List.map Ht.v l ≠ [] := by simpa using hnil
  refine dDs hsd hne rfl ⟨.int _ _, .int _ _, trivial⟩ (dr_bel _ _) (dr_bel _ _) (by simp only [go_sem]) (by simp) ?_ ?_
  · simp only [go_sem]
  simp only [go_sem, List.length_map, hsn]
  refine ⟨by omega, ?_⟩
  refine cFN hF 6 ⟨.inl (ct_frz (H := _) rfl), .inl (sch_frz (H := _) rfl (by rw [hml])), trivial⟩ ?_
  simp only [go_sem, ren, rens, CgR, List.length_map, hfl, b0]
  simp only [go_sem, w0, n0, n1, hlast, Cg.v, Cg.cs, hfl, List.length_map]
  refine cFN hcp 6 ⟨.inl (ct_frz (H := _) rfl), trivial⟩ ?_
  simp only [go_sem, Ct.v, Ct.cs, ren, rens]
  refine loop_ind k_law03_CathodeStill_r13.eq_1 (fun a : Nat × List Bd => a.1 ≤ c.bands.length ∧ Zer c a.2 a.1) (fun a => c.bands.length - a.1)
    (fun a => (tsets 101 [(1, .int .i64 a1), (2, .int .i64 a2), (6, .bool false), (8, .ptr 2 0 0 1), (11, .ptr 6 0 0 1), (12, .ptr 8 0 0 1), (13, .int .i64 a.1)],
      some (Dr w2) :: some (BdR c.bands) :: some (.cells false 7 [c.v (.sl 1 0 c.bands.length)]) :: some (.cells true 3 (m.map Ht.v)) :: some (.cells false 3 [.agg [.int .i64 3, .int .i64 1300, .int .i64 0]]) :: some (CgR F) :: some (.cells false 13 [x.v]) :: some (.cells true 9 (a.2.map Bd.v)) :: some (.cells false 7 [.agg [.int .i64 c.amount, .int .i64 c.slew, .int .i64 0, .int .i64 0, .int .i64 c.yld.lo, .int .i64 c.yld.hi, .sl 7 0 c.bands.length]]) :: []))
    (0, c.bands) ⟨Nat.zero_le _, Zer.zero c⟩ (by simp [go_sem]) rfl ?_
  rintro ⟨i, bs⟩ ⟨hi, hp⟩ ih
  dsimp only at hi hp ih ⊢
  have hbsl := hp.len
  by_cases h1 : i < c.bands.length
  · have h2 : (i : Int) < c.bands.length := by omega
    have h3 := idx_next h1 (by omega)
    have i0 : ¬ (i : Int) < 0 := by omega
    have hb1 : bs[i]? = some (c.bands.getD i default) := by
      have e := hp.rest i (Nat.le_refl _)
      rw [← e, List.getD_eq_getElem?_getD, List.getElem?_eq_getElem (by omega)]; rfl
    have hst := hp.step h1 (b := ⟨(c.bands.getD i default).frm, ⟨0, 0⟩, ⟨0, 0⟩, ⟨0, 0⟩, ⟨0, 0⟩⟩) rfl
    generalize c.bands.getD i default = b0 at *
    simp only [go_sem, Ct.v, Ct.cs, BdR, h2, i0, hb1, hbsl, Bd.v, Bd.cs, bd_zero, h3]
    exact ih (i + 1, bs.set i ⟨b0.frm, ⟨0, 0⟩, ⟨0, 0⟩, ⟨0, 0⟩, ⟨0, 0⟩⟩) (by dsimp only; omega) ⟨h1, hst⟩ _ (by simp [go_sem])
  have h2 : ¬ (i : Int) < c.bands.length := by omega
  have hz : Zer c bs c.bands.length := (show i = c.bands.length by omega) ▸ hp
  have hn := hz.coat hc
  simp only [go_sem, Ct.v, Ct.cs, h2, hbsl, List.length_map]
  refine cP hm1 ?_
  simp only [go_sem]
  refine cP hm2 ?_
  generalize a1 % 2001 = heat at *
  generalize a2 % 1001 = cur at *
  simp only [go_sem, Cg.v, Cg.cs]
  refine loop_ind k_law03_CathodeStill_r24.eq_1 (fun a : Nat × Cg × Heap => a.1 ≤ q + 2 ∧ StillInv c x heat a.2.1 a.1) (fun a => q + 2 - a.1)
    (fun a => (tsets 101 [(1, .int .i64 heat), (2, .int .i64 cur), (6, .bool false), (11, .ptr 6 0 0 1), (12, .ptr 8 0 0 1), (14, .ptr 9 0 0 1), (15, .int .i64 a.1)],
      some (Dr w2) :: some (BdR c.bands) :: some (.cells false 7 [c.v (.sl 1 0 c.bands.length)]) :: some (.cells true 3 (m.map Ht.v)) :: some (.cells false 3 [.agg [.int .i64 3, .int .i64 1300, .int .i64 0]]) :: some (CgR F) :: some (.cells false 13 [a.2.1.v]) :: some (BdR bs) :: some (.cells false 7 [.agg [.int .i64 c.amount, .int .i64 c.slew, .int .i64 0, .int .i64 0, .int .i64 c.yld.lo, .int .i64 c.yld.hi, .sl 7 0 c.bands.length]]) :: some (.cells false 13 [Cg.v { x with gas := ⟨0, 0⟩, heat := heat }]) :: a.2.2))
    (0, x, []) ⟨Nat.zero_le _, ⟨hgl.ok, rfl, rfl, rfl, rfl, rfl, fun h => by omega, by have := hgl.ok.heat; right; simp; omega⟩⟩ (by simp [go_sem]) rfl ?_
  rintro ⟨j, y, X⟩ ⟨hj, hs⟩ ih2
  dsimp only at hj hs ih2 ⊢
  by_cases h4 : j ≤ q + 1
  · have h5 : (j : Int) ≤ q + 1 := by omega
    have h6 : IntKind.i64.wrap ((j : Int) + 1) = ((j + 1 : Nat) : Int) := by rw [w64 (by omega)]; omega
    have hyn : CgOK ⟨c.amount, c.slew, ⟨0, 0⟩, c.yld, bs⟩ y := ⟨hs.ok.carb, hs.ok.ox, hs.ok.ba, hs.ok.lost, hs.ok.gas, hs.ok.wear, hs.ok.heat⟩
    have haf := hz.after hc hs.ok (heat := heat) (cur := cur) g1
    have htk := Tick_run _ hn y hyn heat cur g1 g2 (by rw [haf]; exact hs.ok.wear.hi)
    rw [haf] at htk
    have hmv := moved_in hs.ok.heat g1 hsl.1
    have hnr := moved_near (i := (j : Int)) hsl.1 hs.near
    have hs' : StillInv c x heat { y with gas := ⟨0, 0⟩, heat := moved y.heat heat c.slew } (j + 1) := ⟨⟨hs.ok.carb, hs.ok.ox, hs.ok.ba, hs.ok.lost, ⟨by simp, by simp, by have := hc.amount; simp; omega⟩, hs.ok.wear, hmv⟩, hs.carb, hs.ox, hs.ba, hs.lost, hs.wear, fun _ => rfl, by push_cast; exact hnr⟩
    generalize hz2 : ({ y with gas := ⟨0, 0⟩, heat := moved y.heat heat c.slew } : Cg) = z at *
    simp only [go_sem, k1, k2, k3, ks, h5, Ct.v, Ct.cs, Cg.v, Cg.cs]
    refine cF htk 6 ⟨.inl (ct_frz2 (H := _) (c := ⟨c.amount, c.slew, ⟨0, 0⟩, c.yld, bs⟩) rfl hbsl.symm), .inl rfl, .inl rfl, .inl rfl, trivial⟩ ?_ (by simp only [go_sem, Cg.v, Cg.cs]) (by simp only [go_sem, Cg.v, Cg.cs])
    simp only [go_sem, Cg.v, Cg.cs, h6]
    exact ih2 (j + 1, z, _) (by dsimp only; omega) ⟨by dsimp only; omega, hs'⟩ _ (by simp [go_sem])
  have h5 : ¬ (j : Int) ≤ q + 1 := by omega
  have hyh : y.heat = heat := by
    rcases hs.near with h | ⟨e1, e2⟩
    · exact h
    · exfalso
      have e3 : ((q : Int) + 1) * c.slew ≤ (j : Int) * c.slew := Int.mul_le_mul_of_nonneg_right (by omega) (by omega)
      omega
  have f1 := hs.carb; have f2 := hs.ox; have f3 := hs.ba; have f4 := hs.lost; have f5 := hs.wear; have f6 := hs.gas (by omega)
  simp only [go_sem, k1, k2, k3, ks, h5, Ct.v, Ct.cs, Cg.v, Cg.cs, f1, f2, f3, f4, f5, f6, hyh]
  refine cP awake_ok ?_
  simp only [go_sem]
end Go.Proofs
