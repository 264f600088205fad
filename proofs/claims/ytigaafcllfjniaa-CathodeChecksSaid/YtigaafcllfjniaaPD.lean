/- A part of the proof. -/
import Derived.Test.YtigaafcllfjniaaPC
set_option linter.unusedSimpArgs false
set_option linter.unusedVariables false
namespace Go.Proofs
open Go Go.Sx

theorem rate_run (w m : Int) (hm : 0 ≤ m ∧ m ≤ 1000000) : ∃ r w', RgIn r m ∧ Ans Try.prog n_kit_rate [.ptr 0 0 0 1, .int .i64 m] [some (Dr w)] (Rg.v r) [some (Dr w')] := by
  have h0 := upto_in (w := w) (n := 5) (by decide)
  have hb1 := between_ok (dstep w) 0 m (by decide) hm.1 (by omega)
  have hb2 := btw_in (w := dstep w) hm.1
  have hu := upto_in (w := dstep (dstep w)) (n := m / 4 + 1) (by omega)
  have t1 : m.tdiv 4 = m / 4 := Int.tdiv_eq_ediv_of_nonneg hm.1
  have t2 : IntKind.i64.wrap (m / 4) = m / 4 := w64 (by omega)
  have t3 : IntKind.i64.wrap (m / 4 + 1) = m / 4 + 1 := w64 (by omega)
  have t4 : IntKind.i64.wrap (btw (dstep w) 0 m + upto (dstep (dstep w)) (m / 4 + 1)) = btw (dstep w) 0 m + upto (dstep (dstep w)) (m / 4 + 1) := w64 (by omega)
  have hu5 := upto_ok w 5 (by decide)
  have hu6 := upto_ok (dstep (dstep w)) (m / 4 + 1) (by omega)
  generalize btw (dstep w) 0 m = n at *
  generalize upto (dstep (dstep w)) (m / 4 + 1) = y at *
  generalize upto w 5 = q at *
  by_cases q0 : q = 0
  · subst q0
    refine ⟨⟨0, 0⟩, dstep w, ⟨by simp, by simp, hm.1⟩, spec_run e_kit_rate fun G => ?_⟩
    simp only [go_sem]
    refine cD hu5 ?_
    simp only [go_sem, Rg.v]
    exact ⟨_, rfl⟩
  by_cases q1 : q = 1
  · subst q1
    refine ⟨⟨n, n⟩, dstep (dstep w), ⟨hb2.1, by simp, hb2.2⟩, spec_run e_kit_rate fun G => ?_⟩
    simp only [go_sem]
    refine cD hu5 ?_
    simp only [go_sem, q0]
    refine cD hb1 ?_
    simp only [go_sem, Rg.v]
    exact ⟨_, rfl⟩
  · refine ⟨⟨n, if n + y < m then n + y else m⟩, dstep (dstep (dstep w)), ⟨hb2.1, ?_, ?_⟩, spec_run e_kit_rate fun G => ?_⟩
    · dsimp only; split <;> omega
    · dsimp only; split <;> omega
    simp only [go_sem]
    refine cD hu5 ?_
    have b0 : (q == 0) = false := by simp [q0]
    have b1 : (q == 1) = false := by simp [q1]
    simp only [go_sem, b0, b1]
    refine cD hb1 ?_
    simp only [go_sem, t1, t2, t3]
    refine cD hu6 ?_
    simp only [go_sem, Rg.v, t4]
    exact ⟨_, rfl⟩

def BdR (bs : List Bd) : Row := .cells true 9 (bs.map Bd.v)
@[go_sem] theorem bdr_bel (bs : List Bd) (S : Nat → Prop) : (BdR bs).bel S = True := by unfold BdR; rw [row_bel_cells]; simp only [go_sem]

theorem sel3 (q a b c : Int) (h : 0 ≤ q ∧ q < 3) : ∃ v, (v = a ∨ v = b ∨ v = c) ∧ [AVal.int .i64 a, .int .i64 b, .int .i64 c][q.toNat]? = some (.int .i64 v) := by
  obtain rfl | rfl | rfl : q = 0 ∨ q = 1 ∨ q = 2 := by omega
  · exact ⟨a, .inl rfl, rfl⟩
  · exact ⟨b, .inr (.inl rfl), rfl⟩
  · exact ⟨c, .inr (.inr rfl), rfl⟩
theorem sel2 (q a b : Int) (h : 0 ≤ q ∧ q < 2) : ∃ v, (v = a ∨ v = b) ∧ [AVal.int .i64 a, .int .i64 b][q.toNat]? = some (.int .i64 v) := by
  obtain rfl | rfl : q = 0 ∨ q = 1 := by omega
  · exact ⟨a, .inl rfl, rfl⟩
  · exact ⟨b, .inr rfl, rfl⟩
theorem bd_snoc (xs : List Bd) (y : Bd) : List.map Bd.v xs ++ [.agg [.int .i64 y.frm, .int .i64 y.conv.lo, .int .i64 y.conv.hi, .int .i64 y.red.lo, .int .i64 y.red.hi, .int .i64 y.evap.lo, .int .i64 y.evap.hi, .int .i64 y.sint.lo, .int .i64 y.sint.hi]] = List.map Bd.v (xs ++ [y]) := by
  rw [List.map_append]; rfl

theorem RgIn.up {r : Rg} {m n : Int} (h : RgIn r m) (hmn : m ≤ n) : RgIn r n := ⟨h.lo, h.le, Int.le_trans h.hi hmn⟩

/-- What may become of a round of CoatOf. -/
theorem band_run (w from' : Int) (hf : 0 ≤ from' ∧ from' ≤ 2000) : ∃ (b : Bd) (m st w1 w2 w3 w4 w5 : Int), BdOK b ∧ b.frm = from' ∧ 1 ≤ st ∧ st ≤ 700 ∧ (m = 1000 ∨ m = 100000 ∨ m = 1000000) ∧
    (0 ≤ upto w 3 ∧ upto w 3 < 3) ∧ [AVal.int .i64 1000, .int .i64 100000, .int .i64 1000000][(upto w 3).toNat]? = some (.int .i64 m) ∧
    Ans Try.prog n_kit_rate [.ptr 0 0 0 1, .int .i64 m] [some (Dr (dstep w))] b.conv.v [some (Dr w1)] ∧
    Ans Try.prog n_kit_rate [.ptr 0 0 0 1, .int .i64 m] [some (Dr w1)] b.red.v [some (Dr w2)] ∧
    Ans Try.prog n_kit_rate [.ptr 0 0 0 1, .int .i64 (m / 4)] [some (Dr w2)] b.evap.v [some (Dr w3)] ∧
    Ans Try.prog n_kit_rate [.ptr 0 0 0 1, .int .i64 9] [some (Dr w3)] b.sint.v [some (Dr w4)] ∧
    Ans Try.prog n_kit_Dice_Between [.ptr 0 0 0 1, .int .i64 1, .int .i64 700] [some (Dr w4)] (.int .i64 st) [some (Dr w5)] := by
  have hq := upto_in (w := w) (n := 3) (by decide)
  obtain ⟨m, hm, hsel⟩ := sel3 (upto w 3) 1000 100000 1000000 hq
  have hm2 : 0 ≤ m ∧ m ≤ 1000000 := by omega
  obtain ⟨r1, w1, a1, b1⟩ := rate_run (dstep w) m hm2
  obtain ⟨r2, w2, a2, b2⟩ := rate_run w1 m hm2
  obtain ⟨r3, w3, a3, b3⟩ := rate_run w2 (m / 4) (by omega)
  obtain ⟨r4, w4, a4, b4⟩ := rate_run w3 9 (by decide)
  have hb := btw_in (w := w4) (lo := 1) (hi := 700) (by decide)
  exact ⟨⟨from', r1, r2, r3, r4⟩, m, btw w4 1 700, w1, w2, w3, w4, dstep w4, ⟨hf, a1.up hm2.2, a2.up hm2.2, a3.up (by omega), a4.up (by decide)⟩, rfl, hb.1, hb.2, hm, hq, hsel, b1, b2, b3, b4, between_ok w4 1 700 (by decide) (by decide) (by decide)⟩

set_option maxHeartbeats 2000000 in
theorem coatOf_run (w : Int) : AnsE Try.prog n_kit_CoatOf [.ptr 0 0 0 1] [some (Dr w)] (fun a : Ct × Int => CtOK a.1) (fun a => a.1.v (.sl 1 0 a.1.bands.length)) (fun a => [some (Dr a.2), some (BdR a.1.bands)]) := by
  refine AnsE.keep (run_fn e_kit_CoatOf fun G => ?_) (fun a ha => ⟨by simp, by simp [go_sem, Ct.v, Ct.cs], by simp only [go_sem], by simp only [go_sem], trivial⟩)
  have g1 := btw_in (w := w) (lo := 1) (hi := 20) (by decide)
  have g2 := btw_in (w := dstep w) (lo := 1) (hi := 2000) (by decide)
  have g3 := btw_in (w := dstep (dstep w)) (lo := 1) (hi := 1000000) (by decide)
  have q1 := upto_in (w := dstep (dstep (dstep w))) (n := 3) (by decide)
  obtain ⟨am, ham, hs1⟩ := sel3 _ (btw w 1 20) (btw (dstep w) 1 2000) (btw (dstep (dstep w)) 1 1000000) q1
  have hu1 := upto_ok (dstep (dstep (dstep w))) 3 (by decide)
  have g4 := btw_in (w := dstep (dstep (dstep (dstep w)))) (lo := 1) (hi := 300) (by decide)
  have q2 := upto_in (w := dstep (dstep (dstep (dstep (dstep w))))) (n := 2) (by decide)
  obtain ⟨sl, hsl, hs2⟩ := sel2 _ (btw (dstep (dstep (dstep (dstep w)))) 1 300) 2000 q2
  have hu2 := upto_ok (dstep (dstep (dstep (dstep (dstep w))))) 2 (by decide)
  obtain ⟨aid, w7, haid, raid⟩ := rate_run (dstep (dstep (dstep (dstep (dstep (dstep w)))))) 500 (by decide)
  obtain ⟨yl, w8, hyl, ryl⟩ := rate_run w7 1000000 (by decide)
  have g5 := btw_in (w := w8) (lo := 1) (hi := 4) (by decide)
  have bt5 := between_ok w8 1 4 (by decide) (by decide) (by decide)
  have n1 : ¬ upto (dstep (dstep (dstep w))) 3 < 0 := by omega
  have n2 : upto (dstep (dstep (dstep w))) 3 < 3 := q1.2
  have n3 : ¬ upto (dstep (dstep (dstep (dstep (dstep w))))) 2 < 0 := by omega
  have n4 : upto (dstep (dstep (dstep (dstep (dstep w))))) 2 < 2 := q2.2
  generalize btw w8 1 4 = cnt at *
  have p44 : 72 ≤ 2 ^ 44 := by decide
  obtain ⟨b, mb, stb, wab, wbb, wcb, wdb, web, hbkb, hbfb, hstb, hst2b, hmb, hqab, hselb, e1b, e2b, e3b, e4b, e5b⟩ := band_run (dstep w8) 0 (by decide)
  have hub := upto_ok (dstep w8) 3 (by decide)
  have t1b : mb.tdiv 4 = mb / 4 := Int.tdiv_eq_ediv_of_nonneg (by omega)
  have t2b : IntKind.i64.wrap (mb / 4) = mb / 4 := w64 (by omega)
  have hq1b : ¬ upto (dstep w8) 3 < 0 := by omega
  have hq2b : upto (dstep w8) 3 < 3 := hqab.2
  have hcnt : 0 < cnt := by omega
  have u1 : IntKind.i64.wrap (cnt - 1) = cnt - 1 := w64 (by omega)
  have u2 : IntKind.i64.wrap (0 + stb) = stb := by rw [w64 (by omega)]; omega
  simp only [go_sem]
  refine dD (between_ok w 1 20 (by decide) (by decide) (by decide)) ?_
  simp only [go_sem]
  refine dD (between_ok _ 1 2000 (by decide) (by decide) (by decide)) ?_
  simp only [go_sem]
  refine dD (between_ok _ 1 1000000 (by decide) (by decide) (by decide)) ?_
  simp only [go_sem]
  refine dD hu1 ?_
  simp only [go_sem, n1, n2, hs1]
  refine dD (between_ok _ 1 300 (by decide) (by decide) (by decide)) ?_
  simp only [go_sem]
  refine dD hu2 ?_
  simp only [go_sem, n3, n4, hs2]
  refine dD raid ?_
  simp only [go_sem]
  refine dD ryl ?_
  simp only [go_sem, Rg.v]
  refine cD bt5 ?_
  simp only [go_sem]
  refine loop_body 200 k_kit_CoatOf_r9.eq_1 ?_
  simp only [go_sem, hcnt]
  refine cD hub ?_
  simp only [go_sem, hq1b, hq2b, hselb]
  refine dD e1b ?_
  simp only [go_sem]
  refine dD e2b ?_
  simp only [go_sem, t1b, t2b]
  refine dD e3b ?_
  simp only [go_sem]
  refine dD e4b ?_
  simp only [go_sem, Rg.v, p44]
  refine cD e5b ?_
  simp only [go_sem, u1, u2]
  generalize some (Row.cells false 1 [.int .i64 (btw w 1 20), .int .i64 (btw (dstep w) 1 2000), .int .i64 (btw (dstep (dstep w)) 1 1000000)]) = Y2
  generalize some (Row.cells false 1 [.int .i64 (btw (dstep (dstep (dstep (dstep w)))) 1 300), .int .i64 2000]) = Y3
  generalize some (Row.cells false 1 [.int .i64 1000, .int .i64 100000, .int .i64 1000000]) = Y5
  have e0 : [AVal.agg [.int .i64 0, .int .i64 b.conv.lo, .int .i64 b.conv.hi, .int .i64 b.red.lo, .int .i64 b.red.hi, .int .i64 b.evap.lo, .int .i64 b.evap.hi, .int .i64 b.sint.lo, .int .i64 b.sint.hi]] = List.map Bd.v [b] := by rw [← hbfb]; rfl
  rw [e0]
  refine loop_ind k_kit_CoatOf_r9.eq_1 (fun a : Int × Int × Int × List Bd × Heap => 0 ≤ a.1 ∧ a.2.2.2.1.length + a.1 ≤ 4 ∧ 0 ≤ a.2.1 ∧ a.2.1 ≤ 3000 ∧ Bands a.2.2.2.1 a.2.1) (fun a => a.1.toNat)
    (fun a => (tsets 69 [(0, .ptr 0 0 0 1), (2, .ptr 1 0 0 1), (3, .ptr 4 0 0 1), (4, .int .i64 a.2.1), (5, .int .i64 a.1)],
      some (Dr a.2.2.1) :: some (.cells false 7 [.agg [.int .i64 0, .int .i64 0, .int .i64 0, .int .i64 0, .int .i64 0, .int .i64 0, .nilsl]]) :: Y2 :: Y3 ::
        some (.cells false 7 [.agg [.int .i64 am, .int .i64 sl, .int .i64 aid.lo, .int .i64 aid.hi, .int .i64 yl.lo, .int .i64 yl.hi, .sl 7 0 a.2.2.2.1.length]]) :: Y5 :: some (.cells false 9 (List.map Bd.v [b])) :: some (.cells true 9 (a.2.2.2.1.map Bd.v)) :: a.2.2.2.2))
    (cnt - 1, stb, web, [b], []) ⟨by dsimp only; omega, by simp; omega, by dsimp only; omega, by dsimp only; omega, Bands.one hbkb hbfb (show 0 < stb by omega)⟩ (by simp [go_sem]) rfl ?_
  rintro ⟨i, frm, w', bs, X⟩ ⟨hi0, hil, hf0, hf1, hbs⟩ ih
  dsimp only at hi0 hil hf0 hf1 hbs ih ⊢
  by_cases c1 : 0 < i
  · by_cases c2 : frm ≤ 2000
    · obtain ⟨z, mz, stz, waz, wbz, wcz, wdz, wez, hbkz, hbfz, hstz, hst2z, hmz, hqaz, hselz, e1z, e2z, e3z, e4z, e5z⟩ := band_run w' frm ⟨hf0, c2⟩
      have huz := upto_ok w' 3 (by decide)
      have t1z : mz.tdiv 4 = mz / 4 := Int.tdiv_eq_ediv_of_nonneg (by omega)
      have t2z : IntKind.i64.wrap (mz / 4) = mz / 4 := w64 (by omega)
      have hq1z : ¬ upto w' 3 < 0 := by omega
      have hq2z : upto w' 3 < 3 := hqaz.2
      have v1 : IntKind.i64.wrap (i - 1) = i - 1 := w64 (by omega)
      have v2 : IntKind.i64.wrap (frm + stz) = frm + stz := w64 (by omega)
      have q44 : (bs.length + 1) * 72 ≤ 2 ^ 44 := by omega
      have e1 : ∀ xs : List Bd, List.map Bd.v xs ++ [AVal.agg [.int .i64 frm, .int .i64 z.conv.lo, .int .i64 z.conv.hi, .int .i64 z.red.lo, .int .i64 z.red.hi, .int .i64 z.evap.lo, .int .i64 z.evap.hi, .int .i64 z.sint.lo, .int .i64 z.sint.hi]] = List.map Bd.v (xs ++ [z]) := fun xs => by rw [← hbfz]; exact bd_snoc xs z
      simp only [go_sem, c1, c2]
      refine cD huz ?_
      simp only [go_sem, hq1z, hq2z, hselz]
      refine dD e1z ?_
      simp only [go_sem]
      refine dD e2z ?_
      simp only [go_sem, t1z, t2z]
      refine dD e3z ?_
      simp only [go_sem]
      refine dD e4z ?_
      simp only [go_sem, Rg.v, q44]
      refine ⟨by simp <;> omega, ?_⟩
      refine cD e5z ?_
      simp only [go_sem, v1, v2, e1]
      rw [show bs.length + 1 = (bs ++ [z]).length by simp]
      exact ih (i - 1, frm + stz, wez, bs ++ [z], _) (by dsimp only; omega) ⟨by dsimp only; omega, by simp; omega, by dsimp only; omega, by dsimp only; omega, hbs.snoc hbkz hbfz (show frm < frm + stz by omega)⟩ _ (by simp [go_sem])
    · simp only [go_sem, c1, c2]
      refine ⟨(⟨am, sl, aid, yl, bs⟩, w'), ⟨⟨?_, ?_⟩, ⟨?_, ?_⟩, haid.up (by decide), hyl, ⟨hbs.len, ?_⟩, hbs.first, hbs.asc, hbs.all⟩, kept_two 7 (by decide) ?_ (by simp only [go_sem]) (by simp only [go_sem]) ?_ ?_⟩
      all_goals first | (dsimp only; omega) | rfl
  · simp only [go_sem, c1]
    refine ⟨(⟨am, sl, aid, yl, bs⟩, w'), ⟨⟨?_, ?_⟩, ⟨?_, ?_⟩, haid.up (by decide), hyl, ⟨hbs.len, ?_⟩, hbs.first, hbs.asc, hbs.all⟩, kept_two 7 (by decide) ?_ (by simp only [go_sem]) (by simp only [go_sem]) ?_ ?_⟩
    all_goals first | (dsimp only; omega) | rfl
end Go.Proofs
namespace Go.Proofs
open Go Go.Sx

@[go_sem] theorem ht_bel (x : Ht) (S : Nat → Prop) : Bel S x.v = True := by unfold Ht.v Ht.cs; simp only [go_sem]
theorem ht_snoc (xs : List Ht) (y : Ht) : List.map Ht.v xs ++ [.agg [.int .i64 y.ticks, .int .i64 y.heat, .int .i64 y.cur]] = List.map Ht.v (xs ++ [y]) := by
  rw [List.map_append]; rfl

theorem heating_run (w ticks : Int) (ht : 1 ≤ ticks ∧ ticks ≤ 2000) : ∃ (h : Ht), HtOK h ∧ h.ticks ≤ ticks ∧ h.ticks = btw w 1 ticks ∧
    [AVal.int .i64 (btw (dstep w) 0 800), .int .i64 (btw (dstep (dstep w)) 600 2000), .int .i64 300][(upto (dstep (dstep (dstep w))) 3).toNat]? = some (.int .i64 h.heat) ∧ 0 ≤ upto (dstep (dstep (dstep w))) 3 ∧ upto (dstep (dstep (dstep w))) 3 < 3 ∧
    [AVal.int .i64 0, .int .i64 (upto (dstep (dstep (dstep (dstep w)))) 50), .int .i64 (upto (dstep (dstep (dstep (dstep (dstep w))))) 1001)][(upto (dstep (dstep (dstep (dstep (dstep (dstep w)))))) 3).toNat]? = some (.int .i64 h.cur) ∧ 0 ≤ upto (dstep (dstep (dstep (dstep (dstep (dstep w)))))) 3 ∧ upto (dstep (dstep (dstep (dstep (dstep (dstep w)))))) 3 < 3 := by
  have a1 := btw_in (w := w) (lo := 1) (hi := ticks) ht.1
  have a2 := btw_in (w := (dstep w)) (lo := 0) (hi := 800) (by decide)
  have a3 := btw_in (w := (dstep (dstep w))) (lo := 600) (hi := 2000) (by decide)
  have q1 := upto_in (w := (dstep (dstep (dstep w)))) (n := 3) (by decide)
  have a4 := upto_in (w := (dstep (dstep (dstep (dstep w))))) (n := 50) (by decide)
  have a5 := upto_in (w := (dstep (dstep (dstep (dstep (dstep w)))))) (n := 1001) (by decide)
  have q2 := upto_in (w := (dstep (dstep (dstep (dstep (dstep (dstep w))))))) (n := 3) (by decide)
  obtain ⟨v1, hv1, s1⟩ := sel3 _ (btw (dstep w) 0 800) (btw (dstep (dstep w)) 600 2000) 300 q1
  obtain ⟨v2, hv2, s2⟩ := sel3 _ 0 (upto (dstep (dstep (dstep (dstep w)))) 50) (upto (dstep (dstep (dstep (dstep (dstep w))))) 1001) q2
  exact ⟨⟨btw w 1 ticks, v1, v2⟩, ⟨by dsimp only; omega, by dsimp only; omega, by dsimp only; omega⟩, a1.2, rfl, s1, q1.1, q1.2, s2, q2.1, q2.2⟩

set_option maxHeartbeats 2000000 in
theorem scheduleOf_run (w most ticks : Int) (hm : 0 ≤ most ∧ most ≤ 40) (ht : 1 ≤ ticks ∧ ticks ≤ 2000) :
    AnsE Try.prog n_kit_ScheduleOf [.ptr 0 0 0 1, .int .i64 most, .int .i64 ticks] [some (Dr w)] (fun a : List Ht × Int => Sch a.1 most ticks) (fun a => slv 1 (a.1.map Ht.v)) (fun a => some (Dr a.2) :: slr 3 (a.1.map Ht.v)) := by
  have hu := upto_ok w (most + 1) (by omega)
  have hq := upto_in (w := w) (n := most + 1) (by omega)
  have u0 : IntKind.i64.wrap (most + 1) = most + 1 := w64 (by omega)
  generalize upto w (most + 1) = n at *
  refine AnsE.keep (run_fn e_kit_ScheduleOf fun G => ?_) (fun a ha => ⟨by simp, ?_, by simp only [go_sem], ?_⟩)
  rotate_left
  · unfold slv slr slrG
    split
    · exact .nilsl
    · rw [bel_sl]; simp
  · unfold slr slrG
    split
    · trivial
    · exact ⟨by rw [row_bel_cells]; simp only [go_sem], trivial⟩
  obtain ⟨z, zok, zt, ze, zs1, zq1, zn2, zs2, zq3, zn4⟩ := heating_run (dstep w) ticks ht
  have zn1 : ¬ upto (dstep (dstep (dstep (dstep w)))) 3 < 0 := by omega
  have zn3 : ¬ upto (dstep (dstep (dstep (dstep (dstep (dstep (dstep w))))))) 3 < 0 := by omega
  have p44 : 24 ≤ 2 ^ 44 := by decide
  have u1 : IntKind.i64.wrap (n - 1) = n - 1 := w64 (by omega)
  by_cases hn : 0 < n
  · simp only [go_sem, u0]
    refine cD hu ?_
    simp only [go_sem]
    refine loop_body 200 k_kit_ScheduleOf_r6.eq_1 ?_
    simp only [go_sem, hn]
    refine dD (between_ok _ 1 ticks (by decide) ht.1 (by omega)) ?_
    simp only [go_sem]
    refine dD (between_ok _ 0 800 (by decide) (by decide) (by decide)) ?_
    simp only [go_sem]
    refine dD (between_ok _ 600 2000 (by decide) (by decide) (by decide)) ?_
    simp only [go_sem]
    refine dD (upto_ok _ 3 (by decide)) ?_
    simp only [go_sem, zn1, zn2, zs1]
    refine dD (upto_ok _ 50 (by decide)) ?_
    simp only [go_sem]
    refine dD (upto_ok _ 1001 (by decide)) ?_
    simp only [go_sem]
    refine dD (upto_ok _ 3 (by decide)) ?_
    simp only [go_sem, zn3, zn4, zs2, p44]
    simp only [u1]
    generalize some (Row.cells false 1 [.int .i64 (btw (dstep (dstep w)) 0 800), .int .i64 (btw (dstep (dstep (dstep w))) 600 2000), .int .i64 300]) = Y1
    generalize some (Row.cells false 1 [.int .i64 0, .int .i64 (upto (dstep (dstep (dstep (dstep (dstep w))))) 50), .int .i64 (upto (dstep (dstep (dstep (dstep (dstep (dstep w)))))) 1001)]) = Y2
    have e0 : [AVal.agg [.int .i64 (btw (dstep w) 1 ticks), .int .i64 z.heat, .int .i64 z.cur]] = List.map Ht.v [z] := by rw [← ze]; rfl
    rw [e0]
    refine loop_ind k_kit_ScheduleOf_r6.eq_1 (fun a : Int × Int × List Ht × Heap => 0 ≤ a.1 ∧ a.2.2.1.length + a.1 ≤ most ∧ 1 ≤ a.2.2.1.length ∧ Sch a.2.2.1 most ticks) (fun a => a.1.toNat)
      (fun a => (tsets 43 [(0, .ptr 0 0 0 1), (1, .int .i64 most), (2, .int .i64 ticks), (6, .nilsl), (7, .sl 4 0 a.2.2.1.length), (8, .int .i64 a.1)],
        some (Dr a.2.1) :: Y1 :: Y2 :: some (.cells false 3 (List.map Ht.v [z])) :: some (.cells true 3 (a.2.2.1.map Ht.v)) :: a.2.2.2))
      (n - 1, _, [z], []) ⟨by dsimp only; omega, by simp; omega, by simp, ⟨by simp; omega, fun x hx => by simp at hx; subst hx; exact ⟨zok, zt⟩⟩⟩ (by simp [go_sem]) rfl ?_
    rintro ⟨i, w', l, X⟩ ⟨hi0, hil, hl1, hl⟩ ih
    dsimp only at hi0 hil hl1 hl ih ⊢
    by_cases c1 : 0 < i
    · obtain ⟨y, yok, yt, ye, ys1, yq1, yn2, ys2, yq3, yn4⟩ := heating_run w' ticks ht
      have yn1 : ¬ upto (dstep (dstep (dstep w'))) 3 < 0 := by omega
      have yn3 : ¬ upto (dstep (dstep (dstep (dstep (dstep (dstep w')))))) 3 < 0 := by omega
      have v1 : IntKind.i64.wrap (i - 1) = i - 1 := w64 (by omega)
      have q44 : (l.length + 1) * 24 ≤ 2 ^ 44 := by omega
      have e1 : ∀ xs : List Ht, List.map Ht.v xs ++ [AVal.agg [.int .i64 (btw w' 1 ticks), .int .i64 y.heat, .int .i64 y.cur]] = List.map Ht.v (xs ++ [y]) := fun xs => by rw [← ye]; exact ht_snoc xs y
      simp only [go_sem, c1]
      refine dD (between_ok _ 1 ticks (by decide) ht.1 (by omega)) ?_
      simp only [go_sem]
      repeat refine ⟨by first | omega | (simp; done) | (simp; omega), ?_⟩
      refine dD (between_ok _ 0 800 (by decide) (by decide) (by decide)) ?_
      simp only [go_sem]
      repeat refine ⟨by first | omega | (simp; done) | (simp; omega), ?_⟩
      refine dD (between_ok _ 600 2000 (by decide) (by decide) (by decide)) ?_
      simp only [go_sem]
      repeat refine ⟨by first | omega | (simp; done) | (simp; omega), ?_⟩
      refine dD (upto_ok _ 3 (by decide)) ?_
      simp only [go_sem, yn1, yn2, ys1]
      repeat refine ⟨by first | omega | (simp; done) | (simp; omega), ?_⟩
      refine dD (upto_ok _ 50 (by decide)) ?_
      simp only [go_sem]
      repeat refine ⟨by first | omega | (simp; done) | (simp; omega), ?_⟩
      refine dD (upto_ok _ 1001 (by decide)) ?_
      simp only [go_sem]
      repeat refine ⟨by first | omega | (simp; done) | (simp; omega), ?_⟩
      refine dD (upto_ok _ 3 (by decide)) ?_
      simp only [go_sem, yn3, yn4, ys2, q44]
      repeat refine ⟨by first | omega | (simp; done) | (simp; omega), ?_⟩
      simp only [e1, v1]
      rw [show l.length + 1 = (l ++ [y]).length by simp]
      exact ih (i - 1, _, l ++ [y], _) (by dsimp only; omega) ⟨by dsimp only; omega, by simp; omega, by simp, hl.snoc ⟨yok, yt⟩ (by omega)⟩ _ (by simp [go_sem])
    · simp only [go_sem, c1]
      refine ⟨(l, w'), hl, ?_⟩
      have hne : List.map Ht.v l ≠ [] := fun h => by
        have : l.length = 0 := by simpa using congrArg List.length h
        omega
      simp only [slv, slr, slrG, hne, if_false]
      exact kept_two 4 (by decide) (by simp [ren]) (by simp only [go_sem]) (by rw [row_bel_cells]; simp only [go_sem]) rfl rfl
  · simp only [go_sem, u0]
    refine cD hu ?_
    simp only [go_sem]
    refine loop_body 200 k_kit_ScheduleOf_r6.eq_1 ?_
    simp only [go_sem, hn]
    exact ⟨([], dstep w), ⟨by simp; omega, fun x hx => by simp at hx⟩, fun i => i, ⟨fun i hi => rfl, fun i j _ _ h => h, rfl, fun i x hx => by
      match i, hx with
      | 0, hx => simp [slr, slrG] at hx; subst hx; rfl
      | i + 1, hx => simp [slr, slrG] at hx⟩⟩
/-- The same; the schedule's row stands still. -/
theorem scheduleOf_set (w most ticks : Int) (hm : 0 ≤ most ∧ most ≤ 40) (ht : 1 ≤ ticks ∧ ticks ≤ 2000) :
    AnsE Try.prog n_kit_ScheduleOf [.ptr 0 0 0 1, .int .i64 most, .int .i64 ticks] [some (Dr w)] (fun a : List Ht × Int => Sch a.1 most ticks) (fun a => slv 1 (a.1.map Ht.v)) (fun a => some (Dr a.2) :: slrG false 3 (a.1.map Ht.v)) := by
  have e : ∀ a : List Ht × Int, settleFrom 1 (some (Dr a.2) :: slr 3 (a.1.map Ht.v)) = some (Dr a.2) :: slrG false 3 (a.1.map Ht.v) := fun a => by
    unfold slr slrG
    split <;> rfl
  have h := (scheduleOf_run w most ticks hm ht).settle (fun a ha => ⟨by simp, ?_, by simp only [go_sem], ?_⟩) (fun a ha => ⟨?_, fun i x hx => ?_⟩)
  · intro G
    have := h G
    simp only [List.length_singleton, e] at this
    exact this
  · unfold slv slr slrG
    split
    · exact .nilsl
    · rw [bel_sl]; simp
  · unfold slr slrG
    split
    · trivial
    · exact ⟨by rw [row_bel_cells]; simp only [go_sem], trivial⟩
  · unfold slv slr slrG
    by_cases h0 : List.map Ht.v a.1 = []
    · simp only [h0, if_true]; exact .nilsl
    · simp only [h0, if_false]; exact .sl _ _ _ (by simp [lenIn, rowLen])
  · match i, hx with
    | 0, hx =>
      simp only [List.getElem?_cons_zero, Option.some.injEq] at hx
      subst hx
      show Fuls _ [AVal.agg [.int .u64 a.2]]
      exact ⟨by rw [ful_agg]; exact ⟨.int _ _, trivial⟩, trivial⟩
    | 1, hx =>
      unfold slr slrG at hx
      split at hx
      · simp at hx
      · simp only [List.getElem?_cons_succ, List.getElem?_cons_zero, Option.some.injEq] at hx
        subst hx
        exact fuls_map _ _ fun x => by unfold Ht.v; rw [ful_agg]; exact ⟨.int _ _, .int _ _, .int _ _, trivial⟩
    | i + 2, hx =>
      unfold slr slrG at hx
      split at hx <;> simp at hx
end Go.Proofs
namespace Go.Proofs
open Go Go.Sx
def yes : Option (AVal × Heap) → Bool
  | some (.bool b, _) => b
  | _ => false
theorem yes_ans {P : Program} (hm : P.follows .mixedOrders = true) {tab : Nat → Option AFun} (hT : ∀ g af, tab g = some af → EntryOK P g af) {m n g : Nat} (h : yes (exFn tab m n g [] []) = true) : Ans P g [] [] (.bool true) [] := by
  match hx : exFn tab m n g [] [] with
  | none => rw [hx] at h; cases h
  | some (v, H') =>
    rw [hx] at h
    cases v <;> try (cases h; done)
    rename_i b
    have hb : b = true := h
    subst hb
    exact (spec_ex hm hT hx).mono fun v H'' hv => ⟨hv.1, H'', rfl⟩
theorem awake_yes : yes (exFn tab 3000 40 n_law03_awake [] []) = true := by kernel_rfl
theorem awake_ok : Ans Try.prog n_law03_awake [] [] (.bool true) [] := yes_ans mixed tab_ok awake_yes
end Go.Proofs
namespace Go.Proofs
open Go Go.Sx

@[go_sem] theorem ct_bel (x : Ct) (t : AVal) (S : Nat → Prop) : Bel S (x.v t) = Bel S t := by unfold Ct.v Ct.cs; simp only [go_sem]
theorem hts_frz (l : List Ht) (d : Nat) (H : Heap) : (l.map Ht.v).map (frz (d + 2) H) = l.map Ht.v := by rw [List.map_map]; rfl
/-- A coat whose bands lie in a row, as it is seen by one who only reads. -/
theorem ct_frz {c : Ct} {H : Heap} {j : Nat} (h : H[j]? = some (some (BdR c.bands))) : frz 6 H (c.v (.sl j 0 c.bands.length)) = c.v (.view (c.bands.map Bd.v)) := by
  have h1 : frz 5 H (.sl j 0 c.bands.length) = .view (c.bands.map Bd.v) := by
    rw [frz_sl (d := 4) h (by simp), bds_frz]
  show AVal.agg [_, _, _, _, _, _, frz 5 H (.sl j 0 c.bands.length)] = _
  rw [h1]; rfl

/-- A schedule in a row, as it is seen by one who only reads. -/
theorem sch_frz {l : List Ht} {H : Heap} {j n : Nat} {gr : Bool} (h : H[j]? = some (some (.cells gr 3 (l.map Ht.v)))) (hn : n = l.length) : frz 6 H (.sl j 0 n) = .view (l.map Ht.v) := by
  rw [frz_sl (d := 5) h (by simpa using hn), hts_frz]
@[go_sem] theorem cgr_nv (xs : List Cg) : (CgR xs).nv = True := eq_true (row_nv_cells _ _ (nvs_map _ _ fun x => by simp only [go_sem]))
theorem ht_cells (l : List Ht) : ∀ e ∈ l.map Ht.v, (acells e).length = 3 := fun e he => by
  obtain ⟨h, _, rfl⟩ := List.mem_map.1 he; rfl
theorem hts_sized (l : List Ht) : sizedAll 3 (l.map Ht.v) = true := by
  unfold sizedAll
  rw [List.all_eq_true]
  intro e he
  obtain ⟨h, _, rfl⟩ := List.mem_map.1 he; rfl
theorem sized_sub {n : Nat} {l l' : List AVal} (h : sizedAll n l = true) (hs : ∀ v ∈ l', v ∈ l) : sizedAll n l' = true := by
  unfold sizedAll at h ⊢
  rw [List.all_eq_true] at h ⊢
  exact fun v hv => h v (hs v hv)
@[go_sem high] theorem sized_t (l : List Ht) (m : Nat) : sizedAll 3 (List.take m (List.map Ht.v l)) = true := sized_sub (hts_sized l) fun v hv => List.mem_of_mem_take hv
@[go_sem high] theorem sized_d (l : List Ht) (m : Nat) : sizedAll 3 (List.drop m (List.map Ht.v l)) = true := sized_sub (hts_sized l) fun v hv => List.mem_of_mem_drop hv
@[go_sem high] theorem sized_td (l : List Ht) (m k : Nat) : sizedAll 3 (List.take m (List.drop k (List.map Ht.v l))) = true := sized_sub (hts_sized l) fun v hv => List.mem_of_mem_drop (List.mem_of_mem_take hv)
end Go.Proofs
namespace Go.Proofs
open Go Go.Sx

@[go_sem] theorem nat_beq_s0 (n : Nat) : (n + 1 == 0) = false := by simp
@[go_sem] theorem nat_beq_0s (n : Nat) : (0 == n + 1) = false := by simp
@[go_sem] theorem nat_beq_ss (a b : Nat) : (a + 1 == b + 1) = (a == b) := by simp
@[go_sem] theorem ct_nv (x : Ct) (t : AVal) : NV (x.v t) = NV t := by unfold Ct.v Ct.cs; simp only [go_sem]
@[go_sem] theorem bdr_nv (bs : List Bd) : (BdR bs).nv = True := eq_true (row_nv_cells _ _ (nvs_map _ _ fun x => by simp only [go_sem]))
theorem bd_set (bs : List Bd) (i : Nat) (y : Bd) : (List.map Bd.v bs).set i (.agg [.int .i64 y.frm, .int .i64 y.conv.lo, .int .i64 y.conv.hi, .int .i64 y.red.lo, .int .i64 y.red.hi, .int .i64 y.evap.lo, .int .i64 y.evap.hi, .int .i64 y.sint.lo, .int .i64 y.sint.hi]) = List.map Bd.v (bs.set i y) := by
  rw [List.map_set]; rfl
theorem ct_frz2 {c : Ct} {H : Heap} {j n : Nat} (h : H[j]? = some (some (BdR c.bands))) (hn : n = c.bands.length) : frz 6 H (c.v (.sl j 0 n)) = c.v (.view (c.bands.map Bd.v)) := by
  subst hn; exact ct_frz h
theorem range_run (w lo hi : Int) (h1 : -1152921504606846976 ≤ lo) (h2 : lo ≤ hi) (h3 : hi ≤ 1152921504606846976) : Ans Try.prog n_kit_Dice_Range [.ptr 0 0 0 1, .int .i64 lo, .int .i64 hi] [some (Dr w)] (rngR w lo hi).v [some (Dr (dstep (dstep w)))] := by
  refine spec_run e_kit_Dice_Range fun G => ?_
  simp only [go_sem]
  refine cD (between_ok w lo hi h1 h2 h3) ?_
  simp only [go_sem]
  refine cD (between_ok (dstep w) lo hi h1 h2 h3) ?_
  simp only [go_sem]
  exact ⟨rfl, _, rfl⟩

theorem bds_sized (l : List Bd) : sizedAll 9 (l.map Bd.v) = true := by
  unfold sizedAll
  rw [List.all_eq_true]
  intro e he
  obtain ⟨h, _, rfl⟩ := List.mem_map.1 he; rfl

theorem Copy_run (c : Ct) (hc : CtOK c) : Ans Try.prog n_ref03_Copy [c.v (.view (c.bands.map Bd.v))] [] (c.v (.sl 0 0 c.bands.length)) [some (BdR c.bands)] := by
  have hl := hc.len
  have d1 : c.bands.length * 72 ≤ 2 ^ 44 := by omega
  have d2 := bds_sized c.bands
  refine Ans.keep (run_fn e_ref03_Copy fun G => ?_) (Nat.zero_le _) (by simp [go_sem, Ct.v, Ct.cs]) ⟨by simp only [go_sem], trivial⟩
  simp only [go_sem, Ct.v, Ct.cs, d1, d2]
  exact kept_one 2 rfl (by simp only [go_sem]) rfl

theorem within3_run (a b : Rg) (h : RgSub a b) : Ans Try.prog n_kit_Within [a.v, b.v] [] (.bool true) [] := by
  refine spec_run e_kit_Within fun G => ?_
  simp only [go_sem, Rg.v, h.lo, h.hi]

theorem Emission_run (c : Ct) (hc : CtOK c) (x : Cg) (hx : CgOK c x) : Ans Try.prog n_cathode_Emission [c.v (.view (c.bands.map Bd.v)), x.v] [] (.tup [(parts x.ba c.yld).v, .int .i64 0]) [] := by
  refine spec_run e_cathode_Emission fun G => ?_
  simp only [go_sem, Ct.v, Ct.cs, Cg.v, Cg.cs]
  refine cP (CheckCoating_run c hc x hx) ?_
  simp only [go_sem]
  refine cP (parts_ok _ _ (hx.ba.b hc.amount.2) (hc.yld.b (by decide))) ?_
  simp only [go_sem, Rg.v]

theorem Follow_nil (c : Ct) (hc : CtOK c) : Ans Try.prog n_cathode_Follow [c.v (.view (c.bands.map Bd.v)), .view []] [] (.tup [.nilsl, .int .i64 0]) [] := by
  have hl : LsOK [] := ⟨by simp, fun h hh => by simp at hh, by simp [lenOfL]⟩
  have hcs : Ans Try.prog n_cathode_CheckSchedule [.view []] [] (.int .i64 0) [] := CheckSchedule_run [] hl
  refine spec_run e_cathode_Follow fun G => ?_
  simp only [go_sem, Ct.v, Ct.cs]
  refine cP (Check_run c hc) ?_
  simp only [go_sem]
  refine cP hcs ?_
  simp only [go_sem]
  refine cP (fresh_run c) ?_
  simp only [go_sem, Cg.v, Cg.cs]
  refine loop_body 200 k_cathode_Follow_r19.eq_1 ?_
  simp only [go_sem]
end Go.Proofs
namespace Go.Proofs
open Go Go.Sx

structure Mx where
  carb : Int
  ox : Int
  ba : Int
  lost : Int
  deriving Inhabited, DecidableEq
def Mx.cs (m : Mx) : List AVal := [.int .i64 m.carb, .int .i64 m.ox, .int .i64 m.ba, .int .i64 m.lost]
def Mx.v (m : Mx) : AVal := .agg m.cs
@[go_sem] theorem mx_bel (x : Mx) (S : Nat → Prop) : Bel S x.v = True := by unfold Mx.v Mx.cs; simp only [go_sem]
@[go_sem] theorem mx_nv (x : Mx) : NV x.v = True := by unfold Mx.v Mx.cs; simp only [go_sem]
@[go_sem] theorem mxs_bel (l : List Mx) (S : Nat → Prop) : Bels S (l.map Mx.v) = True := eq_true (bels_map _ _ fun b => by simp only [go_sem])

/-- The ticks of a schedule, one by one. -/
def flat : List Ht → List Ht
  | [] => []
  | h :: l => List.replicate h.ticks.toNat h ++ flat l
theorem flat_app : ∀ a b : List Ht, flat (a ++ b) = flat a ++ flat b
  | [], b => rfl
  | h :: a, b => by simp [flat, flat_app a b]
theorem flat_succ {l : List Ht} {i : Nat} {h : Ht} (hi : l[i]? = some h) : flat (l.take (i + 1)) = flat (l.take i) ++ List.replicate h.ticks.toNat h := by
  rw [List.take_add_one, hi, flat_app]; simp [flat]
theorem flat_len : ∀ {l : List Ht}, (∀ x ∈ l, HtOK x) → ((flat l).length : Int) = lenOfL l
  | [], _ => rfl
  | h :: l, hl => by
    have h1 := (hl h (by simp)).ticks
    have h2 := flat_len (l := l) fun x hx => hl x (by simp [hx])
    simp only [flat, lenOfL, List.length_append, List.length_replicate]; omega
theorem flat_mem : ∀ {l : List Ht} {z : Ht}, z ∈ flat l → z ∈ l
  | [], _, h => by simp [flat] at h
  | h :: l, z, hz => by
    simp only [flat, List.mem_append, List.mem_replicate] at hz
    rcases hz with ⟨_, rfl⟩ | hz
    · simp
    · simp [flat_mem hz]
/-- A tick within a schedule. -/
theorem flat_at {l : List Ht} {i t : Nat} {h : Ht} (hi : l[i]? = some h) (ht : t < h.ticks.toNat) : (flat l)[(flat (l.take i)).length + t]? = some h ∧ (flat l).take ((flat (l.take i)).length + t) = flat (l.take i) ++ List.replicate t h := by
  have e : l = l.take i ++ h :: l.drop (i + 1) := by
    obtain ⟨h1, h2⟩ := List.getElem?_eq_some_iff.1 hi
    conv => lhs; rw [← List.take_append_drop i l, List.drop_eq_getElem_cons h1, h2]
  have e2 : flat l = flat (l.take i) ++ (List.replicate h.ticks.toNat h ++ flat (l.drop (i + 1))) := by
    conv => lhs; rw [e]
    rw [flat_app]; rfl
  constructor
  · rw [e2, List.getElem?_append_right (by omega), Nat.add_sub_cancel_left, List.getElem?_append_left (by simpa using ht)]
    simp [ht]
  · rw [e2, List.take_length_add_append, List.take_append_of_le_length (by simpa using Nat.le_of_lt ht), List.take_replicate, Nat.min_eq_left (Nat.le_of_lt ht)]

def heatOf (c : Ct) (a : List Ht) : Int := a.foldl (fun h z => moved h z.heat c.slew) 300
theorem heatOf_snoc (c : Ct) (a : List Ht) (z : Ht) : heatOf c (a ++ [z]) = moved (heatOf c a) z.heat c.slew := by simp [heatOf]
def coatOf (c : Ct) (a : List Ht) : Cg := a.foldl (fun x z => after c x z.heat z.cur) (fresh c)
theorem coatOf_snoc (c : Ct) (a : List Ht) (z : Ht) : coatOf c (a ++ [z]) = after c (coatOf c a) z.heat z.cur := by simp [coatOf]
theorem heatOf_in {c : Ct} (hc : CtOK c) {a : List Ht} (ha : ∀ z ∈ a, HtOK z) : 0 ≤ heatOf c a ∧ heatOf c a ≤ 2000 := by
  unfold heatOf
  suffices h : ∀ (a : List Ht) (h0 : Int), (0 ≤ h0 ∧ h0 ≤ 2000) → (∀ z ∈ a, HtOK z) → 0 ≤ a.foldl (fun h z => moved h z.heat c.slew) h0 ∧ a.foldl (fun h z => moved h z.heat c.slew) h0 ≤ 2000 from h a 300 (by decide) ha
  intro a
  induction a with
  | nil => intro h0 h _; exact h
  | cons z a ih =>
    intro h0 h ha
    exact ih _ (moved_in h (ha z (by simp)).heat hc.slew.1) fun y hy => ha y (by simp [hy])
theorem coatOf_heat (c : Ct) (a : List Ht) : (coatOf c a).heat = heatOf c a := by
  suffices h : ∀ b : List Ht, (coatOf c b.reverse).heat = heatOf c b.reverse by simpa using h a.reverse
  intro b
  induction b with
  | nil => rfl
  | cons z b ih =>
    rw [List.reverse_cons, coatOf_snoc, heatOf_snoc, ← ih]; rfl

/-- What a mix may become in a tick. -/
structure Fol (a b : Mx) (x : Bd) : Prop where
  conv : dn a.carb x.conv.lo ≤ a.carb - b.carb ∧ a.carb - b.carb ≤ up a.carb x.conv.hi
  red : dn a.ox x.red.lo ≤ a.ox + (a.carb - b.carb) - b.ox ∧ a.ox + (a.carb - b.carb) - b.ox ≤ up a.ox x.red.hi
  evap : dn a.ba x.evap.lo ≤ a.ba + (a.ox + (a.carb - b.carb) - b.ox) - b.ba ∧ a.ba + (a.ox + (a.carb - b.carb) - b.ox) - b.ba ≤ up a.ba x.evap.hi
  lost : b.lost = a.lost + (a.ba + (a.ox + (a.carb - b.carb) - b.ox) - b.ba)
structure MxOK (c : Ct) (m : Mx) : Prop where
  carb : 0 ≤ m.carb
  ox : 0 ≤ m.ox
  ba : 0 ≤ m.ba
  lost : 0 ≤ m.lost
  sum : m.carb + m.ox + m.ba + m.lost = c.amount
def start (c : Ct) : Mx := ⟨c.amount, 0, 0, 0⟩
structure Holds (x : Cg) (m : Mx) : Prop where
  carb : x.carb.lo ≤ m.carb ∧ m.carb ≤ x.carb.hi
  ox : x.ox.lo ≤ m.ox ∧ m.ox ≤ x.ox.hi
  ba : x.ba.lo ≤ m.ba ∧ m.ba ≤ x.ba.hi
  lost : x.lost.lo ≤ m.lost ∧ m.lost ≤ x.lost.hi

theorem Fol.ok {c : Ct} {a b : Mx} {x : Bd} (hx : BdOK x) (ha : MxOK c a) (h : Fol a b x) : MxOK c b := by
  obtain ⟨a1, a2, a3, a4, a5⟩ := ha
  obtain ⟨f1, f2, f3, f4⟩ := h
  have b1 := hx.conv.all; have b2 := hx.red.all; have b3 := hx.evap.all
  have c1 := dn_in a1 b1.1 (by omega); have c2 := up_in (r := x.conv.hi) a1 (by omega) (by omega)
  have d1 := dn_in a2 b2.1 (by omega); have d2 := up_in (r := x.red.hi) a2 (by omega) (by omega)
  have e1 := dn_in a3 b3.1 (by omega); have e2 := up_in (r := x.evap.hi) a3 (by omega) (by omega)
  exact ⟨by omega, by omega, by omega, by omega, by omega⟩

theorem cut_hi {r : Rg} {m n : Int} (h : n ≤ r.hi) (h' : n ≤ m) : n ≤ (cut r m).hi := by
  show n ≤ mi r.hi m
  unfold mi; split <;> omega

/-- A tick: what is true stays within the bounds. -/
theorem Fol.holds {c : Ct} {x : Cg} {a b : Mx} {z : Bd} {h : Int} (hz : BdOK z) (hx : CgOK c x) (ha : MxOK c a) (hh : Holds x a) (f : Fol a b z) :
    Holds (afterB c.amount z x h) b ∧ (afterB c.amount z x h).gas.lo ≤ a.carb - b.carb ∧ a.carb - b.carb ≤ (afterB c.amount z x h).gas.hi := by
  have hb := f.ok hz ha
  obtain ⟨a1, a2, a3, a4, a5⟩ := ha
  obtain ⟨q1, q2, q3, q4, q5⟩ := hb
  obtain ⟨f1, f2, f3, f4⟩ := f
  obtain ⟨h1, h2, h3, h4⟩ := hh
  have x1 := hx.carb.all; have x2 := hx.ox.all; have x3 := hx.ba.all; have x4 := hx.lost.all
  have b1 := hz.conv.all; have b2 := hz.red.all; have b3 := hz.evap.all
  -- the parts that are given away
  have p1 : dn x.carb.lo z.conv.lo ≤ dn a.carb z.conv.lo := dn_mono x1.1 h1.1 b1.1 (Int.le_refl _)
  have p2 : up a.carb z.conv.hi ≤ up x.carb.hi z.conv.hi := up_mono a1 h1.2 (by omega) (Int.le_refl _)
  have p3 : dn x.ox.lo z.red.lo ≤ dn a.ox z.red.lo := dn_mono x2.1 h2.1 b2.1 (Int.le_refl _)
  have p4 : up a.ox z.red.hi ≤ up x.ox.hi z.red.hi := up_mono a2 h2.2 (by omega) (Int.le_refl _)
  have p5 : dn x.ba.lo z.evap.lo ≤ dn a.ba z.evap.lo := dn_mono x3.1 h3.1 b3.1 (Int.le_refl _)
  have p6 : up a.ba z.evap.hi ≤ up x.ba.hi z.evap.hi := up_mono a3 h3.2 (by omega) (Int.le_refl _)
  have k1 := keepUp_mono (r := z.conv.hi) x1.1 h1.1 (by omega) (by omega)
  have k2 := keepDn_mono (r := z.conv.lo) a1 h1.2 (by omega) (by omega)
  have k3 := keepUp_mono (r := z.red.hi) x2.1 h2.1 (by omega) (by omega)
  have k4 := keepDn_mono (r := z.red.lo) a2 h2.2 (by omega) (by omega)
  have k5 := keepUp_mono (r := z.evap.hi) x3.1 h3.1 (by omega) (by omega)
  have k6 := keepDn_mono (r := z.evap.lo) a3 h3.2 (by omega) (by omega)
  have d1 := dn_in a1 b1.1 (by omega)
  have u1 := up_in (r := z.conv.hi) a1 (by omega) (by omega)
  refine ⟨⟨⟨?_, cut_hi ?_ (by omega)⟩, ⟨?_, cut_hi ?_ (by omega)⟩, ⟨?_, cut_hi ?_ (by omega)⟩, ⟨?_, cut_hi ?_ (by omega)⟩⟩, ?_, cut_hi ?_ (by omega)⟩ <;>
    simp only [afterB, cut, remains, sumR, parts] <;> omega

/-- A course: of the ticks so far, with the last mix. -/
inductive Crs (c : Ct) : List Ht → List Mx → Mx → Prop
  | nil : Crs c [] [start c] (start c)
  | snoc {a : List Ht} {w : List Mx} {m m' : Mx} {z : Ht} (h : Crs c a w m) (f : Fol m m' (ratesAt c (heatOf c (a ++ [z])) z.cur)) : Crs c (a ++ [z]) (w ++ [m']) m'

theorem Crs.len {c : Ct} {a : List Ht} {w : List Mx} {m : Mx} (h : Crs c a w m) : w.length = a.length + 1 := by
  induction h with
  | nil => rfl
  | snoc _ _ ih => simp [ih]
theorem Crs.last {c : Ct} {a : List Ht} {w : List Mx} {m : Mx} (h : Crs c a w m) : w[a.length]? = some m := by
  cases h with
  | nil => rfl
  | snoc h f => rw [List.length_append, List.length_singleton, ← h.len]; simp
theorem Crs.ok {c : Ct} (hc : CtOK c) {a : List Ht} {w : List Mx} {m : Mx} (ha : ∀ z ∈ a, HtOK z) (h : Crs c a w m) : MxOK c m := by
  induction h with
  | nil => have := hc.amount; exact ⟨by simp [start]; omega, by simp [start], by simp [start], by simp [start], by simp [start]⟩
  | snoc h f ih =>
    rename_i a w m m' z
    have hz := ha z (by simp)
    exact f.ok (ratesAt_ok hc (heatOf_in hc ha).1 hz.cur) (ih fun y hy => ha y (by simp [hy]))
/-- A part of a course. -/
theorem Crs.part {c : Ct} {a : List Ht} {w : List Mx} {m : Mx} (h : Crs c a w m) : ∀ p, p < a.length → ∃ (z : Ht) (m1 m2 : Mx), a[p]? = some z ∧ Crs c (a.take p) (w.take (p + 1)) m1 ∧ w[p]? = some m1 ∧ w[p + 1]? = some m2 ∧ Fol m1 m2 (ratesAt c (heatOf c (a.take p ++ [z])) z.cur) := by
  induction h with
  | nil => intro p hp; simp at hp
  | snoc h f ih =>
    rename_i a w m m' z
    intro p hp
    have hl := h.len
    by_cases h1 : p < a.length
    · obtain ⟨y, m1, m2, e1, e2, e3, e4, e5⟩ := ih p h1
      refine ⟨y, m1, m2, ?_, ?_, ?_, ?_, ?_⟩
      · rw [List.getElem?_append_left h1]; exact e1
      · rw [List.take_append_of_le_length (by omega), List.take_append_of_le_length (by omega)]; exact e2
      · rw [List.getElem?_append_left (by omega)]; exact e3
      · rw [List.getElem?_append_left (by omega)]; exact e4
      · rw [List.take_append_of_le_length (by omega)]; exact e5
    · have hp' : p = a.length := by simp at hp; omega
      subst hp'
      refine ⟨z, m, m', by simp, ?_, ?_, ?_, ?_⟩
      · rw [List.take_left, ← hl, List.take_left]; exact h
      · rw [List.getElem?_append_left (by omega)]; exact h.last
      · rw [← hl]; simp
      · rw [List.take_left]; exact f

theorem Crs.one {c : Ct} {a : List Ht} {w : List Mx} {m : Mx} (h : Crs c a w m) : a = [] → w = [start c] := by
  cases h with
  | nil => intro _; rfl
  | snoc h f => intro h0; simp at h0
theorem Crs.first {c : Ct} {a : List Ht} {w : List Mx} {m : Mx} (h : Crs c a w m) : w[0]? = some (start c) := by
  by_cases h0 : a = []
  · rw [h.one h0]; rfl
  · obtain ⟨z, m1, m2, _, e2, e3, _, _⟩ := h.part 0 (List.length_pos_iff.2 h0)
    have := e2.one rfl
    have e4 : w[0]? = (w.take (0 + 1))[0]? := by rw [List.getElem?_take]; simp
    rw [e4, this]; rfl

/-- After the ticks so far, the mix lies within the coating. -/
theorem coatOf_good {c : Ct} (hc : CtOK c) {a : List Ht} (ha : ∀ z ∈ a, HtOK z) (hl : a.length ≤ 1000000) : Good c (coatOf c a) a.length := by
  suffices h : ∀ b : List Ht, (∀ z ∈ b, HtOK z) → b.length ≤ 1000000 → Good c (coatOf c b.reverse) b.length by
    have := h a.reverse (fun z hz => ha z (by simpa using hz)) (by simpa using hl)
    simpa using this
  intro b
  induction b with
  | nil => intro _ _; exact fresh_good hc
  | cons z b ih =>
    intro hb hbl
    have hz := hb z (by simp)
    have := after_good hc (ih (fun y hy => hb y (by simp [hy])) (by simp at hbl; omega)) (by simp at hbl; omega) hz.heat hz.cur
    rw [List.reverse_cons, coatOf_snoc]
    simpa using this
theorem Crs.holds {c : Ct} (hc : CtOK c) {a : List Ht} {w : List Mx} {m : Mx} (ha : ∀ z ∈ a, HtOK z) (hl : a.length ≤ 1000000) (h : Crs c a w m) : Holds (coatOf c a) m := by
  induction h with
  | nil => exact ⟨by simp [coatOf, fresh, start], by simp [coatOf, fresh, start], by simp [coatOf, fresh, start], by simp [coatOf, fresh, start]⟩
  | snoc h f ih =>
    rename_i a w m m' z
    have hz := ha z (by simp)
    have ha' : ∀ y ∈ a, HtOK y := fun y hy => ha y (by simp [hy])
    have hl' : a.length ≤ 1000000 := by simp at hl; omega
    have hb := ratesAt_ok hc (heatOf_in hc ha).1 hz.cur
    rw [coatOf_snoc]
    unfold after
    rw [coatOf_heat, ← heatOf_snoc]
    exact (f.holds hb (coatOf_good hc ha' hl').ok (h.ok hc ha') (ih ha' hl')).1
/-- What became oxide in a tick. -/
theorem Crs.gas {c : Ct} (hc : CtOK c) {a : List Ht} {w : List Mx} {m m' : Mx} {z : Ht} (ha : ∀ z ∈ a, HtOK z) (hz : HtOK z) (hl : a.length ≤ 1000000) (h : Crs c a w m) (f : Fol m m' (ratesAt c (heatOf c (a ++ [z])) z.cur)) :
    (after c (coatOf c a) z.heat z.cur).gas.lo ≤ m.carb - m'.carb ∧ m.carb - m'.carb ≤ (after c (coatOf c a) z.heat z.cur).gas.hi := by
  have ha' : ∀ y ∈ a ++ [z], HtOK y := fun y hy => by
    rcases List.mem_append.1 hy with hy | hy
    · exact ha y hy
    · simp at hy; subst hy; exact hz
  have hb := ratesAt_ok hc (heatOf_in hc ha').1 hz.cur
  unfold after
  rw [coatOf_heat, ← heatOf_snoc]
  exact (f.holds hb (coatOf_good hc ha hl).ok (h.ok hc ha) (h.holds hc ha hl)).2

theorem tickN_flat (c : Ct) (z : Ht) (a : List Ht) : ∀ t : Nat, coatOf c (a ++ List.replicate t z) = tickN c z.heat z.cur t (coatOf c a)
  | 0 => by simp [tickN]
  | t + 1 => by rw [List.replicate_succ', ← List.append_assoc, coatOf_snoc, tickN_flat c z a t]; rfl
theorem endX_flat (c : Ct) (l : List Ht) : endX c (fresh c) l = coatOf c (flat l) := by
  suffices h : ∀ (l a : List Ht), endX c (coatOf c a) l = coatOf c (a ++ flat l) from h l []
  intro l
  induction l with
  | nil => intro a; simp [endX, flat]
  | cons z l ih =>
    intro a
    have e : heatN c z (coatOf c a) = coatOf c (a ++ List.replicate z.ticks.toNat z) := (tickN_flat c z a _).symm
    rw [endX, e, ih, flat, List.append_assoc]
end Go.Proofs
namespace Go.Proofs
open Go Go.Sx
attribute [local irreducible] Run

theorem rDown_run (x r : Int) (hx : 0 ≤ x ∧ x ≤ 1000000) (hr : 0 ≤ r ∧ r ≤ 1000000) : Ans Try.prog n_ref03_Down [.int .i64 x, .int .i64 r] [] (.int .i64 (dn x r)) [] := by
  have h1 := mul_rng hx.1 hx.2 hr.1 hr.2
  have h2 : IntKind.i64.wrap (x * r) = x * r := w64 (by omega)
  have h3 : (x * r).tdiv 1000000 = dn x r := Int.tdiv_eq_ediv_of_nonneg h1.1
  have h4 : IntKind.i64.wrap (dn x r) = dn x r := w64 (by have := dn_in hx.1 hr.1 hr.2; omega)
  refine spec_run e_ref03_Down fun G => ?_
  simp only [go_sem, h2, h3, h4]
theorem rUp_run (x r : Int) (hx : 0 ≤ x ∧ x ≤ 1000000) (hr : 0 ≤ r ∧ r ≤ 1000000) : Ans Try.prog n_ref03_Up [.int .i64 x, .int .i64 r] [] (.int .i64 (up x r)) [] := by
  have h1 := mul_rng hx.1 hx.2 hr.1 hr.2
  have h2 : IntKind.i64.wrap (x * r) = x * r := w64 (by omega)
  have h5 : IntKind.i64.wrap (x * r + 1000000) = x * r + 1000000 := w64 (by omega)
  have h6 : IntKind.i64.wrap (x * r + 1000000 - 1) = x * r + 999999 := by rw [w64 (by omega)]; omega
  have h3 : (x * r + 999999).tdiv 1000000 = up x r := Int.tdiv_eq_ediv_of_nonneg (by omega)
  have h4 : IntKind.i64.wrap (up x r) = up x r := w64 (by have := up_in hx.1 hr.1 hr.2; omega)
  refine spec_run e_ref03_Up fun G => ?_
  simp only [go_sem, h2, h5, h6, h3, h4]

theorem rHeat_run (c : Ct) (hc : CtOK c) (h a : Int) (hh : 0 ≤ h ∧ h ≤ 2000) (ha : 0 ≤ a ∧ a ≤ 2000) : Ans Try.prog n_ref03_Heat [c.v (.view (c.bands.map Bd.v)), .int .i64 h, .int .i64 a] [] (.int .i64 (moved h a c.slew)) [] := by
  have hs := hc.slew
  have e1 : IntKind.i64.wrap (h - c.slew) = h - c.slew := w64 (by omega)
  have e2 : IntKind.i64.wrap (h + c.slew) = h + c.slew := w64 (by omega)
  refine spec_run e_ref03_Heat fun G => ?_
  simp only [go_sem, Ct.v, Ct.cs, e1, e2]
  unfold moved mi mx
  refine ⟨fun _ => ?_, fun _ => ?_⟩ <;> (repeat' split) <;> omega

theorem rBand_run (c : Ct) (hc : CtOK c) (h cur : Int) (hh : 0 ≤ h) (hcur : 0 ≤ cur ∧ cur ≤ 1000) : Ans Try.prog n_ref03_BandOf [c.v (.view (c.bands.map Bd.v)), .int .i64 h, .int .i64 cur] [] (ratesAt c h cur).v [] := by
  have hl := hc.len
  have p1 := aboveN_pos hc.len.1 hc.first hh
  have p2 := aboveN_le c.bands h
  have hx0 : c.bands[0]? = some (c.bands.getD 0 default) := by rw [List.getD_eq_getElem?_getD, List.getElem?_eq_getElem (by omega)]; rfl
  have hfin : c.bands.getD (min c.bands.length (aboveN c.bands h) - 1) default = bandAt c.bands h := by rw [Nat.min_eq_right p2]; rfl
  have hb := (bandAt_ok hc hh).red
  have a1 := mul_rng hcur.1 hcur.2 hc.aid.lo (Int.le_trans hc.aid.le hc.aid.hi)
  have a2 := mul_rng hcur.1 hcur.2 (Int.le_trans hc.aid.lo hc.aid.le) hc.aid.hi
  obtain ⟨b1, b2, b3⟩ := hb
  have e1 : IntKind.i64.wrap (cur * c.aid.lo) = cur * c.aid.lo := w64 (by omega)
  have e2 : IntKind.i64.wrap (cur * c.aid.hi) = cur * c.aid.hi := w64 (by omega)
  have e3 : IntKind.i64.wrap ((bandAt c.bands h).red.lo + cur * c.aid.lo) = (bandAt c.bands h).red.lo + cur * c.aid.lo := w64 (by omega)
  have e4 : IntKind.i64.wrap ((bandAt c.bands h).red.hi + cur * c.aid.hi) = (bandAt c.bands h).red.hi + cur * c.aid.hi := w64 (by omega)
  refine spec_run e_ref03_BandOf fun G => ?_
  have hg0 : (0 : Int) < c.bands.length := by omega
  simp only [go_sem, Ct.v, Ct.cs, hx0, hg0, Bd.v, Bd.cs]
  refine loop_ind k_ref03_BandOf_r7.eq_1 (fun a : Nat × Bd => a.1 ≤ c.bands.length ∧ a.2 = c.bands.getD (min a.1 (aboveN c.bands h) - 1) default) (fun a => c.bands.length - a.1)
    (fun a => (tsets 58 [(1, .int .i64 h), (2, .int .i64 cur), (3, .ptr 0 0 0 1), (6, .ptr 1 0 0 1), (7, .ptr 2 0 0 1), (8, .int .i64 a.1)],
      [some (.cells false 7 [c.v (.view (c.bands.map Bd.v))]), some (.cells false 9 [.agg [.int .i64 0, .int .i64 0, .int .i64 0, .int .i64 0, .int .i64 0, .int .i64 0, .int .i64 0, .int .i64 0, .int .i64 0]]), some (.cells false 9 [a.2.v])]))
    (0, c.bands.getD 0 default) ⟨Nat.zero_le _, by simp⟩ (by simp [go_sem]) rfl ?_
  rintro ⟨i, b⟩ ⟨hi, hbe⟩ ih
  dsimp only at hi hbe ih ⊢
  by_cases h1 : i < c.bands.length
  · have h2 : (i : Int) < c.bands.length := by omega
    have hx : c.bands[i]? = some (c.bands.getD i default) := by rw [List.getD_eq_getElem?_getD, List.getElem?_eq_getElem h1]; rfl
    have hs := aboveN_spec (h := h) hc.asc i h1
    have h3 := idx_next h1 (by omega)
    have n0 : ¬ (i : Int) < 0 := by omega
    by_cases h4 : (c.bands.getD i default).frm ≤ h
    · have h5 := hs.1 h4
      have hne : c.bands.getD (min (i + 1) (aboveN c.bands h) - 1) default = c.bands.getD i default := by rw [Nat.min_eq_left (by omega), Nat.add_sub_cancel]
      generalize c.bands.getD i default = z at *
      simp only [go_sem, hx, h2, n0, h4, h3, Ct.v, Ct.cs, Bd.v, Bd.cs]
      exact ih (i + 1, z) (by dsimp only; omega) ⟨h1, hne.symm⟩ _ (by simp [go_sem])
    · have h5 : ¬ i < aboveN c.bands h := fun h => h4 (hs.2 h)
      have hne : c.bands.getD (min (i + 1) (aboveN c.bands h) - 1) default = b := by
        rw [hbe, Nat.min_eq_right (by omega), Nat.min_eq_right (by omega)]
      generalize c.bands.getD i default = z at *
      simp only [go_sem, hx, h2, n0, h4, h3, Ct.v, Ct.cs, Bd.v, Bd.cs]
      exact ih (i + 1, b) (by dsimp only; omega) ⟨h1, hne.symm⟩ _ (by simp [go_sem])
  · have h2 : ¬ (i : Int) < c.bands.length := by omega
    have hie : i = c.bands.length := by omega
    rw [hie, hfin] at hbe
    unfold ratesAt
    rw [← hbe] at e3 e4 b1 b2 b3 ⊢
    have m1 : ∀ y : Int, (if y < 1000000 then y else 1000000) = mi y 1000000 := fun y => by unfold mi; split <;> split <;> omega
    simp only [go_sem, h2, Ct.v, Ct.cs, Bd.v, Bd.cs, e1, e2, e3, e4, m1]
end Go.Proofs
namespace Go.Proofs
open Go Go.Sx
attribute [local irreducible] Run

theorem ticks_run (l : List Ht) : Ans Try.prog n_cathode_ticks [.view (l.map Ht.v)] [] (.fn (.func n_cathode_ticks_1) [] [.ptr 0 0 0 1]) [some (.cells false 1 [.view (l.map Ht.v)])] := by
  refine spec_run e_cathode_ticks fun G => ?_
  simp only [go_sem]
  exact ⟨_, rfl⟩

/-- What the body of a range over ticks has to do. -/
structure TickBody (G : Ctx) (l : List Ht) (r j N : Nat) (Pre : Nat → Heap → Prop) (Stop : Heap → Prop) : Prop where
  row : ∀ i H, Pre i H → N ≤ H.length ∧ H[j]? = some (some (.cells false 1 [.view (l.map Ht.v)]))
  grow : ∀ i H x, Pre i H → Pre i (H ++ [x])
  round : ∀ i z H, (flat l)[i]? = some z → Pre i H → RoundW Try.prog G r [.int .i64 ((i : Int) + 1), z.v] H fun v H' =>
    (H.length ≤ H'.length ∧ ∀ q, N ≤ q → q < H.length → H'[q]? = H[q]?) ∧ ((v = .bool true ∧ Pre (i + 1) H') ∨ (v = .bool false ∧ Stop H'))

set_option maxHeartbeats 1000000 in
theorem ticks1_iter {G : Ctx} {l : List Ht} (hl : LsOK l) {r j N : Nat} {Pre : Nat → Heap → Prop} {Stop : Heap → Prop} (hB : TickBody G l r j N Pre Stop) {H0 : Heap} (h0 : Pre 0 H0) :
    CallW Try.prog G n_cathode_ticks_1 [.yfn r, .ptr j 0 0 1] H0 fun v H' => v = .tup [] ∧ (Pre (flat l).length H' ∨ Stop H') := by
  have hlen := hl.len
  have hsum := hl.sum
  obtain ⟨hN0, hj0⟩ := hB.row 0 H0 h0
  have hfl := flat_len hl.all
  refine callW_run 3000 e_cathode_ticks_1 ?_
  simp only [go_sem, cells_at hj0]
  refine loop_ind k_cathode_ticks_1_r11.eq_1 (fun a : Nat × Heap => a.1 ≤ l.length ∧ H0.length ≤ a.2.length ∧ Pre (flat (l.take a.1)).length a.2) (fun a => l.length - a.1)
    (fun a => (tsets 25 [(0, .yfn r), (1, .ptr j 0 0 1), (3, .int .i64 (flat (l.take a.1)).length), (6, .view (l.map Ht.v)), (7, .int .i64 l.length), (8, .int .i64 a.1)], a.2)) (0, H0) ⟨Nat.zero_le _, Nat.le_refl _, h0⟩ (by simp [go_sem, flat]) rfl ?_
  rintro ⟨i, H⟩ ⟨hi, hH0, hp⟩ ih
  dsimp only at hi hH0 hp ih ⊢
  by_cases h1 : i < l.length
  · have h2 : (i : Int) < l.length := by omega
    have n0 : ¬ (i : Int) < 0 := by omega
    have hx : l[i]? = some l[i] := List.getElem?_eq_getElem h1
    have hz := hl.all _ (List.getElem_mem h1)
    have hs := flat_succ hx
    have hlt := fun t => flat_at (t := t) hx
    have h3 := idx_next h1 (by omega)
    have hfi := flat_len (l := l.take i) fun x hx => hl.all x (List.mem_of_mem_take hx)
    have hr0 := lenOfL_take hl.all i
    have hr1 := lenOfL_take hl.all (i + 1)
    have hls := lenOfL_succ hx
    generalize l[i] = z at *
    have hzt := hz.ticks
    simp only [go_sem, h2, n0, hx, cells_end, get_end, put_at_end, Ht.v, Ht.cs]
    refine loop_ind k_cathode_ticks_1_r9.eq_1 (fun a : Nat × Heap => a.1 ≤ z.ticks.toNat ∧ H0.length ≤ a.2.length ∧ a.2[H.length]? = some (some (.cells false 3 [z.v])) ∧ Pre ((flat (l.take i)).length + a.1) a.2) (fun a => z.ticks.toNat - a.1)
      (fun a => (tsets 25 [(0, .yfn r), (1, .ptr j 0 0 1), (3, .int .i64 ((flat (l.take i)).length + a.1)), (5, .ptr H.length 0 0 1), (6, .view (l.map Ht.v)), (7, .int .i64 l.length), (8, .int .i64 i), (13, .int .i64 z.ticks), (14, .int .i64 a.1)], a.2))
      (0, _) ⟨Nat.zero_le _, by simp; omega, get_end _ _, hB.grow _ _ _ hp⟩ (by simp [go_sem]) rfl ?_
    rintro ⟨t, J⟩ ⟨ht, hJ0, hJz, hpj⟩ ih2
    dsimp only at ht hJ0 hJz hpj ih2 ⊢
    by_cases h4 : t < z.ticks.toNat
    · have h5 : (t : Int) < z.ticks := by omega
      have h6 := idx_next h4 (by omega)
      obtain ⟨f1, f2⟩ := hlt t h4
      have w1 : IntKind.i64.wrap ((flat (l.take i)).length + (t : Int) + 1) = (flat (l.take i)).length + (t : Int) + 1 := w64 (by omega)
      have hrd := hB.round _ z J f1 hpj
      have hNj := (hB.row _ J hpj).1
      simp only [go_sem, h5, w1, cells_at hJz, Ht.v, Ht.cs]
      refine yieldR _ rfl rfl (by simp [go_sem]) (by simp [go_sem]) hJ0 ?_
      simp only [Ht.v, Ht.cs] at hrd
      push_cast at hrd
      refine hrd.mono ?_
      rintro v J' ⟨⟨q1, q2⟩, ⟨rfl, q3⟩ | ⟨rfl, q3⟩⟩
      · refine ⟨fun q hq => by simp at hq, ?_⟩
        simp only [go_sem, h6]
        refine ih2 (t + 1, J') (by dsimp only; omega) ⟨h4, by dsimp only; omega, ?_, q3⟩ _ (by simp [go_sem]; omega)
        dsimp only
        rw [q2 H.length (hB.row _ H hp).1 (List.getElem?_eq_some_iff.1 hJz).1]; exact hJz
      · refine ⟨fun q hq => by simp at hq, ?_⟩
        simp only [go_sem]
        exact .inr q3
    · have h5 : ¬ (t : Int) < z.ticks := by omega
      have hte : t = z.ticks.toNat := by omega
      simp only [go_sem, h5, h3]
      refine ih (i + 1, J) (by dsimp only; omega) ⟨h1, hJ0, by dsimp only; rw [hs]; simpa [hte] using hpj⟩ _ ?_
      rw [hs]
      simp [go_sem, hte]
  · have h2 : ¬ (i : Int) < l.length := by omega
    simp only [go_sem, h2]
    rw [List.take_of_length_le (by omega)] at hp
    exact .inl hp
end Go.Proofs
namespace Go.Proofs
open Go Go.Sx
attribute [local irreducible] Run

theorem alone_run (n : Int) : Ans Try.prog n_cathode_alone [.int .i64 n] [] (Rg.v ⟨n, n⟩) [] := by
  refine spec_run e_cathode_alone fun G => ?_
  simp only [go_sem, Rg.v]
theorem isIn_yes {n : Int} {r : Rg} (h : r.lo ≤ n ∧ n ≤ r.hi) : Ans Try.prog n_cathode_isIn [.int .i64 n, r.v] [] (.bool true) [] := by
  refine spec_run e_cathode_isIn fun G => ?_
  simp only [go_sem, Rg.v]
  refine cP (within_yes h) ?_
  simp only [go_sem]

set_option maxHeartbeats 1000000 in
theorem follows_run {c : Ct} (hc : CtOK c) {a b : Mx} {x : Bd} (hx : BdOK x) (ha : MxOK c a) (h : Fol a b x) : Ans Try.prog n_cathode_follows [a.v, b.v, x.v] [] (.bool true) [] := by
  have hb := h.ok hx ha
  have hm := hc.amount
  obtain ⟨a1, a2, a3, a4, a5⟩ := ha
  obtain ⟨q1, q2, q3, q4, q5⟩ := hb
  obtain ⟨f1, f2, f3, f4⟩ := h
  have r1 := remains_ok ⟨a.carb, a.carb⟩ x.conv ⟨by dsimp only; omega, by dsimp only; omega⟩ (hx.conv.b (by decide))
  have r2 := remains_ok ⟨a.ox, a.ox⟩ x.red ⟨by dsimp only; omega, by dsimp only; omega⟩ (hx.red.b (by decide))
  have r3 := remains_ok ⟨a.ba, a.ba⟩ x.evap ⟨by dsimp only; omega, by dsimp only; omega⟩ (hx.evap.b (by decide))
  have k1 := remains_b (a := ⟨a.carb, a.carb⟩) ⟨by dsimp only; omega, by dsimp only; omega⟩ (hx.conv.b (by decide))
  have k2 := remains_b (a := ⟨a.ox, a.ox⟩) ⟨by dsimp only; omega, by dsimp only; omega⟩ (hx.red.b (by decide))
  have k3 := remains_b (a := ⟨a.ba, a.ba⟩) ⟨by dsimp only; omega, by dsimp only; omega⟩ (hx.evap.b (by decide))
  have e1 : IntKind.i64.wrap (a.carb - b.carb) = a.carb - b.carb := w64 (by omega)
  have e2 : IntKind.i64.wrap (a.ox + (a.carb - b.carb)) = a.ox + (a.carb - b.carb) := w64 (by omega)
  have e3 : IntKind.i64.wrap (a.ox + (a.carb - b.carb) - b.ox) = a.ox + (a.carb - b.carb) - b.ox := w64 (by omega)
  have e4 : IntKind.i64.wrap (a.ba + (a.ox + (a.carb - b.carb) - b.ox)) = a.ba + (a.ox + (a.carb - b.carb) - b.ox) := w64 (by omega)
  have e5 : IntKind.i64.wrap (a.ba + (a.ox + (a.carb - b.carb) - b.ox) - b.ba) = a.ba + (a.ox + (a.carb - b.carb) - b.ox) - b.ba := w64 (by omega)
  have e6 : IntKind.i64.wrap (a.lost + (a.ba + (a.ox + (a.carb - b.carb) - b.ox) - b.ba)) = b.lost := by rw [w64 (by omega)]; omega
  have s2 := sum_ok (remains ⟨a.ox, a.ox⟩ x.red) ⟨a.carb - b.carb, a.carb - b.carb⟩ (by omega) (by omega) (by dsimp only; omega) (by dsimp only; omega)
  have s3 := sum_ok (remains ⟨a.ba, a.ba⟩ x.evap) ⟨a.ox + (a.carb - b.carb) - b.ox, a.ox + (a.carb - b.carb) - b.ox⟩ (by omega) (by omega) (by dsimp only; omega) (by dsimp only; omega)
  have i1 := @isIn_yes b.carb (remains ⟨a.carb, a.carb⟩ x.conv) (by simp only [remains]; omega)
  have i2 := @isIn_yes b.ox (sumR (remains ⟨a.ox, a.ox⟩ x.red) ⟨a.carb - b.carb, a.carb - b.carb⟩) (by simp only [remains, sumR]; omega)
  have i3 := @isIn_yes b.ba (sumR (remains ⟨a.ba, a.ba⟩ x.evap) ⟨a.ox + (a.carb - b.carb) - b.ox, a.ox + (a.carb - b.carb) - b.ox⟩) (by simp only [remains, sumR]; omega)
  refine spec_run e_cathode_follows fun G => ?_
  simp only [go_sem, Mx.v, Mx.cs, Bd.v, Bd.cs]
  refine dP (alone_run _) ?_
  simp only [go_sem]
  refine dP r1 ?_
  simp only [go_sem]
  refine cP i1 ?_
  simp only [go_sem, e1]
  refine dP (alone_run _) ?_
  simp only [go_sem]
  refine dP r2 ?_
  simp only [go_sem]
  refine dP (alone_run _) ?_
  simp only [go_sem]
  refine dP s2 ?_
  simp only [go_sem]
  refine cP i2 ?_
  simp only [go_sem, e2, e3]
  refine dP (alone_run _) ?_
  simp only [go_sem]
  refine dP r3 ?_
  simp only [go_sem]
  refine dP (alone_run _) ?_
  simp only [go_sem]
  refine dP s3 ?_
  simp only [go_sem]
  refine cP i3 ?_
  simp only [go_sem, e4, e5, e6]

/-- How much of an amount changes. -/
def someV (w style x : Int) (r : Rg) : Int := if style = 0 then dn x r.lo else if style = 1 then up x r.hi else btw w (dn x r.lo) (up x r.hi)
def someW (w style : Int) : Int := if style = 0 then w else if style = 1 then w else dstep w
theorem someV_in {w style x : Int} {r : Rg} (hx : 0 ≤ x) (hr : RgIn r 1000000) : dn x r.lo ≤ someV w style x r ∧ someV w style x r ≤ up x r.hi := by
  have hb := hr.all
  have h1 := dn_le_up hx (Int.le_refl x) hb.1 hb.2.1
  have h2 := btw_in (w := w) h1
  unfold someV
  split
  · omega
  · split <;> omega

theorem some_run (w style x : Int) (r : Rg) (hx : 0 ≤ x ∧ x ≤ 1000000) (hr : RgIn r 1000000) : Ans Try.prog n_kit_some [.ptr 0 0 0 1, .int .i64 style, .int .i64 x, r.v] [some (Dr w)] (.int .i64 (someV w style x r)) [some (Dr (someW w style))] := by
  have hb := hr.all
  have h1 := dn_le_up hx.1 (Int.le_refl x) hb.1 hb.2.1
  have h2 := dn_in hx.1 hb.1 (by omega)
  have h3 := up_in hx.1 (show 0 ≤ r.hi by omega) hb.2.2
  unfold someV someW
  refine spec_run e_kit_some fun G => ?_
  simp only [go_sem, Rg.v]
  refine dP (rDown_run _ _ hx (by omega)) ?_
  simp only [go_sem]
  refine cP (rUp_run _ _ hx (by omega)) ?_
  simp only [go_sem]
  by_cases c0 : style = 0
  · simp only [go_sem, c0]
    exact ⟨_, rfl⟩
  · by_cases c1 : style = 1
    · simp only [go_sem, c1]
      exact ⟨_, rfl⟩
    · have b0 : (style == 0) = false := by simp [c0]
      have b1 : (style == 1) = false := by simp [c1]
      simp only [go_sem, b0, b1, c0, c1]
      refine cD (between_ok _ _ _ (by omega) h1 (by omega)) ?_
      simp only [go_sem]
      exact ⟨_, rfl⟩
end Go.Proofs
namespace Go.Proofs
open Go Go.Sx
attribute [local irreducible] Run

def posT : List (Nat × AVal) := [(3, .ptr 0 0 0 1), (5, .ptr 1 0 0 1), (6, .ptr 2 0 0 1), (7, .ptr 3 0 0 1), (34, .fn (.func n_cathode_ticks_1) [] [.ptr 4 0 0 1])]
/-- The row of a range over ticks in 'Possible'. -/
def posL (st : LoopState) (pe : Option ACode) : Row := .loop (tsets 59 posT) [35, 36] k_cathode_Possible_r12 k_cathode_Possible_r13 5 st pe
/-- Where it stands. -/
def posH (c : Ct) (l : List Ht) (w : List Mx) (b : Bool) (heat : Int) (x : Row) (X : Heap) : Heap :=
  [some (.cells false 7 [c.v (.view (c.bands.map Bd.v))]), some (.cells false 1 [.view (w.map Mx.v)]), some (.cells false 1 [.bool b]), some (.cells false 1 [.int .i64 heat]), some (.cells false 1 [.view (l.map Ht.v)]), some .dfr, some x] ++ X

set_option maxHeartbeats 4000000 in
set_option maxRecDepth 4000 in
theorem Possible_run (c : Ct) (hc : CtOK c) (l : List Ht) (hl : LsOK l) (w : List Mx) (m : Mx) (hw : Crs c (flat l) w m) :
    Ans Try.prog n_cathode_Possible [c.v (.view (c.bands.map Bd.v)), .view (l.map Ht.v), .view (w.map Mx.v)] [] (.bool true) [] := by
  have hlen := hl.len
  have hsum := hl.sum
  have hfl := flat_len hl.all
  have hwl := hw.len
  have hw0 := hw.first
  have w1 : IntKind.i64.wrap (1 + lenOfL l) = (w.length : Int) := by rw [w64 (by omega)]; omega
  have hw00 : (0 : Int) < w.length := by omega
  refine spec_run e_cathode_Possible fun G => ?_
  simp only [go_sem, Ct.v, Ct.cs]
  refine cP (Check_run c hc) ?_
  simp only [go_sem]
  refine cP (CheckSchedule_run l hl) ?_
  simp only [go_sem]
  refine dP (length_run l hl) ?_
  simp only [go_sem, w1, hw00, hw0, List.length_map, Mx.v, Mx.cs, start]
  refine cN1 (ticks_run l) ?_
  simp only [go_sem, ren, rens]
  refine rangeF 2000 (ρ := tsets 59 posT) (by simp [go_sem, posT]) (by simp only [go_sem, posT]; rfl)
    (ticks1_iter (r := 6) (j := 4) (N := 7) hl (Pre := fun i H => ∃ X, H = posH c l w false (heatOf c ((flat l).take i)) (posL .ready none) X) (Stop := fun _ => False)
      ⟨?_, ?_, ?_⟩ ⟨[], rfl⟩) (by simp) ?_
  · rintro i H ⟨X, rfl⟩
    exact ⟨by simp [posH], rfl⟩
  · rintro i H x ⟨X, rfl⟩
    exact ⟨X ++ [x], by simp [posH]⟩
  · rintro i z H hz ⟨X, rfl⟩
    obtain ⟨z', m1, m2, e1, e2, e3, e4, e5⟩ := hw.part i (List.getElem?_eq_some_iff.1 hz).1
    rw [hz] at e1; cases e1
    have hil := (List.getElem?_eq_some_iff.1 hz).1
    have hall : ∀ y ∈ (flat l).take i ++ [z], HtOK y := fun y hy => by
      rcases List.mem_append.1 hy with hy | hy
      · exact hl.all _ (flat_mem (List.mem_of_mem_take hy))
      · simp at hy; subst hy; exact hl.all _ (flat_mem (List.mem_of_getElem? hz))
    have hzz := hall z (by simp)
    have hh0 := heatOf_in hc (a := (flat l).take i) fun y hy => hall y (by simp [hy])
    have hh1 := heatOf_in hc hall
    have hm := moved_ok (heatOf c ((flat l).take i)) z.heat c.slew hh0 hzz.heat hc.slew
    rw [← heatOf_snoc] at hm
    have hr := ratesAt_run c hc (heatOf c ((flat l).take i ++ [z])) z.cur hh1.1 hzz.cur
    have hb := ratesAt_ok hc hh1.1 hzz.cur
    have hF := follows_run hc hb (e2.ok hc fun y hy => hall y (by simp [hy])) e5
    rw [show (flat l).take (i + 1) = (flat l).take i ++ [z] by rw [List.take_add_one, hz]; rfl]
    have g1 : (i : Int) < w.length := by omega
    have g2 : (i : Int) + 1 < w.length := by omega
    have g3 : ¬ (i : Int) < 0 := by omega
    have g4 : ¬ (i : Int) + 1 < 0 := by omega
    have g5 : IntKind.i64.wrap ((i : Int) + 1 - 1) = i := by rw [w64 (by omega)]; omega
    have g6 : ((i : Int) + 1).toNat = i + 1 := by omega
    generalize heatOf c ((flat l).take i ++ [z]) = h2 at *
    generalize heatOf c ((flat l).take i) = h1 at *
    generalize ratesAt c h2 z.cur = bd at *
    refine RoundW.mono (R := fun v H' => v = .bool true ∧ ∃ Y, H' = posH c l w false h2 (posL .ready none) (X ++ Y)) ?_ ?_
    rotate_left
    · rintro v H' ⟨rfl, Y, rfl⟩
      exact ⟨tail_kept rfl rfl, .inl ⟨rfl, _, rfl⟩⟩
    generalize hR : (fun (v : AVal) (H' : Heap) => v = .bool true ∧ ∃ Y, H' = posH c l w false h2 (posL .ready none) (X ++ Y)) = R
    have hfin : ∀ Y, R (.bool true) (posH c l w false h2 (posL .ready none) (X ++ Y)) := fun Y => by rw [← hR]; exact ⟨rfl, Y, rfl⟩
    clear hR
    refine roundW_run 500 k_cathode_Possible_r12.eq_1 rfl rfl (ρ' := tsets 59 (posT ++ [(35, .int .i64 ((i : Int) + 1)), (36, z.v)])) rfl ?_
    simp only [go_sem, posT, posH, Ht.v, Ht.cs]
    refine roundMid_run 500 k_cathode_Possible_r13.eq_1 rfl rfl ?_
    simp only [go_sem, Ct.v, Ct.cs]
    refine cP hm ?_
    simp only [go_sem, g1, g2, g3, g4, g5, g6, e3, e4, Int.toNat_natCast, List.length_map, Ct.v, Ct.cs, Mx.v, Mx.cs]
    refine dP hr ?_
    simp only [go_sem, Bd.v, Bd.cs]
    refine cP hF ?_
    simp only [go_sem]
    refine roundEnd_on rfl ?_
    simp only [go_sem]
    exact hfin [_]
  · rintro v H' ⟨rfl, ⟨X, rfl⟩ | h⟩
    · refine ⟨fun q hq => by simp at hq; subst hq; rfl, _, _, _, _, _, _, _, rfl, by decide, ?_⟩
      simp only [go_sem, posH, posT, tsets]
      simp
    · exact h.elim
end Go.Proofs
namespace Go.Proofs
open Go Go.Sx

theorem at_struct {P : Program} {n : Nat} {t : TypeId} {fs : Array Field} (hu : P.underlying t = some (.struct fs)) {vs : List AVal} (h : AT P (n + 1) t vs) : ATs (AT P n) fs.toList vs := by
  unfold AT at h; rw [hu] at h; exact h
theorem at_int {P : Program} {n : Nat} {t : TypeId} {k : IntKind} (hu : P.underlying t = some (.int k)) {vs : List AVal} (h : AT P (n + 1) t vs) : ∃ m, vs = [.int k m] ∧ (Lit.int k m).wf = true := by
  unfold AT at h; rw [hu] at h; exact h
theorem at_slice {P : Program} {n : Nat} {t e : TypeId} (hu : P.underlying t = some (.slice e)) {vs : List AVal} (h : AT P (n + 1) t vs) : ∃ es, vs = [.view es] ∧ es.length ≤ maxLen ∧ ∀ x ∈ es, if aggT P e = true then ∃ ws, x = .agg ws ∧ AT P n e ws else AT P n e [x] := by
  unfold AT at h; rw [hu] at h; exact h

attribute [local irreducible] AT
set_option maxRecDepth 100000
theorem atn_int {n : Nat} {vs : List AVal} (h : AT Try.prog (n + 1) 3 vs) : ∃ m, vs = [.int .i64 m] ∧ (Lit.int .i64 m).wf = true := at_int Try.underlying3 h
theorem at_rg {n : Nat} {vs : List AVal} (h : AT Try.prog (n + 2) 23 vs) : ∃ r : Rg, vs = [.int .i64 r.lo, .int .i64 r.hi] ∧ (Lit.int .i64 r.lo).wf = true ∧ (Lit.int .i64 r.hi).wf = true := by
  obtain ⟨a, b, rfl, ha, c, d, rfl, hc, rfl⟩ := at_struct Try.underlying23 h
  obtain ⟨x, rfl, hx⟩ := atn_int ha
  obtain ⟨y, rfl, hy⟩ := atn_int hc
  exact ⟨⟨x, y⟩, rfl, hx, hy⟩
def I64 (n : Int) : Prop := (Lit.int .i64 n).wf = true
def RgW (r : Rg) : Prop := I64 r.lo ∧ I64 r.hi
def BdW (b : Bd) : Prop := I64 b.frm ∧ RgW b.conv ∧ RgW b.red ∧ RgW b.evap ∧ RgW b.sint
structure CtW (c : Ct) : Prop where
  amount : I64 c.amount
  slew : I64 c.slew
  aid : RgW c.aid
  yld : RgW c.yld
  len : c.bands.length ≤ maxLen
  all : ∀ b ∈ c.bands, BdW b
theorem at_band {n : Nat} {vs : List AVal} (h : AT Try.prog (n + 3) 49 vs) : ∃ b : Bd, vs = b.cs ∧ BdW b := by
  obtain ⟨a, _, rfl, ha, b, _, rfl, hb, c, _, rfl, hc, d, _, rfl, hd, e, _, rfl, he, rfl⟩ := at_struct Try.underlying49 h
  obtain ⟨x, rfl, hx⟩ := atn_int ha
  obtain ⟨r1, rfl, h1⟩ := at_rg hb
  obtain ⟨r2, rfl, h2⟩ := at_rg hc
  obtain ⟨r3, rfl, h3⟩ := at_rg hd
  obtain ⟨r4, rfl, h4⟩ := at_rg he
  exact ⟨⟨x, r1, r2, r3, r4⟩, rfl, hx, h1, h2, h3, h4⟩
theorem list_map {α β : Type} {f : α → β} {Q : α → Prop} : ∀ l : List β, (∀ x ∈ l, ∃ a, x = f a ∧ Q a) → ∃ l' : List α, l = l'.map f ∧ ∀ a ∈ l', Q a
  | [], _ => ⟨[], rfl, fun a ha => by simp at ha⟩
  | x :: l, h => by
    obtain ⟨a, rfl, ha⟩ := h x (by simp)
    obtain ⟨l', rfl, h'⟩ := list_map l fun y hy => h y (by simp [hy])
    exact ⟨a :: l', rfl, fun b hb => by
      rcases List.mem_cons.1 hb with rfl | hb
      · exact ha
      · exact h' b hb⟩
theorem at_bands {n : Nat} {vs : List AVal} (h : AT Try.prog (n + 4) 24 vs) : ∃ bs : List Bd, vs = [.view (bs.map Bd.v)] ∧ bs.length ≤ maxLen ∧ ∀ b ∈ bs, BdW b := by
  obtain ⟨es, rfl, hl, he⟩ := at_slice Try.underlying24 h
  have hg : aggT Try.prog 49 = true := by unfold aggT; rw [Try.underlying49]
  obtain ⟨bs, rfl, hb⟩ := list_map (f := Bd.v) (Q := BdW) es fun x hx => by
    have := he x hx
    rw [if_pos hg] at this
    obtain ⟨ws, rfl, hw⟩ := this
    obtain ⟨b, rfl, hb⟩ := at_band hw
    exact ⟨b, rfl, hb⟩
  exact ⟨bs, rfl, by simpa using hl, hb⟩
theorem at_coat {n : Nat} {vs : List AVal} (h : AT Try.prog (n + 5) 26 vs) : ∃ c : Ct, vs = c.cs (.view (c.bands.map Bd.v)) ∧ CtW c := by
  obtain ⟨a, _, rfl, ha, b, _, rfl, hb, c, _, rfl, hc, d, _, rfl, hd, e, _, rfl, he, rfl⟩ := at_struct Try.underlying26 h
  obtain ⟨x, rfl, hx⟩ := atn_int ha
  obtain ⟨y, rfl, hy⟩ := atn_int hb
  obtain ⟨r1, rfl, h1⟩ := at_rg hc
  obtain ⟨r2, rfl, h2⟩ := at_rg hd
  obtain ⟨bs, rfl, h3, h4⟩ := at_bands he
  exact ⟨⟨x, y, r1, r2, bs⟩, rfl, hx, hy, h1, h2, h3, h4⟩
structure CgW (x : Cg) : Prop where
  carb : RgW x.carb
  ox : RgW x.ox
  ba : RgW x.ba
  lost : RgW x.lost
  gas : RgW x.gas
  wear : RgW x.wear
  heat : I64 x.heat
theorem at_coating {n : Nat} {vs : List AVal} (h : AT Try.prog (n + 5) 28 vs) : ∃ x : Cg, vs = x.cs ∧ CgW x := by
  obtain ⟨a, _, rfl, ha, b, _, rfl, hb, c, _, rfl, hc, d, _, rfl, hd, e, _, rfl, he, f, _, rfl, hf, g, _, rfl, hg, rfl⟩ := at_struct Try.underlying28 h
  obtain ⟨r1, rfl, h1⟩ := at_rg ha
  obtain ⟨r2, rfl, h2⟩ := at_rg hb
  obtain ⟨r3, rfl, h3⟩ := at_rg hc
  obtain ⟨r4, rfl, h4⟩ := at_rg hd
  obtain ⟨r5, rfl, h5⟩ := at_rg he
  obtain ⟨r6, rfl, h6⟩ := at_rg hf
  obtain ⟨x, rfl, hx⟩ := atn_int hg
  exact ⟨⟨r1, r2, r3, r4, r5, r6, x⟩, rfl, h1, h2, h3, h4, h5, h6, hx⟩
theorem at_ints {n : Nat} {x : AVal} (h : AT Try.prog (n + 2) 30 [x]) : ∃ l : List Int, x = .view (l.map (.int .i64)) ∧ l.length ≤ maxLen := by
  obtain ⟨es, h1, hl, he⟩ := at_slice Try.underlying30 h
  obtain rfl : x = .view es := by simpa using h1
  have hg : ¬ aggT Try.prog 3 = true := by unfold aggT; rw [Try.underlying3]; decide
  obtain ⟨l, rfl, -⟩ := list_map (f := AVal.int .i64) (Q := fun _ => True) es fun x hx => by
    have := he x hx
    rw [if_neg hg] at this
    obtain ⟨m, hm, -⟩ := atn_int this
    exact ⟨m, by simpa using hm, trivial⟩
  exact ⟨l, rfl, by simpa using hl⟩
end Go.Proofs
namespace Go.Proofs
open Go Go.Sx
attribute [local irreducible] Run

/-- The first error of ranges. -/
def chkR (m : Int) : List Rg → Int
  | [] => 0
  | r :: rs => if 0 ≤ r.lo ∧ r.lo ≤ m then (if 0 ≤ r.hi ∧ r.hi ≤ m then (if r.hi < r.lo then 11 else chkR m rs) else 2) else 2
theorem within_no {n a b : Int} (h : ¬ (a ≤ n ∧ n ≤ b)) : Ans Try.prog n_cathode_within [.int .i64 n, .int .i64 a, .int .i64 b] [] (.bool false) [] := by
  have := within_ok n a b
  rwa [show (decide (a ≤ n) && decide (n ≤ b)) = false by simp; omega] at this

theorem checkRanges_raw (m : Int) (rs : List Rg) (hl : rs.length ≤ 1000) : Ans Try.prog n_cathode_checkRanges [.int .i64 m, .view (rs.map Rg.v)] [] (.int .i64 (chkR m rs)) [] := by
  generalize hRES : chkR m rs = RES
  refine spec_run e_cathode_checkRanges fun G => ?_
  simp only [go_sem]
  refine loop_ind k_cathode_checkRanges_r9.eq_1 (fun a : Nat × Heap => a.1 ≤ rs.length ∧ chkR m (rs.drop a.1) = RES) (fun a => rs.length - a.1)
    (fun a => ([.int .i64 m, .view (rs.map Rg.v), .any, .any, .int .i64 0, .any, .any, .view (rs.map Rg.v), .int .i64 rs.length, .int .i64 a.1] ++ List.replicate 21 .any, a.2)) (0, []) ⟨Nat.zero_le _, hRES⟩ (by simp [Wk]) rfl ?_
  rintro ⟨i, X⟩ ⟨hi, hR⟩ ih
  dsimp only at hi hR ih ⊢
  by_cases h1 : i < rs.length
  · have h2 : (i : Int) < rs.length := by omega
    have hx : rs[i]? = some rs[i] := List.getElem?_eq_getElem h1
    have h3 := idx_next h1 (by omega)
    rw [List.drop_eq_getElem_cons h1] at hR
    generalize rs[i] = z at *
    unfold chkR at hR
    simp only [go_sem, hx, h2, Rg.v]
    by_cases c1 : 0 ≤ z.lo ∧ z.lo ≤ m
    · rw [if_pos c1] at hR
      refine cP (within_yes c1) ?_
      simp only [go_sem]
      by_cases c2 : 0 ≤ z.hi ∧ z.hi ≤ m
      · rw [if_pos c2] at hR
        refine cP (within_yes c2) ?_
        simp only [go_sem, h3]
        refine ⟨fun c3 => ?_, fun c3 => ?_⟩
        · rw [if_pos c3] at hR
          exact hR
        · rw [if_neg c3] at hR
          exact ih (i + 1, _) (by dsimp only; omega) ⟨h1, hR⟩ _ (by simp [Wk])
      · rw [if_neg c2] at hR
        subst hR
        refine cP (within_no c2) ?_
        simp only [go_sem]
    · rw [if_neg c1] at hR
      subst hR
      refine cP (within_no c1) ?_
      simp only [go_sem]
  · have h2 : ¬ (i : Int) < rs.length := by omega
    rw [List.drop_of_length_le (by omega)] at hR
    subst hR
    simp only [go_sem, h2, chkR]
end Go.Proofs
namespace Go.Proofs
open Go Go.Sx
attribute [local irreducible] Run

def ordB (prev : Option Int) (x : Int) : Bool := match prev with | none => x == 0 | some p => decide (p < x)
/-- The first error of bands, behind one that begins at 'prev'. -/
def chkB (prev : Option Int) : List Bd → Int
  | [] => 0
  | b :: bs => if 0 ≤ b.frm ∧ b.frm ≤ 2000 then
      (if ordB prev b.frm = true then
        (if chkR 1000000 [b.conv, b.red, b.evap, b.sint] = 0 then chkB (some b.frm) bs else chkR 1000000 [b.conv, b.red, b.evap, b.sint])
      else 11) else 2
/-- The first error of a coat. -/
def chkC (c : Ct) : Int :=
  if 1 ≤ c.amount ∧ c.amount ≤ 1000000 then
    (if 1 ≤ c.slew ∧ c.slew ≤ 2000 then
      (if chkR 1000000 [c.aid, c.yld] = 0 then
        (if c.bands.length = 0 then 6 else if 16 < c.bands.length then 8 else chkB none c.bands)
      else chkR 1000000 [c.aid, c.yld]) else 2) else 2
def prevF (bs : List Bd) (i : Nat) : Option Int := if i = 0 then none else some (bs.getD (i - 1) default).frm

set_option maxHeartbeats 2000000 in
theorem Check_raw (c : Ct) (hl : c.bands.length ≤ 1000) : Ans Try.prog n_cathode_Check [c.v (.view (c.bands.map Bd.v))] [] (.int .i64 (chkC c)) [] := by
  have g1 := checkRanges_raw 1000000 [c.aid, c.yld] (by simp)
  generalize hRES : chkC c = RES
  unfold chkC at hRES
  refine spec_run e_cathode_Check fun G => ?_
  simp only [go_sem, Ct.v, Ct.cs]
  by_cases c1 : 1 ≤ c.amount ∧ c.amount ≤ 1000000
  rotate_left
  · rw [if_neg c1] at hRES
    subst hRES
    refine cP (within_no c1) ?_
    simp only [go_sem]
  rw [if_pos c1] at hRES
  refine cP (within_yes c1) ?_
  simp only [go_sem]
  by_cases c2 : 1 ≤ c.slew ∧ c.slew ≤ 2000
  rotate_left
  · rw [if_neg c2] at hRES
    subst hRES
    refine cP (within_no c2) ?_
    simp only [go_sem]
  rw [if_pos c2] at hRES
  refine cP (within_yes c2) ?_
  simp only [go_sem]
  refine callF0 g1 6 (by simp only [go_sem, frz, Rg.v]) ?_
  generalize chkR 1000000 [c.aid, c.yld] = e1 at *
  by_cases c3 : e1 = 0
  rotate_left
  · have b3 : (e1 != 0) = true := by simp [c3]
    rw [if_neg c3] at hRES
    subst hRES
    simp only [go_sem, b3]
    done
  rw [if_pos c3] at hRES
  subst c3
  simp only [go_sem, Int.reduceBNe]
  refine ⟨fun k1 => ?_, fun k1 => ⟨fun k2 => ?_, fun k2 => ?_⟩⟩
  · rw [if_pos (by omega)] at hRES; exact hRES
  · rw [if_neg (by omega), if_pos (by omega)] at hRES; exact hRES
  rw [if_neg (by omega), if_neg (by omega)] at hRES
  refine loop_ind k_cathode_Check_r21.eq_1 (fun a : Nat × Heap => a.1 ≤ c.bands.length ∧ chkB (prevF c.bands a.1) (c.bands.drop a.1) = RES) (fun a => c.bands.length - a.1)
    (fun a => (tsets 83 [(1, .ptr 0 0 0 1), (2, .int .i64 0), (35, .view (c.bands.map Bd.v)), (36, .int .i64 c.bands.length), (37, .int .i64 a.1)], some (.cells false 7 [c.v (.view (c.bands.map Bd.v))]) :: a.2)) (0, [_]) ⟨Nat.zero_le _, hRES⟩ (by simp [go_sem]) rfl ?_
  rintro ⟨i, X⟩ ⟨hi, hR⟩ ih
  dsimp only at hi hR ih ⊢
  by_cases h1 : i < c.bands.length
  · have h2 : (i : Int) < c.bands.length := by omega
    have hx : c.bands[i]? = some c.bands[i] := List.getElem?_eq_getElem h1
    have h3 := idx_next h1 (by omega)
    have hpn : prevF c.bands (i + 1) = some (c.bands[i]).frm := by
      unfold prevF
      rw [if_neg (by omega), Nat.add_sub_cancel, List.getD_eq_getElem?_getD, hx]; rfl
    have hpi : 0 < i → ∃ b : Bd, c.bands[i - 1]? = some b ∧ prevF c.bands i = some b.frm := fun h0 => by
      refine ⟨_, List.getElem?_eq_getElem (by omega), ?_⟩
      unfold prevF
      rw [if_neg (by omega), List.getD_eq_getElem?_getD, List.getElem?_eq_getElem (by omega)]; rfl
    have hp0 : i = 0 → prevF c.bands i = none := fun h0 => by unfold prevF; rw [if_pos h0]
    rw [List.drop_eq_getElem_cons h1] at hR
    generalize c.bands[i] = b at *
    unfold chkB at hR
    have g2 := checkRanges_raw 1000000 [b.conv, b.red, b.evap, b.sint] (by simp)
    generalize chkR 1000000 [b.conv, b.red, b.evap, b.sint] = e2 at *
    simp only [go_sem, hx, h2, Bd.v, Bd.cs, Ct.v, Ct.cs]
    by_cases c4 : 0 ≤ b.frm ∧ b.frm ≤ 2000
    rotate_left
    · rw [if_neg c4] at hR
      subst hR
      refine cP (within_no c4) ?_
      simp only [go_sem]
    rw [if_pos c4] at hR
    refine cP (within_yes c4) ?_
    by_cases h0 : i = 0
    · have hb : ((i : Int) == 0) = true := by simp [h0]
      have hg2 : ¬ (0 : Int) < i := by omega
      rw [hp0 h0] at hR
      by_cases c5 : b.frm = 0
      · have hb5 : (b.frm != 0) = false := by simp [c5]
        rw [if_pos (by simp [ordB, c5])] at hR
        simp only [go_sem, hb, hg2, hb5]
        refine callF0 g2 6 (by simp only [go_sem, frz, Rg.v]) ?_
        by_cases c6 : e2 = 0
        · rw [if_pos c6] at hR
          subst c6
          simp only [go_sem, Int.reduceBNe, h3]
          exact ih (i + 1, _) (by dsimp only; omega) ⟨h1, by dsimp only; rw [hpn]; exact hR⟩ _ (by simp [go_sem])
        · have b6 : (e2 != 0) = true := by simp [c6]
          rw [if_neg c6] at hR
          subst hR
          simp only [go_sem, b6]
      · have hb5 : (b.frm != 0) = true := by simp [c5]
        rw [if_neg (by simp [ordB, c5])] at hR
        subst hR
        simp only [go_sem, hb, hb5]
    · obtain ⟨b', hb1, hb2⟩ := hpi (by omega)
      have hb : ((i : Int) == 0) = false := by simp [h0]
      have hg2 : (0 : Int) < i := by omega
      have hg3 : IntKind.i64.wrap ((i : Int) - 1) = ((i - 1 : Nat) : Int) := by rw [w64 (by omega)]; omega
      rw [hb2] at hR
      simp only [go_sem, hb, hg2, hg3, hb1, Bd.v, Bd.cs]
      refine ⟨fun c5 => ?_, fun c5 => ?_⟩
      · have ho : ¬ ordB (some b'.frm) b.frm = true := by simp only [ordB, decide_eq_true_eq]; omega
        rw [if_neg ho] at hR
        exact hR
      · have ho : ordB (some b'.frm) b.frm = true := by simp only [ordB, decide_eq_true_eq]; omega
        rw [if_pos ho] at hR
        refine callF0 g2 6 (by simp only [go_sem, frz, Rg.v]) ?_
        by_cases c6 : e2 = 0
        · rw [if_pos c6] at hR
          subst c6
          simp only [go_sem, Int.reduceBNe, h3]
          exact ih (i + 1, _) (by dsimp only; omega) ⟨h1, by dsimp only; rw [hpn]; exact hR⟩ _ (by simp [go_sem])
        · have b6 : (e2 != 0) = true := by simp [c6]
          rw [if_neg c6] at hR
          subst hR
          simp only [go_sem, b6]
  · have h2 : ¬ (i : Int) < c.bands.length := by omega
    rw [List.drop_of_length_le (by omega)] at hR
    subst hR
    simp only [go_sem, h2, chkB]
end Go.Proofs
namespace Go.Proofs
open Go Go.Sx

theorem chkR_zero {m : Int} : ∀ {rs : List Rg}, chkR m rs = 0 → ∀ r ∈ rs, (0 ≤ r.lo ∧ r.lo ≤ m) ∧ (0 ≤ r.hi ∧ r.hi ≤ m) ∧ r.lo ≤ r.hi
  | [], _, r, hr => by simp at hr
  | x :: rs, h, r, hr => by
    unfold chkR at h
    by_cases c1 : 0 ≤ x.lo ∧ x.lo ≤ m
    rotate_left
    · rw [if_neg c1] at h; simp at h
    rw [if_pos c1] at h
    by_cases c2 : 0 ≤ x.hi ∧ x.hi ≤ m
    rotate_left
    · rw [if_neg c2] at h; simp at h
    rw [if_pos c2] at h
    by_cases c3 : x.hi < x.lo
    · rw [if_pos c3] at h; simp at h
    rw [if_neg c3] at h
    rcases List.mem_cons.1 hr with rfl | hr
    · exact ⟨c1, c2, by omega⟩
    · exact chkR_zero h r hr
theorem chkB_zero : ∀ {bs : List Bd} {prev : Option Int}, chkB prev bs = 0 → (∀ b ∈ bs, (0 ≤ b.frm ∧ b.frm ≤ 2000) ∧ chkR 1000000 [b.conv, b.red, b.evap, b.sint] = 0) ∧ (∀ b, bs[0]? = some b → ordB prev b.frm = true) ∧ ∀ i b b', bs[i]? = some b → bs[i + 1]? = some b' → b.frm < b'.frm
  | [], _, _ => ⟨fun b hb => by simp at hb, fun b hb => by simp at hb, fun i b b' hb => by simp at hb⟩
  | x :: bs, prev, h => by
    unfold chkB at h
    by_cases c1 : 0 ≤ x.frm ∧ x.frm ≤ 2000
    rotate_left
    · rw [if_neg c1] at h; simp at h
    rw [if_pos c1] at h
    by_cases c2 : ordB prev x.frm = true
    rotate_left
    · rw [if_neg c2] at h; simp at h
    rw [if_pos c2] at h
    by_cases c3 : chkR 1000000 [x.conv, x.red, x.evap, x.sint] = 0
    rotate_left
    · rw [if_neg c3] at h; exact absurd h c3
    rw [if_pos c3] at h
    obtain ⟨h1, h2, h3⟩ := chkB_zero h
    refine ⟨fun b hb => ?_, fun b hb => ?_, fun i b b' hb hb' => ?_⟩
    · rcases List.mem_cons.1 hb with rfl | hb
      · exact ⟨c1, c3⟩
      · exact h1 b hb
    · simp only [List.getElem?_cons_zero, Option.some.injEq] at hb
      subst hb; exact c2
    · cases i with
      | zero =>
        simp only [List.getElem?_cons_zero, Option.some.injEq] at hb
        subst hb
        have := h2 b' hb'
        simpa [ordB] using this
      | succ i => exact h3 i b b' hb hb'

/-- A coat that the check lets by keeps the rules. -/
theorem chkC_ok {c : Ct} (h : chkC c = 0) : CtOK c := by
  unfold chkC at h
  by_cases c1 : 1 ≤ c.amount ∧ c.amount ≤ 1000000
  rotate_left
  · rw [if_neg c1] at h; simp at h
  rw [if_pos c1] at h
  by_cases c2 : 1 ≤ c.slew ∧ c.slew ≤ 2000
  rotate_left
  · rw [if_neg c2] at h; simp at h
  rw [if_pos c2] at h
  by_cases c3 : chkR 1000000 [c.aid, c.yld] = 0
  rotate_left
  · rw [if_neg c3] at h; exact absurd h c3
  rw [if_pos c3] at h
  by_cases c4 : c.bands.length = 0
  · rw [if_pos c4] at h; simp at h
  rw [if_neg c4] at h
  by_cases c5 : 16 < c.bands.length
  · rw [if_pos c5] at h; simp at h
  rw [if_neg c5] at h
  obtain ⟨h1, h2, h3⟩ := chkB_zero h
  have hr := chkR_zero c3
  have ha := hr c.aid (by simp)
  have hy := hr c.yld (by simp)
  have g : ∀ i, i < c.bands.length → c.bands[i]? = some (c.bands.getD i default) := fun i hi => by simp [hi]
  refine ⟨c1, c2, ⟨by omega, by omega, by omega⟩, ⟨by omega, by omega, by omega⟩, by omega, ?_, fun i hi => h3 i _ _ (g i (by omega)) (g (i + 1) hi), fun b hb => ?_⟩
  · have := h2 _ (g 0 (by omega))
    simpa [ordB] using this
  · obtain ⟨q1, q2⟩ := h1 b hb
    have q := chkR_zero q2
    have r1 := q b.conv (by simp)
    have r2 := q b.red (by simp)
    have r3 := q b.evap (by simp)
    have r4 := q b.sint (by simp)
    exact ⟨q1, ⟨by omega, by omega, by omega⟩, ⟨by omega, by omega, by omega⟩, ⟨by omega, by omega, by omega⟩, ⟨by omega, by omega, by omega⟩⟩
end Go.Proofs
