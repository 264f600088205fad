/- A part of the proof. -/
import Derived.Test.YtigaafcllfjniaaPC
set_option linter.unusedSimpArgs false
set_option linter.unusedVariables false
namespace Go.Proofs
open Go Go.Sx

theorem rate_run (w m : Int) (hm : 0 ≤ m ∧ m ≤ 1000000) : ∃ r w', RgIn r m ∧ Ans Try.prog n_kit_rate [.ptr 0 0 0 1, .int .i64 m] [some (Dr w)] (Rg.v r) [some (Dr w')] := by
  have h0 := upto_in (w := w) (n := 5) (by decide)
  have hb1 := between_ok (dstep w) 0 m (by decide) hm.1 (by omega)
  have hb2 := btw_in (w := dstep w) hm.1
  have hu := upto_in (w := dstep (dstep w)) (n := m / 4 + 1) (by omega)
  have t1 : m.tdiv 4 = m / 4 := Int.tdiv_eq_ediv_of_nonneg hm.1
  have t2 : IntKind.i64.wrap (m / 4) = m / 4 := w64 (by omega)
  have t3 : IntKind.i64.wrap (m / 4 + 1) = m / 4 + 1 := w64 (by omega)
  have t4 : IntKind.i64.wrap (btw (dstep w) 0 m + upto (dstep (dstep w)) (m / 4 + 1)) = btw (dstep w) 0 m + upto (dstep (dstep w)) (m / 4 + 1) := w64 (by omega)
  have hu5 := upto_ok w 5 (by decide)
  have hu6 := upto_ok (dstep (dstep w)) (m / 4 + 1) (by omega)
  generalize btw (dstep w) 0 m = n at *
  generalize upto (dstep (dstep w)) (m / 4 + 1) = y at *
  generalize upto w 5 = q at *
  by_cases q0 : q = 0
  · subst q0
    refine ⟨⟨0, 0⟩, dstep w, ⟨by simp, by simp, hm.1⟩, spec_run e_kit_rate fun G => ?_⟩
    simp only [go_sem]
    refine cD hu5 ?_
    simp only [go_sem, Rg.v]
    exact ⟨_, rfl⟩
  by_cases q1 : q = 1
  · subst q1
    refine ⟨⟨n, n⟩, dstep (dstep w), ⟨hb2.1, by simp, hb2.2⟩, spec_run e_kit_rate fun G => ?_⟩
    simp only [go_sem]
    refine cD hu5 ?_
    simp only [go_sem, q0]
    refine cD hb1 ?_
    simp only [go_sem, Rg.v]
    exact ⟨_, rfl⟩
  · refine ⟨⟨n, if n + y < m then n + y else m⟩, dstep (dstep (dstep w)), ⟨hb2.1, ?_, ?_⟩, spec_run e_kit_rate fun G => ?_⟩
    · dsimp only; split <;> omega
    · dsimp only; split <;> omega
    simp only [go_sem]
    refine cD hu5 ?_
    have b0 : (q == 0) = false := by simp [q0]
    have b1 : (q == 1) = false := by simp [q1]
    simp only [go_sem, b0, b1]
    refine cD hb1 ?_
    simp only [go_sem, t1, t2, t3]
    refine cD hu6 ?_
    simp only [go_sem, Rg.v, t4]
    exact ⟨_, rfl⟩

def BdR (bs : List Bd) : Row := .cells true 9 (bs.map Bd.v)
@[go_sem] theorem bdr_bel (bs : List Bd) (S : Nat → Prop) : (BdR bs).bel S = True := by unfold BdR; rw [row_bel_cells]; simp only [go_sem]

theorem sel3 (q a b c : Int) (h : 0 ≤ q ∧ q < 3) : ∃ v, (v = a ∨ v = b ∨ v = c) ∧ [AVal.int .i64 a, .int .i64 b, .int .i64 c][q.toNat]? = some (.int .i64 v) := by
  obtain rfl | rfl | rfl : q = 0 ∨ q = 1 ∨ q = 2 := by omega
  · exact ⟨a, .inl rfl, rfl⟩
  · exact ⟨b, .inr (.inl rfl), rfl⟩
  · exact ⟨c, .inr (.inr rfl), rfl⟩
theorem sel2 (q a b : Int) (h : 0 ≤ q ∧ q < 2) : ∃ v, (v = a ∨ v = b) ∧ [AVal.int .i64 a, .int .i64 b][q.toNat]? = some (.int .i64 v) := by
  obtain rfl | rfl : q = 0 ∨ q = 1 := by omega
  · exact ⟨a, .inl rfl, rfl⟩
  · exact ⟨b, .inr rfl, rfl⟩
theorem bd_snoc (xs : List Bd) (y : Bd) : List.map Bd.v xs ++ [.agg [.int .i64 y.frm, .int .i64 y.conv.lo, .int .i64 y.conv.hi, .int .i64 y.red.lo, .int .i64 y.red.hi, .int .i64 y.evap.lo, .int .i64 y.evap.hi, .int .i64 y.sint.lo, .int .i64 y.sint.hi]] = List.map Bd.v (xs ++ [y]) := by
  rw [List.map_append]; rfl

theorem RgIn.up {r : Rg} {m n : Int} (h : RgIn r m) (hmn : m ≤ n) : RgIn r n := ⟨h.lo, h.le, Int.le_trans h.hi hmn⟩

/-- What may become of a round of CoatOf. -/
theorem band_run (w from' : Int) (hf : 0 ≤ from' ∧ from' ≤ 2000) : ∃ (b : Bd) (m st w1 w2 w3 w4 w5 : Int), BdOK b ∧ b.frm = from' ∧ 1 ≤ st ∧ st ≤ 700 ∧ (m = 1000 ∨ m = 100000 ∨ m = 1000000) ∧
    (0 ≤ upto w 3 ∧ upto w 3 < 3) ∧ [AVal.int .i64 1000, .int .i64 100000, .int .i64 1000000][(upto w 3).toNat]? = some (.int .i64 m) ∧
    Ans Try.prog n_kit_rate [.ptr 0 0 0 1, .int .i64 m] [some (Dr (dstep w))] b.conv.v [some (Dr w1)] ∧
    Ans Try.prog n_kit_rate [.ptr 0 0 0 1, .int .i64 m] [some (Dr w1)] b.red.v [some (Dr w2)] ∧
    Ans Try.prog n_kit_rate [.ptr 0 0 0 1, .int .i64 (m / 4)] [some (Dr w2)] b.evap.v [some (Dr w3)] ∧
    Ans Try.prog n_kit_rate [.ptr 0 0 0 1, .int .i64 9] [some (Dr w3)] b.sint.v [some (Dr w4)] ∧
    Ans Try.prog n_kit_Dice_Between [.ptr 0 0 0 1, .int .i64 1, .int .i64 700] [some (Dr w4)] (.int .i64 st) [some (Dr w5)] := by
  have hq := upto_in (w := w) (n := 3) (by decide)
  obtain ⟨m, hm, hsel⟩ := sel3 (upto w 3) 1000 100000 1000000 hq
  have hm2 : 0 ≤ m ∧ m ≤ 1000000 := by omega
  obtain ⟨r1, w1, a1, b1⟩ := rate_run (dstep w) m hm2
  obtain ⟨r2, w2, a2, b2⟩ := rate_run w1 m hm2
  obtain ⟨r3, w3, a3, b3⟩ := rate_run w2 (m / 4) (by omega)
  obtain ⟨r4, w4, a4, b4⟩ := rate_run w3 9 (by decide)
  have hb := btw_in (w := w4) (lo := 1) (hi := 700) (by decide)
  exact ⟨⟨from', r1, r2, r3, r4⟩, m, btw w4 1 700, w1, w2, w3, w4, dstep w4, ⟨hf, a1.up hm2.2, a2.up hm2.2, a3.up (by omega), a4.up (by decide)⟩, rfl, hb.1, hb.2, hm, hq, hsel, b1, b2, b3, b4, between_ok w4 1 700 (by decide) (by decide) (by decide)⟩

set_option maxHeartbeats 2000000 in
theorem coatOf_run (w : Int) : AnsE Try.prog n_kit_CoatOf [.ptr 0 0 0 1] [some (Dr w)] (fun a : Ct × Int => CtOK a.1) (fun a => a.1.v (.sl 1 0 a.1.bands.length)) (fun a => [some (Dr a.2), some (BdR a.1.bands)]) := by
  refine AnsE.keep (run_fn e_kit_CoatOf fun G => ?_) (fun a ha => ⟨by simp, by simp [go_sem, Ct.v, Ct.cs], by simp only [go_sem], by simp only [go_sem], trivial⟩)
  have g1 := btw_in (w := w) (lo := 1) (hi := 20) (by decide)
  have g2 := btw_in (w := dstep w) (lo := 1) (hi := 2000) (by decide)
  have g3 := btw_in (w := dstep (dstep w)) (lo := 1) (hi := 1000000) (by decide)
  have q1 := upto_in (w := dstep (dstep (dstep w))) (n := 3) (by decide)
  obtain ⟨am, ham, hs1⟩ := sel3 _ (btw w 1 20) (btw (dstep w) 1 2000) (btw (dstep (dstep w)) 1 1000000) q1
  have hu1 := upto_ok (dstep (dstep (dstep w))) 3 (by decide)
  have g4 := btw_in (w := dstep (dstep (dstep (dstep w)))) (lo := 1) (hi := 300) (by decide)
  have q2 := upto_in (w := dstep (dstep (dstep (dstep (dstep w))))) (n := 2) (by decide)
  obtain ⟨sl, hsl, hs2⟩ := sel2 _ (btw (dstep (dstep (dstep (dstep w)))) 1 300) 2000 q2
  have hu2 := upto_ok (dstep (dstep (dstep (dstep (dstep w))))) 2 (by decide)
  obtain ⟨aid, w7, haid, raid⟩ := rate_run (dstep (dstep (dstep (dstep (dstep (dstep w)))))) 500 (by decide)
  obtain ⟨yl, w8, hyl, ryl⟩ := rate_run w7 1000000 (by decide)
  have g5 := btw_in (w := w8) (lo := 1) (hi := 4) (by decide)
  have bt5 := between_ok w8 1 4 (by decide) (by decide) (by decide)
  have n1 : ¬ upto (dstep (dstep (dstep w))) 3 < 0 := by omega
  have n2 : upto (dstep (dstep (dstep w))) 3 < 3 := q1.2
  have n3 : ¬ upto (dstep (dstep (dstep (dstep (dstep w))))) 2 < 0 := by omega
  have n4 : upto (dstep (dstep (dstep (dstep (dstep w))))) 2 < 2 := q2.2
  generalize btw w8 1 4 = cnt at *
  have p44 : 72 ≤ 2 ^ 44 := by decide
  obtain ⟨b, mb, stb, wab, wbb, wcb, wdb, web, hbkb, hbfb, hstb, hst2b, hmb, hqab, hselb, e1b, e2b, e3b, e4b, e5b⟩ := band_run (dstep w8) 0 (by decide)
  have hub := upto_ok (dstep w8) 3 (by decide)
  have t1b : mb.tdiv 4 = mb / 4 := Int.tdiv_eq_ediv_of_nonneg (by omega)
  have t2b : IntKind.i64.wrap (mb / 4) = mb / 4 := w64 (by omega)
  have hq1b : ¬ upto (dstep w8) 3 < 0 := by omega
  have hq2b : upto (dstep w8) 3 < 3 := hqab.2
  have hcnt : 0 < cnt := by omega
  have u1 : IntKind.i64.wrap (cnt - 1) = cnt - 1 := w64 (by omega)
  have u2 : IntKind.i64.wrap (0 + stb) = stb := by rw [w64 (by omega)]; omega
  simp only [go_sem]
  refine dD (between_ok w 1 20 (by decide) (by decide) (by decide)) ?_
  simp only [go_sem]
  refine dD (between_ok _ 1 2000 (by decide) (by decide) (by decide)) ?_
  simp only [go_sem]
  refine dD (between_ok _ 1 1000000 (by decide) (by decide) (by decide)) ?_
  simp only [go_sem]
  refine dD hu1 ?_
  simp only [go_sem, n1, n2, hs1]
  refine dD (between_ok _ 1 300 (by decide) (by decide) (by decide)) ?_
  simp only [go_sem]
  refine dD hu2 ?_
  simp only [go_sem, n3, n4, hs2]
  refine dD raid ?_
  simp only [go_sem]
  refine dD ryl ?_
  simp only [go_sem, Rg.v]
  refine cD bt5 ?_
  simp only [go_sem]
  refine loop_body 200 k_kit_CoatOf_r9.eq_1 ?_
  simp only [go_sem, hcnt]
  refine cD hub ?_
  simp only [go_sem, hq1b, hq2b, hselb]
  refine dD e1b ?_
  simp only [go_sem]
  refine dD e2b ?_
  simp only [go_sem, t1b, t2b]
  refine dD e3b ?_
  simp only [go_sem]
  refine dD e4b ?_
  simp only [go_sem, Rg.v, p44]
  refine cD e5b ?_
  simp only [go_sem, u1, u2]
  generalize some (Row.cells false 1 [.int .i64 (btw w 1 20), .int .i64 (btw (dstep w) 1 2000), .int .i64 (btw (dstep (dstep w)) 1 1000000)]) = Y2
  generalize some (Row.cells false 1 [.int .i64 (btw (dstep (dstep (dstep (dstep w)))) 1 300), .int .i64 2000]) = Y3
  generalize some (Row.cells false 1 [.int .i64 1000, .int .i64 100000, .int .i64 1000000]) = Y5
  have e0 : [AVal.agg [.int .i64 0, .int .i64 b.conv.lo, .int .i64 b.conv.hi, .int .i64 b.red.lo, .int .i64 b.red.hi, .int .i64 b.evap.lo, .int .i64 b.evap.hi, .int .i64 b.sint.lo, .int .i64 b.sint.hi]] = List.map Bd.v [b] := by rw [← hbfb]; rfl
  rw [e0]
  refine loop_ind k_kit_CoatOf_r9.eq_1 (fun a : Int × Int × Int × List Bd × Heap => 0 ≤ a.1 ∧ a.2.2.2.1.length + a.1 ≤ 4 ∧ 0 ≤ a.2.1 ∧ a.2.1 ≤ 3000 ∧ Bands a.2.2.2.1 a.2.1) (fun a => a.1.toNat)
    (fun a => (tsets 69 [(0, .ptr 0 0 0 1), (2, .ptr 1 0 0 1), (3, .ptr 4 0 0 1), (4, .int .i64 a.2.1), (5, .int .i64 a.1)],
      some (Dr a.2.2.1) :: some (.cells false 7 [.agg [.int .i64 0, .int .i64 0, .int .i64 0, .int .i64 0, .int .i64 0, .int .i64 0, .nilsl]]) :: Y2 :: Y3 ::
        some (.cells false 7 [.agg [.int .i64 am, .int .i64 sl, .int .i64 aid.lo, .int .i64 aid.hi, .int .i64 yl.lo, .int .i64 yl.hi, .sl 7 0 a.2.2.2.1.length]]) :: Y5 :: some (.cells false 9 (List.map Bd.v [b])) :: some (.cells true 9 (a.2.2.2.1.map Bd.v)) :: a.2.2.2.2))
    (cnt - 1, stb, web, [b], []) ⟨by dsimp only; omega, by simp; omega, by dsimp only; omega, by dsimp only; omega, Bands.one hbkb hbfb (show 0 < stb by omega)⟩ (by simp [go_sem]) rfl ?_
  rintro ⟨i, frm, w', bs, X⟩ ⟨hi0, hil, hf0, hf1, hbs⟩ ih
  dsimp only at hi0 hil hf0 hf1 hbs ih ⊢
  by_cases c1 : 0 < i
  · by_cases c2 : frm ≤ 2000
    · obtain ⟨z, mz, stz, waz, wbz, wcz, wdz, wez, hbkz, hbfz, hstz, hst2z, hmz, hqaz, hselz, e1z, e2z, e3z, e4z, e5z⟩ := band_run w' frm ⟨hf0, c2⟩
      have huz := upto_ok w' 3 (by decide)
      have t1z : mz.tdiv 4 = mz / 4 := Int.tdiv_eq_ediv_of_nonneg (by omega)
      have t2z : IntKind.i64.wrap (mz / 4) = mz / 4 := w64 (by omega)
      have hq1z : ¬ upto w' 3 < 0 := by omega
      have hq2z : upto w' 3 < 3 := hqaz.2
      have v1 : IntKind.i64.wrap (i - 1) = i - 1 := w64 (by omega)
      have v2 : IntKind.i64.wrap (frm + stz) = frm + stz := w64 (by omega)
      have q44 : (bs.length + 1) * 72 ≤ 2 ^ 44 := by omega
      have e1 : ∀ xs : List Bd, List.map Bd.v xs ++ [AVal.agg [.int .i64 frm, .int .i64 z.conv.lo, .int .i64 z.conv.hi, .int .i64 z.red.lo, .int .i64 z.red.hi, .int .i64 z.evap.lo, .int .i64 z.evap.hi, .int .i64 z.sint.lo, .int .i64 z.sint.hi]] = List.map Bd.v (xs ++ [z]) := fun xs => by rw [← hbfz]; exact bd_snoc xs z
      simp only [go_sem, c1, c2]
      refine cD huz ?_
      simp only [go_sem, hq1z, hq2z, hselz]
      refine dD e1z ?_
      simp only [go_sem]
      refine dD e2z ?_
      simp only [go_sem, t1z, t2z]
      refine dD e3z ?_
      simp only [go_sem]
      refine dD e4z ?_
      simp only [go_sem, Rg.v, q44]
      refine ⟨by simp <;> omega, ?_⟩
      refine cD e5z ?_
      simp only [go_sem, v1, v2, e1]
      rw [show bs.length + 1 = (bs ++ [z]).length by simp]
      exact ih (i - 1, frm + stz, wez, bs ++ [z], _) (by dsimp only; omega) ⟨by dsimp only; omega, by simp; omega, by dsimp only; omega, by dsimp only; omega, hbs.snoc hbkz hbfz (show frm < frm + stz by omega)⟩ _ (by simp [go_sem])
    · simp only [go_sem, c1, c2]
      refine ⟨(⟨am, sl, aid, yl, bs⟩, w'), ⟨⟨?_, ?_⟩, ⟨?_, ?_⟩, haid.up (by decide), hyl, ⟨hbs.len, ?_⟩, hbs.first, hbs.asc, hbs.all⟩, kept_two 7 (by decide) ?_ (by simp only [go_sem]) (by simp only [go_sem]) ?_ ?_⟩
      all_goals first | (dsimp only; omega) | rfl
  · simp only [go_sem, c1]
    refine ⟨(⟨am, sl, aid, yl, bs⟩, w'), ⟨⟨?_, ?_⟩, ⟨?_, ?_⟩, haid.up (by decide), hyl, ⟨hbs.len, ?_⟩, hbs.first, hbs.asc, hbs.all⟩, kept_two 7 (by decide) ?_ (by simp only [go_sem]) (by simp only [go_sem]) ?_ ?_⟩
    all_goals first | (dsimp only; omega) | rfl
end Go.Proofs
namespace Go.Proofs
open Go Go.Sx

@[go_sem] theorem ht_bel (x : Ht) (S : Nat → Prop) : Bel S x.v = True := by unfold Ht.v Ht.cs; simp only [go_sem]
theorem ht_snoc (xs : List Ht) (y : Ht) : List.map Ht.v xs ++ [.agg [.int .i64 y.ticks, .int .i64 y.heat, .int .i64 y.cur]] = List.map Ht.v (xs ++ [y]) := by
  rw [List.map_append]; rfl

theorem heating_run (w ticks : Int) (ht : 1 ≤ ticks ∧ ticks ≤ 2000) : ∃ (h : Ht), HtOK h ∧ h.ticks ≤ ticks ∧ h.ticks = btw w 1 ticks ∧
    [AVal.int .i64 (btw (dstep w) 0 800), .int .i64 (btw (dstep (dstep w)) 600 2000), .int .i64 300][(upto (dstep (dstep (dstep w))) 3).toNat]? = some (.int .i64 h.heat) ∧ 0 ≤ upto (dstep (dstep (dstep w))) 3 ∧ upto (dstep (dstep (dstep w))) 3 < 3 ∧
    [AVal.int .i64 0, .int .i64 (upto (dstep (dstep (dstep (dstep w)))) 50), .int .i64 (upto (dstep (dstep (dstep (dstep (dstep w))))) 1001)][(upto (dstep (dstep (dstep (dstep (dstep (dstep w)))))) 3).toNat]? = some (.int .i64 h.cur) ∧ 0 ≤ upto (dstep (dstep (dstep (dstep (dstep (dstep w)))))) 3 ∧ upto (dstep (dstep (dstep (dstep (dstep (dstep w)))))) 3 < 3 := by
  have a1 := btw_in (w := w) (lo := 1) (hi := ticks) ht.1
  have a2 := btw_in (w := (dstep w)) (lo := 0) (hi := 800) (by decide)
  have a3 := btw_in (w := (dstep (dstep w))) (lo := 600) (hi := 2000) (by decide)
  have q1 := upto_in (w := (dstep (dstep (dstep w)))) (n := 3) (by decide)
  have a4 := upto_in (w := (dstep (dstep (dstep (dstep w))))) (n := 50) (by decide)
  have a5 := upto_in (w := (dstep (dstep (dstep (dstep (dstep w)))))) (n := 1001) (by decide)
  have q2 := upto_in (w := (dstep (dstep (dstep (dstep (dstep (dstep w))))))) (n := 3) (by decide)
  obtain ⟨v1, hv1, s1⟩ := sel3 _ (btw (dstep w) 0 800) (btw (dstep (dstep w)) 600 2000) 300 q1
  obtain ⟨v2, hv2, s2⟩ := sel3 _ 0 (upto (dstep (dstep (dstep (dstep w)))) 50) (upto (dstep (dstep (dstep (dstep (dstep w))))) 1001) q2
  exact ⟨⟨btw w 1 ticks, v1, v2⟩, ⟨by dsimp only; omega, by dsimp only; omega, by dsimp only; omega⟩, a1.2, rfl, s1, q1.1, q1.2, s2, q2.1, q2.2⟩

set_option maxHeartbeats 2000000 in
theorem scheduleOf_run (w most ticks : Int) (hm : 0 ≤ most ∧ most ≤ 40) (ht : 1 ≤ ticks ∧ ticks ≤ 2000) :
    AnsE Try.prog n_kit_ScheduleOf [.ptr 0 0 0 1, .int .i64 most, .int .i64 ticks] [some (Dr w)] (fun a : List Ht × Int => Sch a.1 most ticks) (fun a => slv 1 (a.1.map Ht.v)) (fun a => some (Dr a.2) :: slr 3 (a.1.map Ht.v)) := by
  have hu := upto_ok w (most + 1) (by omega)
  have hq := upto_in (w := w) (n := most + 1) (by omega)
  have u0 : IntKind.i64.wrap (most + 1) = most + 1 := w64 (by omega)
  generalize upto w (most + 1) = n at *
  refine AnsE.keep (run_fn e_kit_ScheduleOf fun G => ?_) (fun a ha => ⟨by simp, ?_, by simp only [go_sem], ?_⟩)
  rotate_left
  · unfold slv slr slrG
    split
    · exact .nilsl
    · rw [bel_sl]; simp
  · unfold slr slrG
    split
    · trivial
    · exact ⟨by rw [row_bel_cells]; simp only [go_sem], trivial⟩
  obtain ⟨z, zok, zt, ze, zs1, zq1, zn2, zs2, zq3, zn4⟩ := heating_run (dstep w) ticks ht
  have zn1 : ¬ upto (dstep (dstep (dstep (dstep w)))) 3 < 0 := by omega
  have zn3 : ¬ upto (dstep (dstep (dstep (dstep (dstep (dstep (dstep w))))))) 3 < 0 := by omega
  have p44 : 24 ≤ 2 ^ 44 := by decide
  have u1 : IntKind.i64.wrap (n - 1) = n - 1 := w64 (by omega)
  by_cases hn : 0 < n
  · simp only [go_sem, u0]
    refine cD hu ?_
    simp only [go_sem]
    refine loop_body 200 k_kit_ScheduleOf_r6.eq_1 ?_
    simp only [go_sem, hn]
    refine dD (between_ok _ 1 ticks (by decide) ht.1 (by omega)) ?_
    simp only [go_sem]
    refine dD (between_ok _ 0 800 (by decide) (by decide) (by decide)) ?_
    simp only [go_sem]
    refine dD (between_ok _ 600 2000 (by decide) (by decide) (by decide)) ?_
    simp only [go_sem]
    refine dD (upto_ok _ 3 (by decide)) ?_
    simp only [go_sem, zn1, zn2, zs1]
    refine dD (upto_ok _ 50 (by decide)) ?_
    simp only [go_sem]
    refine dD (upto_ok _ 1001 (by decide)) ?_
    simp only [go_sem]
    refine dD (upto_ok _ 3 (by decide)) ?_
    simp only [go_sem, zn3, zn4, zs2, p44]
    simp only [u1]
    generalize some (Row.cells false 1 [.int .i64 (btw (dstep (dstep w)) 0 800), .int .i64 (btw (dstep (dstep (dstep w))) 600 2000), .int .i64 300]) = Y1
    generalize some (Row.cells false 1 [.int .i64 0, .int .i64 (upto (dstep (dstep (dstep (dstep (dstep w))))) 50), .int .i64 (upto (dstep (dstep (dstep (dstep (dstep (dstep w)))))) 1001)]) = Y2
    have e0 : [AVal.agg [.int .i64 (btw (dstep w) 1 ticks), .int .i64 z.heat, .int .i64 z.cur]] = List.map Ht.v [z] := by rw [← ze]; rfl
    rw [e0]
    refine loop_ind k_kit_ScheduleOf_r6.eq_1 (fun a : Int × Int × List Ht × Heap => 0 ≤ a.1 ∧ a.2.2.1.length + a.1 ≤ most ∧ 1 ≤ a.2.2.1.length ∧ Sch a.2.2.1 most ticks) (fun a => a.1.toNat)
      (fun a => (tsets 43 [(0, .ptr 0 0 0 1), (1, .int .i64 most), (2, .int .i64 ticks), (6, .nilsl), (7, .sl 4 0 a.2.2.1.length), (8, .int .i64 a.1)],
        some (Dr a.2.1) :: Y1 :: Y2 :: some (.cells false 3 (List.map Ht.v [z])) :: some (.cells true 3 (a.2.2.1.map Ht.v)) :: a.2.2.2))
      (n - 1, _, [z], []) ⟨by dsimp only; omega, by simp; omega, by simp, ⟨by simp; omega, fun x hx => by simp at hx; subst hx; exact ⟨zok, zt⟩⟩⟩ (by simp [go_sem]) rfl ?_
    rintro ⟨i, w', l, X⟩ ⟨hi0, hil, hl1, hl⟩ ih
    dsimp only at hi0 hil hl1 hl ih ⊢
    by_cases c1 : 0 < i
    · obtain ⟨y, yok, yt, ye, ys1, yq1, yn2, ys2, yq3, yn4⟩ := heating_run w' ticks ht
      have yn1 : ¬ upto (dstep (dstep (dstep w'))) 3 < 0 := by omega
      have yn3 : ¬ upto (dstep (dstep (dstep (dstep (dstep (dstep w')))))) 3 < 0 := by omega
      have v1 : IntKind.i64.wrap (i - 1) = i - 1 := w64 (by omega)
      have q44 : (l.length + 1) * 24 ≤ 2 ^ 44 := by omega
      have e1 : ∀ xs : List Ht, List.map Ht.v xs ++ [AVal.agg [.int .i64 (btw w' 1 ticks), .int .i64 y.heat, .int .i64 y.cur]] = List.map Ht.v (xs ++ [y]) := fun xs => by rw [← ye]; exact ht_snoc xs y
      simp only [go_sem, c1]
      refine dD (between_ok _ 1 ticks (by decide) ht.1 (by omega)) ?_
      simp only [go_sem]
      repeat refine ⟨by first | omega | (simp; done) | (simp; omega), ?_⟩
      refine dD (between_ok _ 0 800 (by decide) (by decide) (by decide)) ?_
      simp only [go_sem]
      repeat refine ⟨by first | omega | (simp; done) | (simp; omega), ?_⟩
      refine dD (between_ok _ 600 2000 (by decide) (by decide) (by decide)) ?_
      simp only [go_sem]
      repeat refine ⟨by first | omega | (simp; done) | (simp; omega), ?_⟩
      refine dD (upto_ok _ 3 (by decide)) ?_
      simp only [go_sem, yn1, yn2, ys1]
      repeat refine ⟨by first | omega | (simp; done) | (simp; omega), ?_⟩
      refine dD (upto_ok _ 50 (by decide)) ?_
      simp only [go_sem]
      repeat refine ⟨by first | omega | (simp; done) | (simp; omega), ?_⟩
      refine dD (upto_ok _ 1001 (by decide)) ?_
      simp only [go_sem]
      repeat refine ⟨by first | omega | (simp; done) | (simp; omega), ?_⟩
      refine dD (upto_ok _ 3 (by decide)) ?_
      simp only [go_sem, yn3, yn4, ys2, q44]
      repeat refine ⟨by first | omega | (simp; done) | (simp; omega), ?_⟩
      simp only [e1, v1]
      rw [show l.length + 1 = (l ++ [y]).length by simp]
      exact ih (i - 1, _, l ++ [y], _) (by dsimp only; omega) ⟨by dsimp only; omega, by simp; omega, by simp, hl.snoc ⟨yok, yt⟩ (by omega)⟩ _ (by simp [go_sem])
    · simp only [go_sem, c1]
      refine ⟨(l, w'), hl, ?_⟩
      have hne : List.map Ht.v l ≠ [] := fun h => by
        have : l.length = 0 := by simpa using congrArg List.length h
        omega
      simp only [slv, slr, slrG, hne, if_false]
      exact kept_two 4 (by decide) (by simp [ren]) (by simp only [go_sem]) (by rw [row_bel_cells]; simp only [go_sem]) rfl rfl
  · simp only [go_sem, u0]
    refine cD hu ?_
    simp only [go_sem]
    refine loop_body 200 k_kit_ScheduleOf_r6.eq_1 ?_
    simp only [go_sem, hn]
    exact ⟨([], dstep w), ⟨by simp; omega, fun x hx => by simp at hx⟩, fun i => i, ⟨fun i hi => rfl, fun i j _ _ h => h, rfl, fun i x hx => by
      match i, hx with
      | 0, hx => simp [slr, slrG] at hx; subst hx; rfl
      | i + 1, hx => simp [slr, slrG] at hx⟩⟩
/-- The same; the schedule's row stands still. -/
theorem scheduleOf_set (w most ticks : Int) (hm : 0 ≤ most ∧ most ≤ 40) (ht : 1 ≤ ticks ∧ ticks ≤ 2000) :
    AnsE Try.prog n_kit_ScheduleOf [.ptr 0 0 0 1, .int .i64 most, .int .i64 ticks] [some (Dr w)] (fun a : List Ht × Int => Sch a.1 most ticks) (fun a => slv 1 (a.1.map Ht.v)) (fun a => some (Dr a.2) :: slrG false 3 (a.1.map Ht.v)) := by
  have e : ∀ a : List Ht × Int, settleFrom 1 (some (Dr a.2) :: slr 3 (a.1.map Ht.v)) = some (Dr a.2) :: slrG false 3 (a.1.map Ht.v) := fun a => by
    unfold slr slrG
    split <;> rfl
  have h := (scheduleOf_run w most ticks hm ht).settle (fun a ha => ⟨by simp, ?_, by simp only [go_sem], ?_⟩) (fun a ha => ⟨?_, fun i x hx => ?_⟩)
  · intro G
    have := h G
    simp only [List.length_singleton, e] at this
    exact this
  · unfold slv slr slrG
    split
    · exact .nilsl
    · rw [bel_sl]; simp
  · unfold slr slrG
    split
    · trivial
    · exact ⟨by rw [row_bel_cells]; simp only [go_sem], trivial⟩
  · unfold slv slr slrG
    by_cases h0 : List.map Ht.v a.1 = []
    · simp only [h0, if_true]; exact .nilsl
    · simp only [h0, if_false]; exact .sl _ _ _ (by simp [lenIn, rowLen])
  · match i, hx with
    | 0, hx =>
      simp only [List.getElem?_cons_zero, Option.some.injEq] at hx
      subst hx
      show Fuls _ [AVal.agg [.int .u64 a.2]]
      exact ⟨by rw [ful_agg]; exact ⟨.int _ _, trivial⟩, trivial⟩
    | 1, hx =>
      unfold slr slrG at hx
      split at hx
      · simp at hx
      · simp only [List.getElem?_cons_succ, List.getElem?_cons_zero, Option.some.injEq] at hx
        subst hx
        exact fuls_map _ _ fun x => by unfold Ht.v; rw [ful_agg]; exact ⟨.int _ _, .int _ _, .int _ _, trivial⟩
    | i + 2, hx =>
      unfold slr slrG at hx
      split at hx <;> simp at hx
end Go.Proofs
namespace Go.Proofs
open Go Go.Sx
def yes : Option (AVal × Heap) → Bool
  | some (.bool b, _) => b
  | _ => false
theorem yes_ans {P : Program} (hm : P.follows .mixedOrders = true) {tab : Nat → Option AFun} (hT : ∀ g af, tab g = some af → EntryOK P g af) {m n g : Nat} (h : yes (exFn tab m n g [] []) = true) : Ans P g [] [] (.bool true) [] := by
  match hx : exFn tab m n g [] [] with
  | none => rw [hx] at h; cases h
  | some (v, H') =>
    rw [hx] at h
    cases v <;> try (cases h; done)
    rename_i b
    have hb : b = true := h
    subst hb
    exact (spec_ex hm hT hx).mono fun v H'' hv => ⟨hv.1, H'', rfl⟩
theorem awake_yes : yes (exFn tab 3000 40 n_law03_awake [] []) = true := by kernel_rfl
theorem awake_ok : Ans Try.prog n_law03_awake [] [] (.bool true) [] := yes_ans mixed tab_ok awake_yes
end Go.Proofs
namespace Go.Proofs
open Go Go.Sx

@[go_sem] theorem ct_bel (x : Ct) (t : AVal) (S : Nat → Prop) : Bel S (x.v t) = Bel S t := by unfold Ct.v Ct.cs; simp only [go_sem]
theorem hts_frz (l : List Ht) (d : Nat) (H : Heap) : (l.map Ht.v).map (frz (d + 2) H) = l.map Ht.v := by rw [List.map_map]; rfl
/-- A coat whose bands lie in a row, as it is seen by one who only reads. -/
theorem ct_frz {c : Ct} {H : Heap} {j : Nat} (h : H[j]? = some (some (BdR c.bands))) : frz 6 H (c.v (.sl j 0 c.bands.length)) = c.v (.view (c.bands.map Bd.v)) := by
  have h1 : frz 5 H (.sl j 0 c.bands.length) = .view (c.bands.map Bd.v) := by
    rw [frz_sl (d := 4) h (by simp), bds_frz]
  show AVal.agg [_, _, _, _, _, _, frz 5 H (.sl j 0 c.bands.length)] = _
  rw [h1]; rfl

/-- A schedule in a row, as it is seen by one who only reads. -/
theorem sch_frz {l : List Ht} {H : Heap} {j n : Nat} {gr : Bool} (h : H[j]? = some (some (.cells gr 3 (l.map Ht.v)))) (hn : n = l.length) : frz 6 H (.sl j 0 n) = .view (l.map Ht.v) := by
  rw [frz_sl (d := 5) h (by simpa using hn), hts_frz]
@[go_sem] theorem cgr_nv (xs : List Cg) : (CgR xs).nv = True := eq_true (row_nv_cells _ _ (nvs_map _ _ fun x => by simp only [go_sem]))
theorem ht_cells (l : List Ht) : ∀ e ∈ l.map Ht.v, (acells e).length = 3 := fun e he => by
  obtain ⟨h, _, rfl⟩ := List.mem_map.1 he; rfl
theorem hts_sized (l : List Ht) : sizedAll 3 (l.map Ht.v) = true := by
  unfold sizedAll
  rw [List.all_eq_true]
  intro e he
  obtain ⟨h, _, rfl⟩ := List.mem_map.1 he; rfl
theorem sized_sub {n : Nat} {l l' : List AVal} (h : sizedAll n l = true) (hs : ∀ v ∈ l', v ∈ l) : sizedAll n l' = true := by
  unfold sizedAll at h ⊢
  rw [List.all_eq_true] at h ⊢
  exact fun v hv => h v (hs v hv)
@[go_sem high] theorem sized_t (l : List Ht) (m : Nat) : sizedAll 3 (List.take m (List.map Ht.v l)) = true := sized_sub (hts_sized l) fun v hv => List.mem_of_mem_take hv
@[go_sem high] theorem sized_d (l : List Ht) (m : Nat) : sizedAll 3 (List.drop m (List.map Ht.v l)) = true := sized_sub (hts_sized l) fun v hv => List.mem_of_mem_drop hv
@[go_sem high] theorem sized_td (l : List Ht) (m k : Nat) : sizedAll 3 (List.take m (List.drop k (List.map Ht.v l))) = true := sized_sub (hts_sized l) fun v hv => List.mem_of_mem_drop (List.mem_of_mem_take hv)
end Go.Proofs
namespace Go.Proofs
open Go Go.Sx

@[go_sem] theorem nat_beq_s0 (n : Nat) : (n + 1 == 0) = false := by simp
@[go_sem] theorem nat_beq_0s (n : Nat) : (0 == n + 1) = false := by simp
@[go_sem] theorem nat_beq_ss (a b : Nat) : (a + 1 == b + 1) = (a == b) := by simp
@[go_sem] theorem ct_nv (x : Ct) (t : AVal) : NV (x.v t) = NV t := by unfold Ct.v Ct.cs; simp only [go_sem]
@[go_sem] theorem bdr_nv (bs : List Bd) : (BdR bs).nv = True := eq_true (row_nv_cells _ _ (nvs_map _ _ fun x => by simp only [go_sem]))
theorem bd_set (bs : List Bd) (i : Nat) (y : Bd) : (List.map Bd.v bs).set i (.agg [.int .i64 y.frm, .int .i64 y.conv.lo, .int .i64 y.conv.hi, .int .i64 y.red.lo, .int .i64 y.red.hi, .int .i64 y.evap.lo, .int .i64 y.evap.hi, .int .i64 y.sint.lo, .int .i64 y.sint.hi]) = List.map Bd.v (bs.set i y) := by
  rw [List.map_set]; rfl
theorem ct_frz2 {c : Ct} {H : Heap} {j n : Nat} (h : H[j]? = some (some (BdR c.bands))) (hn : n = c.bands.length) : frz 6 H (c.v (.sl j 0 n)) = c.v (.view (c.bands.map Bd.v)) := by
  subst hn; exact ct_frz h
theorem range_run (w lo hi : Int) (h1 : -1152921504606846976 ≤ lo) (h2 : lo ≤ hi) (h3 : hi ≤ 1152921504606846976) : Ans Try.prog n_kit_Dice_Range [.ptr 0 0 0 1, .int .i64 lo, .int .i64 hi] [some (Dr w)] (rngR w lo hi).v [some (Dr (dstep (dstep w)))] := by
  refine spec_run e_kit_Dice_Range fun G => ?_
  simp only [go_sem]
  refine cD (between_ok w lo hi h1 h2 h3) ?_
  simp only [go_sem]
  refine cD (between_ok (dstep w) lo hi h1 h2 h3) ?_
  simp only [go_sem]
  exact ⟨rfl, _, rfl⟩

theorem bds_sized (l : List Bd) : sizedAll 9 (l.map Bd.v) = true := by
  unfold sizedAll
  rw [List.all_eq_true]
  intro e he
  obtain ⟨h, _, rfl⟩ := List.mem_map.1 he; rfl

theorem Copy_run (c : Ct) (hc : CtOK c) : Ans Try.prog n_ref03_Copy [c.v (.view (c.bands.map Bd.v))] [] (c.v (.sl 0 0 c.bands.length)) [some (BdR c.bands)] := by
  have hl := hc.len
  have d1 : c.bands.length * 72 ≤ 2 ^ 44 := by omega
  have d2 := bds_sized c.bands
  refine Ans.keep (run_fn e_ref03_Copy fun G => ?_) (Nat.zero_le _) (by simp [go_sem, Ct.v, Ct.cs]) ⟨by simp only [go_sem], trivial⟩
  simp only [go_sem, Ct.v, Ct.cs, d1, d2]
  exact kept_one 2 rfl (by simp only [go_sem]) rfl

theorem within3_run (a b : Rg) (h : RgSub a b) : Ans Try.prog n_kit_Within [a.v, b.v] [] (.bool true) [] := by
  refine spec_run e_kit_Within fun G => ?_
  simp only [go_sem, Rg.v, h.lo, h.hi]

theorem Emission_run (c : Ct) (hc : CtOK c) (x : Cg) (hx : CgOK c x) : Ans Try.prog n_cathode_Emission [c.v (.view (c.bands.map Bd.v)), x.v] [] (.tup [(parts x.ba c.yld).v, .int .i64 0]) [] := by
  refine spec_run e_cathode_Emission fun G => ?_
  simp only [go_sem, Ct.v, Ct.cs, Cg.v, Cg.cs]
  refine cP (CheckCoating_run c hc x hx) ?_
  simp only [go_sem]
  refine cP (parts_ok _ _ (hx.ba.b hc.amount.2) (hc.yld.b (by decide))) ?_
  simp only [go_sem, Rg.v]

theorem Follow_nil (c : Ct) (hc : CtOK c) : Ans Try.prog n_cathode_Follow [c.v (.view (c.bands.map Bd.v)), .view []] [] (.tup [.nilsl, .int .i64 0]) [] := by
  have hl : LsOK [] := ⟨by simp, fun h hh => by simp at hh, by simp [lenOfL]⟩
  have hcs : Ans Try.prog n_cathode_CheckSchedule [.view []] [] (.int .i64 0) [] := CheckSchedule_run [] hl
  refine spec_run e_cathode_Follow fun G => ?_
  simp only [go_sem, Ct.v, Ct.cs]
  refine cP (Check_run c hc) ?_
  simp only [go_sem]
  refine cP hcs ?_
  simp only [go_sem]
  refine cP (fresh_run c) ?_
  simp only [go_sem, Cg.v, Cg.cs]
  refine loop_body 200 k_cathode_Follow_r19.eq_1 ?_
  simp only [go_sem]
end Go.Proofs
namespace Go.Proofs
open Go Go.Sx

structure Mx where
  carb : Int
  ox : Int
  ba : Int
  lost : Int
  deriving Inhabited, DecidableEq
def Mx.cs (m : Mx) : List AVal := [.int .i64 m.carb, .int .i64 m.ox, .int .i64 m.ba, .int .i64 m.lost]
def Mx.v (m : Mx) : AVal := .agg m.cs
@[go_sem] theorem mx_bel (x : Mx) (S : Nat → Prop) : Bel S x.v = True := by unfold Mx.v Mx.cs; simp only [go_sem]
@[go_sem] theorem mx_nv (x : Mx) : NV x.v = True := by unfold Mx.v Mx.cs; simp only [go_sem]
@[go_sem] theorem mxs_bel (l : List Mx) (S : Nat → Prop) : Bels S (l.map Mx.v) = True := eq_true (bels_map _ _ fun b => by simp only [go_sem])

/-- The ticks of a schedule, one by one. -/
def flat : List Ht → List Ht
  | [] => []
  | h :: l => List.replicate h.ticks.toNat h ++ flat l
theorem flat_app : ∀ a b : List Ht, flat (a ++ b) = flat a ++ flat b
  | [], b => rfl
  | h :: a, b => by simp [flat, flat_app a b]
theorem flat_succ {l : List Ht} {i : Nat} {h : Ht} (hi : l[i]? = some h) : flat (l.take (i + 1)) = flat (l.take i) ++ List.replicate h.ticks.toNat h := by
  rw [List.take_add_one, hi, flat_app]; simp [flat]
theorem flat_len : ∀ {l : List Ht}, (∀ x ∈ l, HtOK x) → ((flat l).length : Int) = lenOfL l
  | [], _ => rfl
  | h :: l, hl => by
    have h1 := (hl h (by simp)).ticks
    have h2 := flat_len (l := l) fun x hx => hl x (by simp [hx])
    simp only [flat, lenOfL, List.length_append, List.length_replicate]; omega
theorem flat_mem : ∀ {l : List Ht} {z : Ht}, z ∈ flat l → z ∈ l
  | [], _, h => by simp [flat] at h
  | h :: l, z, hz => by
    simp only [flat, List.mem_append, List.mem_replicate] at hz
    rcases hz with ⟨_, rfl⟩ | hz
    · simp
    · simp [flat_mem hz]
/-- A tick within a schedule. -/
theorem flat_at {l : List Ht} {i t : Nat} {h : Ht} (hi : l[i]? = some h) (ht : t < h.ticks.toNat) : (flat l)[(flat (l.take i)).length + t]? = some h ∧ (flat l).take ((flat (l.take i)).length + t) = flat (l.take i) ++ List.replicate t h := by
  have e : l = l.take i ++ h :: l.drop (i + 1) := by
    obtain ⟨h1, h2⟩ := List.getElem?_eq_some_iff.1 hi
    conv => lhs; rw [← List.take_append_drop i l, List.drop_eq_getElem_cons h1, h2]
  have e2 : flat l = flat (l.take i) ++ (List.replicate h.ticks.toNat h ++ flat (l.drop (i + 1))) := by
    conv => lhs; rw [e]
    rw [flat_app]; rfl
  constructor
  · rw [e2, List.getElem?_append_right (by omega), Nat.add_sub_cancel_left, List.getElem?_append_left (by simpa using ht)]
    simp [ht]
  · rw [e2, List.take_length_add_append, List.take_append_of_le_length (by simpa using Nat.le_of_lt ht), List.take_replicate, Nat.min_eq_left (Nat.le_of_lt ht)]

def heatOf (c : Ct) (a : List Ht) : Int := a.foldl (fun h z => moved h z.heat c.slew) 300
theorem heatOf_snoc (c : Ct) (a : List Ht) (z : Ht) : heatOf c (a ++ [z]) = moved (heatOf c a) z.heat c.slew := by simp [heatOf]
def coatOf (c : Ct) (a : List Ht) : Cg := a.foldl (fun x z => after c x z.heat z.cur) (fresh c)
theorem coatOf_snoc (c : Ct) (a : List Ht) (z : Ht) : coatOf c (a ++ [z]) = after c (coatOf c a) z.heat z.cur := by simp [coatOf]
theorem heatOf_in {c : Ct} (hc : CtOK c) {a : List Ht} (ha : ∀ z ∈ a, HtOK z) : 0 ≤ heatOf c a ∧ heatOf c a ≤ 2000 := by
  unfold heatOf
  suffices h : ∀ (a : List Ht) (h0 : Int), (0 ≤ h0 ∧ h0 ≤ 2000) → (∀ z ∈ a, HtOK z) → 0 ≤ a.foldl (fun h z => moved h z.heat c.slew) h0 ∧ a.foldl (fun h z => moved h z.heat c.slew) h0 ≤ 2000 from h a 300 (by decide) ha
  intro a
  induction a with
  | nil => intro h0 h _; exact h
  | cons z a ih =>
    intro h0 h ha
    exact ih _ (moved_in h (ha z (by simp)).heat hc.slew.1) fun y hy => ha y (by simp [hy])
theorem coatOf_heat (c : Ct) (a : List Ht) : (coatOf c a).heat = heatOf c a := by
  suffices h : ∀ b : List Ht, (coatOf c b.reverse).heat = heatOf c b.reverse by simpa using h a.reverse
  intro b
  induction b with
  | nil => rfl
  | cons z b ih =>
    rw [List.reverse_cons, coatOf_snoc, heatOf_snoc, ← ih]; rfl

/-- What a mix may become in a tick. -/
structure Fol (a b : Mx) (x : Bd) : Prop where
  conv : dn a.carb x.conv.lo ≤ a.carb - b.carb ∧ a.carb - b.carb ≤ up a.carb x.conv.hi
  red : dn a.ox x.red.lo ≤ a.ox + (a.carb - b.carb) - b.ox ∧ a.ox + (a.carb - b.carb) - b.ox ≤ up a.ox x.red.hi
  evap : dn a.ba x.evap.lo ≤ a.ba + (a.ox + (a.carb - b.carb) - b.ox) - b.ba ∧ a.ba + (a.ox + (a.carb - b.carb) - b.ox) - b.ba ≤ up a.ba x.evap.hi
  lost : b.lost = a.lost + (a.ba + (a.ox + (a.carb - b.carb) - b.ox) - b.ba)
structure MxOK (c : Ct) (m : Mx) : Prop where
  carb : 0 ≤ m.carb
  ox : 0 ≤ m.ox
  ba : 0 ≤ m.ba
  lost : 0 ≤ m.lost
  sum : m.carb + m.ox + m.ba + m.lost = c.amount
def start (c : Ct) : Mx := ⟨c.amount, 0, 0, 0⟩
structure Holds (x : Cg) (m : Mx) : Prop where
  carb : x.carb.lo ≤ m.carb ∧ m.carb ≤ x.carb.hi
  ox : x.ox.lo ≤ m.ox ∧ m.ox ≤ x.ox.hi
  ba : x.ba.lo ≤ m.ba ∧ m.ba ≤ x.ba.hi
  lost : x.lost.lo ≤ m.lost ∧ m.lost ≤ x.lost.hi

theorem Fol.ok {c : Ct} {a b : Mx} {x : Bd} (hx : BdOK x) (ha : MxOK c a) (h : Fol a b x) : MxOK c b := by
  obtain ⟨a1, a2, a3, a4, a5⟩ := ha
  obtain ⟨f1, f2, f3, f4⟩ := h
  have b1 := hx.conv.all; have b2 := hx.red.all; have b3 := hx.evap.all
  have c1 := dn_in a1 b1.1 (by omega); have c2 := up_in (r := x.conv.hi) a1 (by omega) (by omega)
  have d1 := dn_in a2 b2.1 (by omega); have d2 := up_in (r := x.red.hi) a2 (by omega) (by omega)
  have e1 := dn_in a3 b3.1 (by omega); have e2 := up_in (r := x.evap.hi) a3 (by omega) (by omega)
  exact ⟨by omega, by omega, by omega, by omega, by omega⟩

theorem cut_hi {r : Rg} {m n : Int} (h : n ≤ r.hi) (h' : n ≤ m) : n ≤ (cut r m).hi := by
  show n ≤ mi r.hi m
  unfold mi; split <;> omega

/-- A tick: what is true stays within the bounds. -/
theorem Fol.holds {c : Ct} {x : Cg} {a b : Mx} {z : Bd} {h : Int} (hz : BdOK z) (hx : CgOK c x) (ha : MxOK c a) (hh : Holds x a) (f : Fol a b z) :
    Holds (afterB c.amount z x h) b ∧ (afterB c.amount z x h).gas.lo ≤ a.carb - b.carb ∧ a.carb - b.carb ≤ (afterB c.amount z x h).gas.hi := by
  have hb := f.ok hz ha
  obtain ⟨a1, a2, a3, a4, a5⟩ := ha
  obtain ⟨q1, q2, q3, q4, q5⟩ := hb
  obtain ⟨f1, f2, f3, f4⟩ := f
  obtain ⟨h1, h2, h3, h4⟩ := hh
  have x1 := hx.carb.all; have x2 := hx.ox.all; have x3 := hx.ba.all; have x4 := hx.lost.all
  have b1 := hz.conv.all; have b2 := hz.red.all; have b3 := hz.evap.all
  -- the parts that are given away
  have p1 : dn x.carb.lo z.conv.lo ≤ dn a.carb z.conv.lo := dn_mono x1.1 h1.1 b1.1 (Int.le_refl _)
  have p2 : up a.carb z.conv.hi ≤ up x.carb.hi z.conv.hi := up_mono a1 h1.2 (by omega) (Int.le_refl _)
  have p3 : dn x.ox.lo z.red.lo ≤ dn a.ox z.red.lo := dn_mono x2.1 h2.1 b2.1 (Int.le_refl _)
  have p4 : up a.ox z.red.hi ≤ up x.ox.hi z.red.hi := up_mono a2 h2.2 (by omega) (Int.le_refl _)
  have p5 : dn x.ba.lo z.evap.lo ≤ dn a.ba z.evap.lo := dn_mono x3.1 h3.1 b3.1 (Int.le_refl _)
  have p6 : up a.ba z.evap.hi ≤ up x.ba.hi z.evap.hi := up_mono a3 h3.2 (by omega) (Int.le_refl _)
  have k1 := keepUp_mono (r := z.conv.hi) x1.1 h1.1 (by omega) (by omega)
  have k2 := keepDn_mono (r := z.conv.lo) a1 h1.2 (by omega) (by omega)
  have k3 := keepUp_mono (r := z.red.hi) x2.1 h2.1 (by omega) (by omega)
  have k4 := keepDn_mono (r := z.red.lo) a2 h2.2 (by omega) (by omega)
  have k5 := keepUp_mono (r := z.evap.hi) x3.1 h3.1 (by omega) (by omega)
  have k6 := keepDn_mono (r := z.evap.lo) a3 h3.2 (by omega) (by omega)
  have d1 := dn_in a1 b1.1 (by omega)
  have u1 := up_in (r := z.conv.hi) a1 (by omega) (by omega)
  refine ⟨⟨⟨?_, cut_hi ?_ (by omega)⟩, ⟨?_, cut_hi ?_ (by omega)⟩, ⟨?_, cut_hi ?_ (by omega)⟩, ⟨?_, cut_hi ?_ (by omega)⟩⟩, ?_, cut_hi ?_ (by omega)⟩ <;>
    simp only [afterB, cut, remains, sumR, parts] <;> omega

/-- A course: of the ticks so far, with the last mix. -/
inductive Crs (c : Ct) : List Ht → List Mx → Mx → Prop
  | nil : Crs c [] [start c] (start c)
  | snoc {a : List Ht} {w : List Mx} {m m' : Mx} {z : Ht} (h : Crs c a w m) (f : Fol m m' (ratesAt c (heatOf c (a ++ [z])) z.cur)) : Crs c (a ++ [z]) (w ++ [m']) m'

theorem Crs.len {c : Ct} {a : List Ht} {w : List Mx} {m : Mx} (h : Crs c a w m) : w.length = a.length + 1 := by
  induction h with
  | nil => rfl
  | snoc _ _ ih => simp [ih]
theorem Crs.last {c : Ct} {a : List Ht} {w : List Mx} {m : Mx} (h : Crs c a w m) : w[a.length]? = some m := by
  cases h with
  | nil => rfl
  | snoc h f => rw [List.length_append, List.length_singleton, ← h.len]; simp
theorem Crs.ok {c : Ct} (hc : CtOK c) {a : List Ht} {w : List Mx} {m : Mx} (ha : ∀ z ∈ a, HtOK z) (h : Crs c a w m) : MxOK c m := by
  induction h with
  | nil => have := hc.amount; exact ⟨by simp [start]; omega, by simp [start], by simp [start], by simp [start], by simp [start]⟩
  | snoc h f ih =>
    rename_i a w m m' z
    have hz := ha z (by simp)
    exact f.ok (ratesAt_ok hc (heatOf_in hc ha).1 hz.cur) (ih fun y hy => ha y (by simp [hy]))
/-- A part of a course. -/
theorem Crs.part {c : Ct} {a : List Ht} {w : List Mx} {m : Mx} (h : Crs c a w m) : ∀ p, p < a.length → ∃ (z : Ht) (m1 m2 : Mx), a[p]? = some z ∧ Crs c (a.take p) (w.take (p + 1)) m1 ∧ w[p]? = some m1 ∧ w[p + 1]? = some m2 ∧ Fol m1 m2 (ratesAt c (heatOf c (a.take p ++ [z])) z.cur) := by
  induction h with
  | nil => intro p hp; simp at hp
  | snoc h f ih =>
    rename_i a w m m' z
    intro p hp
    have hl := h.len
    by_cases h1 : p < a.length
    · obtain ⟨y, m1, m2, e1, e2, e3, e4, e5⟩ := ih p h1
      refine ⟨y, m1, m2, ?_, ?_, ?_, ?_, ?_⟩
      · rw [List.getElem?_append_left h1]; exact e1
      · rw [List.take_append_of_le_length (by omega), List.take_append_of_le_length (by omega)]; exact e2
      · rw [List.getElem?_append_left (by omega)]; exact e3
      · rw [List.getElem?_append_left (by omega)]; exact e4
      · rw [List.take_append_of_le_length (by omega)]; exact e5
    · have hp' : p = a.length := by simp at hp; omega
      subst hp'
      refine ⟨z, m, m', by simp, ?_, ?_, ?_, ?_⟩
      · rw [List.take_left, ← hl, List.take_left]; exact h
      · rw [List.getElem?_append_left (by omega)]; exact h.last
      · rw [← hl]; simp
      · rw [List.take_left]; exact f

theorem Crs.one {c : Ct} {a : List Ht} {w : List Mx} {m : Mx} (h : Crs c a w m) : a = [] → w = [start c] := by
  cases h with
  | nil => intro _; rfl
  | snoc h f => intro h0; simp at h0
theorem Crs.first {c : Ct} {a : List Ht} {w : List Mx} {m : Mx} (h : Crs c a w m) : w[0]? = some (start c) := by
  by_cases h0 : a = []
  · rw [h.one h0]; rfl
  · obtain ⟨z, m1, m2, _, e2, e3, _, _⟩ := h.part 0 (List.length_pos_iff.2 h0)
    have := e2.one rfl
    have e4 : w[0]? = (w.take (0 + 1))[0]? := by rw [List.getElem?_take]; simp
    rw [e4, this]; rfl

/-- After the ticks so far, the mix lies within the coating. -/
theorem coatOf_good {c : Ct} (hc : CtOK c) {a : List Ht} (ha : ∀ z ∈ a, HtOK z) (hl : a.length ≤ 1000000) : Good c (coatOf c a) a.length := by
  suffices h : ∀ b : List Ht, (∀ z ∈ b, HtOK z) → b.length ≤ 1000000 → Good c (coatOf c b.reverse) b.length by
    have := h a.reverse (fun z hz => ha z (by simpa using hz)) (by simpa using hl)
    simpa using this
  intro b
  induction b with
  | nil => intro _ _; exact fresh_good hc
  | cons z b ih =>
    intro hb hbl
    have hz := hb z (by simp)
    have := after_good hc (ih (fun y hy => hb y (by simp [hy])) (by simp at hbl; omega)) (by simp at hbl; omega) hz.heat hz.cur
    rw [List.reverse_cons, coatOf_snoc]
    simpa using this
theorem Crs.holds {c : Ct} (hc : CtOK c) {a : List Ht} {w : List Mx} {m : Mx} (ha : ∀ z ∈ a, HtOK z) (hl : a.length ≤ 1000000) (h : Crs c a w m) : Holds (coatOf c a) m := by
  induction h with
  | nil => exact ⟨by simp [coatOf, fresh, start], by simp [coatOf, fresh, start], by simp [coatOf, fresh, start], by simp [coatOf, fresh, start]⟩
  | snoc h f ih =>
    rename_i a w m m' z
    have hz := ha z (by simp)
    have ha' : ∀ y ∈ a, HtOK y := fun y hy => ha y (by simp [hy])
    have hl' : a.length ≤ 1000000 := by simp at hl; omega
    have hb := ratesAt_ok hc (heatOf_in hc ha).1 hz.cur
    rw [coatOf_snoc]
    unfold after
    rw [coatOf_heat, ← heatOf_snoc]
    exact (f.holds hb (coatOf_good hc ha' hl').ok (h.ok hc ha') (ih ha' hl')).1
/-- What became oxide in a tick. -/
theorem Crs.gas {c : Ct} (hc : CtOK c) {a : List Ht} {w : List Mx} {m m' : Mx} {z : Ht} (ha : ∀ z ∈ a, HtOK z) (hz : HtOK z) (hl : a.length ≤ 1000000) (h : Crs c a w m) (f : Fol m m' (ratesAt c (heatOf c (a ++ [z])) z.cur)) :
    (after c (coatOf c a) z.heat z.cur).gas.lo ≤ m.carb - m'.carb ∧ m.carb - m'.carb ≤ (after c (coatOf c a) z.heat z.cur).gas.hi := by
  have ha' : ∀ y ∈ a ++ [z], HtOK y := fun y hy => by
    rcases List.mem_append.1 hy with hy | hy
    · exact ha y hy
    · simp at hy; subst hy; exact hz
  have hb := ratesAt_ok hc (heatOf_in hc ha').1 hz.cur
  unfold after
  rw [coatOf_heat, ← heatOf_snoc]
  exact (f.holds hb (coatOf_good hc ha hl).ok (h.ok hc ha) (h.holds hc ha hl)).2

theorem tickN_flat (c : Ct) (z : Ht) (a : List Ht) : ∀ t : Nat, coatOf c (a ++ List.replicate t z) = tickN c z.heat z.cur t (coatOf c a)
  | 0 => by simp [tickN]
  | t + 1 => by rw [List.replicate_succ', ← List.append_assoc, coatOf_snoc, tickN_flat c z a t]; rfl
theorem endX_flat (c : Ct) (l : List Ht) : endX c (fresh c) l = coatOf c (flat l) := by
  suffices h : ∀ (l a : List Ht), endX c (coatOf c a) l = coatOf c (a ++ flat l) from h l []
  intro l
  induction l with
  | nil => intro a; simp [endX, flat]
  | cons z l ih =>
    intro a
    have e : heatN c z (coatOf c a) = coatOf c (a ++ List.replicate z.ticks.toNat z) := (tickN_flat c z a _).symm
    rw [endX, e, ih, flat, List.append_assoc]
end Go.Proofs
namespace Go.Proofs
open Go Go.Sx
attribute [local irreducible] Run

theorem rDown_run (x r : Int) (hx : 0 ≤ x ∧ x ≤ 1000000) (hr : 0 ≤ r ∧ r ≤ 1000000) : Ans Try.prog n_ref03_Down [.int .i64 x, .int .i64 r] [] (.int .i64 (dn x r)) [] := by
  have h1 := mul_rng hx.1 hx.2 hr.1 hr.2
  have h2 : IntKind.i64.wrap (x * r) = x * r := w64 (by omega)
  have h3 : (x * r).tdiv 1000000 = dn x r := Int.tdiv_eq_ediv_of_nonneg h1.1
  have h4 : IntKind.i64.wrap (dn x r) = dn x r := w64 (by have := dn_in hx.1 hr.1 hr.2; omega)
  refine spec_run e_ref03_Down fun G => ?_
  simp only [go_sem, h2, h3, h4]
theorem rUp_run (x r : Int) (hx : 0 ≤ x ∧ x ≤ 1000000) (hr : 0 ≤ r ∧ r ≤ 1000000) : Ans Try.prog n_ref03_Up [.int .i64 x, .int .i64 r] [] (.int .i64 (up x r)) [] := by
  have h1 := mul_rng hx.1 hx.2 hr.1 hr.2
  have h2 : IntKind.i64.wrap (x * r) = x * r := w64 (by omega)
  have h5 : IntKind.i64.wrap (x * r + 1000000) = x * r + 1000000 := w64 (by omega)
  have h6 : IntKind.i64.wrap (x * r + 1000000 - 1) = x * r + 999999 := by rw [w64 (by omega)]; omega
  have h3 : (x * r + 999999).tdiv 1000000 = up x r := Int.tdiv_eq_ediv_of_nonneg (by omega)
  have h4 : IntKind.i64.wrap (up x r) = up x r := w64 (by have := up_in hx.1 hr.1 hr.2; omega)
  refine spec_run e_ref03_Up fun G => ?_
  simp only [go_sem, h2, h5, h6, h3, h4]

theorem rHeat_run (c : Ct) (hc : CtOK c) (h a : Int) (hh : 0 ≤ h ∧ h ≤ 2000) (ha : 0 ≤ a ∧ a ≤ 2000) : Ans Try.prog n_ref03_Heat [c.v (.view (c.bands.map Bd.v)), .int .i64 h, .int .i64 a] [] (.int .i64 (moved h a c.slew)) [] := by
  have hs := hc.slew
  have e1 : IntKind.i64.wrap (h - c.slew) = h - c.slew := w64 (by omega)
  have e2 : IntKind.i64.wrap (h + c.slew) = h + c.slew := w64 (by omega)
  refine spec_run e_ref03_Heat fun G => ?_
  simp only [go_sem, Ct.v, Ct.cs, e1, e2]
  unfold moved mi mx
  refine ⟨fun _ => ?_, fun _ => ?_⟩ <;> (repeat' split) <;> omega

theorem rBand_run (c : Ct) (hc : CtOK c) (h cur : Int) (hh : 0 ≤ h) (hcur : 0 ≤ cur ∧ cur ≤ 1000) : Ans Try.prog n_ref03_BandOf [c.v (.view (c.bands.map Bd.v)), .int .i64 h, .int .i64 cur] [] (ratesAt c h cur).v [] := by
  have hl := hc.len
  have p1 := aboveN_pos hc.len.1 hc.first hh
  have p2 := aboveN_le c.bands h
  have hx0 : c.bands[0]? = some (c.bands.getD 0 default) := by rw [List.getD_eq_getElem?_getD, List.getElem?_eq_getElem (by omega)]; rfl
  have hfin : c.bands.getD (min c.bands.length (aboveN c.bands h) - 1) default = bandAt c.bands h := by rw [Nat.min_eq_right p2]; rfl
  have hb := (bandAt_ok hc hh).red
  have a1 := mul_rng hcur.1 hcur.2 hc.aid.lo (Int.le_trans hc.aid.le hc.aid.hi)
  have a2 := mul_rng hcur.1 hcur.2 (Int.le_trans hc.aid.lo hc.aid.le) hc.aid.hi
  obtain ⟨b1, b2, b3⟩ := hb
  have e1 : IntKind.i64.wrap (cur * c.aid.lo) = cur * c.aid.lo := w64 (by omega)
  have e2 : IntKind.i64.wrap (cur * c.aid.hi) = cur * c.aid.hi := w64 (by omega)
  have e3 : IntKind.i64.wrap ((bandAt c.bands h).red.lo + cur * c.aid.lo) = (bandAt c.bands h).red.lo + cur * c.aid.lo := w64 (by omega)
  have e4 : IntKind.i64.wrap ((bandAt c.bands h).red.hi + cur * c.aid.hi) = (bandAt c.bands h).red.hi + cur * c.aid.hi := w64 (by omega)
  refine spec_run e_ref03_BandOf fun G => ?_
  have hg0 : (0 : Int) < c.bands.length := by omega
  simp only [go_sem, Ct.v, Ct.cs, hx0, hg0, Bd.v, Bd.cs]
  refine loop_ind k_ref03_BandOf_r7.eq_1 (fun a : Nat × Bd => a.1 ≤ c.bands.length ∧ a.2 = c.bands.getD (min a.1 (aboveN c.bands h) - 1) default) (fun a => c.bands.length - a.1)
    (fun a => (tsets 58 [(1, .int .i64 h), (2, .int .i64 cur), (3, .ptr 0 0 0 1), (6, .ptr 1 0 0 1), (7, .ptr 2 0 0 1), (8, .int .i64 a.1)],
      [some (.cells false 7 [c.v (.view (c.bands.map Bd.v))]), some (.cells false 9 [.agg [.int .i64 0, .int .i64 0, .int .i64 0, .int .i64 0, .int .i64 0, .int .i64 0, .int .i64 0, .int .i64 0, .int .i64 0]]), some (.cells false 9 [a.2.v])]))
    (0, c.bands.getD 0 default) ⟨Nat.zero_le _, by simp⟩ (by simp [go_sem]) rfl ?_
  rintro ⟨i, b⟩ ⟨hi, hbe⟩ ih
  dsimp only at hi hbe ih ⊢
  by_cases h1 : i < c.bands.length
  · have h2 : (i : Int) < c.bands.length := by omega
    have hx : c.bands[i]? = some (c.bands.getD i default) := by rw [List.getD_eq_getElem?_getD, List.getElem?_eq_getElem h1]; rfl
    have hs := aboveN_spec (h := h) hc.asc i h1
    have h3 := idx_next h1 (by omega)
    have n0 : ¬ (i : Int) < 0 := by omega
    by_cases h4 : (c.bands.getD i default).frm ≤ h
    · have h5 := hs.1 h4
      have hne : c.bands.getD (min (i + 1) (aboveN c.bands h) - 1) default = c.bands.getD i default := by rw [Nat.min_eq_left (by omega), Nat.add_sub_cancel]
      generalize c.bands.getD i default = z at *
      simp only [go_sem, hx, h2, n0, h4, h3, Ct.v, Ct.cs, Bd.v, Bd.cs]
      exact ih (i + 1, z) (by dsimp only; omega) ⟨h1, hne.symm⟩ _ (by simp [go_sem])
    · have h5 : ¬ i < aboveN c.bands h := fun h => h4 (hs.2 h)
      have hne : c.bands.getD (min (i + 1) (aboveN c.bands h) - 1) default = b := by
        rw [hbe, Nat.min_eq_right (by omega), Nat.min_eq_right (by omega)]
      generalize c.bands.getD i default = z at *
      simp only [go_sem, hx, h2, n0, h4, h3, Ct.v, Ct.cs, Bd.v, Bd.cs]
      exact ih (i + 1, b) (by dsimp only; omega) ⟨h1, hne.symm⟩ _ (by simp [go_sem])
  · have h2 : ¬ (i : Int) < c.bands.length := by omega
    have hie : i = c.bands.length := by omega
    rw [hie, hfin] at hbe
    unfold ratesAt
    rw [← hbe] at e3 e4 b1 b2 b3 ⊢
    have m1 : ∀ y : Int, (if y < 1000000 then y else 1000000) = mi y 1000000 := fun y => by unfold mi; split <;> split <;> omega
    simp only [go_sem, h2, Ct.v, Ct.cs, Bd.v, Bd.cs, e1, e2, e3, e4, m1]
end Go.Proofs
namespace Go.Proofs
open Go Go.Sx
attribute [local irreducible] Run

theorem beyond_no {n a b : Int} (h : a ≤ n ∧ n ≤ b) : Ans Try.prog n_ref03_beyond [.int .i64 n, .int .i64 a, .int .i64 b] [] (.bool false) [] := by
  have h1 : ¬ n < a := by omega
  have h2 : ¬ b < n := by omega
  refine spec_run e_ref03_beyond fun G => ?_
  simp only [go_sem, h1, h2]

theorem rcheckRange_run {r : Rg} {m : Int} (h : RgIn r m) : Ans Try.prog n_ref03_checkRange [r.v, .int .i64 m] [] (.int .i64 0) [] := by
  obtain ⟨r1, r2, r3⟩ := h
  have r4 : ¬ r.hi < r.lo := by omega
  refine spec_run e_ref03_checkRange fun G => ?_
  simp only [go_sem, Rg.v]
  refine cP (beyond_no ⟨r1, by omega⟩) ?_
  simp only [go_sem]
  refine cP (beyond_no ⟨by omega, r3⟩) ?_
  simp only [go_sem, r4]

theorem rcheckRanges_run (m : Int) (rs : List Rg) (h : ∀ r ∈ rs, RgIn r m) (hl : rs.length ≤ 1000) : Ans Try.prog n_ref03_checkRanges [.view (rs.map Rg.v), .int .i64 m] [] (.int .i64 0) [] := by
  refine spec_run e_ref03_checkRanges fun G => ?_
  simp only [go_sem]
  refine loop_ind k_ref03_checkRanges_r7.eq_1 (fun a : Nat × Heap => a.1 ≤ rs.length) (fun a => rs.length - a.1)
    (fun a => (tsets 22 [(0, .view (rs.map Rg.v)), (1, .int .i64 m), (5, .int .i64 a.1)], a.2)) (0, []) (Nat.zero_le _) (by simp [go_sem]) rfl ?_
  rintro ⟨i, X⟩ hi ih
  dsimp only at hi ih ⊢
  by_cases h1 : i < rs.length
  · have h2 : (i : Int) < rs.length := by omega
    have n0 : ¬ (i : Int) < 0 := by omega
    have hr := rcheckRange_run (h _ (List.getElem_mem h1))
    have hx : rs[i]? = some rs[i] := List.getElem?_eq_getElem h1
    have h3 := idx_next h1 (by omega)
    generalize rs[i] = z at *
    simp only [go_sem, hx, h2, n0, Rg.v, List.length_map]
    refine cP hr ?_
    simp only [go_sem, h3]
    exact ih (i + 1, _) (by dsimp only; omega) h1 _ (by simp [go_sem])
  · have h2 : ¬ (i : Int) < rs.length := by omega
    simp only [go_sem, h2, List.length_map]

set_option maxHeartbeats 1000000 in
theorem rCheck_run (c : Ct) (hc : CtOK c) : Ans Try.prog n_ref03_Check [c.v (.view (c.bands.map Bd.v))] [] (.int .i64 0) [] := by
  have h1 := hc.amount; have h2 := hc.slew; have h3 := hc.aid; have h4 := hc.yld; have h5 := hc.len
  have g1 := rcheckRanges_run 1000000 [c.aid, c.yld] (by simp [h3, h4]) (by simp)
  have k1 : ¬ ((c.bands.length : Int) = 0) := by omega
  have k2 : ¬ ((16 : Int) < c.bands.length) := by omega
  refine spec_run e_ref03_Check fun G => ?_
  simp only [go_sem, Ct.v, Ct.cs]
  refine cP (beyond_no h1) ?_
  simp only [go_sem]
  refine cP (beyond_no h2) ?_
  simp only [go_sem]
  refine cF g1 6 (by simp only [go_sem, frz, Rg.v]) ?_
  simp only [go_sem, k1, k2, List.length_map]
  refine loop_ind k_ref03_Check_r21.eq_1 (fun a : Nat × Heap => a.1 ≤ c.bands.length) (fun a => c.bands.length - a.1)
    (fun a => (tsets 83 [(1, .ptr 0 0 0 1), (2, .int .i64 0), (4, .int .i64 a.1)], some (.cells false 7 [c.v (.view (c.bands.map Bd.v))]) :: a.2)) (0, [_]) (Nat.zero_le _) (by simp [go_sem]) rfl ?_
  rintro ⟨i, X⟩ hi ih
  dsimp only at hi ih ⊢
  by_cases h1 : i < c.bands.length
  · have h2 : (i : Int) < c.bands.length := by omega
    have n0 : ¬ (i : Int) < 0 := by omega
    obtain ⟨f1, f2, f3, f4, f5⟩ := hc.bands _ (List.getElem_mem h1)
    have hx : c.bands[i]? = some c.bands[i] := List.getElem?_eq_getElem h1
    have h3 := idx_next h1 (by omega)
    have hf : i = 0 → c.bands[i].frm = 0 := by
      rintro rfl
      have := hc.first
      rwa [List.getD_eq_getElem?_getD, hx] at this
    have hg : 0 < i → ∃ b : Bd, c.bands[i - 1]? = some b ∧ b.frm < c.bands[i].frm := by
      intro h0
      have := hc.asc (i - 1) (by omega)
      rw [show i - 1 + 1 = i by omega, List.getD_eq_getElem?_getD, List.getD_eq_getElem?_getD, hx, List.getElem?_eq_getElem (by omega)] at this
      exact ⟨_, List.getElem?_eq_getElem (by omega), this⟩
    generalize c.bands[i] = b at *
    have g2 := rcheckRanges_run 1000000 [b.conv, b.red, b.evap, b.sint] (by simp [f2, f3, f4, f5]) (by simp)
    simp only [go_sem, hx, h2, n0, Bd.v, Bd.cs, Ct.v, Ct.cs, List.length_map]
    refine cP (beyond_no f1) ?_
    by_cases h0 : i = 0
    · have hf := hf h0
      have hb : ((i : Int) == 0) = true := by simp [h0]
      have hg2 : ¬ (0 : Int) < i := by omega
      simp only [go_sem, hf, hb, hg2]
      refine cF g2 6 (by simp only [go_sem, frz, Rg.v]) ?_
      simp only [go_sem, h3]
      exact ih (i + 1, _) (by dsimp only; omega) h1 _ (by simp [go_sem])
    · obtain ⟨b', hb1, hb2⟩ := hg (by omega)
      have hb : ((i : Int) == 0) = false := by simp [h0]
      have hg2 : (0 : Int) < i := by omega
      have hg3 : IntKind.i64.wrap ((i : Int) - 1) = ((i - 1 : Nat) : Int) := by rw [w64 (by omega)]; omega
      have hg4 : ¬ b.frm ≤ b'.frm := by omega
      have hg5 : ¬ ((i - 1 : Nat) : Int) < 0 := by omega
      have hg6 : ((i - 1 : Nat) : Int) < c.bands.length := by omega
      simp only [go_sem, hb, hg2, hg3, hb1, hg4, hg5, hg6, Bd.v, Bd.cs, List.length_map]
      refine cF g2 6 (by simp only [go_sem, frz, Rg.v]) ?_
      simp only [go_sem, h3]
      exact ih (i + 1, _) (by dsimp only; omega) h1 _ (by simp [go_sem])
  · have h2 : ¬ (i : Int) < c.bands.length := by omega
    simp only [go_sem, h2, Ct.v, Ct.cs, List.length_map]

theorem rCheckSchedule_run (l : List Ht) (hl : LsOK l) : Ans Try.prog n_ref03_CheckSchedule [.view (l.map Ht.v)] [] (.int .i64 0) [] := by
  have hlen := hl.len
  have hsum := hl.sum
  have k1 : ¬ (40 : Int) < l.length := by omega
  have k2 : ¬ (20000 : Int) < lenOfL l := by omega
  refine spec_run e_ref03_CheckSchedule fun G => ?_
  simp only [go_sem, k1, List.length_map]
  refine loop_ind k_ref03_CheckSchedule_r10.eq_1 (fun a : Nat × Heap => a.1 ≤ l.length) (fun a => l.length - a.1)
    (fun a => (tsets 45 [(0, .view (l.map Ht.v)), (2, .int .i64 0), (3, .int .i64 (lenOfL (l.take a.1))), (4, .int .i64 a.1)], a.2)) (0, []) (Nat.zero_le _) (by simp [go_sem, lenOfL]) rfl ?_
  rintro ⟨i, X⟩ hi ih
  dsimp only at hi ih ⊢
  by_cases h1 : i < l.length
  · have h2 : (i : Int) < l.length := by omega
    have n0 : ¬ (i : Int) < 0 := by omega
    have hx : l[i]? = some l[i] := List.getElem?_eq_getElem h1
    have h3 := idx_next h1 (by omega)
    have hz := hl.all _ (List.getElem_mem h1)
    have hs := lenOfL_succ hx
    have hr := lenOfL_take hl.all (i + 1)
    have hr0 := lenOfL_take hl.all i
    generalize l[i] = z at *
    have h4 : IntKind.i64.wrap (lenOfL (l.take i) + z.ticks) = lenOfL (l.take (i + 1)) := by rw [w64 (by omega)]; omega
    simp only [go_sem, hx, h2, n0, Ht.v, Ht.cs, List.length_map]
    refine cP (beyond_no hz.ticks) ?_
    simp only [go_sem, hx, h2, n0, Ht.v, Ht.cs, List.length_map]
    refine cP (beyond_no hz.heat) ?_
    simp only [go_sem, hx, h2, n0, Ht.v, Ht.cs, List.length_map]
    refine cP (beyond_no hz.cur) ?_
    simp only [go_sem, hx, h2, n0, Ht.v, Ht.cs, List.length_map, h4]
    simp only [h3]
    exact ih (i + 1, _) (by dsimp only; omega) h1 _ (by simp [go_sem])
  · have h2 : ¬ (i : Int) < l.length := by omega
    rw [List.take_of_length_le (by omega)]
    simp only [go_sem, h2, k2, List.length_map]

theorem rfresh_run (c : Ct) : Ans Try.prog n_ref03_fresh [c.v (.view (c.bands.map Bd.v))] [] (fresh c).v [] := by
  refine spec_run e_ref03_fresh fun G => ?_
  simp only [go_sem, Ct.v, Ct.cs, Cg.v, Cg.cs, fresh]

set_option maxRecDepth 4000 in
set_option maxHeartbeats 4000000 in
theorem rtick_run (c : Ct) (hc : CtOK c) (x : Cg) (hx : CgB x) (heat cur : Int) (hh : 0 ≤ heat ∧ heat ≤ 2000) (hcur : 0 ≤ cur ∧ cur ≤ 1000) :
    Ans Try.prog n_ref03_tick [c.v (.view (c.bands.map Bd.v)), x.v, .int .i64 heat, .int .i64 cur] [] (after c x heat cur).v [] := by
  have hm := rHeat_run c hc x.heat heat hx.heat hh
  have hmi := moved_in hx.heat hh hc.slew.1
  have hr := rBand_run c hc (moved x.heat heat c.slew) cur hmi.1 hcur
  have hb := ratesAt_ok hc hmi.1 hcur
  unfold after
  generalize moved x.heat heat c.slew = h at *
  generalize ratesAt c h cur = b at *
  have b1 := hb.conv.b (by decide); have b2 := hb.red.b (by decide); have b3 := hb.evap.b (by decide); have b4 := hb.sint.b (by decide)
  have x1 := hx.carb; have x2 := hx.ox; have x3 := hx.ba; have x4 := hx.lost; have x5 := hx.wear
  have d1 := rDown_run x.carb.lo b.conv.lo x1.lo b1.lo
  have u1 := rUp_run x.carb.hi b.conv.hi x1.hi b1.hi
  have u2 := rUp_run x.carb.lo b.conv.hi x1.lo b1.hi
  have d2 := rDown_run x.carb.hi b.conv.lo x1.hi b1.lo
  have u3 := rUp_run x.ox.lo b.red.hi x2.lo b2.hi
  have d3 := rDown_run x.ox.hi b.red.lo x2.hi b2.lo
  have u4 := rUp_run x.ba.lo b.evap.hi x3.lo b3.hi
  have d4 := rDown_run x.ox.lo b.red.lo x2.lo b2.lo
  have d5 := rDown_run x.ba.hi b.evap.lo x3.hi b3.lo
  have u5 := rUp_run x.ox.hi b.red.hi x2.hi b2.hi
  have d6 := rDown_run x.ba.lo b.evap.lo x3.lo b3.lo
  have u6 := rUp_run x.ba.hi b.evap.hi x3.hi b3.hi
  have i1 := dn_in x1.lo.1 b1.lo.1 b1.lo.2
  have i2 := up_in x1.hi.1 b1.hi.1 b1.hi.2
  have i3 := up_in x1.lo.1 b1.hi.1 b1.hi.2
  have i4 := dn_in x1.hi.1 b1.lo.1 b1.lo.2
  have i5 := up_in x2.lo.1 b2.hi.1 b2.hi.2
  have i6 := dn_in x2.hi.1 b2.lo.1 b2.lo.2
  have i7 := up_in x3.lo.1 b3.hi.1 b3.hi.2
  have i8 := dn_in x2.lo.1 b2.lo.1 b2.lo.2
  have i9 := dn_in x3.hi.1 b3.lo.1 b3.lo.2
  have i10 := up_in x2.hi.1 b2.hi.1 b2.hi.2
  have i11 := dn_in x3.lo.1 b3.lo.1 b3.lo.2
  have i12 := up_in x3.hi.1 b3.hi.1 b3.hi.2
  have q1 := x1.lo; have q2 := x1.hi; have q3 := x2.lo; have q4 := x2.hi; have q5 := x3.lo; have q6 := x3.hi; have q7 := x4.lo; have q8 := x4.hi; have q9 := b4.lo; have q10 := b4.hi
  have e1 : IntKind.i64.wrap (x.carb.lo - up x.carb.lo b.conv.hi) = x.carb.lo - up x.carb.lo b.conv.hi := w64 (by omega)
  have e2 : IntKind.i64.wrap (x.carb.hi - dn x.carb.hi b.conv.lo) = x.carb.hi - dn x.carb.hi b.conv.lo := w64 (by omega)
  have e3 : IntKind.i64.wrap (x.ox.lo - up x.ox.lo b.red.hi) = x.ox.lo - up x.ox.lo b.red.hi := w64 (by omega)
  have e4 : IntKind.i64.wrap (x.ox.lo - up x.ox.lo b.red.hi + dn x.carb.lo b.conv.lo) = x.ox.lo - up x.ox.lo b.red.hi + dn x.carb.lo b.conv.lo := w64 (by omega)
  have e5 : IntKind.i64.wrap (x.ox.hi - dn x.ox.hi b.red.lo) = x.ox.hi - dn x.ox.hi b.red.lo := w64 (by omega)
  have e6 : IntKind.i64.wrap (x.ox.hi - dn x.ox.hi b.red.lo + up x.carb.hi b.conv.hi) = x.ox.hi - dn x.ox.hi b.red.lo + up x.carb.hi b.conv.hi := w64 (by omega)
  have e7 : IntKind.i64.wrap (x.ba.lo - up x.ba.lo b.evap.hi) = x.ba.lo - up x.ba.lo b.evap.hi := w64 (by omega)
  have e8 : IntKind.i64.wrap (x.ba.lo - up x.ba.lo b.evap.hi + dn x.ox.lo b.red.lo) = x.ba.lo - up x.ba.lo b.evap.hi + dn x.ox.lo b.red.lo := w64 (by omega)
  have e9 : IntKind.i64.wrap (x.ba.hi - dn x.ba.hi b.evap.lo) = x.ba.hi - dn x.ba.hi b.evap.lo := w64 (by omega)
  have e10 : IntKind.i64.wrap (x.ba.hi - dn x.ba.hi b.evap.lo + up x.ox.hi b.red.hi) = x.ba.hi - dn x.ba.hi b.evap.lo + up x.ox.hi b.red.hi := w64 (by omega)
  have e11 : IntKind.i64.wrap (x.lost.lo + dn x.ba.lo b.evap.lo) = x.lost.lo + dn x.ba.lo b.evap.lo := w64 (by omega)
  have e12 : IntKind.i64.wrap (x.lost.hi + up x.ba.hi b.evap.hi) = x.lost.hi + up x.ba.hi b.evap.hi := w64 (by omega)
  have e13 : IntKind.i64.wrap (x.wear.lo + b.sint.lo) = x.wear.lo + b.sint.lo := w64 (by omega)
  have e14 : IntKind.i64.wrap (x.wear.hi + b.sint.hi) = x.wear.hi + b.sint.hi := w64 (by omega)
  refine spec_run e_ref03_tick fun G => ?_
  simp only [go_sem, Ct.v, Ct.cs, Cg.v, Cg.cs]
  refine cP hm ?_
  simp only [go_sem]
  refine cP hr ?_ (hr := by simp only [go_sem, Bd.v, Bd.cs])
  simp only [go_sem, Bd.v, Bd.cs]
  refine cP d1 ?_
  simp only [go_sem]
  refine cP u1 ?_
  simp only [go_sem]
  refine dP u2 ?_
  simp only [go_sem, e1]
  refine dP d2 ?_
  simp only [go_sem, e2]
  refine dP u3 ?_
  simp only [go_sem, e3, e4]
  refine dP d3 ?_
  simp only [go_sem, e5, e6]
  refine dP u4 ?_
  simp only [go_sem, e7]
  refine dP d4 ?_
  simp only [go_sem, e8]
  refine dP d5 ?_
  simp only [go_sem, e9]
  refine dP u5 ?_
  simp only [go_sem, e10]
  refine dP d6 ?_
  simp only [go_sem, e11]
  refine dP u6 ?_
  simp only [go_sem, e12, e13, e14]
  simp only [afterB, cut, mi, remains, sumR, parts]
  rfl
end Go.Proofs
namespace Go.Proofs
open Go Go.Sx
attribute [local irreducible] Run

/-- The coatings after each tick, the fresh one first. -/
def coatsX (c : Ct) : Cg → List Ht → List Cg
  | x, [] => [x]
  | x, z :: a => x :: coatsX c (after c x z.heat z.cur) a
def coats (c : Ct) (a : List Ht) : List Cg := coatsX c (fresh c) a
theorem coatsX_len (c : Ct) : ∀ (a : List Ht) (x : Cg), (coatsX c x a).length = a.length + 1
  | [], _ => rfl
  | z :: a, x => by simp [coatsX, coatsX_len c a]
theorem coatsX_get (c : Ct) : ∀ (a : List Ht) (x : Cg) (p : Nat), p ≤ a.length → (coatsX c x a)[p]? = some ((a.take p).foldl (fun x z => after c x z.heat z.cur) x)
  | [], x, p, hp => by obtain rfl : p = 0 := by simpa using hp
                       rfl
  | z :: a, x, 0, _ => rfl
  | z :: a, x, p + 1, hp => by
    simp only [coatsX, List.getElem?_cons_succ, List.take_succ_cons, List.foldl_cons]
    exact coatsX_get c a _ p (by simpa using hp)
theorem coats_len (c : Ct) (a : List Ht) : (coats c a).length = a.length + 1 := coatsX_len c a _
theorem coats_get {c : Ct} {a : List Ht} {p : Nat} (hp : p ≤ a.length) : (coats c a)[p]? = some (coatOf c (a.take p)) := coatsX_get c a _ p hp
theorem coatsX_snoc (c : Ct) : ∀ (a : List Ht) (x : Cg) (z : Ht), coatsX c x (a ++ [z]) = coatsX c x a ++ [after c (a.foldl (fun x z => after c x z.heat z.cur) x) z.heat z.cur]
  | [], _, _ => rfl
  | y :: a, x, z => by simp [coatsX, coatsX_snoc c a]
theorem coats_snoc (c : Ct) (a : List Ht) (z : Ht) : coats c (a ++ [z]) = coats c a ++ [coatOf c (a ++ [z])] := by
  rw [coatOf_snoc]; exact coatsX_snoc c a _ z
theorem follow_get {c : Ct} : ∀ {l : List Ht} {i : Nat}, i < l.length → (follow c l)[i]? = some (coatOf c (flat (l.take (i + 1)))) := by
  intro l i hi
  have hx : l[i]? = some l[i] := List.getElem?_eq_getElem hi
  have e : l = l.take (i + 1) ++ l.drop (i + 1) := (List.take_append_drop _ _).symm
  unfold follow
  rw [e, followX_app, followX_succ hx]
  rw [List.getElem?_append_left (by simp [followX_len]; omega), List.getElem?_append_right (by rw [followX_len, List.length_take]; omega)]
  rw [followX_len, List.length_take, Nat.min_eq_left (by omega), Nat.sub_self]
  have he := endX_succ (c := c) hx (fresh c)
  rw [← he, endX_flat, ← e]; rfl

theorem cgs_len (l : List Cg) : (l.map Cg.v).length = l.length := List.length_map _
def tksT (i : Int) (k : Nat) (l : List Ht) : List (Nat × AVal) := [(1, .view (l.map Ht.v)), (2, .ptr 0 0 0 1), (4, .nilsl), (5, .sl 1 0 k), (6, .int .i64 i)]
def tksH (c : Ct) (b : Bool) (xs : List Cg) (X : Heap) : Heap := some (.cells false 7 [c.v (.view (c.bands.map Bd.v))]) :: some (.cells b 13 (xs.map Cg.v)) :: X

set_option maxHeartbeats 4000000 in
theorem rticks_run (c : Ct) (hc : CtOK c) (l : List Ht) (hl : LsOK l) : AnsE Try.prog n_ref03_ticks [c.v (.view (c.bands.map Bd.v)), .view (l.map Ht.v)] [] (fun _ : Bool => True) (fun _ => .sl 0 0 (coats c (flat l)).length) (fun b => [some (.cells b 13 ((coats c (flat l)).map Cg.v))]) := by
  have hlen := hl.len
  have hsum := hl.sum
  have hfl := flat_len hl.all
  refine AnsE.keep (run_fn e_ref03_ticks fun G => ?_) (fun a ha => ⟨by simp, by simp [go_sem], by rw [row_bel_cells]; simp only [go_sem], trivial⟩)
  simp only [go_sem, Ct.v, Ct.cs]
  refine cP (rfresh_run c) ?_ (hr := by simp only [go_sem, Cg.v, Cg.cs])
  simp only [go_sem, Cg.v, Cg.cs]
  refine loop_ind k_ref03_ticks_r10.eq_1 (fun a : Nat × Bool × Heap => a.1 ≤ l.length) (fun a => l.length - a.1)
    (fun a => (tsets 48 (tksT a.1 (coats c (flat (l.take a.1))).length l), tksH c a.2.1 (coats c (flat (l.take a.1))) a.2.2)) (0, false, []) (Nat.zero_le _) (by simp [go_sem, tksT, flat, coats, coatsX]) rfl ?_
  rintro ⟨i, b, X⟩ hi ih
  dsimp only at hi ih ⊢
  by_cases h1 : i < l.length
  · have h2 : (i : Int) < l.length := by omega
    have n0 : ¬ (i : Int) < 0 := by omega
    have hx : l[i]? = some l[i] := List.getElem?_eq_getElem h1
    have hz := hl.all _ (List.getElem_mem h1)
    have hs := flat_succ hx
    have h3 := idx_next h1 (by omega)
    have hfi := flat_len (l := l.take i) fun x hx => hl.all x (List.mem_of_mem_take hx)
    have hr0 := lenOfL_take hl.all i
    generalize l[i] = z at *
    have hzt := hz.ticks
    simp only [go_sem, tksT, tksH, h2, List.length_map]
    refine loop_ind k_ref03_ticks_r8.eq_1 (fun a : Nat × Bool × Heap => a.1 ≤ z.ticks.toNat) (fun a => z.ticks.toNat - a.1)
      (fun a => (tsets 48 (tksT i (coats c (flat (l.take i) ++ List.replicate a.1 z)).length l ++ [(7, .int .i64 a.1)]), tksH c a.2.1 (coats c (flat (l.take i) ++ List.replicate a.1 z)) a.2.2)) (0, b, X) (Nat.zero_le _) (by simp [go_sem, tksT]) (by simp [tksH]) ?_
    rintro ⟨t, b', Y⟩ ht ih2
    dsimp only at ht ih2 ⊢
    by_cases h4 : t < z.ticks.toNat
    · have h5 : (t : Int) < z.ticks := by omega
      have h6 := idx_next h4 (by omega)
      have hall0 : ∀ y ∈ flat (l.take i) ++ List.replicate t z, HtOK y := fun y hy => by
        rcases List.mem_append.1 hy with hy | hy
        · exact hl.all _ (List.mem_of_mem_take (flat_mem hy))
        · rw [List.mem_replicate] at hy; rw [hy.2]; exact hz
      have hal : (flat (l.take i) ++ List.replicate t z).length = (flat (l.take i)).length + t := by simp
      have hg := coatOf_good hc hall0 (by omega)
      have htk := rtick_run c hc _ (hg.ok.b hc.amount.2) z.heat z.cur hz.heat hz.cur
      have hsn : coats c (flat (l.take i) ++ List.replicate (t + 1) z) = coats c (flat (l.take i) ++ List.replicate t z) ++ [after c (coatOf c (flat (l.take i) ++ List.replicate t z)) z.heat z.cur] := by
        rw [List.replicate_succ', ← List.append_assoc, coats_snoc, coatOf_snoc]
      have hget := coats_get (c := c) (Nat.le_refl (flat (l.take i) ++ List.replicate t z).length)
      have hcl := coats_len c (flat (l.take i) ++ List.replicate t z)
      rw [List.take_length] at hget
      have hih := fun b hb hib ρ' => ih2 (t + 1, b) hb hib ρ'
      simp only [hsn] at hih
      clear ih2
      generalize after c (coatOf c (flat (l.take i) ++ List.replicate t z)) z.heat z.cur = n at *
      generalize coatOf c (flat (l.take i) ++ List.replicate t z) = y at *
      generalize (flat (l.take i) ++ List.replicate t z).length = p at *
      generalize coats c (flat (l.take i) ++ List.replicate t z) = xs at *
      have g1 : IntKind.i64.wrap ((xs.length : Int) - 1) = (p : Int) := by rw [w64 (by omega)]; omega
      have g2 : ¬ (p : Int) < 0 := by omega
      have g3 : (p : Int) < xs.length := by omega
      have g4 : (xs.length + 1) * 104 ≤ 2 ^ 44 := by omega
      have esn := cg_snoc xs n
      simp only [go_sem, tksT, tksH, hx, h2, n0, h5, Ht.v, Ht.cs, Ct.v, Ct.cs, List.length_map, g1, g2, g3, hget, Cg.v, Cg.cs]
      refine dP htk ?_ (hr := by simp only [go_sem, Cg.v, Cg.cs])
      simp only [go_sem, Cg.v, Cg.cs, g4, List.length_map]
      simp only [h6, esn]
      refine hih (true, _) (by omega) h4 _ ?_
      simp [go_sem, tksT]
    · have h5 : ¬ (t : Int) < z.ticks := by omega
      have hte : t = z.ticks.toNat := by omega
      simp only [go_sem, tksT, tksH, hx, h2, n0, h5, Ht.v, Ht.cs, h3, List.length_map]
      rw [hte, ← hs]
      exact ih (i + 1, b', Y) (by dsimp only; omega) h1 _ (by simp [go_sem, tksT])
  · have h2 : ¬ (i : Int) < l.length := by omega
    rw [List.take_of_length_le (by omega)]
    simp only [go_sem, tksT, tksH, h2, List.length_map]
    exact ⟨b, kept_one 1 rfl (by rw [row_bel_cells]; simp only [go_sem]) rfl⟩

theorem flat_take (l : List Ht) (i : Nat) : (flat l).take (flat (l.take i)).length = flat (l.take i) := by
  conv => lhs; rw [← List.take_append_drop i l]
  rw [flat_app]
  have e : (List.take i l ++ List.drop i l).take i = l.take i := by rw [List.take_append_drop]
  rw [e, List.take_left]
theorem flat_len_le (l : List Ht) (i : Nat) : (flat (l.take i)).length ≤ (flat l).length := by
  conv => rhs; rw [← List.take_append_drop i l, flat_app, List.length_append]
  exact Nat.le_add_right _ _
theorem follow_snoc {c : Ct} {l : List Ht} {i : Nat} (hi : i < l.length) : follow c (l.take (i + 1)) = follow c (l.take i) ++ [coatOf c (flat (l.take (i + 1)))] := by
  have hx : l[i]? = some l[i] := List.getElem?_eq_getElem hi
  unfold follow
  rw [followX_succ hx, ← endX_succ hx, endX_flat]

set_option maxHeartbeats 4000000 in
theorem rFollow_run (c : Ct) (hc : CtOK c) (l : List Ht) (hl : LsOK l) (h0 : l ≠ []) : Ans Try.prog n_ref03_Follow [c.v (.view (c.bands.map Bd.v)), .view (l.map Ht.v)] [] (.tup [.sl 0 0 l.length, .int .i64 0]) [some (CgR (follow c l))] := by
  have hlen := hl.len
  have hsum := hl.sum
  have hlp : 0 < l.length := List.length_pos_iff.2 h0
  have hfl := flat_len hl.all
  have hcl := coats_len c (flat l)
  have hgo : ∀ i, i < l.length → (coats c (flat l))[(flat (l.take (i + 1))).length]? = some (coatOf c (flat (l.take (i + 1)))) := fun i hi => by
    have := coats_get (c := c) (a := flat l) (flat_len_le l (i + 1))
    rwa [flat_take] at this
  have hat : ∀ i, i ≤ l.length → ((flat (l.take i)).length : Int) = lenOfL (l.take i) := fun i hi => flat_len fun x hx => hl.all x (List.mem_of_mem_take hx)
  refine Ans.keep (run_fn e_ref03_Follow fun G => ?_) (Nat.zero_le _) (by simp [go_sem]) ⟨by simp only [go_sem], trivial⟩
  simp only [go_sem, Ct.v, Ct.cs]
  refine cP (rCheck_run c hc) ?_
  simp only [go_sem]
  refine cP (rCheckSchedule_run l hl) ?_
  simp only [go_sem, Ct.v, Ct.cs]
  refine cN1E (rticks_run c hc l hl) (fun a ha => ⟨by rw [bel_sl], by rw [row_bel_cells]; simp only [go_sem]⟩) ?_
  rintro b -
  simp only [go_sem, ren, rens]
  -- the first heating
  have hx : l[0]? = some l[0] := List.getElem?_eq_getElem hlp
  have hz := hl.all _ (List.getElem_mem hlp)
  have hs := lenOfL_succ hx
  have hr := lenOfL_take hl.all 1
  have hg := hgo 0 hlp
  have ha := hat 1 hlp
  have hfs := follow_snoc (c := c) hlp
  generalize l[0] = z at *
  have h2 : (0 : Int) < l.length := by omega
  have hzt := hz.ticks
  have p44 : 104 ≤ 2 ^ 44 := by decide
  have w1 : IntKind.i64.wrap 1 = 1 := rfl
  simp only [Nat.zero_add] at hg ha hfs hs
  rw [show lenOfL (l.take 0) = 0 from rfl] at hs
  have e1 : IntKind.i64.wrap (0 + z.ticks) = ((flat (l.take 1)).length : Int) := by rw [w64 (by omega)]; omega
  have l1 := flat_len_le l 1
  have n1 : ¬ ((flat (l.take 1)).length : Int) < 0 := by omega
  have n2 : ((flat (l.take 1)).length : Int) < (coats c (flat l)).length := by omega
  have q44 : ∀ n : Nat, n ≤ 40 → (n + 1) * 104 ≤ 2 ^ 44 := fun n hn => by omega
  generalize hy : coatOf c (flat (l.take 1)) = y at *
  generalize coats c (flat l) = xs at *
  refine loop_body 200 k_ref03_Follow_r15.eq_1 ?_
  simp only [go_sem, hx, h2, Ht.v, Ht.cs, List.length_map, e1, n1, n2, hg, Int.toNat_natCast, Cg.v, Cg.cs, p44, w1]
  simp only [cg_single]
  refine loop_ind k_ref03_Follow_r15.eq_1 (fun a : Nat × Heap => 1 ≤ a.1 ∧ a.1 ≤ l.length) (fun a => l.length - a.1)
    (fun a => (tsets 46 [(1, .view (l.map Ht.v)), (2, .ptr 0 0 0 1), (4, .nilsl), (5, .int .i64 0), (8, .sl 1 0 xs.length), (9, .sl 3 0 a.1), (10, .int .i64 (flat (l.take a.1)).length), (11, .int .i64 a.1)],
      some (.cells false 7 [c.v (.view (c.bands.map Bd.v))]) :: some (.cells b 13 (xs.map Cg.v)) :: some (.cells false 13 ([y].map Cg.v)) :: some (.cells true 13 ((follow c (l.take a.1)).map Cg.v)) :: a.2))
    (1, []) ⟨Nat.le_refl 1, hlp⟩ (by simp [go_sem]) (by simp [hfs, Ct.v, Ct.cs, show follow c ([] : List Ht) = [] from rfl]) ?_
  rintro ⟨i, X⟩ ⟨hi1, hi⟩ ih
  dsimp only at hi1 hi ih ⊢
  have hfx : (follow c (l.take i)).length = i := by unfold follow; rw [followX_len, List.length_take]; omega
  by_cases h1 : i < l.length
  · have h2' : (i : Int) < l.length := by omega
    have n0 : ¬ (i : Int) < 0 := by omega
    have hx' : l[i]? = some l[i] := List.getElem?_eq_getElem h1
    have hz' := hl.all _ (List.getElem_mem h1)
    have hs' := lenOfL_succ hx'
    have hr' := lenOfL_take hl.all (i + 1)
    have hg' := hgo i h1
    have ha' := hat (i + 1) h1
    have ha0 := hat i (by omega)
    have hfs' := follow_snoc (c := c) h1
    have l1' := flat_len_le l (i + 1)
    generalize l[i] = z' at *
    have hzt' := hz'.ticks
    have h3 := idx_next h1 (by omega)
    have e1' : IntKind.i64.wrap ((flat (l.take i)).length + z'.ticks) = ((flat (l.take (i + 1))).length : Int) := by rw [w64 (by omega)]; omega
    have n1' : ¬ ((flat (l.take (i + 1))).length : Int) < 0 := by omega
    have n2' : ((flat (l.take (i + 1))).length : Int) < xs.length := by omega
    have q := q44 i (by omega)
    generalize coatOf c (flat (l.take (i + 1))) = y' at *
    have esn := cg_snoc (follow c (l.take i)) y'
    simp only [go_sem, hx', h2', n0, Ht.v, Ht.cs, List.length_map, e1', n1', n2', hg', hfx, Int.toNat_natCast, Cg.v, Cg.cs, q]
    simp only [h3, esn, ← hfs']
    exact ih (i + 1, _) (by dsimp only; omega) ⟨by dsimp only; omega, h1⟩ _ (by simp [go_sem])
  · have h2' : ¬ (i : Int) < l.length := by omega
    have hil : i = l.length := by omega
    simp only [go_sem, h2', List.length_map]
    rw [hil, List.take_length]
    exact kept_one 3 rfl (by simp only [go_sem]) rfl
end Go.Proofs
namespace Go.Proofs
open Go Go.Sx
attribute [local irreducible] Run

structure Dm where
  gas : Int
  wear : Int
  lost : Int
  rest : Int
  ba : Int
  deriving Inhabited, DecidableEq
def Dm.cs (d : Dm) : List AVal := [.int .i64 d.gas, .int .i64 d.wear, .int .i64 d.lost, .int .i64 d.rest, .int .i64 d.ba]
def Dm.v (d : Dm) : AVal := .agg d.cs
@[go_sem] theorem dm_bel (x : Dm) (S : Nat → Prop) : Bel S x.v = True := by unfold Dm.v Dm.cs; simp only [go_sem]
@[go_sem] theorem dm_nv (x : Dm) : NV x.v = True := by unfold Dm.v Dm.cs; simp only [go_sem]
abbrev MW : Int := 1099511627776
structure DmOK (d : Dm) : Prop where
  gas : 0 ≤ d.gas ∧ d.gas ≤ 1099511627776
  wear : 0 ≤ d.wear ∧ d.wear ≤ 1099511627776
  lost : 0 ≤ d.lost ∧ d.lost ≤ 1099511627776
  rest : 0 ≤ d.rest ∧ d.rest ≤ 1099511627776
  ba : 0 ≤ d.ba ∧ d.ba ≤ 1000000000

theorem in_run (w : Int) (r : Rg) {m : Int} (h : RgIn r m) (hm : m ≤ 1099511627776) : Ans Try.prog n_kit_Dice_In [.ptr 0 0 0 1, r.v] [some (Dr w)] (.int .i64 (btw w r.lo r.hi)) [some (Dr (dstep w))] := by
  obtain ⟨a, b, c⟩ := h
  have hb := between_ok w r.lo r.hi (by omega) b (by omega)
  refine spec_run e_kit_Dice_In fun G => ?_
  simp only [go_sem, Rg.v]
  by_cases h1 : r.lo < r.hi
  · simp only [h1, if_true]
    refine cD hb ?_
    simp only [go_sem]
    exact ⟨_, rfl⟩
  · have e : r.hi = r.lo := by omega
    rw [e] at hb ⊢
    simp only [h1, if_false, Int.lt_irrefl]
    refine cD hb ?_
    simp only [go_sem]
    exact ⟨_, rfl⟩

def sel5v (q a b c d e : Int) : Int := if q = 0 then a else if q = 1 then b else if q = 2 then c else if q = 3 then d else e
theorem sel5v_ok (q a b c d e : Int) (h : 0 ≤ q ∧ q < 5) : [AVal.int .i64 a, .int .i64 b, .int .i64 c, .int .i64 d, .int .i64 e][q.toNat]? = some (.int .i64 (sel5v q a b c d e)) := by
  obtain rfl | rfl | rfl | rfl | rfl : q = 0 ∨ q = 1 ∨ q = 2 ∨ q = 3 ∨ q = 4 := by omega
  all_goals rfl
def sel4v (q a b c d : Int) : Int := if q = 0 then a else if q = 1 then b else if q = 2 then c else d
theorem sel4v_ok (q a b c d : Int) (h : 0 ≤ q ∧ q < 4) : [AVal.int .i64 a, .int .i64 b, .int .i64 c, .int .i64 d][q.toNat]? = some (.int .i64 (sel4v q a b c d)) := by
  obtain rfl | rfl | rfl | rfl : q = 0 ∨ q = 1 ∨ q = 2 ∨ q = 3 := by omega
  all_goals rfl

/-- The greater of two. -/
def mxv (a b : Int) : Int := if b > a then b else a
def nearV (w : Int) (r : Rg) : Int := sel5v (upto (dstep w) 5) r.lo r.hi (btw w r.lo r.hi) (mxv 0 (r.lo - 1)) 1099511627776
theorem nearV_in {w : Int} {r : Rg} {m : Int} (h : RgIn r m) (hm : m ≤ 1099511627776) : 0 ≤ nearV w r ∧ nearV w r ≤ 1099511627776 := by
  obtain ⟨a, b, c⟩ := h
  have hb := btw_in (w := w) b
  unfold nearV sel5v mxv
  generalize btw w r.lo r.hi = q at *
  constructor <;> (repeat' split) <;> omega
theorem near_run (w : Int) (r : Rg) {m : Int} (h : RgIn r m) (hm : m ≤ 1099511627776) : Ans Try.prog n_kit_near [.ptr 0 0 0 1, r.v] [some (Dr w)] (.int .i64 (nearV w r)) [some (Dr (dstep (dstep w)))] := by
  have hi := in_run w r h hm
  obtain ⟨a, b, c⟩ := h
  have hq := upto_in (w := dstep w) (n := 5) (by decide)
  have e1 : IntKind.i64.wrap (r.lo - 1) = r.lo - 1 := w64 (by omega)
  have hs := sel5v_ok (upto (dstep w) 5) r.lo r.hi (btw w r.lo r.hi) (mxv 0 (r.lo - 1)) 1099511627776 hq
  have n1 : ¬ upto (dstep w) 5 < 0 := by omega
  have n2 : upto (dstep w) 5 < 5 := hq.2
  have hu := upto_ok (dstep w) 5 (by decide)
  unfold nearV
  have hmx : (if r.lo - 1 > 0 then r.lo - 1 else 0) = mxv 0 (r.lo - 1) := rfl
  generalize mxv 0 (r.lo - 1) = y at *
  generalize upto (dstep w) 5 = q at *
  refine spec_run e_kit_near fun G => ?_
  simp only [go_sem, Rg.v]
  refine dD hi ?_
  simp only [go_sem, e1, hmx]
  refine dD hu ?_
  simp only [go_sem, n1, n2, hs]
  exact ⟨_, rfl⟩

theorem rFollow_nil (c : Ct) (hc : CtOK c) : Ans Try.prog n_ref03_Follow [c.v (.view (c.bands.map Bd.v)), .view []] [] (.tup [.nilsl, .int .i64 0]) [] := by
  have hl : LsOK [] := ⟨by simp, fun h hh => by simp at hh, by simp [lenOfL]⟩
  have hcs : Ans Try.prog n_ref03_CheckSchedule [.view []] [] (.int .i64 0) [] := rCheckSchedule_run [] hl
  have ht := rticks_run c hc [] hl
  refine spec_run e_ref03_Follow fun G => ?_
  simp only [go_sem, Ct.v, Ct.cs]
  refine cP (rCheck_run c hc) ?_
  simp only [go_sem]
  refine cP hcs ?_
  simp only [go_sem, Ct.v, Ct.cs]
  refine cN1E ht (fun a ha => ⟨by rw [bel_sl], by rw [row_bel_cells]; simp only [go_sem]⟩) ?_
  rintro b -
  simp only [go_sem, ren, rens]
  refine loop_body 200 k_ref03_Follow_r15.eq_1 ?_
  simp only [go_sem]
end Go.Proofs
namespace Go.Proofs
open Go Go.Sx
attribute [local irreducible] Run

def amV (r : Rg) (m : Int) : Int := if r.hi ≤ m then 1 else if m < r.lo then 2 else 3
def alV (r : Rg) (m : Int) : Int := if m ≤ r.lo then 1 else if r.hi < m then 2 else 3
theorem atMost_run (r : Rg) (m : Int) : Ans Try.prog n_cathode_atMost [r.v, .int .i64 m] [] (.int .i64 (amV r m)) [] := by
  unfold amV
  refine spec_run e_cathode_atMost fun G => ?_
  by_cases h1 : r.hi ≤ m
  · simp only [go_sem, Rg.v, h1]
  · by_cases h2 : m < r.lo
    · simp only [go_sem, Rg.v, h1, h2]
    · simp only [go_sem, Rg.v, h1, h2]
theorem atLeast_run (r : Rg) (m : Int) : Ans Try.prog n_cathode_atLeast [r.v, .int .i64 m] [] (.int .i64 (alV r m)) [] := by
  unfold alV
  refine spec_run e_cathode_atLeast fun G => ?_
  by_cases h1 : m ≤ r.lo
  · simp only [go_sem, Rg.v, h1]
  · by_cases h2 : r.hi < m
    · simp only [go_sem, Rg.v, h1, h2]
    · simp only [go_sem, Rg.v, h1, h2]

theorem look1_run (x : Cg) (d : Dm) : Ans Try.prog n_cathode_looksOf_1 [x.v, .rptr d.v 0] [] (.int .i64 (amV x.gas d.gas)) [] := by
  refine spec_run e_cathode_looksOf_1 fun G => ?_
  simp only [go_sem, Cg.v, Cg.cs, Dm.v, Dm.cs]
  refine cP (atMost_run x.gas d.gas) ?_
  simp only [go_sem]
theorem look2_run (x : Cg) (d : Dm) : Ans Try.prog n_cathode_looksOf_2 [x.v, .rptr d.v 0] [] (.int .i64 (amV x.wear d.wear)) [] := by
  refine spec_run e_cathode_looksOf_2 fun G => ?_
  simp only [go_sem, Cg.v, Cg.cs, Dm.v, Dm.cs]
  refine cP (atMost_run x.wear d.wear) ?_
  simp only [go_sem]
theorem look3_run (x : Cg) (d : Dm) : Ans Try.prog n_cathode_looksOf_3 [x.v, .rptr d.v 0] [] (.int .i64 (amV x.lost d.lost)) [] := by
  refine spec_run e_cathode_looksOf_3 fun G => ?_
  simp only [go_sem, Cg.v, Cg.cs, Dm.v, Dm.cs]
  refine cP (atMost_run x.lost d.lost) ?_
  simp only [go_sem]
theorem look4_run (x : Cg) (d : Dm) : Ans Try.prog n_cathode_looksOf_4 [x.v, .rptr d.v 0] [] (.int .i64 (amV x.carb d.rest)) [] := by
  refine spec_run e_cathode_looksOf_4 fun G => ?_
  simp only [go_sem, Cg.v, Cg.cs, Dm.v, Dm.cs]
  refine cP (atMost_run x.carb d.rest) ?_
  simp only [go_sem]
theorem look5_run (x : Cg) (d : Dm) : Ans Try.prog n_cathode_looksOf_5 [x.v, .rptr d.v 0] [] (.int .i64 (alV x.ba d.ba)) [] := by
  refine spec_run e_cathode_looksOf_5 fun G => ?_
  simp only [go_sem, Cg.v, Cg.cs, Dm.v, Dm.cs]
  refine cP (atLeast_run x.ba d.ba) ?_
  simp only [go_sem]

/-- The worst that is said. -/
def worst : Int → List Int → Int
  | a, [] => a
  | a, v :: vs => if v = 2 then 2 else worst (if v = 3 then 3 else a) vs
def fnv (p : Nat × List AVal × Int) : AVal := .fn (.func p.1) [] p.2.1

theorem fnv_len (ps : List (Nat × List AVal × Int)) : (ps.map fnv).length = ps.length := List.length_map _
theorem looksAll_run (x : Cg) (ps : List (Nat × List AVal × Int)) (hl : ps.length ≤ 100) (hps : ∀ p ∈ ps, Ans Try.prog p.1 (x.v :: p.2.1) [] (.int .i64 p.2.2) [] ∧ Bels (fun _ => False) p.2.1) :
    Ans Try.prog n_cathode_looks_all [.view (ps.map fnv), x.v] [] (.int .i64 (worst 1 (ps.map (·.2.2)))) [] := by
  generalize hW : worst 1 (ps.map (·.2.2)) = W
  refine spec_run e_cathode_looks_all fun G => ?_
  simp only [go_sem, Cg.v, Cg.cs, List.length_map]
  refine loop_ind k_cathode_looks_all_r11.eq_1 (fun a : Nat × Int × Heap => a.1 ≤ ps.length ∧ worst a.2.1 ((ps.drop a.1).map (·.2.2)) = W) (fun a => ps.length - a.1)
    (fun a => (tsets 23 [(3, .ptr 0 0 0 1), (5, .int .i64 a.2.1), (8, .view (ps.map fnv)), (9, .int .i64 ps.length), (10, .int .i64 a.1)], some (.cells false 13 [x.v]) :: a.2.2)) (0, 1, []) ⟨Nat.zero_le _, hW⟩ (by simp [go_sem]) rfl ?_
  rintro ⟨i, a, X⟩ ⟨hi, hw⟩ ih
  dsimp only at hi hw ih ⊢
  by_cases h1 : i < ps.length
  · have h2 : (i : Int) < ps.length := by omega
    have n0 : ¬ (i : Int) < 0 := by omega
    have hx : ps[i]? = some ps[i] := List.getElem?_eq_getElem h1
    have hd : ps.drop i = ps[i] :: ps.drop (i + 1) := List.drop_eq_getElem_cons h1
    have h3 := idx_next h1 (by omega)
    obtain ⟨hp, hb⟩ := hps _ (List.getElem_mem h1)
    rw [hd] at hw
    generalize ps[i] = p at *
    obtain ⟨g, cs, v⟩ := p
    simp only [List.map_cons, worst] at hw
    dsimp only at hp hb
    simp only [go_sem, hx, h2, n0, fnv, Cg.v, Cg.cs, List.length_map]
    refine cP hp ?_ ⟨by simp only [go_sem], hb⟩
    by_cases v2 : v = 2
    · subst v2
      simp only [if_true] at hw
      simp only [go_sem, hw]
    · by_cases v3 : v = 3
      · subst v3
        simp only [if_true, if_neg (show ¬ (3 : Int) = 2 by decide)] at hw
        simp only [go_sem, h3]
        exact ih (i + 1, 3, _) (by dsimp only; omega) ⟨h1, hw⟩ _ (by simp [go_sem])
      · have b2 : (v == 2) = false := by simp [v2]
        have b3 : (v == 3) = false := by simp [v3]
        rw [if_neg v2, if_neg v3] at hw
        simp only [go_sem, b2, b3, h3]
        exact ih (i + 1, a, _) (by dsimp only; omega) ⟨h1, hw⟩ _ (by simp [go_sem])
  · have h2 : ¬ (i : Int) < ps.length := by omega
    rw [List.drop_of_length_le (by omega)] at hw
    simp only [List.map_nil, worst] at hw
    simp only [go_sem, h2, List.length_map, hw]

/-- What is said of a coating after a tick, and after the last. -/
def eachV (d : Dm) (x : Cg) : Int := worst 1 [amV x.gas d.gas, amV x.wear d.wear, amV x.lost d.lost]
def lastV (d : Dm) (x : Cg) : Int := worst 1 [amV x.carb d.rest, alV x.ba d.ba]
def eachF (c : AVal) : List AVal := [.fn (.func n_cathode_looksOf_1) [] [c], .fn (.func n_cathode_looksOf_2) [] [c], .fn (.func n_cathode_looksOf_3) [] [c]]
def lastF (c : AVal) : List AVal := [.fn (.func n_cathode_looksOf_4) [] [c], .fn (.func n_cathode_looksOf_5) [] [c]]
theorem each_run (d : Dm) (x : Cg) : Ans Try.prog n_cathode_looks_all [.view (eachF (.rptr d.v 0)), x.v] [] (.int .i64 (eachV d x)) [] := by
  refine looksAll_run x [(n_cathode_looksOf_1, [.rptr d.v 0], amV x.gas d.gas), (n_cathode_looksOf_2, [.rptr d.v 0], amV x.wear d.wear), (n_cathode_looksOf_3, [.rptr d.v 0], amV x.lost d.lost)] (by simp) ?_
  intro p hp
  simp only [List.mem_cons, List.not_mem_nil, or_false] at hp
  rcases hp with rfl | rfl | rfl
  · exact ⟨look1_run x d, by simp only [go_sem]⟩
  · exact ⟨look2_run x d, by simp only [go_sem]⟩
  · exact ⟨look3_run x d, by simp only [go_sem]⟩
theorem last_run (d : Dm) (x : Cg) : Ans Try.prog n_cathode_looks_all [.view (lastF (.rptr d.v 0)), x.v] [] (.int .i64 (lastV d x)) [] := by
  refine looksAll_run x [(n_cathode_looksOf_4, [.rptr d.v 0], amV x.carb d.rest), (n_cathode_looksOf_5, [.rptr d.v 0], alV x.ba d.ba)] (by simp) ?_
  intro p hp
  simp only [List.mem_cons, List.not_mem_nil, or_false] at hp
  rcases hp with rfl | rfl
  · exact ⟨look4_run x d, by simp only [go_sem]⟩
  · exact ⟨look5_run x d, by simp only [go_sem]⟩

theorem amV_in (r : Rg) (m : Int) : amV r m = 1 ∨ amV r m = 2 ∨ amV r m = 3 := by unfold amV; split <;> (try split) <;> simp
theorem alV_in (r : Rg) (m : Int) : alV r m = 1 ∨ alV r m = 2 ∨ alV r m = 3 := by unfold alV; split <;> (try split) <;> simp
theorem amV_sure {r : Rg} {m : Int} : amV r m = 1 ↔ r.hi ≤ m := by unfold amV; split <;> (try split) <;> simp <;> omega
theorem amV_never {r : Rg} {m : Int} (h : r.lo ≤ r.hi) : amV r m = 2 ↔ m < r.lo := by unfold amV; split <;> (try split) <;> simp <;> omega
theorem alV_sure {r : Rg} {m : Int} : alV r m = 1 ↔ m ≤ r.lo := by unfold alV; split <;> (try split) <;> simp <;> omega
theorem alV_never {r : Rg} {m : Int} (h : r.lo ≤ r.hi) : alV r m = 2 ↔ r.hi < m := by unfold alV; split <;> (try split) <;> simp <;> omega
theorem worst_never : ∀ (l : List Int) (a : Int), a ≠ 2 → (worst a l = 2 ↔ ∃ v ∈ l, v = 2)
  | [], a, h => by simp [worst, h]
  | v :: l, a, h => by
    unfold worst
    by_cases hv : v = 2
    · simp [hv]
    · rw [if_neg hv, worst_never l _ (by split <;> omega)]
      constructor
      · rintro ⟨u, hu, h2⟩
        exact ⟨u, by simp [hu], h2⟩
      · rintro ⟨u, hu, h2⟩
        rcases List.mem_cons.1 hu with rfl | hu
        · exact absurd h2 hv
        · exact ⟨u, hu, h2⟩
theorem worst_sure : ∀ (l : List Int) (a : Int), (∀ v ∈ l, v = 1 ∨ v = 2 ∨ v = 3) → (worst a l = 1 ↔ a = 1 ∧ ∀ v ∈ l, v = 1)
  | [], a, _ => by simp [worst]
  | v :: l, a, h => by
    have h0 := h v (by simp)
    have ih := fun a => worst_sure l a fun v hv => h v (by simp [hv])
    unfold worst
    by_cases hv : v = 2
    · subst hv; simp
    · by_cases hv3 : v = 3
      · subst hv3; rw [if_neg hv, if_pos rfl, ih]; simp
      · have : v = 1 := by omega
        subst this
        rw [if_neg hv, if_neg hv3, ih]; simp
theorem worst_in : ∀ (l : List Int) (a : Int), (a = 1 ∨ a = 2 ∨ a = 3) → worst a l = 1 ∨ worst a l = 2 ∨ worst a l = 3
  | [], a, h => h
  | v :: l, a, h => by
    unfold worst
    have h' : (if v = 3 then 3 else a) = 1 ∨ (if v = 3 then 3 else a) = 2 ∨ (if v = 3 then 3 else a) = 3 := by split <;> omega
    split
    · simp
    · exact worst_in l _ h'
end Go.Proofs
