/- Coats made of numbers. -/
import Derived.Test.YtigaafcllfjniaaYcH
import Derived.Test.YtigaafcllfjniaaSxF
namespace Go.Proofs
open Go Go.Sx

theorem rate_run (w m : Int) (hm : 0 ≤ m ∧ m ≤ 1000000) : ∃ r w', RgIn r m ∧ Ans Try.prog n_kit_rate [.ptr 0 0 0 1, .int .i64 m] [some (Dr w)] (Rg.v r) [some (Dr w')] := by
  have h0 := upto_in (w := w) (n := 5) (by decide)
  have hb1 := between_ok (dstep w) 0 m (by decide) hm.1 (by omega)
  have hb2 := btw_in (w := dstep w) hm.1
  have hu := upto_in (w := dstep (dstep w)) (n := m / 4 + 1) (by omega)
  have t1 : m.tdiv 4 = m / 4 := Int.tdiv_eq_ediv_of_nonneg hm.1
  have t2 : IntKind.i64.wrap (m / 4) = m / 4 := w64 (by omega)
  have t3 : IntKind.i64.wrap (m / 4 + 1) = m / 4 + 1 := w64 (by omega)
  have t4 : IntKind.i64.wrap (btw (dstep w) 0 m + upto (dstep (dstep w)) (m / 4 + 1)) = btw (dstep w) 0 m + upto (dstep (dstep w)) (m / 4 + 1) := w64 (by omega)
  have hu5 := upto_ok w 5 (by decide)
  have hu6 := upto_ok (dstep (dstep w)) (m / 4 + 1) (by omega)
  generalize btw (dstep w) 0 m = n at *
  generalize upto (dstep (dstep w)) (m / 4 + 1) = y at *
  generalize upto w 5 = q at *
  by_cases q0 : q = 0
  · subst q0
    refine ⟨⟨0, 0⟩, dstep w, ⟨by simp, by simp, hm.1⟩, spec_run e_kit_rate fun G => ?_⟩
    simp only [go_sem]
    refine cD hu5 ?_
    simp only [go_sem, Rg.v]
    exact ⟨_, rfl⟩
  by_cases q1 : q = 1
  · subst q1
    refine ⟨⟨n, n⟩, dstep (dstep w), ⟨hb2.1, by simp, hb2.2⟩, spec_run e_kit_rate fun G => ?_⟩
    simp only [go_sem]
    refine cD hu5 ?_
    simp only [go_sem, q0]
    refine cD hb1 ?_
    simp only [go_sem, Rg.v]
    exact ⟨_, rfl⟩
  · refine ⟨⟨n, if n + y < m then n + y else m⟩, dstep (dstep (dstep w)), ⟨hb2.1, ?_, ?_⟩, spec_run e_kit_rate fun G => ?_⟩
    · dsimp only; split <;> omega
    · dsimp only; split <;> omega
    simp only [go_sem]
    refine cD hu5 ?_
    have b0 : (q == 0) = false := by simp [q0]
    have b1 : (q == 1) = false := by simp [q1]
    simp only [go_sem, b0, b1]
    refine cD hb1 ?_
    simp only [go_sem, t1, t2, t3]
    refine cD hu6 ?_
    simp only [go_sem, Rg.v, t4]
    exact ⟨_, rfl⟩

def BdR (bs : List Bd) : Row := .cells true 9 (bs.map Bd.v)
@[go_sem] theorem bdr_bel (bs : List Bd) (S : Nat → Prop) : (BdR bs).bel S = True := by unfold BdR; rw [row_bel_cells]; simp only [go_sem]

theorem sel3 (q a b c : Int) (h : 0 ≤ q ∧ q < 3) : ∃ v, (v = a ∨ v = b ∨ v = c) ∧ [AVal.int .i64 a, .int .i64 b, .int .i64 c][q.toNat]? = some (.int .i64 v) := by
  obtain rfl | rfl | rfl : q = 0 ∨ q = 1 ∨ q = 2 := by omega
  · exact ⟨a, .inl rfl, rfl⟩
  · exact ⟨b, .inr (.inl rfl), rfl⟩
  · exact ⟨c, .inr (.inr rfl), rfl⟩
theorem sel2 (q a b : Int) (h : 0 ≤ q ∧ q < 2) : ∃ v, (v = a ∨ v = b) ∧ [AVal.int .i64 a, .int .i64 b][q.toNat]? = some (.int .i64 v) := by
  obtain rfl | rfl : q = 0 ∨ q = 1 := by omega
  · exact ⟨a, .inl rfl, rfl⟩
  · exact ⟨b, .inr rfl, rfl⟩
theorem bd_snoc (xs : List Bd) (y : Bd) : List.map Bd.v xs ++ [.agg [.int .i64 y.frm, .int .i64 y.conv.lo, .int .i64 y.conv.hi, .int .i64 y.red.lo, .int .i64 y.red.hi, .int .i64 y.evap.lo, .int .i64 y.evap.hi, .int .i64 y.sint.lo, .int .i64 y.sint.hi]] = List.map Bd.v (xs ++ [y]) := by
  rw [List.map_append]; rfl

theorem RgIn.up {r : Rg} {m n : Int} (h : RgIn r m) (hmn : m ≤ n) : RgIn r n := ⟨h.lo, h.le, Int.le_trans h.hi hmn⟩

/-- What may become of a round of CoatOf. -/
theorem band_run (w from' : Int) (hf : 0 ≤ from' ∧ from' ≤ 2000) : ∃ (b : Bd) (m st w1 w2 w3 w4 w5 : Int), BdOK b ∧ b.frm = from' ∧ 1 ≤ st ∧ st ≤ 700 ∧ (m = 1000 ∨ m = 100000 ∨ m = 1000000) ∧
    (0 ≤ upto w 3 ∧ upto w 3 < 3) ∧ [AVal.int .i64 1000, .int .i64 100000, .int .i64 1000000][(upto w 3).toNat]? = some (.int .i64 m) ∧
    Ans Try.prog n_kit_rate [.ptr 0 0 0 1, .int .i64 m] [some (Dr (dstep w))] b.conv.v [some (Dr w1)] ∧
    Ans Try.prog n_kit_rate [.ptr 0 0 0 1, .int .i64 m] [some (Dr w1)] b.red.v [some (Dr w2)] ∧
    Ans Try.prog n_kit_rate [.ptr 0 0 0 1, .int .i64 (m / 4)] [some (Dr w2)] b.evap.v [some (Dr w3)] ∧
    Ans Try.prog n_kit_rate [.ptr 0 0 0 1, .int .i64 9] [some (Dr w3)] b.sint.v [some (Dr w4)] ∧
    Ans Try.prog n_kit_Dice_Between [.ptr 0 0 0 1, .int .i64 1, .int .i64 700] [some (Dr w4)] (.int .i64 st) [some (Dr w5)] := by
  have hq := upto_in (w := w) (n := 3) (by decide)
  obtain ⟨m, hm, hsel⟩ := sel3 (upto w 3) 1000 100000 1000000 hq
  have hm2 : 0 ≤ m ∧ m ≤ 1000000 := by omega
  obtain ⟨r1, w1, a1, b1⟩ := rate_run (dstep w) m hm2
  obtain ⟨r2, w2, a2, b2⟩ := rate_run w1 m hm2
  obtain ⟨r3, w3, a3, b3⟩ := rate_run w2 (m / 4) (by omega)
  obtain ⟨r4, w4, a4, b4⟩ := rate_run w3 9 (by decide)
  have hb := btw_in (w := w4) (lo := 1) (hi := 700) (by decide)
  exact ⟨⟨from', r1, r2, r3, r4⟩, m, btw w4 1 700, w1, w2, w3, w4, dstep w4, ⟨hf, a1.up hm2.2, a2.up hm2.2, a3.up (by omega), a4.up (by decide)⟩, rfl, hb.1, hb.2, hm, hq, hsel, b1, b2, b3, b4, between_ok w4 1 700 (by decide) (by decide) (by decide)⟩

set_option maxHeartbeats 2000000 in
theorem coatOf_run (w : Int) : AnsE Try.prog n_kit_CoatOf [.ptr 0 0 0 1] [some (Dr w)] (fun a : Ct × Int => CtOK a.1) (fun a => a.1.v (.sl 1 0 a.1.bands.length)) (fun a => [some (Dr a.2), some (BdR a.1.bands)]) := by
  refine AnsE.keep (run_fn e_kit_CoatOf fun G => ?_) (fun a ha => ⟨by simp, by simp [go_sem, Ct.v, Ct.cs], by simp only [go_sem], by simp only [go_sem], trivial⟩)
  have g1 := btw_in (w := w) (lo := 1) (hi := 20) (by decide)
  have g2 := btw_in (w := dstep w) (lo := 1) (hi := 2000) (by decide)
  have g3 := btw_in (w := dstep (dstep w)) (lo := 1) (hi := 1000000) (by decide)
  have q1 := upto_in (w := dstep (dstep (dstep w))) (n := 3) (by decide)
  obtain ⟨am, ham, hs1⟩ := sel3 _ (btw w 1 20) (btw (dstep w) 1 2000) (btw (dstep (dstep w)) 1 1000000) q1
  have hu1 := upto_ok (dstep (dstep (dstep w))) 3 (by decide)
  have g4 := btw_in (w := dstep (dstep (dstep (dstep w)))) (lo := 1) (hi := 300) (by decide)
  have q2 := upto_in (w := dstep (dstep (dstep (dstep (dstep w))))) (n := 2) (by decide)
  obtain ⟨sl, hsl, hs2⟩ := sel2 _ (btw (dstep (dstep (dstep (dstep w)))) 1 300) 2000 q2
  have hu2 := upto_ok (dstep (dstep (dstep (dstep (dstep w))))) 2 (by decide)
  obtain ⟨aid, w7, haid, raid⟩ := rate_run (dstep (dstep (dstep (dstep (dstep (dstep w)))))) 500 (by decide)
  obtain ⟨yl, w8, hyl, ryl⟩ := rate_run w7 1000000 (by decide)
  have g5 := btw_in (w := w8) (lo := 1) (hi := 4) (by decide)
  have bt5 := between_ok w8 1 4 (by decide) (by decide) (by decide)
  have n1 : ¬ upto (dstep (dstep (dstep w))) 3 < 0 := by omega
  have n2 : upto (dstep (dstep (dstep w))) 3 < 3 := q1.2
  have n3 : ¬ upto (dstep (dstep (dstep (dstep (dstep w))))) 2 < 0 := by omega
  have n4 : upto (dstep (dstep (dstep (dstep (dstep w))))) 2 < 2 := q2.2
  generalize btw w8 1 4 = cnt at *
  have p44 : 72 ≤ 2 ^ 44 := by decide
  obtain ⟨b, mb, stb, wab, wbb, wcb, wdb, web, hbkb, hbfb, hstb, hst2b, hmb, hqab, hselb, e1b, e2b, e3b, e4b, e5b⟩ := band_run (dstep w8) 0 (by decide)
  have hub := upto_ok (dstep w8) 3 (by decide)
  have t1b : mb.tdiv 4 = mb / 4 := Int.tdiv_eq_ediv_of_nonneg (by omega)
  have t2b : IntKind.i64.wrap (mb / 4) = mb / 4 := w64 (by omega)
  have hq1b : ¬ upto (dstep w8) 3 < 0 := by omega
  have hq2b : upto (dstep w8) 3 < 3 := hqab.2
  have hcnt : 0 < cnt := by omega
  have u1 : IntKind.i64.wrap (cnt - 1) = cnt - 1 := w64 (by omega)
  have u2 : IntKind.i64.wrap (0 + stb) = stb := by rw [w64 (by omega)]; omega
  simp only [go_sem]
  refine dD (between_ok w 1 20 (by decide) (by decide) (by decide)) ?_
  simp only [go_sem]
  refine dD (between_ok _ 1 2000 (by decide) (by decide) (by decide)) ?_
  simp only [go_sem]
  refine dD (between_ok _ 1 1000000 (by decide) (by decide) (by decide)) ?_
  simp only [go_sem]
  refine dD hu1 ?_
  simp only [go_sem, n1, n2, hs1]
  refine dD (between_ok _ 1 300 (by decide) (by decide) (by decide)) ?_
  simp only [go_sem]
  refine dD hu2 ?_
  simp only [go_sem, n3, n4, hs2]
  refine dD raid ?_
  simp only [go_sem]
  refine dD ryl ?_
  simp only [go_sem, Rg.v]
  refine cD bt5 ?_
  simp only [go_sem]
  refine loop_body 200 k_kit_CoatOf_r9.eq_1 ?_
  simp only [go_sem, hcnt]
  refine cD hub ?_
  simp only [go_sem, hq1b, hq2b, hselb]
  refine dD e1b ?_
  simp only [go_sem]
  refine dD e2b ?_
  simp only [go_sem, t1b, t2b]
  refine dD e3b ?_
  simp only [go_sem]
  refine dD e4b ?_
  simp only [go_sem, Rg.v, p44]
  refine cD e5b ?_
  simp only [go_sem, u1, u2]
  generalize some (Row.cells false 1 [.int .i64 (btw w 1 20), .int .i64 (btw (dstep w) 1 2000), .int .i64 (btw (dstep (dstep w)) 1 1000000)]) = Y2
  generalize some (Row.cells false 1 [.int .i64 (btw (dstep (dstep (dstep (dstep w)))) 1 300), .int .i64 2000]) = Y3
  generalize some (Row.cells false 1 [.int .i64 1000, .int .i64 100000, .int .i64 1000000]) = Y5
  have e0 : [AVal.agg [.int .i64 0, .int .i64 b.conv.lo, .int .i64 b.conv.hi, .int .i64 b.red.lo, .int .i64 b.red.hi, .int .i64 b.evap.lo, .int .i64 b.evap.hi, .int .i64 b.sint.lo, .int .i64 b.sint.hi]] = List.map Bd.v [b] := by rw [← hbfb]; rfl
  rw [e0]
  refine loop_ind k_kit_CoatOf_r9.eq_1 (fun a : Int × Int × Int × List Bd × Heap => 0 ≤ a.1 ∧ a.2.2.2.1.length + a.1 ≤ 4 ∧ 0 ≤ a.2.1 ∧ a.2.1 ≤ 3000 ∧ Bands a.2.2.2.1 a.2.1) (fun a => a.1.toNat)
    (fun a => (tsets 69 [(0, .ptr 0 0 0 1), (2, .ptr 1 0 0 1), (3, .ptr 4 0 0 1), (4, .int .i64 a.2.1), (5, .int .i64 a.1)],
      some (Dr a.2.2.1) :: some (.cells false 7 [.agg [.int .i64 0, .int .i64 0, .int .i64 0, .int .i64 0, .int .i64 0, .int .i64 0, .nilsl]]) :: Y2 :: Y3 ::
        some (.cells false 7 [.agg [.int .i64 am, .int .i64 sl, .int .i64 aid.lo, .int .i64 aid.hi, .int .i64 yl.lo, .int .i64 yl.hi, .sl 7 0 a.2.2.2.1.length]]) :: Y5 :: some (.cells false 9 (List.map Bd.v [b])) :: some (.cells true 9 (a.2.2.2.1.map Bd.v)) :: a.2.2.2.2))
    (cnt - 1, stb, web, [b], []) ⟨by dsimp only; omega, by simp; omega, by dsimp only; omega, by dsimp only; omega, Bands.one hbkb hbfb (show 0 < stb by omega)⟩ (by simp [go_sem]) rfl ?_
  rintro ⟨i, frm, w', bs, X⟩ ⟨hi0, hil, hf0, hf1, hbs⟩ ih
  dsimp only at hi0 hil hf0 hf1 hbs ih ⊢
  by_cases c1 : 0 < i
  · by_cases c2 : frm ≤ 2000
    · obtain ⟨z, mz, stz, waz, wbz, wcz, wdz, wez, hbkz, hbfz, hstz, hst2z, hmz, hqaz, hselz, e1z, e2z, e3z, e4z, e5z⟩ := band_run w' frm ⟨hf0, c2⟩
      have huz := upto_ok w' 3 (by decide)
      have t1z : mz.tdiv 4 = mz / 4 := Int.tdiv_eq_ediv_of_nonneg (by omega)
      have t2z : IntKind.i64.wrap (mz / 4) = mz / 4 := w64 (by omega)
      have hq1z : ¬ upto w' 3 < 0 := by omega
      have hq2z : upto w' 3 < 3 := hqaz.2
      have v1 : IntKind.i64.wrap (i - 1) = i - 1 := w64 (by omega)
      have v2 : IntKind.i64.wrap (frm + stz) = frm + stz := w64 (by omega)
      have q44 : (bs.length + 1) * 72 ≤ 2 ^ 44 := by omega
      have e1 : ∀ xs : List Bd, List.map Bd.v xs ++ [AVal.agg [.int .i64 frm, .int .i64 z.conv.lo, .int .i64 z.conv.hi, .int .i64 z.red.lo, .int .i64 z.red.hi, .int .i64 z.evap.lo, .int .i64 z.evap.hi, .int .i64 z.sint.lo, .int .i64 z.sint.hi]] = List.map Bd.v (xs ++ [z]) := fun xs => by rw [← hbfz]; exact bd_snoc xs z
      simp only [go_sem, c1, c2]
      refine cD huz ?_
      simp only [go_sem, hq1z, hq2z, hselz]
      refine dD e1z ?_
      simp only [go_sem]
      refine dD e2z ?_
      simp only [go_sem, t1z, t2z]
      refine dD e3z ?_
      simp only [go_sem]
      refine dD e4z ?_
      simp only [go_sem, Rg.v, q44]
      refine ⟨by simp <;> omega, ?_⟩
      refine cD e5z ?_
      simp only [go_sem, v1, v2, e1]
      rw [show bs.length + 1 = (bs ++ [z]).length by simp]
      exact ih (i - 1, frm + stz, wez, bs ++ [z], _) (by dsimp only; omega) ⟨by dsimp only; omega, by simp; omega, by dsimp only; omega, by dsimp only; omega, hbs.snoc hbkz hbfz (show frm < frm + stz by omega)⟩ _ (by simp [go_sem])
    · simp only [go_sem, c1, c2]
      refine ⟨(⟨am, sl, aid, yl, bs⟩, w'), ⟨⟨?_, ?_⟩, ⟨?_, ?_⟩, haid.up (by decide), hyl, ⟨hbs.len, ?_⟩, hbs.first, hbs.asc, hbs.all⟩, kept_two 7 (by decide) ?_ (by simp only [go_sem]) (by simp only [go_sem]) ?_ ?_⟩
      all_goals first | (dsimp only; omega) | rfl
  · simp only [go_sem, c1]
    refine ⟨(⟨am, sl, aid, yl, bs⟩, w'), ⟨⟨?_, ?_⟩, ⟨?_, ?_⟩, haid.up (by decide), hyl, ⟨hbs.len, ?_⟩, hbs.first, hbs.asc, hbs.all⟩, kept_two 7 (by decide) ?_ (by simp only [go_sem]) (by simp only [go_sem]) ?_ ?_⟩
    all_goals first | (dsimp only; omega) | rfl
end Go.Proofs
