import Derived.Test.YtcnpapgcojagpaaPC
set_option linter.unusedSimpArgs false
set_option linter.unusedVariables false
namespace Go.Proofs
open Go Go.Sx Go.Fam
attribute [local irreducible] Run
set_option maxHeartbeats 4000000 in
set_option maxRecDepth 20000 in
theorem checkPlace_run (f : Fa) (hL : Tab f.g.length f.p.length f.lo) (hH : Tab f.g.length f.p.length f.hi) {i k : Nat} (hi : i < f.g.length) (hk : k < f.p.length) (hm : f.g.length <= 1000 /\ f.p.length <= 1000) :
    Ans Try.prog n_curve_checkPlace [Fv f, .int .i64 i, .int .i64 k] [] (.int .i64 (plE f i k)) [] := by
  obtain ⟨r, hr, hrl⟩ := hL.row i hi
  obtain ⟨s, hs, hsl⟩ := hH.row i hi
  have a1 := get_at (l := r) (i := k) (by omega)
  have b1 := get_at (l := s) (i := k) (by omega)
  rw [<- tg_get hr] at a1
  rw [<- tg_get hs] at b1
  have n1 : ¬ (i : Int) < 0 := by omega
  have n2 : ¬ (k : Int) < 0 := by omega
  have w1 := within_run (tg f.lo i k) 0 1000000
  have w2 := within_run (tg f.hi i k) 0 1000000
  refine spec_run e_curve_checkPlace fun G => ?_
  simp only [go_sem, Fv, Fcs, tw, vw, hr, hs, a1, b1, n1, n2, Int.toNat_natCast]
  refine cP w1 ?_
  obtain ⟨e, he⟩ : ∃ e, plE f i k = e := ⟨_, rfl⟩
  rw [he]
  by_cases c1 : 0 <= tg f.lo i k /\ tg f.lo i k <= 1000000
  . simp only [go_sem, c1]
    refine cP w2 ?_
    by_cases c2 : 0 <= tg f.hi i k /\ tg f.hi i k <= 1000000
    . skip
      by_cases c3 : tg f.hi i k < tg f.lo i k
      . skip
        simp only [go_sem, tw, vw, c2, c3]
        (rw [<- he]; unfold plE; (try simp only [Nat.add_sub_cancel]); (repeat' split) <;> omega)
      . skip
        have before : ∀ (j : Nat), k = j + 1 -> r[j]? = some (tg f.lo i j) /\ s[j]? = some (tg f.hi i j) := fun j hj => by
          rw [tg_get hr, tg_get hs]; exact ⟨get_at (by omega), get_at (by omega)⟩
        have up : ∀ (j : Nat), i = j + 1 -> ∃ r' s', f.lo[j]? = some r' /\ f.hi[j]? = some s' /\ r'[k]? = some (tg f.lo j k) /\ s'[k]? = some (tg f.hi j k) := fun j hj => by
          obtain ⟨r', h1, h2⟩ := hL.row j (by omega)
          obtain ⟨s', h3, h4⟩ := hH.row j (by omega)
          refine ⟨r', s', h1, h3, ?_, ?_⟩
          . rw [tg_get h1]; exact get_at (by omega)
          . rw [tg_get h3]; exact get_at (by omega)
        by_cases k0 : 0 < k
        . obtain ⟨j, rfl⟩ : ∃ j, k = j + 1 := ⟨k - 1, by omega⟩
          obtain ⟨u1, u2⟩ := before j rfl
          have e1 : ((j + 1 : Nat) : Int) > 0 := by omega
          have e2 : IntKind.i64.wrap (((j + 1 : Nat) : Int) - 1) = j := by rw [w64 (by omega)]; omega
          have e3 : ¬ (j : Int) < 0 := by omega
          by_cases c4 : tg f.lo i (j + 1) < tg f.lo i j
          . skip
            simp only [go_sem, tw, vw, c2, c3, e1, e2, e3, hr, n1, Int.toNat_natCast, u1, c4]
            (rw [<- he]; unfold plE; (try simp only [Nat.add_sub_cancel]); (repeat' split) <;> omega)
          . by_cases c5 : tg f.hi i (j + 1) < tg f.hi i j
            . skip
              simp only [go_sem, tw, vw, c2, c3, e1, e2, e3, hr, hs, n1, Int.toNat_natCast, u1, u2, c4, c5]
              (rw [<- he]; unfold plE; (try simp only [Nat.add_sub_cancel]); (repeat' split) <;> omega)
            . skip
              by_cases i0 : 0 < i
              . obtain ⟨m, rfl⟩ : ∃ m, i = m + 1 := ⟨i - 1, by omega⟩
                obtain ⟨r', s', v1, v2, v3, v4⟩ := up m rfl
                have g1 : ((m + 1 : Nat) : Int) > 0 := by omega
                have g2 : IntKind.i64.wrap (((m + 1 : Nat) : Int) - 1) = m := by rw [w64 (by omega)]; omega
                have g3 : ¬ (m : Int) < 0 := by omega
                by_cases c6 : tg f.lo (m + 1) (j + 1) < tg f.lo m (j + 1)
                . skip
                  simp only [go_sem, tw, vw, c2, c3, e1, e2, e3, hr, hs, n1, n2, Int.toNat_natCast, u1, u2, c4, c5, g1, g2, g3, v1, v3, c6]
                  (rw [<- he]; unfold plE; (try simp only [Nat.add_sub_cancel]); (repeat' split) <;> omega)
                . by_cases c7 : tg f.hi (m + 1) (j + 1) < tg f.hi m (j + 1)
                  . skip
                    simp only [go_sem, tw, vw, c2, c3, e1, e2, e3, hr, hs, n1, n2, Int.toNat_natCast, u1, u2, c4, c5, g1, g2, g3, v1, v2, v3, v4, c6, c7]
                    (rw [<- he]; unfold plE; (try simp only [Nat.add_sub_cancel]); (repeat' split) <;> omega)
                  . skip
                    simp only [go_sem, tw, vw, c2, c3, e1, e2, e3, hr, hs, n1, n2, Int.toNat_natCast, u1, u2, c4, c5, g1, g2, g3, v1, v2, v3, v4, c6, c7]
                    (rw [<- he]; unfold plE; (try simp only [Nat.add_sub_cancel]); (repeat' split) <;> omega)
              . skip
                have g1 : ¬ (i : Int) > 0 := by omega
                simp only [go_sem, tw, vw, c2, c3, e1, e2, e3, hr, hs, n1, Int.toNat_natCast, u1, u2, c4, c5, g1]
                (rw [<- he]; unfold plE; (try simp only [Nat.add_sub_cancel]); (repeat' split) <;> omega)
        . skip
          have e1 : ¬ (k : Int) > 0 := by omega
          by_cases i0 : 0 < i
          . obtain ⟨m, rfl⟩ : ∃ m, i = m + 1 := ⟨i - 1, by omega⟩
            obtain ⟨r', s', v1, v2, v3, v4⟩ := up m rfl
            have g1 : ((m + 1 : Nat) : Int) > 0 := by omega
            have g2 : IntKind.i64.wrap (((m + 1 : Nat) : Int) - 1) = m := by rw [w64 (by omega)]; omega
            have g3 : ¬ (m : Int) < 0 := by omega
            by_cases c6 : tg f.lo (m + 1) k < tg f.lo m k
            . skip
              simp only [go_sem, tw, vw, c2, c3, e1, n2, Int.toNat_natCast, g1, g2, g3, v1, v3, c6]
              (rw [<- he]; unfold plE; (try simp only [Nat.add_sub_cancel]); (repeat' split) <;> omega)
            . by_cases c7 : tg f.hi (m + 1) k < tg f.hi m k
              . skip
                simp only [go_sem, tw, vw, c2, c3, e1, n2, Int.toNat_natCast, g1, g2, g3, v1, v2, v3, v4, c6, c7]
                (rw [<- he]; unfold plE; (try simp only [Nat.add_sub_cancel]); (repeat' split) <;> omega)
              . skip
                simp only [go_sem, tw, vw, c2, c3, e1, n2, Int.toNat_natCast, g1, g2, g3, v1, v2, v3, v4, c6, c7]
                (rw [<- he]; unfold plE; (try simp only [Nat.add_sub_cancel]); (repeat' split) <;> omega)
          . skip
            have g1 : ¬ (i : Int) > 0 := by omega
            simp only [go_sem, tw, vw, c2, c3, e1, g1]
            (rw [<- he]; unfold plE; (try simp only [Nat.add_sub_cancel]); (repeat' split) <;> omega)
    . skip
      simp only [go_sem, c2]
      (rw [<- he]; unfold plE; (try simp only [Nat.add_sub_cancel]); (repeat' split) <;> omega)
  . skip
    simp only [go_sem, c1]
    (rw [<- he]; unfold plE; (try simp only [Nat.add_sub_cancel]); (repeat' split) <;> omega)
end Go.Proofs
namespace Go.Proofs
open Go Go.Sx Go.Fam
attribute [local irreducible] Run
theorem rowE_step {f : Fa} {i : Nat} (hi : i < f.g.length) : fnz (rowE f) i (f.g.length - i) = if rowE f i = 0 then fnz (rowE f) (i + 1) (f.g.length - (i + 1)) else rowE f i := by
  rw [show f.g.length - i = (f.g.length - (i + 1)) + 1 by omega]; rfl
theorem plE_step {f : Fa} {i k : Nat} (hk : k < f.p.length) : fnz (plE f i) k (f.p.length - k) = if plE f i k = 0 then fnz (plE f i) (k + 1) (f.p.length - (k + 1)) else plE f i k := by
  rw [show f.p.length - k = (f.p.length - (k + 1)) + 1 by omega]; rfl
set_option maxHeartbeats 2000000 in
set_option maxRecDepth 10000 in
theorem Check_run (f : Fa) (hg : f.g.length <= 1000000) (hp : f.p.length <= 1000000) (hl : f.lo.length <= 1000000) (hh : f.hi.length <= 1000000) : Ans Try.prog n_curve_Check [Fv f] [] (.int .i64 (famE f)) [] := by
  have k1 := checkLines_run f.g f.p (by omega) (by omega)
  have k2 := hasForm_run f.lo f (by omega)
  have k3 := hasForm_run f.hi f (by omega)
  obtain ⟨e, he⟩ : ∃ e, famE f = e := ⟨_, rfl⟩
  rw [he]
  unfold famE at he
  simp only [Fv, Fcs] at k2 k3
  refine spec_run e_curve_Check fun G => ?_
  simp only [go_sem, Fv, Fcs]
  refine cP k1 ?_
  by_cases c1 : lineE f.g f.p = 0
  . rw [if_pos c1] at he
    obtain ⟨hG, hP⟩ := line_iff.1 c1
    have m1 := hG.most
    have m2 := hP.most
    simp only [go_sem, c1]
    refine cP k2 ?_
    by_cases c2 : formB f.g.length f.p.length f.lo = true
    . simp only [go_sem, c2]
      refine cP k3 ?_
      by_cases c3 : formB f.g.length f.p.length f.hi = true
      . rw [if_pos ⟨c2, c3⟩] at he
        have tL := tab_of c2
        have tH := tab_of c3
        simp only [go_sem, c3, vw, List.length_map]
        refine loop_ind k_curve_Check_r18.eq_1 (fun i : Nat => i <= f.g.length /\ fnz (rowE f) i (f.g.length - i) = e) (fun i => f.g.length - i)
          (fun i => (tsets 48 [(1, .ptr 0 0 0 1), (2, .int .i64 0), (29, .int .i64 f.g.length), (30, .int .i64 i)], [some (.cells false 4 [Fv f])])) 0 ⟨Nat.zero_le _, he⟩ (by simp [go_sem]) (by simp [Fv, Fcs, vw]) ?_
        rintro i ⟨hi, hE⟩ ih
        dsimp only at hi hE ih ⊢
        by_cases h1 : i < f.g.length
        . have h2 : (i : Int) < f.g.length := by omega
          have h3 := idx_next h1 (by omega)
          rw [rowE_step h1] at hE
          simp only [go_sem, h2, Fv, Fcs, vw, List.length_map]
          refine loop_ind k_curve_Check_r16.eq_1 (fun k : Nat => k <= f.p.length /\ fnz (plE f i) k (f.p.length - k) = rowE f i) (fun k => f.p.length - k)
            (fun k => (tsets 48 [(1, .ptr 0 0 0 1), (2, .int .i64 0), (4, .int .i64 i), (29, .int .i64 f.g.length), (30, .int .i64 i), (35, .int .i64 f.p.length), (36, .int .i64 k)], [some (.cells false 4 [Fv f])])) 0 ⟨Nat.zero_le _, rfl⟩ (by simp [go_sem]) (by simp [Fv, Fcs, vw]) ?_
          rintro k ⟨hk, hF⟩ ihk
          dsimp only at hk hF ihk ⊢
          by_cases j1 : k < f.p.length
          . have j2 : (k : Int) < f.p.length := by omega
            have j3 := idx_next j1 (by omega)
            rw [plE_step j1] at hF
            have kp := checkPlace_run f tL tH h1 j1 (by omega)
            simp only [Fv, Fcs, vw] at kp
            simp only [go_sem, j2, Fv, Fcs, vw]
            refine cP kp ?_
            by_cases c4 : plE f i k = 0
            . rw [if_pos c4] at hF
              simp only [go_sem, c4, bne, j3]
              exact ihk (k + 1) (by omega) ⟨j1, hF⟩ _ (by simp [go_sem])
            . rw [if_neg c4] at hF
              have n5 : (plE f i k == 0) = false := beq_eq_false_iff_ne.2 c4
              rw [if_neg (by rw [<- hF]; exact c4), <- hF] at hE
              simp only [go_sem, n5, bne]
              exact hE
          . have j2 : ¬ (k : Int) < f.p.length := by omega
            obtain rfl : k = f.p.length := by omega
            rw [Nat.sub_self] at hF
            have hF0 : rowE f i = 0 := hF.symm
            rw [if_pos hF0] at hE
            simp only [go_sem, j2, h3]
            exact ih (i + 1) (by omega) ⟨h1, hE⟩ _ (by simp [go_sem])
        . have h2 : ¬ (i : Int) < f.g.length := by omega
          obtain rfl : i = f.g.length := by omega
          rw [Nat.sub_self] at hE
          simp only [go_sem, h2]
          exact hE
      . rw [if_neg (fun h => c3 h.2)] at he
        rw [Bool.not_eq_true] at c3
        simp only [go_sem, c3]
        exact he
    . rw [if_neg (fun h => c2 h.1)] at he
      rw [Bool.not_eq_true] at c2
      simp only [go_sem, c2]
      exact he
  . rw [if_neg c1] at he
    have n5 : (lineE f.g f.p == 0) = false := beq_eq_false_iff_ne.2 c1
    simp only [go_sem, n5, bne]
    exact he
end Go.Proofs
namespace Go.Proofs
open Go Go.Sx Go.Fam
attribute [local irreducible] Run
theorem s1 (x : Int) : shrW .u64 x 1 = x / 2 := by rw [shr_u64]; rfl
theorem search_ok (n : Nat) (hn : n <= 1000000000000000000) (g : Nat) (cs : List AVal) (hcs : Bels (fun _ => False) cs) (m : Nat) (hm : m <= n)
    (hp : ∀ i : Nat, i < n -> Ans Try.prog g (.int .i64 i :: cs) [] (.bool (decide (m <= i))) []) : Ans Try.prog n_sort_Search [.int .i64 n, .fn (.func g) [] cs] [] (.int .i64 m) [] := by
  refine spec_run e_sort_Search fun G => ?_
  simp only [go_sem]
  refine loop_ind k_sort_Search_r7.eq_1 (fun a : Nat × Nat => a.1 <= m /\ m <= a.2 /\ a.2 <= n) (fun a => a.2 - a.1)
    (fun a => ([.int .i64 n, .fn (.func g) [] cs, .any, .any, .int .i64 0, .int .i64 a.1, .int .i64 a.2] ++ List.replicate 19 .any, [])) (0, n) ⟨Nat.zero_le _, hm, Nat.le_refl _⟩ (by simp [Wk]) rfl ?_
  rintro ⟨i, j⟩ ⟨hi, hj, hjn⟩ ih
  dsimp only at hi hj hjn ih ⊢
  by_cases h1 : i < j
  . have h2 : (i : Int) < j := by omega
    have e1 : IntKind.i64.wrap ((i : Int) + j) = i + j := w64 (by omega)
    have e2 : IntKind.u64.wrap ((i : Int) + j) = i + j := IntWalk.u64_in _ (by omega)
    have e3 : IntKind.i64.wrap (((i : Int) + j) / 2) = (((i + j) / 2 : Nat) : Int) := by rw [w64 (by omega)]; omega
    have e4 : IntKind.i64.wrap ((((i + j) / 2 : Nat) : Int) + 1) = (((i + j) / 2 + 1 : Nat) : Int) := by rw [w64 (by omega)]; omega
    have hq := hp ((i + j) / 2) (by omega)
    simp only [go_sem, h2, e1, e2, s1, e3]
    refine cP hq ?_ ⟨.int _ _, hcs⟩
    by_cases h3 : m <= (i + j) / 2
    . simp only [go_sem, h3]
      exact ih (i, (i + j) / 2) (by dsimp only; omega) ⟨hi, h3, by omega⟩ _ (by simp [Wk])
    . simp only [go_sem, h3, e4]
      exact ih ((i + j) / 2 + 1, j) (by dsimp only; omega) ⟨by dsimp only; omega, hj, hjn⟩ _ (by simp [Wk])
  . have h2 : ¬ (i : Int) < j := by omega
    simp only [go_sem, h2]
    omega
theorem cnt_iff {a v : Int} {l : List Int} (h : Asc a l) {i : Nat} (hi : i < l.length) : cnt v l <= i ↔ v + 1 <= at1 l i := by
  constructor
  . intro c
    have := cnt_at (v := v) (l := l) (by omega)
    have := h.le c hi
    omega
  . intro c
    by_cases d : i < cnt v l
    . have := cnt_below d; omega
    . omega
theorem searchInts_run {a : Int} {l : List Int} (h : Asc a l) (v : Int) : Ans Try.prog n_sort_SearchInts [vw l, .int .i64 (v + 1)] [] (.int .i64 (cnt v l)) [] := by
  have hl := h.most
  have hs := search_ok l.length (by omega) n_sort_SearchInts_1 [.rptr (vw l) 0, .rptr (.int .i64 (v + 1)) 0] (by simp only [go_sem]) (cnt v l) (cnt_le v l) (fun i hi => by
    have hx := get_at hi
    have n0 : ¬ (i : Int) < 0 := by omega
    have e := cnt_iff (v := v) h hi
    refine spec_run e_sort_SearchInts_1 fun G => ?_
    simp only [go_sem, vw, hx, n0, Int.toNat_natCast, e])
  refine spec_run e_sort_SearchInts fun G => ?_
  simp only [go_sem, vw, List.length_map]
  refine callF0 hs 6 (by simp only [go_sem, frz, vw]; simp [frz]) ?_
  simp only [go_sem]
def Sv (s : Sp) : AVal := .agg [.int .i64 s.at_, .int .i64 s.part, .int .i64 s.whole]
theorem spotOf_run {a : Int} (ha : -1000000 <= a /\ a <= 999999) {l : List Int} (h : Asc a l) {v : Int} (hv : -1000000 <= v /\ v <= 1000000) : Ans Try.prog n_curve_spotOf [vw l, .int .i64 v] [] (Sv (spot l v)) [] := by
  have hl := h.most
  have hp := h.pos
  have hs := searchInts_run h v
  have hc := cnt_le v l
  have w1 : IntKind.i64.wrap (v + 1) = v + 1 := w64 (by omega)
  have w2 : IntKind.i64.wrap ((cnt v l : Int) - 1) = (cnt v l : Int) - 1 := w64 (by omega)
  have w3 : IntKind.i64.wrap ((l.length : Int) - 1) = (l.length : Int) - 1 := w64 (by omega)
  simp only [vw] at hs
  refine spec_run e_curve_spotOf fun G => ?_
  simp only [go_sem, vw, w1]
  refine cP hs ?_
  unfold spot
  generalize hcn : cnt v l = n at *
  by_cases c1 : n = 0
  . subst c1
    have wm : IntKind.i64.wrap (((0 : Nat) : Int) - 1) = -1 := rfl
    have wm2 : IntKind.i64.wrap (-1) = -1 := rfl
    simp only [go_sem, Sv, wm, wm2]
  . obtain ⟨j, rfl⟩ : ∃ j, n = j + 1 := ⟨n - 1, by omega⟩
    have e1 : ((j + 1 : Nat) : Int) - 1 = j := by omega
    rw [e1] at w2
    have n1 : ¬ (j : Int) < 0 := by omega
    rw [if_neg c1]
    by_cases c2 : j + 1 = l.length
    . rw [if_pos c2]
      have e2 : ((j : Int) == (l.length : Int) - 1) = true := by simp; omega
      simp only [go_sem, e1, w2, n1, List.length_map, w3, e2, Sv, Nat.add_sub_cancel]
    . rw [if_neg c2]
      have e2 : ((j : Int) == (l.length : Int) - 1) = false := by simp; omega
      have x1 := get_at (l := l) (i := j) (by omega)
      have x2 := get_at (l := l) (i := j + 1) (by omega)
      have i1 := h.inn j (by omega)
      have i2 := h.inn (j + 1) (by omega)
      have w4 : IntKind.i64.wrap ((j : Int) + 1) = ((j + 1 : Nat) : Int) := by rw [w64 (by omega)]; omega
      have w5 : IntKind.i64.wrap (v - at1 l j) = v - at1 l j := w64 (by omega)
      have w6 : IntKind.i64.wrap (at1 l (j + 1) - at1 l j) = at1 l (j + 1) - at1 l j := w64 (by omega)
      have n2 : ¬ ((j + 1 : Nat) : Int) < 0 := by omega
      simp only [go_sem, e1, w2, n1, List.length_map, w3, e2, x1, x2, w4, w5, w6, n2, Sv, Nat.add_sub_cancel, Int.toNat_natCast]
theorem weights_run {n : Nat} {M : Int} (hM : M <= 2000000) {s : Sp} (h : SpOK n M s) : Ans Try.prog n_curve_spot_weights [Sv s] [] (.agg [.int .i64 (wgt s 0), .int .i64 (wgt s 1)]) [] := by
  have h1 := h.part
  have h2 := h.whole
  have w1 : IntKind.i64.wrap (s.whole - s.part) = s.whole - s.part := w64 (by omega)
  refine spec_run e_curve_spot_weights fun G => ?_
  simp only [go_sem, Sv, w1, wgt]
end Go.Proofs
namespace Go.Proofs
open Go Go.Sx Go.Fam
attribute [local irreducible] Run
def Wv (x : Sp) : AVal := .agg [.int .i64 (wgt x 0), .int .i64 (wgt x 1)]
def vH (t : List (List Int)) (x y : Sp) (q : Nat) : Heap := [some (.cells false 3 [Sv x]), some (.cells false 3 [Sv y]), some (.cells false 2 [.agg [.int .i64 0, .int .i64 0]]), some (.cells false 2 [.agg [.int .i64 (pacc t x y q), .int .i64 (x.whole * y.whole)]])]
def vT (t : List (List Int)) (x : Sp) : List (Nat × AVal) := [(0, tw t), (4, .ptr 0 0 0 1), (5, .ptr 1 0 0 1), (6, .ptr 2 0 0 1), (7, .ptr 3 0 0 1), (19, Wv x)]
theorem pacc_step (t : List (List Int)) (x y : Sp) {i k : Nat} (hk : k < 2) : pacc t x y (2 * i + k + 1) = pacc t x y (2 * i + k) + wgt x i * wgt y k * tg t (x.at_ + i) (y.at_ + k) := by
  show pacc t x y (2 * i + k) + wgt x ((2 * i + k) / 2) * wgt y ((2 * i + k) % 2) * tg t (x.at_ + (2 * i + k) / 2) (y.at_ + (2 * i + k) % 2) = _
  rw [show (2 * i + k) / 2 = i by omega, show (2 * i + k) % 2 = k by omega]
set_option maxHeartbeats 4000000 in
set_option maxRecDepth 20000 in
theorem value_run {m n : Nat} {t : List (List Int)} (hT : Tab m n t) (hS : Small m n t) (hmn : m <= 1000 /\ n <= 1000) {x y : Sp} (hx : SpOK m 2000000 x) (hy : SpOK n 1000000 y) :
    Ans Try.prog n_curve_value [tw t, Sv x, Sv y] [] (.agg [.int .i64 (vN t x y), .int .i64 (x.whole * y.whole)]) [] := by
  have kx := weights_run (by omega) hx
  have ky := weights_run (by omega) hy
  have hw : 0 <= x.whole * y.whole /\ x.whole * y.whole <= 2000000 * 1000000 := ⟨Int.mul_nonneg (by have := hx.part; omega) (by have := hy.part; omega), Int.mul_le_mul hx.whole hy.whole (by have := hy.part; omega) (by omega)⟩
  have w0 : IntKind.i64.wrap (x.whole * y.whole) = x.whole * y.whole := w64 (by omega)
  have hx1 := hx.at_
  have hy1 := hy.at_
  simp only [Sv] at kx ky
  refine spec_run e_curve_value fun G => ?_
  simp only [go_sem, Sv, w0]
  refine cP kx ?_
  simp only [go_sem]
  refine loop_ind k_curve_value_r13.eq_1 (fun i : Nat => i <= 2) (fun i => 2 - i) (fun i => (tsets 60 (vT t x ++ [(20, .int .i64 i)]), vH t x y (2 * i))) 0 (Nat.zero_le _) (by simp [go_sem, vT, Wv]) (by simp [vH, Sv, pacc]) ?_
  intro i hi ih
  dsimp only at hi ih ⊢
  by_cases h1 : i < 2
  . have h2 : (i : Int) < 2 := by omega
    have h3 := idx_next h1 (by omega)
    have hwi : [AVal.int .i64 (wgt x 0), AVal.int .i64 (wgt x 1)][i]? = some (.int .i64 (wgt x i)) := by
      obtain rfl | rfl : i = 0 ∨ i = 1 := by omega
      all_goals rfl
    have n0 : (0 : Int) <= i := by omega
    simp only [go_sem, vT, vH, h2, Wv, n0, Int.toNat_natCast, Nat.mul_one, hwi, Sv]
    refine cP ky ?_
    simp only [go_sem]
    refine loop_ind k_curve_value_r11.eq_1 (fun k : Nat => k <= 2) (fun k => 2 - k) (fun k => (tsets 60 (vT t x ++ [(8, .int .i64 i), (9, .int .i64 (wgt x i)), (20, .int .i64 i), (25, Wv y), (26, .int .i64 k)]), vH t x y (2 * i + k))) 0 (Nat.zero_le _) (by simp [go_sem, vT, Wv]) (by simp [vH, Sv]) ?_
    intro k hk ihk
    dsimp only at hk ihk ⊢
    by_cases j1 : k < 2
    . have j2 : (k : Int) < 2 := by omega
      have j3 := idx_next j1 (by omega)
      have hwk : [AVal.int .i64 (wgt y 0), AVal.int .i64 (wgt y 1)][k]? = some (.int .i64 (wgt y k)) := by
        obtain rfl | rfl : k = 0 ∨ k = 1 := by omega
        all_goals rfl
      have n1 : (0 : Int) <= k := by omega
      have hst := pacc_step t x y (i := i) j1
      have htm := term_in hS hx hy h1 j1
      have hp0 := (pacc_in hS hx hy (q := 2 * i + k) (by omega))
      have hp1 := (pacc_in hS hx hy (q := 2 * i + k + 1) (by omega))
      rw [hst] at hp1
      by_cases c : wgt x i ≠ 0 /\ wgt y k ≠ 0
      . have hi' : x.at_ + i < m := by
          obtain rfl | rfl : i = 0 ∨ i = 1 := by omega
          . omega
          . have := (wgt_in hx 1).1
            have c1 := c.1
            simp only [wgt] at c1 this
            exact hx.next (by omega)
        have hk' : y.at_ + k < n := by
          obtain rfl | rfl : k = 0 ∨ k = 1 := by omega
          . omega
          . have := (wgt_in hy 1).1
            have c1 := c.2
            simp only [wgt] at c1 this
            exact hy.next (by omega)
        obtain ⟨r, hr, hrl⟩ := hT.row _ hi'
        have hrk := get_at (l := r) (i := y.at_ + k) (by omega)
        rw [<- tg_get hr] at hrk
        have b1 : (wgt x i == 0) = false := beq_eq_false_iff_ne.2 c.1
        have b2 : (wgt y k == 0) = false := beq_eq_false_iff_ne.2 c.2
        have w1 : IntKind.i64.wrap (wgt x i * wgt y k) = wgt x i * wgt y k := w64 (by omega)
        have w2 : IntKind.i64.wrap ((x.at_ : Int) + i) = ((x.at_ + i : Nat) : Int) := by rw [w64 (by omega)]; omega
        have w3 : IntKind.i64.wrap ((y.at_ : Int) + k) = ((y.at_ + k : Nat) : Int) := by rw [w64 (by omega)]; omega
        have w4 : IntKind.i64.wrap (wgt x i * wgt y k * tg t (x.at_ + i) (y.at_ + k)) = wgt x i * wgt y k * tg t (x.at_ + i) (y.at_ + k) := w64 (by omega)
        have w5 : IntKind.i64.wrap (pacc t x y (2 * i + k) + wgt x i * wgt y k * tg t (x.at_ + i) (y.at_ + k)) = pacc t x y (2 * i + k + 1) := by rw [w64 (by omega), hst]
        have n2 : ¬ ((x.at_ + i : Nat) : Int) < 0 := by omega
        have n3 : ¬ ((y.at_ + k : Nat) : Int) < 0 := by omega
        simp only [go_sem, vT, vH, j2, Wv, n1, Int.toNat_natCast, Nat.mul_one, hwk, Sv, bne, b1, b2, w1, w2, w3, w4, w5, n2, n3, tw, vw, hr, hrk, j3]
        exact ihk (k + 1) (by omega) j1 _ (by simp [go_sem, vT, Wv, tw, vw])
      . have hz : wgt x i * wgt y k * tg t (x.at_ + i) (y.at_ + k) = 0 := by
          rcases Classical.not_and_iff_not_or_not.1 c with d | d
          . rw [Classical.not_not.1 d]; simp
          . rw [Classical.not_not.1 d]; simp
        rw [hz, Int.add_zero] at hst
        have go : ∀ ρ', Wk ρ' (tsets 60 (vT t x ++ [(8, .int .i64 i), (9, .int .i64 (wgt x i)), (20, .int .i64 i), (25, Wv y), (26, .int .i64 ((k + 1 : Nat) : Int))])) -> Sx.Loop Try.prog G _ none _ _ ⟨ρ', vH t x y (2 * i + k), []⟩ _ := fun ρ' hw => by
          have := ihk (k + 1) (by omega) j1 ρ' hw
          rw [show vH t x y (2 * i + (k + 1)) = vH t x y (2 * i + k) by unfold vH; rw [<- Nat.add_assoc, hst]] at this
          exact this
        by_cases d : wgt x i = 0
        . have b1 : (wgt x i == 0) = true := by rw [d]; rfl
          simp only [go_sem, vT, vH, j2, Wv, n1, Int.toNat_natCast, Nat.mul_one, hwk, Sv, bne, b1, j3]
          exact go _ (by simp [go_sem, vT, Wv, tw, vw])
        . have b1 : (wgt x i == 0) = false := beq_eq_false_iff_ne.2 d
          have b2 : (wgt y k == 0) = true := by
            have : wgt y k = 0 := Classical.not_not.1 fun h => c ⟨d, h⟩
            rw [this]; rfl
          simp only [go_sem, vT, vH, j2, Wv, n1, Int.toNat_natCast, Nat.mul_one, hwk, Sv, bne, b1, b2, j3]
          exact go _ (by simp [go_sem, vT, Wv, tw, vw])
    . have j2 : ¬ (k : Int) < 2 := by omega
      obtain rfl : k = 2 := by omega
      simp only [go_sem, vT, vH, j2, h3]
      exact ih (i + 1) (by omega) h1 _ (by simp [go_sem, vT, Wv])
  . have h2 : ¬ (i : Int) < 2 := by omega
    obtain rfl : i = 2 := by omega
    have e := pacc_all t x y
    simp only [go_sem, vT, vH, h2, e]
end Go.Proofs
namespace Go.Proofs
open Go Go.Sx Go.Fam
attribute [local irreducible] Run
@[go_sem] theorem tws_bel (t : List (List Int)) (S : Nat -> Prop) : Bels S (t.map vw) = True := eq_true (bels_map _ _ fun l => by rw [vw_bel]; trivial)
theorem _root_.Go.Fam.FaOK.tabs {f : Fa} (h : FaOK f) : Tab f.g.length f.p.length f.lo /\ Tab f.g.length f.p.length f.hi /\ Small f.g.length f.p.length f.lo /\ Small f.g.length f.p.length f.hi :=
  ⟨⟨h.llen, fun i hi => ⟨_, List.getElem?_eq_getElem (by rw [h.llen]; exact hi), h.lrow _ (List.getElem_mem _)⟩⟩, ⟨h.hlen, fun i hi => ⟨_, List.getElem?_eq_getElem (by rw [h.hlen]; exact hi), h.hrow _ (List.getElem_mem _)⟩⟩,
    fun i k hi hk => by have := h.inn i k hi hk; omega, fun i k hi hk => by have := h.inn i k hi hk; omega⟩
end Go.Proofs
namespace Go.Proofs
open Go Go.Sx Go.Fam
attribute [local irreducible] Run
theorem wrapU (n : Int) : IntKind.u64.wrap n = n % 18446744073709551616 := by simp [IntKind.wrap, IntKind.bits, IntKind.signed]
theorem and32 {a : Int} (h0 : 0 <= a) (h1 : a <= 18446744073709551615) : bitW .and .u64 a 4294967295 = a % 4294967296 := by
  obtain ⟨n, rfl⟩ : ∃ n : Nat, a = n := ⟨a.toNat, by omega⟩
  have e : (BitVec.ofInt 64 (n : Int) &&& BitVec.ofInt 64 4294967295).toNat = n % 4294967296 := by
    rw [BitVec.toNat_and, BitVec.toNat_ofInt, BitVec.toNat_ofInt]
    have e1 : ((n : Int) % ((2 ^ 64 : Nat) : Int)).toNat = n := by omega
    have e2 : ((4294967295 : Int) % ((2 ^ 64 : Nat) : Int)).toNat = 2 ^ 32 - 1 := by decide
    rw [e1, e2, Nat.and_two_pow_sub_one_eq_mod]
  unfold bitW bitsOf
  simp only [Option.getD_some]
  show IntKind.u64.wrap ((BitVec.ofInt 64 (n : Int) &&& BitVec.ofInt 64 4294967295).toNat : Int) = _
  rw [e, wrapU]
  omega
theorem shr32 (a : Int) : shrW .u64 a 32 = a / 4294967296 := by
  unfold shrW
  show a.fdiv (2 ^ 32) = _
  rw [Int.fdiv_eq_ediv_of_nonneg _ (by decide)]; rfl
theorem wU {a : Int} (h0 : 0 <= a) (h1 : a <= 18446744073709551615) : IntKind.u64.wrap a = a := by rw [wrapU]; omega
theorem Mul64_run (x y : Int) (hx : 0 <= x /\ x <= 18446744073709551615) (hy : 0 <= y /\ y <= 18446744073709551615) :
    Ans Try.prog n_bits_Mul64 [.int .u64 x, .int .u64 y] [] (.tup [.int .u64 (x * y / 18446744073709551616), .int .u64 (x * y % 18446744073709551616)]) [] := by
  obtain ⟨x0, hx0⟩ : ∃ q, x % 4294967296 = q := ⟨_, rfl⟩
  obtain ⟨x1, hx1⟩ : ∃ q, x / 4294967296 = q := ⟨_, rfl⟩
  obtain ⟨y0, hy0⟩ : ∃ q, y % 4294967296 = q := ⟨_, rfl⟩
  obtain ⟨y1, hy1⟩ : ∃ q, y / 4294967296 = q := ⟨_, rfl⟩
  have bx0 : 0 <= x0 /\ x0 <= 4294967295 := by omega
  have bx1 : 0 <= x1 /\ x1 <= 4294967295 := by omega
  have by0 : 0 <= y0 /\ y0 <= 4294967295 := by omega
  have by1 : 0 <= y1 /\ y1 <= 4294967295 := by omega
  have M : ∀ {a b : Int}, (0 <= a /\ a <= 4294967295) -> (0 <= b /\ b <= 4294967295) -> 0 <= a * b /\ a * b <= 4294967295 * 4294967295 := fun ha hb => ⟨Int.mul_nonneg ha.1 hb.1, Int.mul_le_mul ha.2 hb.2 hb.1 (by decide)⟩
  have m00 := M bx0 by0
  have m10 := M bx1 by0
  have m01 := M bx0 by1
  have m11 := M bx1 by1
  have ex : x = x1 * 4294967296 + x0 := by omega
  have ey : y = y1 * 4294967296 + y0 := by omega
  have exy : x * y = x1 * y1 * 18446744073709551616 + (x1 * y0 + x0 * y1) * 4294967296 + x0 * y0 := by
    rw [ex, ey, Int.add_mul, Int.mul_add, Int.mul_add]
    have a1 : x1 * 4294967296 * (y1 * 4294967296) = x1 * y1 * 18446744073709551616 := by
      rw [Int.mul_assoc, Int.mul_left_comm 4294967296, <- Int.mul_assoc, <- Int.mul_assoc]; omega
    have a2 : x1 * 4294967296 * y0 = x1 * y0 * 4294967296 := by rw [Int.mul_assoc, Int.mul_comm 4294967296, Int.mul_assoc]
    have a3 : x0 * (y1 * 4294967296) = x0 * y1 * 4294967296 := by rw [Int.mul_assoc]
    rw [a1, a2, a3]; omega
  have s32 : ¬ ((32 : Int) < 0) := by decide
  have A1 := and32 hx.1 hx.2
  have A2 := and32 hy.1 hy.2
  rw [hx0] at A1
  rw [hy0] at A2
  have S1 := shr32 x
  have S2 := shr32 y
  rw [hx1] at S1
  rw [hy1] at S2
  have W1 := wU m00.1 (by omega)
  have W2 := wU m10.1 (by omega)
  have S3 := shr32 (x0 * y0)
  obtain ⟨t, ht⟩ : ∃ q, x1 * y0 + x0 * y0 / 4294967296 = q := ⟨_, rfl⟩
  have bt : 0 <= t /\ t <= 18446744069414584320 := by omega
  have W3 : IntKind.u64.wrap (x1 * y0 + x0 * y0 / 4294967296) = t := by rw [ht]; exact wU bt.1 (by omega)
  have A3 := and32 bt.1 (by omega)
  have S4 := shr32 t
  have W4 := wU m01.1 (by omega)
  obtain ⟨w1, hw1⟩ : ∃ q, t % 4294967296 + x0 * y1 = q := ⟨_, rfl⟩
  have bw : 0 <= w1 /\ w1 <= 18446744069414584320 := by omega
  have W5 : IntKind.u64.wrap (t % 4294967296 + x0 * y1) = w1 := by rw [hw1]; exact wU bw.1 (by omega)
  have W6 := wU m11.1 (by omega)
  obtain ⟨u, hu⟩ : ∃ q, x1 * y1 + t / 4294967296 = q := ⟨_, rfl⟩
  have bu : 0 <= u /\ u <= 18446744073709551615 := by omega
  have W7 : IntKind.u64.wrap (x1 * y1 + t / 4294967296) = u := by rw [hu]; exact wU bu.1 bu.2
  have S5 := shr32 w1
  have eh : u + w1 / 4294967296 = x * y / 18446744073709551616 := by rw [exy]; omega
  have W8 : IntKind.u64.wrap (u + w1 / 4294967296) = x * y / 18446744073709551616 := by rw [eh]; exact wU (by rw [exy]; omega) (by rw [exy]; omega)
  have W9 : IntKind.u64.wrap (x * y) = x * y % 18446744073709551616 := by rw [wrapU]
  refine spec_run e_bits_Mul64 fun G => ?_
  simp only [go_sem, s32, A1, A2, S1, S2, W1, W2, S3, W3, A3, S4, W4, W5, W6, W7, S5, W8, W9]
theorem less_run (a b c d : Int) (ha : 0 <= a /\ a <= 9223372036854775807) (hb : 0 <= b /\ b <= 9223372036854775807) (hc : 0 <= c /\ c <= 9223372036854775807) (hd : 0 <= d /\ d <= 9223372036854775807) :
    Ans Try.prog n_curve_fraction_less [.agg [.int .i64 a, .int .i64 b], .agg [.int .i64 c, .int .i64 d]] [] (.bool (decide (a * d < c * b))) [] := by
  have k1 := Mul64_run a d (by omega) (by omega)
  have k2 := Mul64_run c b (by omega) (by omega)
  have w1 := wU ha.1 (by omega)
  have w2 := wU hb.1 (by omega)
  have w3 := wU hc.1 (by omega)
  have w4 := wU hd.1 (by omega)
  refine spec_run e_curve_fraction_less fun G => ?_
  simp only [go_sem, w1, w2, w3, w4]
  refine cP k1 ?_
  simp only [go_sem, w1, w2, w3, w4]
  refine cP k2 ?_
  generalize a * d = p at *
  generalize c * b = q at *
  by_cases h1 : p / 18446744073709551616 < q / 18446744073709551616
  . have h2 : p < q := by omega
    simp only [go_sem, h1, h2]
  . by_cases h3 : p / 18446744073709551616 = q / 18446744073709551616
    . have b3 : (p / 18446744073709551616 == q / 18446744073709551616) = true := beq_iff_eq.2 h3
      by_cases h4 : p % 18446744073709551616 < q % 18446744073709551616
      . have h2 : p < q := by omega
        simp only [go_sem, h1, b3, h4, h2]
      . have h2 : ¬ p < q := by omega
        simp only [go_sem, h1, b3, h4, h2]
    . have b3 : (p / 18446744073709551616 == q / 18446744073709551616) = false := beq_eq_false_iff_ne.2 h3
      have h2 : ¬ p < q := by omega
      simp only [go_sem, h1, b3, h2]
end Go.Proofs
namespace Go.Proofs
open Go Go.Sx
def yes : Option (AVal × Heap) -> Bool
  | some (.bool b, _) => b
  | _ => false
theorem yes_ans {P : Program} (hm : P.follows .mixedOrders = true) {tab : Nat -> Option AFun} (hT : ∀ g af, tab g = some af -> EntryOK P g af) {m n g : Nat} (h : yes (exFn tab m n g [] []) = true) : Ans P g [] [] (.bool true) [] := by
  match hx : exFn tab m n g [] [] with
  | none => rw [hx] at h; cases h
  | some (v, H') =>
    rw [hx] at h
    cases v <;> try (cases h; done)
    rename_i b
    have hb : b = true := h
    subst hb
    exact (spec_ex hm hT hx).mono fun v H'' hv => ⟨hv.1, H'', rfl⟩
end Go.Proofs
namespace Go.Proofs
open Go Go.Sx
def isq : Nat -> Nat
  | 0 => 0
  | n + 1 => if (isq n + 1) * (isq n + 1) <= n + 1 then isq n + 1 else isq n
theorem isq_ok (n : Nat) : isq n * isq n <= n /\ n < (isq n + 1) * (isq n + 1) := by
  induction n with
  | zero => simp [isq]
  | succ n ih =>
    simp only [isq]
    split
    . rename_i h
      refine ⟨h, ?_⟩
      have h2 : (isq n + 1) * (isq n + 1) + (isq n + 1) < (isq n + 1 + 1) * (isq n + 1 + 1) := by
        simp only [Nat.add_mul, Nat.mul_add]; omega
      omega
    . omega
def root (n : Int) : Int := isq n.toNat
theorem root_ok {n : Int} (h : 0 <= n) : 0 <= root n /\ root n * root n <= n /\ n < (root n + 1) * (root n + 1) := by
  have := isq_ok n.toNat
  unfold root
  refine ⟨by omega, ?_, ?_⟩
  . have h1 : ((isq n.toNat * isq n.toNat : Nat) : Int) <= (n.toNat : Int) := by exact_mod_cast this.1
    push_cast at h1
    omega
  . have h1 : (n.toNat : Int) < (((isq n.toNat + 1) * (isq n.toNat + 1) : Nat) : Int) := by exact_mod_cast this.2
    push_cast at h1
    omega
theorem sq_le {a b : Int} (ha : 0 <= a) (h : a <= b) : a * a <= b * b := Int.mul_le_mul h h ha (by omega)
def rootU (n : Int) : Int := if root n * root n < n then root n + 1 else root n
theorem root_le {n : Int} (h0 : 0 <= n) (h1 : n <= 1152921504606846976) : root n <= 1073741824 := by
  obtain ⟨a, b, c⟩ := root_ok h0
  refine Int.not_lt.1 fun h => ?_
  have := sq_le (a := 1073741825) (b := root n) (by decide) (by omega)
  omega
end Go.Proofs
namespace Go.Proofs
open Go Go.Sx
def cube (n : Int) : Int := n * n * n
def mn (a b : Int) : Int := if b < a then b else a
def spaceLo (l : Lw) (d : Rg) : Int := l.perv.lo * root (cube d.lo) / 1000000
def spaceHi (l : Lw) (d : Rg) : Int := rup (l.perv.hi * rootU (cube d.hi)) 1000000
def curLo (l : Lw) (d : Rg) : Int := l.part.lo * mn (spaceLo l d) l.full.lo / 1000000
def curHi (l : Lw) (d : Rg) : Int := rup (l.part.hi * mn (spaceHi l d) l.full.hi) 1000000
def curOf (l : Lw) (g p : Int) : Rg := ⟨curLo l (driveOf l g p), curHi l (driveOf l g p)⟩
theorem bnd_in (n : Int) : 0 <= bnd n /\ bnd n <= 1000000 := by unfold bnd; (repeat' split) <;> omega
theorem cube_in {n : Int} (h0 : 0 <= n) (h1 : n <= 1000000) : 0 <= n * n /\ n * n <= 1000000000000 /\ 0 <= cube n /\ cube n <= 1000000000000000000 := by
  have a := Int.mul_nonneg h0 h0
  have b := Int.mul_le_mul h1 h1 h0 (by decide)
  have c := Int.mul_nonneg a h0
  have d := Int.mul_le_mul b h1 h0 (by decide)
  unfold cube; omega
theorem mul_in {a b A B : Int} (h1 : 0 <= a /\ a <= A) (h2 : 0 <= b /\ b <= B) : 0 <= a * b /\ a * b <= A * B :=
  ⟨Int.mul_nonneg h1.1 h2.1, Int.mul_le_mul h1.2 h2.2 h2.1 (by omega)⟩
theorem rup_in {n b : Int} (h0 : 0 <= n) (h1 : 1 <= b) : 0 <= rup n b /\ rup n b <= n + b - 1 := ⟨Int.ediv_nonneg (by omega) (by omega), Int.ediv_le_self _ (by omega)⟩
theorem mn_in {a b : Int} (h0 : 0 <= a) (h1 : 0 <= b) : 0 <= mn a b /\ mn a b <= b := by unfold mn; split <;> omega
def exact (q : Int) : Lw := ⟨⟨q, q⟩, ⟨1000, 1000⟩, ⟨0, 0⟩, ⟨1000000, 1000000⟩, ⟨1000000, 1000000⟩⟩
end Go.Proofs
namespace Go.Proofs
open Go Go.Sx
theorem rootU_ok {n : Int} (h : 0 <= n) : root n <= rootU n /\ rootU n <= root n + 1 /\ n <= rootU n * rootU n := by
  obtain ⟨h0, h1, h2⟩ := root_ok h
  unfold rootU
  split
  . exact ⟨by omega, by omega, by omega⟩
  . exact ⟨by omega, by omega, by omega⟩
end Go.Proofs
namespace Go.Proofs
open Go Go.Sx
theorem cube_le {a b : Int} (h0 : 0 <= a) (h : a <= b) : cube a <= cube b := by
  have h1 := sq_le h0 h
  exact Int.mul_le_mul h1 h h0 (Int.mul_nonneg (by omega) (by omega))
theorem cube_nonneg {a : Int} (h0 : 0 <= a) : 0 <= cube a := Int.mul_nonneg (Int.mul_nonneg h0 h0) h0
theorem root_mono {n m : Int} (h0 : 0 <= n) (h : n <= m) : root n <= root m := by
  obtain ⟨a0, a1, a2⟩ := root_ok h0
  obtain ⟨b0, b1, b2⟩ := root_ok (Int.le_trans h0 h)
  by_cases hr : root n <= root m
  . exact hr
  . exfalso
    have := sq_le (a := root m + 1) (b := root n) (by omega) (by omega)
    omega
theorem rootU_mono {n m : Int} (h0 : 0 <= n) (h : n <= m) : rootU n <= rootU m := by
  obtain ⟨a0, a1, a2⟩ := root_ok h0
  obtain ⟨u0, u1, u2⟩ := rootU_ok (Int.le_trans h0 h)
  obtain ⟨b0, b1, b2⟩ := root_ok (Int.le_trans h0 h)
  by_cases hr : rootU n <= rootU m
  . exact hr
  . exfalso
    have hm0 : 0 <= rootU m := by omega
    unfold rootU at hr
    split at hr
    . have := sq_le (a := rootU m) (b := root n) hm0 (by unfold rootU; omega)
      omega
    . have hlt : rootU m + 1 <= root n := by unfold rootU; omega
      have h3 := sq_le (a := rootU m + 1) (b := root n) (by omega) hlt
      have h4 : (rootU m + 1) * (rootU m + 1) = rootU m * rootU m + 2 * rootU m + 1 := by
        rw [Int.add_mul, Int.mul_add]; omega
      omega
theorem rup_mono {n m b : Int} (h : n <= m) (hb : 1 <= b) : rup n b <= rup m b := Int.ediv_le_ediv (by omega) (by omega)
theorem mn_mono {a b c : Int} (h : a <= b) : mn a c <= mn b c := by unfold mn; split <;> split <;> omega
theorem bnd_mono {a b : Int} (h : a <= b) : bnd a <= bnd b := by unfold bnd; (repeat' split) <;> omega
theorem spaceLo_mono {l : Lw} (h : LwOK l) {d e : Rg} (h0 : 0 <= d.lo) (hl : d.lo <= e.lo) : spaceLo l d <= spaceLo l e :=
  Int.ediv_le_ediv (by decide) (Int.mul_le_mul_of_nonneg_left (root_mono (cube_nonneg h0) (cube_le h0 hl)) h.perv.1)
theorem spaceHi_mono {l : Lw} (h : LwOK l) {d e : Rg} (h0 : 0 <= d.hi) (hl : d.hi <= e.hi) : spaceHi l d <= spaceHi l e :=
  rup_mono (Int.mul_le_mul_of_nonneg_left (rootU_mono (cube_nonneg h0) (cube_le h0 hl)) (by have := h.perv; omega)) (by decide)
theorem cur_mono {l : Lw} (h : LwOK l) {d e : Rg} (h0 : 0 <= d.lo /\ 0 <= d.hi) (hl : d.lo <= e.lo) (hh : d.hi <= e.hi) : curLo l d <= curLo l e /\ curHi l d <= curHi l e :=
  ⟨Int.ediv_le_ediv (by decide) (Int.mul_le_mul_of_nonneg_left (mn_mono (spaceLo_mono h h0.1 hl)) h.part.1),
   rup_mono (Int.mul_le_mul_of_nonneg_left (mn_mono (spaceHi_mono h h0.2 hh)) (by have := h.part; omega)) (by decide)⟩
theorem le_rup {n b : Int} (hb : 1 <= b) : n / b <= rup n b := Int.ediv_le_ediv (by omega) (by omega)
theorem drive_le {l : Lw} (h : LwOK l) {g p : Int} (hp : 0 <= p) : (driveOf l g p).lo <= (driveOf l g p).hi := by
  have h1 : 1000 * p / l.gain.hi <= 1000 * p / l.gain.lo := by
    have hg := h.gain
    rw [Int.le_ediv_iff_mul_le (by omega)]
    have h2 : 1000 * p / l.gain.hi * l.gain.lo <= 1000 * p / l.gain.hi * l.gain.hi := Int.mul_le_mul_of_nonneg_left hg.2.1 (Int.ediv_nonneg (by omega) (by omega))
    have h3 := Int.ediv_mul_le (1000 * p) (b := l.gain.hi) (by omega)
    omega
  have h4 := le_rup (n := 1000 * p) h.gain.1
  exact bnd_mono (by have := h.shift; omega)
theorem cur_le {l : Lw} (h : LwOK l) {d : Rg} (h0 : 0 <= d.lo) (hd : d.lo <= d.hi) : curLo l d <= curHi l d := by
  obtain ⟨r0, _, _⟩ := root_ok (cube_nonneg h0)
  obtain ⟨u0, _, _⟩ := rootU_ok (cube_nonneg (Int.le_trans h0 hd))
  obtain ⟨p1, p2, p3⟩ := h.perv
  obtain ⟨q1, q2, q3⟩ := h.part
  obtain ⟨f1, f2, f3⟩ := h.full
  have hr := root_mono (cube_nonneg h0) (cube_le h0 hd)
  have e1 : l.perv.lo * root (cube d.lo) <= l.perv.hi * rootU (cube d.hi) := Int.mul_le_mul p2 (by omega) r0 (by omega)
  have e2 : spaceLo l d <= spaceHi l d := Int.le_trans (Int.ediv_le_ediv (by decide) e1) (le_rup (by decide))
  have e0 : 0 <= spaceLo l d := Int.ediv_nonneg (Int.mul_nonneg p1 r0) (by decide)
  have e3 : mn (spaceLo l d) l.full.lo <= mn (spaceHi l d) l.full.hi := by unfold mn; split <;> split <;> omega
  have e4 : 0 <= mn (spaceLo l d) l.full.lo := by unfold mn; split <;> omega
  have e5 : l.part.lo * mn (spaceLo l d) l.full.lo <= l.part.hi * mn (spaceHi l d) l.full.hi := Int.mul_le_mul q2 e3 e4 (by omega)
  exact Int.le_trans (Int.ediv_le_ediv (by decide) e5) (le_rup (by decide))
theorem rises {l : Lw} (h : LwOK l) {g p b : Int} (hp : 0 <= p) (hb : 0 <= b) :
    (curOf l g p).lo <= (curOf l g p).hi /\ (curOf l g p).lo <= (curOf l (g + b) p).lo /\ (curOf l g p).hi <= (curOf l (g + b) p).hi /\
    (curOf l g p).lo <= (curOf l g (p + b)).lo /\ (curOf l g p).hi <= (curOf l g (p + b)).hi := by
  have d0 := (bnd_in (g + l.shift.lo + (1000 * p) / l.gain.hi)).1
  have d1 := (bnd_in (g + l.shift.hi + rup (1000 * p) l.gain.lo)).1
  have m1 := cur_mono h (d := driveOf l g p) (e := driveOf l (g + b) p) ⟨d0, d1⟩ (bnd_mono (by omega)) (bnd_mono (by omega))
  have k1 : 1000 * p / l.gain.hi <= 1000 * (p + b) / l.gain.hi := Int.ediv_le_ediv (by have := h.gain; omega) (by omega)
  have k2 : rup (1000 * p) l.gain.lo <= rup (1000 * (p + b)) l.gain.lo := rup_mono (by omega) h.gain.1
  have m2 := cur_mono h (d := driveOf l g p) (e := driveOf l g (p + b)) ⟨d0, d1⟩ (bnd_mono (by omega)) (bnd_mono (by omega))
  exact ⟨cur_le h d0 (drive_le h hp), m1.1, m1.2, m2.1, m2.2⟩
end Go.Proofs
namespace Go.Proofs
open Go Go.Sx Go.Fam
attribute [local irreducible] Run
theorem rright_run (g p : Int) : Ans Try.prog n_ref02_right [.int .i64 g, .int .i64 p] [] (.bool (decide ((-1000000 <= g /\ g <= 1000000) /\ 0 <= p /\ p <= 1000000))) [] := by
  refine spec_run e_ref02_right fun G => ?_
  by_cases h1 : -1000000 <= g
  . by_cases h2 : g <= 1000000
    . by_cases h3 : 0 <= p
      . simp [go_sem, h1, h2, h3]
      . simp [go_sem, h1, h2, h3]
    . simp [go_sem, h1, h2]
  . simp [go_sem, h1]
theorem down_run {n b : Int} (hn : -4000000000000000000 <= n /\ n <= 4000000000000000000) (hb : 1 <= b /\ b <= 4000000000000000000) : Ans Try.prog n_ref02_down [.int .i64 n, .int .i64 b] [] (.int .i64 (n / b)) [] := by
  have h1 := Int.emod_add_mul_ediv n b
  have h2 := Int.emod_nonneg n (show b ≠ 0 by omega)
  have h3 := Int.emod_lt_of_pos n (show 0 < b by omega)
  have t1 := Int.tmod_add_mul_tdiv n b
  have hb0 : ¬ b = 0 := by omega
  refine spec_run e_ref02_down fun G => ?_
  by_cases hn0 : 0 <= n
  . have e1 : n.tdiv b = n / b := Int.tdiv_eq_ediv_of_nonneg hn0
    have e2 : n.tmod b = n % b := Int.tmod_eq_emod_of_nonneg hn0
    have q1 : 0 <= n / b := Int.ediv_nonneg hn0 (by omega)
    have q2 : n / b <= n := Int.ediv_le_self _ hn0
    have w1 : IntKind.i64.wrap (n / b) = n / b := w64 (by omega)
    have w2 : IntKind.i64.wrap (n % b) = n % b := w64 (by omega)
    have n1 : ¬ n % b < 0 := by omega
    simp only [go_sem, hb0, e1, e2, w1, w2, n1]
  . have e2 : n.tmod b = -((-n) % b) := by
      have := Int.neg_tmod (a := -n) (b := b)
      rw [Int.neg_neg] at this
      rw [this, Int.tmod_eq_emod_of_nonneg (by omega)]
    have e1 : n.tdiv b = -((-n) / b) := by
      have := Int.neg_tdiv (a := -n) (b := b)
      rw [Int.neg_neg] at this
      rw [this, Int.tdiv_eq_ediv_of_nonneg (by omega)]
    have m2 := Int.emod_nonneg (-n) (show b ≠ 0 by omega)
    have m3 := Int.emod_lt_of_pos (-n) (show 0 < b by omega)
    have q1 : 0 <= (-n) / b := Int.ediv_nonneg (by omega) (by omega)
    have q2 : (-n) / b <= -n := Int.ediv_le_self _ (by omega)
    have m1 := Int.emod_add_mul_ediv (-n) b
    have w1 : IntKind.i64.wrap (-((-n) / b)) = -((-n) / b) := w64 (by omega)
    have w2 : IntKind.i64.wrap (-((-n) % b)) = -((-n) % b) := w64 (by omega)
    have w3 : IntKind.i64.wrap (-((-n) / b) - 1) = -((-n) / b) - 1 := w64 (by omega)
    by_cases c : (-n) % b = 0
    . have n1 : ¬ -((-n) % b) < 0 := by omega
      have hq : n / b = -((-n) / b) := by
        have : b * (n / b) + n % b = b * (-((-n) / b)) := by rw [Int.mul_neg]; omega
        have h4 : n % b = 0 := by
          have : b ∣ -n := Int.dvd_of_emod_eq_zero c
          exact Int.emod_eq_zero_of_dvd ((Int.dvd_neg).1 this)
        rw [h4, Int.add_zero] at this
        exact Int.eq_of_mul_eq_mul_left (by omega) this
      simp only [go_sem, hb0, e1, e2, w1, w2, n1, hq]
    . have n1 : -((-n) % b) < 0 := by omega
      have hq : n / b = -((-n) / b) - 1 := by
        have e : n = (b - (-n) % b) + b * (-((-n) / b) - 1) := by rw [Int.mul_sub, Int.mul_neg]; omega
        rw [e, Int.add_mul_ediv_left _ _ (by omega), Int.ediv_eq_zero_of_lt (by omega) (by omega), Int.zero_add, <- e]
      simp only [go_sem, hb0, e1, e2, w1, w2, w3, n1, hq]
theorem up_run {n b : Int} (hn : -4000000000000000000 <= n /\ n <= 4000000000000000000) (hb : 1 <= b /\ b <= 4000000000000000000) : Ans Try.prog n_ref02_up [.int .i64 n, .int .i64 b] [] (.int .i64 (cup n b)) [] := by
  have hd := down_run (n := -n) (b := b) (by omega) hb
  have w1 : IntKind.i64.wrap (0 - n) = -n := by rw [w64 (by omega)]; omega
  have b1 : -4000000000000000000 <= (-n) / b /\ (-n) / b <= 4000000000000000000 := by
    constructor
    . exact (Int.le_ediv_iff_mul_le (by omega)).2 (by have : -4000000000000000000 * b <= -4000000000000000000 * 1 := Int.mul_le_mul_of_nonpos_left (by omega) (by omega); omega)
    . exact Int.le_trans (Int.ediv_le_ediv (by omega) (show -n <= 4000000000000000000 by omega)) (Int.ediv_le_self _ (by omega))
  have w2 : IntKind.i64.wrap (0 - -n / b) = -(-n / b) := by rw [w64 (by omega)]; omega
  rw [cup_eq _ _ (by omega)]
  refine spec_run e_ref02_up fun G => ?_
  simp only [go_sem, w1]
  refine cP hd ?_
  simp only [go_sem, w2]
theorem rfind_run {a : Int} (ha : -1000000 <= a /\ a <= 999999) {l : List Int} (h : Asc a l) {v : Int} (hv : -1000000 <= v /\ v <= 1000000) : Ans Try.prog n_ref02_find [vw l, .int .i64 v] [] (Sv (rspot l v)) [] := by
  have hl := h.most
  have hp := h.pos
  have hx0 := get_at (l := l) (i := 0) (by omega)
  obtain ⟨r, hr⟩ : ∃ r, Sv (rspot l v) = r := ⟨_, rfl⟩
  rw [hr]
  have hcl := cnt_le v l
  refine spec_run e_ref02_find fun G => ?_
  simp only [go_sem, vw, hx0]
  refine ⟨fun c => ?_, fun c => ?_⟩
  . have : rspot l v = ⟨0, 0, 1⟩ := by
      by_cases e : at1 l 0 = v
      . by_cases c1 : l.length = 1
        . have hc := cnt_eq (v := v) h (n := 1) (by omega) (fun i hi => by obtain rfl : i = 0 := by omega
                                                                           omega) (by omega)
          have hs : spot l v = ⟨0, 0, 1⟩ := by unfold spot; rw [hc, if_neg (by omega), if_pos (by omega)]
          unfold rspot; rw [hs]; rfl
        . have hc := cnt_eq (v := v) h (n := 1) (by omega) (fun i hi => by obtain rfl : i = 0 := by omega
                                                                           omega) (fun _ => by have := h.asc 0 (by omega); simp only [Nat.zero_add] at this; omega)
          have hs : spot l v = ⟨0, v - at1 l 0, at1 l 1 - at1 l 0⟩ := by unfold spot; rw [hc, if_neg (by omega), if_neg (by omega)]
          unfold rspot; rw [hs]; simp only; rw [if_pos (by omega)]
      . have hc := cnt_eq (v := v) h (n := 0) (by omega) (fun i hi => by omega) (fun _ => by omega)
        have hs : spot l v = ⟨0, 0, 1⟩ := by unfold spot; rw [hc, if_pos rfl]
        unfold rspot; rw [hs]; rfl
    rw [this] at hr
    rw [<- hr]
    simp only [Sv]; rfl
  . have h0 : 1 <= cnt v l := by
      by_cases e : cnt v l = 0
      . have := cnt_at (v := v) (l := l) (by omega)
        rw [e] at this; omega
      . omega
    refine loop_ind k_ref02_find_r6.eq_1 (fun i : Nat => i + 1 <= cnt v l) (fun i => cnt v l - i)
      (fun i => (tsets 61 [(0, .view (l.map (.int .i64))), (1, .int .i64 v), (4, .ptr 0 0 0 1), (5, .int .i64 i)], [some (.cells false 3 [.agg [.int .i64 0, .int .i64 0, .int .i64 0]])])) 0 h0 (by simp [go_sem]) (by simp) ?_
    intro i hi ih
    dsimp only at hi ih ⊢
    have h3 : IntKind.i64.wrap ((i : Int) + 1) = ((i + 1 : Nat) : Int) := by rw [w64 (by omega)]; omega
    by_cases c1 : i + 1 < l.length
    . have c1' : ((i + 1 : Nat) : Int) < l.length := by omega
      have n1 : ¬ ((i + 1 : Nat) : Int) < 0 := by omega
      have hx := get_at (l := l) (i := i + 1) c1
      by_cases c2 : at1 l (i + 1) <= v
      . have : i + 1 < cnt v l := by
          by_cases e : i + 1 = cnt v l
          . have := cnt_at (v := v) (l := l) (by omega)
            rw [<- e] at this; omega
          . omega
        simp only [go_sem, h3, List.length_map, c1', n1, Int.toNat_natCast, hx, c2]
        exact ih (i + 1) (by omega) (by omega) _ (by simp [go_sem])
      . have e : cnt v l = i + 1 := by
          by_cases d : i + 1 < cnt v l
          . have := cnt_below d; omega
          . omega
        have hy := get_at (l := l) (i := i) (by omega)
        have n2 : ¬ (i : Int) < 0 := by omega
        have b1 : (((i + 1 : Nat) : Int) == l.length) = false := beq_eq_false_iff_ne.2 (by omega)
        have hyv := cnt_below (v := v) (l := l) (i := i) (by omega)
        by_cases c3 : at1 l i = v
        . have : rspot l v = ⟨i, 0, 1⟩ := by
            have hs : spot l v = ⟨i, v - at1 l i, at1 l (i + 1) - at1 l i⟩ := by unfold spot; rw [e, if_neg (by omega), if_neg (by omega), Nat.add_sub_cancel]
            unfold rspot; rw [hs]; simp only; rw [if_pos (by omega)]
          rw [this] at hr
          rw [<- hr]
          simp only [go_sem, h3, List.length_map, c1', n1, n2, Int.toNat_natCast, hx, hy, c2, b1, c3, Sv]
        . have b2 : (at1 l i == v) = false := beq_eq_false_iff_ne.2 c3
          have i1 := h.inn i (by omega)
          have i2 := h.inn (i + 1) (by omega)
          have w5 : IntKind.i64.wrap (v - at1 l i) = v - at1 l i := w64 (by omega)
          have w6 : IntKind.i64.wrap (at1 l (i + 1) - at1 l i) = at1 l (i + 1) - at1 l i := w64 (by omega)
          have : rspot l v = ⟨i, v - at1 l i, at1 l (i + 1) - at1 l i⟩ := by
            have hs : spot l v = ⟨i, v - at1 l i, at1 l (i + 1) - at1 l i⟩ := by unfold spot; rw [e, if_neg (by omega), if_neg (by omega), Nat.add_sub_cancel]
            unfold rspot; rw [hs]; simp only; rw [if_neg (by omega)]
          rw [this] at hr
          rw [<- hr]
          simp only [go_sem, h3, List.length_map, c1', n1, n2, Int.toNat_natCast, hx, hy, c2, b1, b2, w5, w6, Sv]
    . have c1' : ¬ ((i + 1 : Nat) : Int) < l.length := by omega
      have e : cnt v l = l.length := by omega
      have b1 : (((i + 1 : Nat) : Int) == l.length) = true := by simp; omega
      have : rspot l v = ⟨i, 0, 1⟩ := by
        have hs : spot l v = ⟨i, 0, 1⟩ := by unfold spot; rw [e, if_neg (by omega), if_pos rfl, show l.length - 1 = i by omega]
        unfold rspot; rw [hs]; rfl
      rw [this] at hr
      rw [<- hr]
      simp only [go_sem, h3, List.length_map, c1', b1, Sv]
end Go.Proofs
namespace Go.Proofs
open Go Go.Sx Go.Fam
attribute [local irreducible] Run
set_option maxHeartbeats 4000000 in
set_option maxRecDepth 20000 in
theorem rweighted_run {m n : Nat} {t : List (List Int)} (hT : Tab m n t) (hS : Small m n t) (hmn : m <= 1000 /\ n <= 1000) {x y : Sp} (hx : SpOK m 2000000 x) (hy : SpOK n 1000000 y) :
    Ans Try.prog n_ref02_weighted [tw t, Sv x, Sv y] [] (.int .i64 (vN t x y)) [] := by
  have t0 := term_in hS hx hy (i := 0) (k := 0) (by omega) (by omega)
  have t1 := term_in hS hx hy (i := 0) (k := 1) (by omega) (by omega)
  have t2 := term_in hS hx hy (i := 1) (k := 0) (by omega) (by omega)
  have t3 := term_in hS hx hy (i := 1) (k := 1) (by omega) (by omega)
  have tot := pacc_in hS hx hy (q := 4) (Nat.le_refl _)
  rw [pacc_all] at tot
  have hv : vN t x y = wgt x 0 * wgt y 0 * tg t (x.at_ + 0) (y.at_ + 0) + wgt x 0 * wgt y 1 * tg t (x.at_ + 0) (y.at_ + 1) + wgt x 1 * wgt y 0 * tg t (x.at_ + 1) (y.at_ + 0) + wgt x 1 * wgt y 1 * tg t (x.at_ + 1) (y.at_ + 1) := rfl
  have hx1 := hx.at_
  have hy1 := hy.at_
  have px := hx.part
  have py := hy.part
  have mx := hx.whole
  have my := hy.whole
  obtain ⟨r0, hr0, hl0⟩ := hT.row _ hx1
  have a00 := get_at (l := r0) (i := y.at_) (by omega)
  rw [<- tg_get hr0] at a00
  simp only [wgt, Nat.add_zero] at t0 t1 t2 t3 hv
  have u1 : IntKind.i64.wrap (x.whole - x.part) = x.whole - x.part := w64 (by omega)
  have u2 : IntKind.i64.wrap (y.whole - y.part) = y.whole - y.part := w64 (by omega)
  have u3 : IntKind.i64.wrap ((x.whole - x.part) * (y.whole - y.part)) = (x.whole - x.part) * (y.whole - y.part) := w64 (by omega)
  have u4 : IntKind.i64.wrap ((x.whole - x.part) * (y.whole - y.part) * tg t x.at_ y.at_) = (x.whole - x.part) * (y.whole - y.part) * tg t x.at_ y.at_ := w64 (by omega)
  have n1 : ¬ (x.at_ : Int) < 0 := by omega
  have n2 : ¬ (y.at_ : Int) < 0 := by omega
  have wx : IntKind.i64.wrap ((x.at_ : Int) + 1) = ((x.at_ + 1 : Nat) : Int) := by rw [w64 (by omega)]; omega
  have wy : IntKind.i64.wrap ((y.at_ : Int) + 1) = ((y.at_ + 1 : Nat) : Int) := by rw [w64 (by omega)]; omega
  have n3 : ¬ ((x.at_ + 1 : Nat) : Int) < 0 := by omega
  have n4 : ¬ ((y.at_ + 1 : Nat) : Int) < 0 := by omega
  refine spec_run e_ref02_weighted fun G => ?_
  rw [hv]
  by_cases cx : x.part > 0
  . obtain ⟨r1, hr1, hl1⟩ := hT.row _ (hx.next cx)
    have a10 := get_at (l := r1) (i := y.at_) (by omega)
    rw [<- tg_get hr1] at a10
    have v1 : IntKind.i64.wrap (x.part * (y.whole - y.part)) = x.part * (y.whole - y.part) := w64 (by omega)
    have v2 : IntKind.i64.wrap (x.part * (y.whole - y.part) * tg t (x.at_ + 1) y.at_) = x.part * (y.whole - y.part) * tg t (x.at_ + 1) y.at_ := w64 (by omega)
    have v3 : IntKind.i64.wrap ((x.whole - x.part) * (y.whole - y.part) * tg t x.at_ y.at_ + x.part * (y.whole - y.part) * tg t (x.at_ + 1) y.at_) = (x.whole - x.part) * (y.whole - y.part) * tg t x.at_ y.at_ + x.part * (y.whole - y.part) * tg t (x.at_ + 1) y.at_ := w64 (by omega)
    by_cases cy : y.part > 0
    . have a01 := get_at (l := r0) (i := y.at_ + 1) (by have := hy.next cy; omega)
      have a11 := get_at (l := r1) (i := y.at_ + 1) (by have := hy.next cy; omega)
      rw [<- tg_get hr0] at a01
      rw [<- tg_get hr1] at a11
      have z1 : IntKind.i64.wrap ((x.whole - x.part) * y.part) = (x.whole - x.part) * y.part := w64 (by omega)
      have z2 : IntKind.i64.wrap ((x.whole - x.part) * y.part * tg t x.at_ (y.at_ + 1)) = (x.whole - x.part) * y.part * tg t x.at_ (y.at_ + 1) := w64 (by omega)
      have z3 : IntKind.i64.wrap ((x.whole - x.part) * (y.whole - y.part) * tg t x.at_ y.at_ + x.part * (y.whole - y.part) * tg t (x.at_ + 1) y.at_ + (x.whole - x.part) * y.part * tg t x.at_ (y.at_ + 1)) = (x.whole - x.part) * (y.whole - y.part) * tg t x.at_ y.at_ + x.part * (y.whole - y.part) * tg t (x.at_ + 1) y.at_ + (x.whole - x.part) * y.part * tg t x.at_ (y.at_ + 1) := w64 (by omega)
      have z4 : IntKind.i64.wrap (x.part * y.part) = x.part * y.part := w64 (by omega)
      have z5 : IntKind.i64.wrap (x.part * y.part * tg t (x.at_ + 1) (y.at_ + 1)) = x.part * y.part * tg t (x.at_ + 1) (y.at_ + 1) := w64 (by omega)
      have z6 : IntKind.i64.wrap ((x.whole - x.part) * (y.whole - y.part) * tg t x.at_ y.at_ + x.part * (y.whole - y.part) * tg t (x.at_ + 1) y.at_ + (x.whole - x.part) * y.part * tg t x.at_ (y.at_ + 1) + x.part * y.part * tg t (x.at_ + 1) (y.at_ + 1)) = (x.whole - x.part) * (y.whole - y.part) * tg t x.at_ y.at_ + x.part * (y.whole - y.part) * tg t (x.at_ + 1) y.at_ + (x.whole - x.part) * y.part * tg t x.at_ (y.at_ + 1) + x.part * y.part * tg t (x.at_ + 1) (y.at_ + 1) := w64 (by omega)
      simp only [go_sem, Sv, tw, vw, hr0, hr1, a00, a10, a01, a11, n1, n2, n3, n4, Int.toNat_natCast, u1, u2, u3, u4, cx, cy, wx, wy, v1, v2, v3, z1, z2, z3, z4, z5, z6]
      omega
    . have e1 : (x.whole - x.part) * y.part = 0 := by rw [show y.part = 0 by omega, Int.mul_zero]
      have e2 : x.part * y.part = 0 := by rw [show y.part = 0 by omega, Int.mul_zero]
      rw [e1, e2, Int.zero_mul, Int.zero_mul]
      simp only [go_sem, Sv, tw, vw, hr0, hr1, a00, a10, n1, n2, n3, Int.toNat_natCast, u1, u2, u3, u4, cx, cy, wx, v1, v2, v3]
      omega
  . have e1 : x.part * (y.whole - y.part) = 0 := by rw [show x.part = 0 by omega, Int.zero_mul]
    have e2 : x.part * y.part = 0 := by rw [show x.part = 0 by omega, Int.zero_mul]
    rw [e1, e2, Int.zero_mul, Int.zero_mul]
    by_cases cy : y.part > 0
    . have a01 := get_at (l := r0) (i := y.at_ + 1) (by have := hy.next cy; omega)
      rw [<- tg_get hr0] at a01
      have z1 : IntKind.i64.wrap ((x.whole - x.part) * y.part) = (x.whole - x.part) * y.part := w64 (by omega)
      have z2 : IntKind.i64.wrap ((x.whole - x.part) * y.part * tg t x.at_ (y.at_ + 1)) = (x.whole - x.part) * y.part * tg t x.at_ (y.at_ + 1) := w64 (by omega)
      have z3 : IntKind.i64.wrap ((x.whole - x.part) * (y.whole - y.part) * tg t x.at_ y.at_ + (x.whole - x.part) * y.part * tg t x.at_ (y.at_ + 1)) = (x.whole - x.part) * (y.whole - y.part) * tg t x.at_ y.at_ + (x.whole - x.part) * y.part * tg t x.at_ (y.at_ + 1) := w64 (by omega)
      simp only [go_sem, Sv, tw, vw, hr0, a00, a01, n1, n2, n4, Int.toNat_natCast, u1, u2, u3, u4, cx, cy, wy, z1, z2, z3]
      omega
    . have e3 : (x.whole - x.part) * y.part = 0 := by rw [show y.part = 0 by omega, Int.mul_zero]
      rw [e3, Int.zero_mul]
      simp only [go_sem, Sv, tw, vw, hr0, a00, n1, n2, Int.toNat_natCast, u1, u2, u3, u4, cx, cy]
      omega
end Go.Proofs
namespace Go.Proofs
open Go Go.Sx Go.Fam
attribute [local irreducible] Run
theorem ascAt_bad {a : Int} {l : List Int} {i : Nat} (h : ¬ (a <= at1 l i /\ at1 l i <= 1000000)) : ascAt a l i = 2 := by unfold ascAt; rw [if_neg h]
theorem ascAt_fall {a : Int} {l : List Int} {i : Nat} (h : a <= at1 l (i + 1) /\ at1 l (i + 1) <= 1000000) (h2 : at1 l (i + 1) <= at1 l i) : ascAt a l (i + 1) = 11 := by unfold ascAt; rw [if_pos h, if_pos ⟨by omega, by simpa using h2⟩]
theorem ascAt_good {a : Int} {l : List Int} {i : Nat} (h : a <= at1 l (i + 1) /\ at1 l (i + 1) <= 1000000) (h2 : ¬ at1 l (i + 1) <= at1 l i) : ascAt a l (i + 1) = 0 := by unfold ascAt; rw [if_pos h, if_neg (by simpa using h2)]
theorem ascAt_first {a : Int} {l : List Int} (h : a <= at1 l 0 /\ at1 l 0 <= 1000000) : ascAt a l 0 = 0 := by unfold ascAt; rw [if_pos h, if_neg (by omega)]
theorem fnz_step {e : Nat -> Int} {i n : Nat} (h : i < n) : fnz e i (n - i) = if e i = 0 then fnz e (i + 1) (n - (i + 1)) else e i := by
  rw [show n - i = (n - (i + 1)) + 1 by omega]; rfl
theorem rrightG_run (g : Int) : Ans Try.prog n_ref02_right [.int .i64 g, .int .i64 0] [] (.bool (decide (-1000000 <= g /\ g <= 1000000))) [] := by
  have := rright_run g 0
  rwa [show decide ((-1000000 <= g /\ g <= 1000000) /\ (0:Int) <= 0 /\ (0:Int) <= 1000000) = decide (-1000000 <= g /\ g <= 1000000) from decide_eq_decide.2 (by omega)] at this
theorem rrightP_run (p : Int) : Ans Try.prog n_ref02_right [.int .i64 0, .int .i64 p] [] (.bool (decide (0 <= p /\ p <= 1000000))) [] := by
  have := rright_run 0 p
  rwa [show decide (((-1000000:Int) <= 0 /\ (0:Int) <= 1000000) /\ 0 <= p /\ p <= 1000000) = decide (0 <= p /\ p <= 1000000) from decide_eq_decide.2 (by omega)] at this
set_option maxHeartbeats 2000000 in
set_option maxRecDepth 10000 in
theorem rcheckLines_run (g p : List Int) (hg : g.length <= 9223372036854775807) (hp : p.length <= 9223372036854775807) : Ans Try.prog n_ref02_checkLines [vw g, vw p] [] (.int .i64 (lineE g p)) [] := by
  obtain ⟨e, he⟩ : ∃ e, lineE g p = e := ⟨_, rfl⟩
  rw [he]
  unfold lineE at he
  refine spec_run e_ref02_checkLines fun G => ?_
  by_cases c1 : g.length = 0 ∨ p.length = 0
  . rw [if_pos c1] at he
    rw [<- he]
    by_cases c2 : g.length = 0
    . simp only [go_sem, vw, List.length_map, c2]
    . have c3 : p.length = 0 := by omega
      have n1 : ((g.length : Int) == 0) = false := beq_eq_false_iff_ne.2 (by omega)
      simp only [go_sem, vw, List.length_map, n1, c3]
  . rw [if_neg c1] at he
    have n1 : ((g.length : Int) == 0) = false := beq_eq_false_iff_ne.2 (by omega)
    have n2 : ((p.length : Int) == 0) = false := beq_eq_false_iff_ne.2 (by omega)
    by_cases c2 : 40 < g.length ∨ 40 < p.length
    . rw [if_pos c2] at he
      rw [<- he]
      by_cases c3 : 40 < g.length
      . have n3 : (g.length : Int) > 40 := by omega
        simp only [go_sem, vw, List.length_map, n1, n2, n3]
      . have n3 : ¬ (g.length : Int) > 40 := by omega
        have n4 : (p.length : Int) > 40 := by omega
        simp only [go_sem, vw, List.length_map, n1, n2, n3, n4]
    . rw [if_neg c2] at he
      have n3 : ¬ (g.length : Int) > 40 := by omega
      have n4 : ¬ (p.length : Int) > 40 := by omega
      simp only [go_sem, vw, List.length_map, n1, n2, n3, n4]
      refine loop_ind k_ref02_checkLines_r12.eq_1 (fun i : Nat => i <= g.length /\ fnz (ascAt (-1000000) g) i (g.length - i) = ascE (-1000000) g) (fun i => g.length - i)
        (fun i => (tsets 75 [(0, .view (g.map (.int .i64))), (1, .view (p.map (.int .i64))), (4, .int .i64 0), (5, .int .i64 i)], [])) 0 ⟨Nat.zero_le _, rfl⟩ (by simp [go_sem]) rfl ?_
      rintro i ⟨hi, hE⟩ ih
      dsimp only at hi hE ih ⊢
      by_cases h1 : i < g.length
      . have h2 : (i : Int) < g.length := by omega
        have m0 : ¬ (i : Int) < 0 := by omega
        have h3 := idx_next h1 hg
        have hx := get_at h1
        rw [fnz_step h1] at hE
        have kr := rrightG_run (at1 g i)
        simp only [go_sem, h2, m0, List.length_map, hx, Int.toNat_natCast]
        refine cP kr ?_
        by_cases d1 : -1000000 <= at1 g i /\ at1 g i <= 1000000
        . have dd : decide ((-1000000 <= at1 g i /\ at1 g i <= 1000000) /\ (0:Int) <= 0 /\ (0:Int) <= 1000000) = true := by simp [d1]
          by_cases h0 : 0 < i
          . obtain ⟨j, rfl⟩ : ∃ j, i = j + 1 := ⟨i - 1, by omega⟩
            have hy := get_at (l := g) (i := j) (by omega)
            have e0 : ((j + 1 : Nat) : Int) > 0 := by omega
            have e2 : IntKind.i64.wrap (((j + 1 : Nat) : Int) - 1) = j := by rw [w64 (by omega)]; omega
            have e4 : ¬ (j : Int) < 0 := by omega
            by_cases d2 : at1 g (j + 1) <= at1 g j
            . rw [ascAt_fall d1 d2, if_neg (by omega)] at hE
              rw [<- hE, if_neg (by omega)] at he
              simp only [go_sem, d1, e0, e2, e4, m0, hx, hy, Int.toNat_natCast, d2]
              exact he
            . rw [ascAt_good d1 d2, if_pos rfl] at hE
              simp only [go_sem, d1, e0, e2, e4, m0, hx, hy, Int.toNat_natCast, d2, h3]
              exact ih (j + 1 + 1) (by omega) ⟨h1, hE⟩ _ (by simp [go_sem])
          . obtain rfl : i = 0 := by omega
            have e0 : ¬ ((0 : Nat) : Int) > 0 := by omega
            rw [ascAt_first d1, if_pos rfl] at hE
            simp only [go_sem, d1, e0, h3]
            exact ih (0 + 1) (by omega) ⟨h1, hE⟩ _ (by simp [go_sem]; rfl)
        . have dd : decide ((-1000000 <= at1 g i /\ at1 g i <= 1000000) /\ (0:Int) <= 0 /\ (0:Int) <= 1000000) = false := by simp only [decide_eq_false_iff_not]; exact fun h => d1 h.1
          rw [ascAt_bad d1, if_neg (by omega)] at hE
          rw [<- hE, if_neg (by omega)] at he
          simp only [go_sem, d1]
          exact he
      . have h2 : ¬ (i : Int) < g.length := by omega
        obtain rfl : i = g.length := by omega
        rw [Nat.sub_self] at hE
        rw [<- hE] at he
        simp only [fnz, if_true] at he
        simp only [go_sem, h2, List.length_map]
        refine loop_ind k_ref02_checkLines_r20.eq_1 (fun i : Nat => i <= p.length /\ fnz (ascAt 0 p) i (p.length - i) = e) (fun i => p.length - i)
          (fun i => (tsets 75 [(0, .view (g.map (.int .i64))), (1, .view (p.map (.int .i64))), (4, .int .i64 0), (6, .int .i64 i)], [])) 0 ⟨Nat.zero_le _, he⟩ (by simp [go_sem]) rfl ?_
        rintro i ⟨hi, hE⟩ ih
        dsimp only at hi hE ih ⊢
        by_cases h1 : i < p.length
        . have h2 : (i : Int) < p.length := by omega
          have m0 : ¬ (i : Int) < 0 := by omega
          have h3 := idx_next h1 hp
          have hx := get_at h1
          rw [fnz_step h1] at hE
          have kr := rrightP_run (at1 p i)
          simp only [go_sem, h2, m0, List.length_map, hx, Int.toNat_natCast]
          refine cP kr ?_
          by_cases d1 : 0 <= at1 p i /\ at1 p i <= 1000000
          . have dd : decide (((-1000000:Int) <= 0 /\ (0:Int) <= 1000000) /\ 0 <= at1 p i /\ at1 p i <= 1000000) = true := by simp [d1]
            by_cases h0 : 0 < i
            . obtain ⟨j, rfl⟩ : ∃ j, i = j + 1 := ⟨i - 1, by omega⟩
              have hy := get_at (l := p) (i := j) (by omega)
              have e0 : ((j + 1 : Nat) : Int) > 0 := by omega
              have e2 : IntKind.i64.wrap (((j + 1 : Nat) : Int) - 1) = j := by rw [w64 (by omega)]; omega
              have e4 : ¬ (j : Int) < 0 := by omega
              by_cases d2 : at1 p (j + 1) <= at1 p j
              . rw [ascAt_fall d1 d2, if_neg (by omega)] at hE
                simp only [go_sem, d1, e0, e2, e4, m0, hx, hy, Int.toNat_natCast, d2]
                exact hE
              . rw [ascAt_good d1 d2, if_pos rfl] at hE
                simp only [go_sem, d1, e0, e2, e4, m0, hx, hy, Int.toNat_natCast, d2, h3]
                exact ih (j + 1 + 1) (by omega) ⟨h1, hE⟩ _ (by simp [go_sem])
            . obtain rfl : i = 0 := by omega
              have e0 : ¬ ((0 : Nat) : Int) > 0 := by omega
              rw [ascAt_first d1, if_pos rfl] at hE
              simp only [go_sem, d1, e0, h3]
              exact ih (0 + 1) (by omega) ⟨h1, hE⟩ _ (by simp [go_sem]; rfl)
          . have dd : decide (((-1000000:Int) <= 0 /\ (0:Int) <= 1000000) /\ 0 <= at1 p i /\ at1 p i <= 1000000) = false := by simp only [decide_eq_false_iff_not]; exact fun h => d1 h.2
            rw [ascAt_bad d1, if_neg (by omega)] at hE
            simp only [go_sem, d1]
            exact hE
        . have h2 : ¬ (i : Int) < p.length := by omega
          obtain rfl : i = p.length := by omega
          rw [Nat.sub_self] at hE
          simp only [go_sem, h2, List.length_map]
          exact hE
end Go.Proofs
namespace Go.Proofs
open Go Go.Sx Go.Fam
attribute [local irreducible] Run
theorem rformed_run (t : List (List Int)) (f : Fa) (ht : t.length <= 9223372036854775807) : Ans Try.prog n_ref02_formed [Fv f, tw t] [] (.bool (formB f.g.length f.p.length t)) [] := by
  refine spec_run e_ref02_formed fun G => ?_
  by_cases c0 : t.length = f.g.length
  . have n0 : ((t.length : Int) == f.g.length) = true := by simp [c0]
    simp only [go_sem, tw, Fv, Fcs, vw, List.length_map, n0, bne]
    refine loop_ind k_ref02_formed_r8.eq_1 (fun i : Nat => i <= t.length /\ ∀ r ∈ t.take i, r.length = f.p.length) (fun i => t.length - i)
      (fun i => (tsets 27 [(1, tw t), (2, .ptr 0 0 0 1), (4, .bool false), (5, .int .i64 i)], [some (.cells false 4 [Fv f])])) 0 ⟨Nat.zero_le _, by simp⟩ (by simp [go_sem, tw, vw]) (by simp [Fv, Fcs, vw, tw]) ?_
    rintro i ⟨hi, hT⟩ ih
    dsimp only at hi hT ih ⊢
    by_cases h1 : i < t.length
    . have h2 : (i : Int) < t.length := by omega
      have n0 : ¬ (i : Int) < 0 := by omega
      have h3 := idx_next h1 ht
      obtain ⟨r, hr⟩ : ∃ r, t[i]? = some r := ⟨_, List.getElem?_eq_getElem h1⟩
      by_cases c : r.length = f.p.length
      . have n1 : ((r.length : Int) == f.p.length) = true := by simp [c]
        simp only [go_sem, h2, n0, hr, tw, vw, Fv, Fcs, List.length_map, Int.toNat_natCast, n1, bne, h3]
        exact ih (i + 1) (by omega) ⟨h1, fun q hq => by
          rw [List.take_add_one, hr] at hq
          rcases List.mem_append.1 hq with hq | hq
          . exact hT q hq
          . simp at hq; subst hq; exact c⟩ _ (by simp [go_sem, tw, vw])
      . have n1 : ((r.length : Int) == f.p.length) = false := beq_eq_false_iff_ne.2 (by omega)
        have : formB f.g.length f.p.length t = false := by
          rw [Bool.eq_false_iff]; intro hf
          exact c ((form_iff.1 hf).2 r (List.mem_of_getElem? hr))
        simp only [go_sem, h2, n0, hr, tw, vw, Fv, Fcs, List.length_map, Int.toNat_natCast, n1, bne, this]
    . have h2 : ¬ (i : Int) < t.length := by omega
      obtain rfl : i = t.length := by omega
      rw [List.take_length] at hT
      have : formB f.g.length f.p.length t = true := form_iff.2 ⟨c0, hT⟩
      simp only [go_sem, h2, tw, vw, Fv, Fcs, List.length_map, this]
  . have n0 : ((t.length : Int) == f.g.length) = false := beq_eq_false_iff_ne.2 (by omega)
    have : formB f.g.length f.p.length t = false := by
      rw [Bool.eq_false_iff]; intro hf
      exact c0 (form_iff.1 hf).1
    simp only [go_sem, tw, Fv, Fcs, vw, List.length_map, n0, bne, this]
set_option maxHeartbeats 4000000 in
set_option maxRecDepth 20000 in
theorem rfalls_run {m n : Nat} {t : List (List Int)} (hT : Tab m n t) {i k : Nat} (hi : i < m) (hk : k < n) (hm : m <= 1000 /\ n <= 1000) :
    Ans Try.prog n_ref02_falls [tw t, .int .i64 i, .int .i64 k] [] (.bool (decide ((0 < k /\ tg t i k < tg t i (k - 1)) ∨ (0 < i /\ tg t i k < tg t (i - 1) k)))) [] := by
  obtain ⟨r, hr, hrl⟩ := hT.row i hi
  have a1 := get_at (l := r) (i := k) (by omega)
  rw [<- tg_get hr] at a1
  have n1 : ¬ (i : Int) < 0 := by omega
  have n2 : ¬ (k : Int) < 0 := by omega
  obtain ⟨b, hb⟩ : ∃ b, decide ((0 < k /\ tg t i k < tg t i (k - 1)) ∨ (0 < i /\ tg t i k < tg t (i - 1) k)) = b := ⟨_, rfl⟩
  rw [hb]
  have before : ∀ (j : Nat), k = j + 1 -> r[j]? = some (tg t i j) := fun j hj => by
    rw [tg_get hr]; exact get_at (by omega)
  have up : ∀ (j : Nat), i = j + 1 -> ∃ r', t[j]? = some r' /\ r'[k]? = some (tg t j k) := fun j hj => by
    obtain ⟨r', h1, h2⟩ := hT.row j (by omega)
    exact ⟨r', h1, by rw [tg_get h1]; exact get_at (by omega)⟩
  refine spec_run e_ref02_falls fun G => ?_
  by_cases k0 : 0 < k
  . obtain ⟨j, rfl⟩ : ∃ j, k = j + 1 := ⟨k - 1, by omega⟩
    have u1 := before j rfl
    have e1 : ((j + 1 : Nat) : Int) > 0 := by omega
    have e2 : IntKind.i64.wrap (((j + 1 : Nat) : Int) - 1) = j := by rw [w64 (by omega)]; omega
    have e3 : ¬ (j : Int) < 0 := by omega
    simp only [Nat.add_sub_cancel] at hb
    by_cases c4 : tg t i (j + 1) < tg t i j
    . have : b = true := by rw [<- hb, decide_eq_true_iff]; exact .inl ⟨k0, c4⟩
      rw [this]
      simp only [go_sem, tw, vw, e1, e2, e3, hr, n1, n2, Int.toNat_natCast, a1, u1, c4]
    . by_cases i0 : 0 < i
      . obtain ⟨q, rfl⟩ : ∃ q, i = q + 1 := ⟨i - 1, by omega⟩
        obtain ⟨r', v1, v3⟩ := up q rfl
        have g1 : ((q + 1 : Nat) : Int) > 0 := by omega
        have g2 : IntKind.i64.wrap (((q + 1 : Nat) : Int) - 1) = q := by rw [w64 (by omega)]; omega
        have g3 : ¬ (q : Int) < 0 := by omega
        have : b = decide (tg t (q + 1) (j + 1) < tg t q (j + 1)) := by rw [<- hb]; refine decide_eq_decide.2 ⟨fun h => ?_, fun h => .inr ⟨i0, by simpa using h⟩⟩; exact h.elim (fun h => absurd h.2 c4) (fun h => by simpa using h.2)
        rw [this]
        simp only [go_sem, tw, vw, e1, e2, e3, hr, n1, n2, Int.toNat_natCast, a1, u1, c4, g1, g2, g3, v1, v3]
      . have g1 : ¬ (i : Int) > 0 := by omega
        have : b = false := by rw [<- hb, decide_eq_false_iff_not]; exact fun h => h.elim (fun h => c4 h.2) (fun h => i0 h.1)
        rw [this]
        simp only [go_sem, tw, vw, e1, e2, e3, hr, n1, n2, Int.toNat_natCast, a1, u1, c4, g1]
  . have e1 : ¬ (k : Int) > 0 := by omega
    by_cases i0 : 0 < i
    . obtain ⟨q, rfl⟩ : ∃ q, i = q + 1 := ⟨i - 1, by omega⟩
      obtain ⟨r', v1, v3⟩ := up q rfl
      have g1 : ((q + 1 : Nat) : Int) > 0 := by omega
      have g2 : IntKind.i64.wrap (((q + 1 : Nat) : Int) - 1) = q := by rw [w64 (by omega)]; omega
      have g3 : ¬ (q : Int) < 0 := by omega
      have : b = decide (tg t (q + 1) k < tg t q k) := by rw [<- hb]; refine decide_eq_decide.2 ⟨fun h => ?_, fun h => .inr ⟨i0, by simpa using h⟩⟩; exact h.elim (fun h => absurd h.1 k0) (fun h => by simpa using h.2)
      rw [this]
      simp only [go_sem, tw, vw, e1, hr, n1, n2, Int.toNat_natCast, a1, g1, g2, g3, v1, v3]
    . have g1 : ¬ (i : Int) > 0 := by omega
      have : b = false := by rw [<- hb, decide_eq_false_iff_not]; exact fun h => h.elim (fun h => k0 h.1) (fun h => i0 h.1)
      rw [this]
      simp only [go_sem, tw, vw, e1, g1]
end Go.Proofs
namespace Go.Proofs
open Go Go.Sx Go.Fam
attribute [local irreducible] Run
set_option maxHeartbeats 4000000 in
set_option maxRecDepth 20000 in
theorem rcheckPlace_run (f : Fa) (hL : Tab f.g.length f.p.length f.lo) (hH : Tab f.g.length f.p.length f.hi) {i k : Nat} (hi : i < f.g.length) (hk : k < f.p.length) (hm : f.g.length <= 1000 /\ f.p.length <= 1000) :
    Ans Try.prog n_ref02_checkPlace [Fv f, .int .i64 i, .int .i64 k] [] (.int .i64 (plE f i k)) [] := by
  obtain ⟨r, hr, hrl⟩ := hL.row i hi
  obtain ⟨s, hs, hsl⟩ := hH.row i hi
  have a1 := get_at (l := r) (i := k) (by omega)
  have b1 := get_at (l := s) (i := k) (by omega)
  rw [<- tg_get hr] at a1
  rw [<- tg_get hs] at b1
  have n1 : ¬ (i : Int) < 0 := by omega
  have n2 : ¬ (k : Int) < 0 := by omega
  have f1 := rfalls_run hL hi hk hm
  have f2 := rfalls_run hH hi hk hm
  obtain ⟨e, he⟩ : ∃ e, plE f i k = e := ⟨_, rfl⟩
  rw [he]
  unfold plE at he
  have hF : ((0 < k /\ tg f.lo i k < tg f.lo i (k - 1)) ∨ (0 < i /\ tg f.lo i k < tg f.lo (i - 1) k)) ∨ ((0 < k /\ tg f.hi i k < tg f.hi i (k - 1)) ∨ (0 < i /\ tg f.hi i k < tg f.hi (i - 1) k)) ↔ (0 < k /\ (tg f.lo i k < tg f.lo i (k - 1) ∨ tg f.hi i k < tg f.hi i (k - 1))) ∨ (0 < i /\ (tg f.lo i k < tg f.lo (i - 1) k ∨ tg f.hi i k < tg f.hi (i - 1) k)) := by omega
  generalize tg f.lo i (k - 1) = a2 at *
  generalize tg f.hi i (k - 1) = b2 at *
  generalize tg f.lo (i - 1) k = a3 at *
  generalize tg f.hi (i - 1) k = b3 at *
  generalize tg f.lo i k = a at *
  generalize tg f.hi i k = b at *
  simp only [tw, vw] at f1 f2
  refine spec_run e_ref02_checkPlace fun G => ?_
  by_cases c1 : (0 <= a /\ a <= 1000000) /\ 0 <= b /\ b <= 1000000
  . rw [if_pos c1] at he
    have m1 : ¬ a < 0 := by omega
    have m2 : ¬ a > 1000000 := by omega
    have m3 : ¬ b < 0 := by omega
    have m4 : ¬ b > 1000000 := by omega
    by_cases c3 : b < a
    . rw [if_pos c3] at he
      simp only [go_sem, Fv, Fcs, tw, vw, hr, hs, a1, b1, n1, n2, Int.toNat_natCast, m1, m2, m3, m4, c3]
      exact he
    . rw [if_neg c3] at he
      simp only [go_sem, Fv, Fcs, tw, vw, hr, hs, a1, b1, n1, n2, Int.toNat_natCast, m1, m2, m3, m4, c3]
      refine cP f1 ?_
      by_cases d1 : (0 < k /\ a < a2) ∨ (0 < i /\ a < a3)
      . rw [decide_eq_true d1]
        have : e = 11 := by rw [<- he]; (repeat' split) <;> omega
        rw [this]
        simp only [go_sem]
      . rw [decide_eq_false d1]
        simp only [go_sem]
        refine cP f2 ?_
        by_cases d2 : (0 < k /\ b < b2) ∨ (0 < i /\ b < b3)
        . rw [decide_eq_true d2]
          have : e = 11 := by rw [<- he]; (repeat' split) <;> omega
          rw [this]
          simp only [go_sem]
        . rw [decide_eq_false d2]
          have : e = 0 := by rw [<- he]; (repeat' split) <;> omega
          rw [this]
          simp only [go_sem]
  . rw [if_neg c1] at he
    rw [<- he]
    by_cases m1 : a < 0
    . simp only [go_sem, Fv, Fcs, tw, vw, hr, hs, a1, b1, n1, n2, Int.toNat_natCast, m1]
    . by_cases m2 : a > 1000000
      . simp only [go_sem, Fv, Fcs, tw, vw, hr, hs, a1, b1, n1, n2, Int.toNat_natCast, m1, m2]
      . by_cases m3 : b < 0
        . simp only [go_sem, Fv, Fcs, tw, vw, hr, hs, a1, b1, n1, n2, Int.toNat_natCast, m1, m2, m3]
        . have m4 : b > 1000000 := by omega
          simp only [go_sem, Fv, Fcs, tw, vw, hr, hs, a1, b1, n1, n2, Int.toNat_natCast, m1, m2, m3, m4]
set_option maxHeartbeats 2000000 in
set_option maxRecDepth 10000 in
theorem rCheck_run (f : Fa) (hg : f.g.length <= 1000000) (hp : f.p.length <= 1000000) (hl : f.lo.length <= 1000000) (hh : f.hi.length <= 1000000) : Ans Try.prog n_ref02_Check [Fv f] [] (.int .i64 (famE f)) [] := by
  have k1 := rcheckLines_run f.g f.p (by omega) (by omega)
  have k2 := rformed_run f.lo f (by omega)
  have k3 := rformed_run f.hi f (by omega)
  obtain ⟨e, he⟩ : ∃ e, famE f = e := ⟨_, rfl⟩
  rw [he]
  unfold famE at he
  simp only [Fv, Fcs] at k2 k3
  refine spec_run e_ref02_Check fun G => ?_
  simp only [go_sem, Fv, Fcs]
  refine cP k1 ?_
  by_cases c1 : lineE f.g f.p = 0
  . rw [if_pos c1] at he
    obtain ⟨hG, hP⟩ := line_iff.1 c1
    have m1 := hG.most
    have m2 := hP.most
    simp only [go_sem, c1]
    refine cP k2 ?_
    by_cases c2 : formB f.g.length f.p.length f.lo = true
    . simp only [go_sem, c2]
      refine cP k3 ?_
      by_cases c3 : formB f.g.length f.p.length f.hi = true
      . rw [if_pos ⟨c2, c3⟩] at he
        have tL := tab_of c2
        have tH := tab_of c3
        simp only [go_sem, c3]
        refine loop_ind k_ref02_Check_r16.eq_1 (fun i : Nat => i <= f.g.length /\ fnz (rowE f) i (f.g.length - i) = e) (fun i => f.g.length - i)
          (fun i => (tsets 48 [(1, .ptr 0 0 0 1), (2, .int .i64 0), (4, .int .i64 i)], [some (.cells false 4 [Fv f])])) 0 ⟨Nat.zero_le _, he⟩ (by simp [go_sem]) (by simp [Fv, Fcs]) ?_
        rintro i ⟨hi, hE⟩ ih
        dsimp only at hi hE ih ⊢
        by_cases h1 : i < f.g.length
        . have h2 : (i : Int) < f.g.length := by omega
          have h3 := idx_next h1 (by omega)
          rw [rowE_step h1] at hE
          simp only [go_sem, h2, Fv, Fcs, vw, List.length_map]
          refine loop_ind k_ref02_Check_r14.eq_1 (fun k : Nat => k <= f.p.length /\ fnz (plE f i) k (f.p.length - k) = rowE f i) (fun k => f.p.length - k)
            (fun k => (tsets 48 [(1, .ptr 0 0 0 1), (2, .int .i64 0), (4, .int .i64 i), (5, .int .i64 k)], [some (.cells false 4 [Fv f])])) 0 ⟨Nat.zero_le _, rfl⟩ (by simp [go_sem]) (by simp [Fv, Fcs, vw]) ?_
          rintro k ⟨hk, hF⟩ ihk
          dsimp only at hk hF ihk ⊢
          by_cases j1 : k < f.p.length
          . have j2 : (k : Int) < f.p.length := by omega
            have j3 := idx_next j1 (by omega)
            rw [plE_step j1] at hF
            have kp := rcheckPlace_run f tL tH h1 j1 (by omega)
            simp only [Fv, Fcs, vw] at kp
            simp only [go_sem, j2, Fv, Fcs, vw, List.length_map]
            refine cP kp ?_
            by_cases c4 : plE f i k = 0
            . rw [if_pos c4] at hF
              simp only [go_sem, c4, bne, j3]
              exact ihk (k + 1) (by omega) ⟨j1, hF⟩ _ (by simp [go_sem])
            . rw [if_neg c4] at hF
              have n5 : (plE f i k == 0) = false := beq_eq_false_iff_ne.2 c4
              rw [if_neg (by rw [<- hF]; exact c4), <- hF] at hE
              simp only [go_sem, n5, bne]
              exact hE
          . have j2 : ¬ (k : Int) < f.p.length := by omega
            obtain rfl : k = f.p.length := by omega
            rw [Nat.sub_self] at hF
            have hF0 : rowE f i = 0 := hF.symm
            rw [if_pos hF0] at hE
            simp only [go_sem, j2, h3, Fv, Fcs, vw, List.length_map]
            exact ih (i + 1) (by omega) ⟨h1, hE⟩ _ (by simp [go_sem])
        . have h2 : ¬ (i : Int) < f.g.length := by omega
          obtain rfl : i = f.g.length := by omega
          rw [Nat.sub_self] at hE
          simp only [go_sem, h2, Fv, Fcs, vw, List.length_map]
          exact hE
      . rw [if_neg (fun h => c3 h.2)] at he
        rw [Bool.not_eq_true] at c3
        simp only [go_sem, c3]
        exact he
    . rw [if_neg (fun h => c2 h.1)] at he
      rw [Bool.not_eq_true] at c2
      simp only [go_sem, c2]
      exact he
  . rw [if_neg c1] at he
    have n5 : (lineE f.g f.p == 0) = false := beq_eq_false_iff_ne.2 c1
    simp only [go_sem, n5, bne]
    exact he
end Go.Proofs
