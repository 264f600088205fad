/- Coats: rates, and what a tick makes. -/
import Derived.Test.YtigaafcllfjniaaYcC
namespace Go.Proofs
open Go Go.Sx

theorem shr_u64 (x n : Int) : shrW .u64 x n = x / 2 ^ (min n.toNat 64) := by
  unfold shrW; rw [Int.fdiv_eq_ediv_of_nonneg _ (by exact Int.pow_nonneg (by decide))]; rfl
theorem s1 (x : Int) : shrW .u64 x 1 = x / 2 := by rw [shr_u64]; rfl

theorem search_ok (n : Nat) (hn : n ≤ 1000000000) (g : Nat) (cs : List AVal) (hcs : Bels (fun _ => False) cs) (m : Nat) (hm : m ≤ n)
    (hp : ∀ i : Nat, i < n → Ans Try.prog g (.int .i64 i :: cs) [] (.bool (decide (m ≤ i))) []) : Ans Try.prog n_sort_Search [.int .i64 n, .fn (.func g) [] cs] [] (.int .i64 m) [] := by
  refine spec_run e_sort_Search fun G => ?_
  simp only [go_sem]
  refine loop_ind k_sort_Search_r7.eq_1 (fun a : Nat × Nat => a.1 ≤ m ∧ m ≤ a.2 ∧ a.2 ≤ n) (fun a => a.2 - a.1)
    (fun a => ([.int .i64 n, .fn (.func g) [] cs, .any, .any, .int .i64 0, .int .i64 a.1, .int .i64 a.2] ++ List.replicate 19 .any, [])) (0, n) ⟨Nat.zero_le _, hm, Nat.le_refl _⟩ (by simp [Wk]) rfl ?_
  rintro ⟨i, j⟩ ⟨hi, hj, hjn⟩ ih
  dsimp only at hi hj hjn ih ⊢
  by_cases h1 : i < j
  · have h2 : (i : Int) < j := by omega
    have e1 : IntKind.i64.wrap ((i : Int) + j) = i + j := w64 (by omega)
    have e2 : IntKind.u64.wrap ((i : Int) + j) = i + j := IntWalk.u64_in _ (by omega)
    have e3 : IntKind.i64.wrap (((i : Int) + j) / 2) = (((i + j) / 2 : Nat) : Int) := by rw [w64 (by omega)]; omega
    have e4 := idx_next (i := (i + j) / 2) (n := n) (by omega) (by omega)
    have hq := hp ((i + j) / 2) (by omega)
    simp only [go_sem, h2, e1, e2, s1, e3]
    refine cP hq ?_ ⟨.int _ _, hcs⟩
    by_cases h3 : m ≤ (i + j) / 2
    · simp only [go_sem, h3]
      exact ih (i, (i + j) / 2) (by dsimp only; omega) ⟨hi, h3, by omega⟩ _ (by simp [Wk])
    · simp only [go_sem, h3, e4]
      exact ih ((i + j) / 2 + 1, j) (by dsimp only; omega) ⟨by dsimp only; omega, hj, hjn⟩ _ (by simp [Wk])
  · have h2 : ¬ (i : Int) < j := by omega
    simp only [go_sem, h2]
    omega

@[go_sem] theorem bd_frz (b : Bd) (d : Nat) (H : Heap) : frz (d + 2) H b.v = b.v := rfl
@[go_sem] theorem bd_bel (b : Bd) (S : Nat → Prop) : Bel S b.v = True := by unfold Bd.v Bd.cs; simp only [go_sem]
@[go_sem] theorem bds_bel (bs : List Bd) (S : Nat → Prop) : Bels S (bs.map Bd.v) = True := eq_true (bels_map _ _ fun b => by simp only [go_sem])
@[go_sem] theorem bd_nv (b : Bd) : NV b.v = True := by unfold Bd.v Bd.cs; simp only [go_sem]
theorem bds_frz (bs : List Bd) (d : Nat) (H : Heap) : (bs.map Bd.v).map (frz (d + 2) H) = bs.map Bd.v := by rw [List.map_map]; rfl

theorem ratesAt_run (c : Ct) (hc : CtOK c) (h cur : Int) (hh : 0 ≤ h) (hcur : 0 ≤ cur ∧ cur ≤ 1000) :
    Ans Try.prog n_cathode_ratesAt [c.v (.view (c.bands.map Bd.v)), .int .i64 h, .int .i64 cur] [] (ratesAt c h cur).v [] := by
  have p1 := aboveN_pos hc.len.1 hc.first hh
  have p2 := aboveN_le c.bands h
  have p3 := hc.len.2
  have hs := search_ok c.bands.length (by omega) n_cathode_ratesAt_1 [.rptr (c.v (.view (c.bands.map Bd.v))) 0, .rptr (.int .i64 h) 0] (by simp only [go_sem, Ct.v, Ct.cs]) (aboveN c.bands h) p2 (fun i hi => by
    have := ratesAt1_ok c c.bands h i hi
    have e := aboveN_spec (h := h) hc.asc i hi
    rwa [show decide (h < (c.bands.getD i default).frm) = decide (aboveN c.bands h ≤ i) from decide_eq_decide.2 (by omega)] at this)
  have hx : c.bands[aboveN c.bands h - 1]? = some (bandAt c.bands h) := by
    unfold bandAt
    rw [List.getD_eq_getElem?_getD, List.getElem?_eq_getElem (by omega)]; rfl
  have hb := (bandAt_ok hc hh).red
  have a1 := mul_rng hcur.1 hcur.2 hc.aid.lo (Int.le_trans hc.aid.le hc.aid.hi)
  have a2 := mul_rng hcur.1 hcur.2 (Int.le_trans hc.aid.lo hc.aid.le) hc.aid.hi
  obtain ⟨b1, b2, b3⟩ := hb
  have e0 : IntKind.i64.wrap ((aboveN c.bands h : Int) - 1) = ((aboveN c.bands h - 1 : Nat) : Int) := by rw [w64 (by omega)]; omega
  have e1 : IntKind.i64.wrap (cur * c.aid.lo) = cur * c.aid.lo := w64 (by omega)
  have e2 : IntKind.i64.wrap (cur * c.aid.hi) = cur * c.aid.hi := w64 (by omega)
  unfold ratesAt
  generalize bandAt c.bands h = b at *
  have e3 : IntKind.i64.wrap (b.red.lo + cur * c.aid.lo) = b.red.lo + cur * c.aid.lo := w64 (by omega)
  have e4 : IntKind.i64.wrap (b.red.hi + cur * c.aid.hi) = b.red.hi + cur * c.aid.hi := w64 (by omega)
  have n0 : ¬ ((aboveN c.bands h - 1 : Nat) : Int) < 0 := by omega
  refine spec_run e_cathode_ratesAt fun G => ?_
  simp only [go_sem, Ct.v, Ct.cs]
  refine callF0 hs 6 (by simp only [go_sem, frz, bds_frz, Ct.v, Ct.cs]) ?_
  simp only [go_sem, e0, hx, n0, Bd.v, Bd.cs, e1, e2, e3, e4, mi]
end Go.Proofs
