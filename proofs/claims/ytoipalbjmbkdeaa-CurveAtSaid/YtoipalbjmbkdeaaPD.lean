/- A part of the proof. -/
import Derived.Test.YtoipalbjmbkdeaaPC
set_option linter.unusedSimpArgs false
set_option linter.unusedVariables false
namespace Go.Proofs
open Go Go.Sx Go.Fam
attribute [local irreducible] Run

theorem rright_run (g p : Int) : Ans Try.prog n_ref02_right [.int .i64 g, .int .i64 p] [] (.bool (decide ((-1000000 ≤ g ∧ g ≤ 1000000) ∧ 0 ≤ p ∧ p ≤ 1000000))) [] := by
  refine spec_run e_ref02_right fun G => ?_
  by_cases h1 : -1000000 ≤ g
  · by_cases h2 : g ≤ 1000000
    · by_cases h3 : 0 ≤ p
      · simp [go_sem, h1, h2, h3]
      · simp [go_sem, h1, h2, h3]
    · simp [go_sem, h1, h2]
  · simp [go_sem, h1]

theorem down_run {n b : Int} (hn : -4000000000000000000 ≤ n ∧ n ≤ 4000000000000000000) (hb : 1 ≤ b ∧ b ≤ 4000000000000000000) : Ans Try.prog n_ref02_down [.int .i64 n, .int .i64 b] [] (.int .i64 (n / b)) [] := by
  have h1 := Int.emod_add_mul_ediv n b
  have h2 := Int.emod_nonneg n (show b ≠ 0 by omega)
  have h3 := Int.emod_lt_of_pos n (show 0 < b by omega)
  have t1 := Int.tmod_add_mul_tdiv n b
  have hb0 : ¬ b = 0 := by omega
  refine spec_run e_ref02_down fun G => ?_
  by_cases hn0 : 0 ≤ n
  · have e1 : n.tdiv b = n / b := Int.tdiv_eq_ediv_of_nonneg hn0
    have e2 : n.tmod b = n % b := Int.tmod_eq_emod_of_nonneg hn0
    have q1 : 0 ≤ n / b := Int.ediv_nonneg hn0 (by omega)
    have q2 : n / b ≤ n := Int.ediv_le_self _ hn0
    have w1 : IntKind.i64.wrap (n / b) = n / b := w64 (by omega)
    have w2 : IntKind.i64.wrap (n % b) = n % b := w64 (by omega)
    have n1 : ¬ n % b < 0 := by omega
    simp only [go_sem, hb0, e1, e2, w1, w2, n1]
  · have e2 : n.tmod b = -((-n) % b) := by
      have := Int.neg_tmod (a := -n) (b := b)
      rw [Int.neg_neg] at this
      rw [this, Int.tmod_eq_emod_of_nonneg (by omega)]
    have e1 : n.tdiv b = -((-n) / b) := by
      have := Int.neg_tdiv (a := -n) (b := b)
      rw [Int.neg_neg] at this
      rw [this, Int.tdiv_eq_ediv_of_nonneg (by omega)]
    have m2 := Int.emod_nonneg (-n) (show b ≠ 0 by omega)
    have m3 := Int.emod_lt_of_pos (-n) (show 0 < b by omega)
    have q1 : 0 ≤ (-n) / b := Int.ediv_nonneg (by omega) (by omega)
    have q2 : (-n) / b ≤ -n := Int.ediv_le_self _ (by omega)
    have m1 := Int.emod_add_mul_ediv (-n) b
    have w1 : IntKind.i64.wrap (-((-n) / b)) = -((-n) / b) := w64 (by omega)
    have w2 : IntKind.i64.wrap (-((-n) % b)) = -((-n) % b) := w64 (by omega)
    have w3 : IntKind.i64.wrap (-((-n) / b) - 1) = -((-n) / b) - 1 := w64 (by omega)
    by_cases c : (-n) % b = 0
    · have n1 : ¬ -((-n) % b) < 0 := by omega
      have hq : n / b = -((-n) / b) := by
        have : b * (n / b) + n % b = b * (-((-n) / b)) := by rw [Int.mul_neg]; omega
        have h4 : n % b = 0 := by
          have : b ∣ -n := Int.dvd_of_emod_eq_zero c
          exact Int.emod_eq_zero_of_dvd ((Int.dvd_neg).1 this)
        rw [h4, Int.add_zero] at this
        exact Int.eq_of_mul_eq_mul_left (by omega) this
      simp only [go_sem, hb0, e1, e2, w1, w2, n1, hq]
    · have n1 : -((-n) % b) < 0 := by omega
      have hq : n / b = -((-n) / b) - 1 := by
        have e : n = (b - (-n) % b) + b * (-((-n) / b) - 1) := by rw [Int.mul_sub, Int.mul_neg]; omega
        rw [e, Int.add_mul_ediv_left _ _ (by omega), Int.ediv_eq_zero_of_lt (by omega) (by omega), Int.zero_add, ← e]
      simp only [go_sem, hb0, e1, e2, w1, w2, w3, n1, hq]
theorem up_run {n b : Int} (hn : -4000000000000000000 ≤ n ∧ n ≤ 4000000000000000000) (hb : 1 ≤ b ∧ b ≤ 4000000000000000000) : Ans Try.prog n_ref02_up [.int .i64 n, .int .i64 b] [] (.int .i64 (cup n b)) [] := by
  have hd := down_run (n := -n) (b := b) (by omega) hb
  have w1 : IntKind.i64.wrap (0 - n) = -n := by rw [w64 (by omega)]; omega
  have b1 : -4000000000000000000 ≤ (-n) / b ∧ (-n) / b ≤ 4000000000000000000 := by
    constructor
    · exact (Int.le_ediv_iff_mul_le (by omega)).2 (by have : -4000000000000000000 * b ≤ -4000000000000000000 * 1 := Int.mul_le_mul_of_nonpos_left (by omega) (by omega); omega)
    · exact Int.le_trans (Int.ediv_le_ediv (by omega) (show -n ≤ 4000000000000000000 by omega)) (Int.ediv_le_self _ (by omega))
  have w2 : IntKind.i64.wrap (0 - -n / b) = -(-n / b) := by rw [w64 (by omega)]; omega
  rw [cup_eq _ _ (by omega)]
  refine spec_run e_ref02_up fun G => ?_
  simp only [go_sem, w1]
  refine cP hd ?_
  simp only [go_sem, w2]

theorem rfind_run {a : Int} (ha : -1000000 ≤ a ∧ a ≤ 999999) {l : List Int} (h : Asc a l) {v : Int} (hv : -1000000 ≤ v ∧ v ≤ 1000000) : Ans Try.prog n_ref02_find [vw l, .int .i64 v] [] (Sv (rspot l v)) [] := by
  have hl := h.most
  have hp := h.pos
  have hx0 := get_at (l := l) (i := 0) (by omega)
  obtain ⟨r, hr⟩ : ∃ r, Sv (rspot l v) = r := ⟨_, rfl⟩
  rw [hr]
  have hcl := cnt_le v l
  refine spec_run e_ref02_find fun G => ?_
  simp only [go_sem, vw, hx0]
  refine ⟨fun c => ?_, fun c => ?_⟩
  · have : rspot l v = ⟨0, 0, 1⟩ := by
      by_cases e : at1 l 0 = v
      · by_cases c1 : l.length = 1
        · have hc := cnt_eq (v := v) h (n := 1) (by omega) (fun i hi => by obtain rfl : i = 0 := by omega
                                                                           omega) (by omega)
          have hs : spot l v = ⟨0, 0, 1⟩ := by unfold spot; rw [hc, if_neg (by omega), if_pos (by omega)]
          unfold rspot; rw [hs]; rfl
        · have hc := cnt_eq (v := v) h (n := 1) (by omega) (fun i hi => by obtain rfl : i = 0 := by omega
                                                                           omega) (fun _ => by have := h.asc 0 (by omega); simp only [Nat.zero_add] at this; omega)
          have hs : spot l v = ⟨0, v - at1 l 0, at1 l 1 - at1 l 0⟩ := by unfold spot; rw [hc, if_neg (by omega), if_neg (by omega)]
          unfold rspot; rw [hs]; simp only; rw [if_pos (by omega)]
      · have hc := cnt_eq (v := v) h (n := 0) (by omega) (fun i hi => by omega) (fun _ => by omega)
        have hs : spot l v = ⟨0, 0, 1⟩ := by unfold spot; rw [hc, if_pos rfl]
        unfold rspot; rw [hs]; rfl
    rw [this] at hr
    rw [← hr]
    simp only [Sv]; rfl
  · have h0 : 1 ≤ cnt v l := by
      by_cases e : cnt v l = 0
      · have := cnt_at (v := v) (l := l) (by omega)
        rw [e] at this; omega
      · omega
    refine loop_ind k_ref02_find_r6.eq_1 (fun i : Nat => i + 1 ≤ cnt v l) (fun i => cnt v l - i)
      (fun i => (tsets 61 [(0, .view (l.map (.int .i64))), (1, .int .i64 v), (4, .ptr 0 0 0 1), (5, .int .i64 i)], [some (.cells false 3 [.agg [.int .i64 0, .int .i64 0, .int .i64 0]])])) 0 h0 (by simp [go_sem]) (by simp) ?_
    intro i hi ih
    dsimp only at hi ih ⊢
    have h3 : IntKind.i64.wrap ((i : Int) + 1) = ((i + 1 : Nat) : Int) := by rw [w64 (by omega)]; omega
    by_cases c1 : i + 1 < l.length
    · have c1' : ((i + 1 : Nat) : Int) < l.length := by omega
      have n1 : ¬ ((i + 1 : Nat) : Int) < 0 := by omega
      have hx := get_at (l := l) (i := i + 1) c1
      by_cases c2 : at1 l (i + 1) ≤ v
      · have : i + 1 < cnt v l := by
          by_cases e : i + 1 = cnt v l
          · have := cnt_at (v := v) (l := l) (by omega)
            rw [← e] at this; omega
          · omega
        simp only [go_sem, h3, List.length_map, c1', n1, Int.toNat_natCast, hx, c2]
        exact ih (i + 1) (by omega) (by omega) _ (by simp [go_sem])
      · have e : cnt v l = i + 1 := by
          by_cases d : i + 1 < cnt v l
          · have := cnt_below d; omega
          · omega
        have hy := get_at (l := l) (i := i) (by omega)
        have n2 : ¬ (i : Int) < 0 := by omega
        have b1 : (((i + 1 : Nat) : Int) == l.length) = false := beq_eq_false_iff_ne.2 (by omega)
        have hyv := cnt_below (v := v) (l := l) (i := i) (by omega)
        by_cases c3 : at1 l i = v
        · have : rspot l v = ⟨i, 0, 1⟩ := by
            have hs : spot l v = ⟨i, v - at1 l i, at1 l (i + 1) - at1 l i⟩ := by unfold spot; rw [e, if_neg (by omega), if_neg (by omega), Nat.add_sub_cancel]
            unfold rspot; rw [hs]; simp only; rw [if_pos (by omega)]
          rw [this] at hr
          rw [← hr]
          simp only [go_sem, h3, List.length_map, c1', n1, n2, Int.toNat_natCast, hx, hy, c2, b1, c3, Sv]
        · have b2 : (at1 l i == v) = false := beq_eq_false_iff_ne.2 c3
          have i1 := h.inn i (by omega)
          have i2 := h.inn (i + 1) (by omega)
          have w5 : IntKind.i64.wrap (v - at1 l i) = v - at1 l i := w64 (by omega)
          have w6 : IntKind.i64.wrap (at1 l (i + 1) - at1 l i) = at1 l (i + 1) - at1 l i := w64 (by omega)
          have : rspot l v = ⟨i, v - at1 l i, at1 l (i + 1) - at1 l i⟩ := by
            have hs : spot l v = ⟨i, v - at1 l i, at1 l (i + 1) - at1 l i⟩ := by unfold spot; rw [e, if_neg (by omega), if_neg (by omega), Nat.add_sub_cancel]
            unfold rspot; rw [hs]; simp only; rw [if_neg (by omega)]
          rw [this] at hr
          rw [← hr]
          simp only [go_sem, h3, List.length_map, c1', n1, n2, Int.toNat_natCast, hx, hy, c2, b1, b2, w5, w6, Sv]
    · have c1' : ¬ ((i + 1 : Nat) : Int) < l.length := by omega
      have e : cnt v l = l.length := by omega
      have b1 : (((i + 1 : Nat) : Int) == l.length) = true := by simp; omega
      have : rspot l v = ⟨i, 0, 1⟩ := by
        have hs : spot l v = ⟨i, 0, 1⟩ := by unfold spot; rw [e, if_neg (by omega), if_pos rfl, show l.length - 1 = i by omega]
        unfold rspot; rw [hs]; rfl
      rw [this] at hr
      rw [← hr]
      simp only [go_sem, h3, List.length_map, c1', b1, Sv]
end Go.Proofs

namespace Go.Proofs
open Go Go.Sx Go.Fam
attribute [local irreducible] Run

set_option maxHeartbeats 4000000 in
set_option maxRecDepth 20000 in
theorem rweighted_run {m n : Nat} {t : List (List Int)} (hT : Tab m n t) (hS : Small m n t) (hmn : m ≤ 1000 ∧ n ≤ 1000) {x y : Sp} (hx : SpOK m 2000000 x) (hy : SpOK n 1000000 y) :
    Ans Try.prog n_ref02_weighted [tw t, Sv x, Sv y] [] (.int .i64 (vN t x y)) [] := by
  have t0 := term_in hS hx hy (i := 0) (k := 0) (by omega) (by omega)
  have t1 := term_in hS hx hy (i := 0) (k := 1) (by omega) (by omega)
  have t2 := term_in hS hx hy (i := 1) (k := 0) (by omega) (by omega)
  have t3 := term_in hS hx hy (i := 1) (k := 1) (by omega) (by omega)
  have tot := pacc_in hS hx hy (q := 4) (Nat.le_refl _)
  rw [pacc_all] at tot
  have hv : vN t x y = wgt x 0 * wgt y 0 * tg t (x.at_ + 0) (y.at_ + 0) + wgt x 0 * wgt y 1 * tg t (x.at_ + 0) (y.at_ + 1) + wgt x 1 * wgt y 0 * tg t (x.at_ + 1) (y.at_ + 0) + wgt x 1 * wgt y 1 * tg t (x.at_ + 1) (y.at_ + 1) := rfl
  have hx1 := hx.at_
  have hy1 := hy.at_
  have px := hx.part
  have py := hy.part
  have mx := hx.whole
  have my := hy.whole
  obtain ⟨r0, hr0, hl0⟩ := hT.row _ hx1
  have a00 := get_at (l := r0) (i := y.at_) (by omega)
  rw [← tg_get hr0] at a00
  simp only [wgt, Nat.add_zero] at t0 t1 t2 t3 hv
  have u1 : IntKind.i64.wrap (x.whole - x.part) = x.whole - x.part := w64 (by omega)
  have u2 : IntKind.i64.wrap (y.whole - y.part) = y.whole - y.part := w64 (by omega)
  have u3 : IntKind.i64.wrap ((x.whole - x.part) * (y.whole - y.part)) = (x.whole - x.part) * (y.whole - y.part) := w64 (by omega)
  have u4 : IntKind.i64.wrap ((x.whole - x.part) * (y.whole - y.part) * tg t x.at_ y.at_) = (x.whole - x.part) * (y.whole - y.part) * tg t x.at_ y.at_ := w64 (by omega)
  have n1 : ¬ (x.at_ : Int) < 0 := by omega
  have n2 : ¬ (y.at_ : Int) < 0 := by omega
  have wx : IntKind.i64.wrap ((x.at_ : Int) + 1) = ((x.at_ + 1 : Nat) : Int) := by rw [w64 (by omega)]; omega
  have wy : IntKind.i64.wrap ((y.at_ : Int) + 1) = ((y.at_ + 1 : Nat) : Int) := by rw [w64 (by omega)]; omega
  have n3 : ¬ ((x.at_ + 1 : Nat) : Int) < 0 := by omega
  have n4 : ¬ ((y.at_ + 1 : Nat) : Int) < 0 := by omega
  refine spec_run e_ref02_weighted fun G => ?_
  rw [hv]
  by_cases cx : x.part > 0
  · obtain ⟨r1, hr1, hl1⟩ := hT.row _ (hx.next cx)
    have a10 := get_at (l := r1) (i := y.at_) (by omega)
    rw [← tg_get hr1] at a10
    have v1 : IntKind.i64.wrap (x.part * (y.whole - y.part)) = x.part * (y.whole - y.part) := w64 (by omega)
    have v2 : IntKind.i64.wrap (x.part * (y.whole - y.part) * tg t (x.at_ + 1) y.at_) = x.part * (y.whole - y.part) * tg t (x.at_ + 1) y.at_ := w64 (by omega)
    have v3 : IntKind.i64.wrap ((x.whole - x.part) * (y.whole - y.part) * tg t x.at_ y.at_ + x.part * (y.whole - y.part) * tg t (x.at_ + 1) y.at_) = (x.whole - x.part) * (y.whole - y.part) * tg t x.at_ y.at_ + x.part * (y.whole - y.part) * tg t (x.at_ + 1) y.at_ := w64 (by omega)
    by_cases cy : y.part > 0
    · have a01 := get_at (l := r0) (i := y.at_ + 1) (by have := hy.next cy; omega)
      have a11 := get_at (l := r1) (i := y.at_ + 1) (by have := hy.next cy; omega)
      rw [← tg_get hr0] at a01
      rw [← tg_get hr1] at a11
      have z1 : IntKind.i64.wrap ((x.whole - x.part) * y.part) = (x.whole - x.part) * y.part := w64 (by omega)
      have z2 : IntKind.i64.wrap ((x.whole - x.part) * y.part * tg t x.at_ (y.at_ + 1)) = (x.whole - x.part) * y.part * tg t x.at_ (y.at_ + 1) := w64 (by omega)
      have z3 : IntKind.i64.wrap ((x.whole - x.part) * (y.whole - y.part) * tg t x.at_ y.at_ + x.part * (y.whole - y.part) * tg t (x.at_ + 1) y.at_ + (x.whole - x.part) * y.part * tg t x.at_ (y.at_ + 1)) = (x.whole - x.part) * (y.whole - y.part) * tg t x.at_ y.at_ + x.part * (y.whole - y.part) * tg t (x.at_ + 1) y.at_ + (x.whole - x.part) * y.part * tg t x.at_ (y.at_ + 1) := w64 (by omega)
      have z4 : IntKind.i64.wrap (x.part * y.part) = x.part * y.part := w64 (by omega)
      have z5 : IntKind.i64.wrap (x.part * y.part * tg t (x.at_ + 1) (y.at_ + 1)) = x.part * y.part * tg t (x.at_ + 1) (y.at_ + 1) := w64 (by omega)
      have z6 : IntKind.i64.wrap ((x.whole - x.part) * (y.whole - y.part) * tg t x.at_ y.at_ + x.part * (y.whole - y.part) * tg t (x.at_ + 1) y.at_ + (x.whole - x.part) * y.part * tg t x.at_ (y.at_ + 1) + x.part * y.part * tg t (x.at_ + 1) (y.at_ + 1)) = (x.whole - x.part) * (y.whole - y.part) * tg t x.at_ y.at_ + x.part * (y.whole - y.part) * tg t (x.at_ + 1) y.at_ + (x.whole - x.part) * y.part * tg t x.at_ (y.at_ + 1) + x.part * y.part * tg t (x.at_ + 1) (y.at_ + 1) := w64 (by omega)
      simp only [go_sem, Sv, tw, vw, hr0, hr1, a00, a10, a01, a11, n1, n2, n3, n4, Int.toNat_natCast, u1, u2, u3, u4, cx, cy, wx, wy, v1, v2, v3, z1, z2, z3, z4, z5, z6]
      omega
    · have e1 : (x.whole - x.part) * y.part = 0 := by rw [show y.part = 0 by omega, Int.mul_zero]
      have e2 : x.part * y.part = 0 := by rw [show y.part = 0 by omega, Int.mul_zero]
      rw [e1, e2, Int.zero_mul, Int.zero_mul]
      simp only [go_sem, Sv, tw, vw, hr0, hr1, a00, a10, n1, n2, n3, Int.toNat_natCast, u1, u2, u3, u4, cx, cy, wx, v1, v2, v3]
      omega
  · have e1 : x.part * (y.whole - y.part) = 0 := by rw [show x.part = 0 by omega, Int.zero_mul]
    have e2 : x.part * y.part = 0 := by rw [show x.part = 0 by omega, Int.zero_mul]
    rw [e1, e2, Int.zero_mul, Int.zero_mul]
    by_cases cy : y.part > 0
    · have a01 := get_at (l := r0) (i := y.at_ + 1) (by have := hy.next cy; omega)
      rw [← tg_get hr0] at a01
      have z1 : IntKind.i64.wrap ((x.whole - x.part) * y.part) = (x.whole - x.part) * y.part := w64 (by omega)
      have z2 : IntKind.i64.wrap ((x.whole - x.part) * y.part * tg t x.at_ (y.at_ + 1)) = (x.whole - x.part) * y.part * tg t x.at_ (y.at_ + 1) := w64 (by omega)
      have z3 : IntKind.i64.wrap ((x.whole - x.part) * (y.whole - y.part) * tg t x.at_ y.at_ + (x.whole - x.part) * y.part * tg t x.at_ (y.at_ + 1)) = (x.whole - x.part) * (y.whole - y.part) * tg t x.at_ y.at_ + (x.whole - x.part) * y.part * tg t x.at_ (y.at_ + 1) := w64 (by omega)
      simp only [go_sem, Sv, tw, vw, hr0, a00, a01, n1, n2, n4, Int.toNat_natCast, u1, u2, u3, u4, cx, cy, wy, z1, z2, z3]
      omega
    · have e3 : (x.whole - x.part) * y.part = 0 := by rw [show y.part = 0 by omega, Int.mul_zero]
      rw [e3, Int.zero_mul]
      simp only [go_sem, Sv, tw, vw, hr0, a00, n1, n2, Int.toNat_natCast, u1, u2, u3, u4, cx, cy]
      omega
end Go.Proofs

namespace Go.Proofs
open Go Go.Sx Go.Fam
attribute [local irreducible] Run

theorem ascAt_bad {a : Int} {l : List Int} {i : Nat} (h : ¬ (a ≤ at1 l i ∧ at1 l i ≤ 1000000)) : ascAt a l i = 2 := by unfold ascAt; rw [if_neg h]
theorem ascAt_fall {a : Int} {l : List Int} {i : Nat} (h : a ≤ at1 l (i + 1) ∧ at1 l (i + 1) ≤ 1000000) (h2 : at1 l (i + 1) ≤ at1 l i) : ascAt a l (i + 1) = 11 := by unfold ascAt; rw [if_pos h, if_pos ⟨by omega, by simpa using h2⟩]
theorem ascAt_good {a : Int} {l : List Int} {i : Nat} (h : a ≤ at1 l (i + 1) ∧ at1 l (i + 1) ≤ 1000000) (h2 : ¬ at1 l (i + 1) ≤ at1 l i) : ascAt a l (i + 1) = 0 := by unfold ascAt; rw [if_pos h, if_neg (by simpa using h2)]
theorem ascAt_first {a : Int} {l : List Int} (h : a ≤ at1 l 0 ∧ at1 l 0 ≤ 1000000) : ascAt a l 0 = 0 := by unfold ascAt; rw [if_pos h, if_neg (by omega)]
theorem fnz_step {e : Nat → Int} {i n : Nat} (h : i < n) : fnz e i (n - i) = if e i = 0 then fnz e (i + 1) (n - (i + 1)) else e i := by
  rw [show n - i = (n - (i + 1)) + 1 by omega]; rfl

theorem rrightG_run (g : Int) : Ans Try.prog n_ref02_right [.int .i64 g, .int .i64 0] [] (.bool (decide (-1000000 ≤ g ∧ g ≤ 1000000))) [] := by
  have := rright_run g 0
  rwa [show decide ((-1000000 ≤ g ∧ g ≤ 1000000) ∧ (0:Int) ≤ 0 ∧ (0:Int) ≤ 1000000) = decide (-1000000 ≤ g ∧ g ≤ 1000000) from decide_eq_decide.2 (by omega)] at this
theorem rrightP_run (p : Int) : Ans Try.prog n_ref02_right [.int .i64 0, .int .i64 p] [] (.bool (decide (0 ≤ p ∧ p ≤ 1000000))) [] := by
  have := rright_run 0 p
  rwa [show decide (((-1000000:Int) ≤ 0 ∧ (0:Int) ≤ 1000000) ∧ 0 ≤ p ∧ p ≤ 1000000) = decide (0 ≤ p ∧ p ≤ 1000000) from decide_eq_decide.2 (by omega)] at this
set_option maxHeartbeats 2000000 in
set_option maxRecDepth 10000 in
theorem rcheckLines_run (g p : List Int) (hg : g.length ≤ 9223372036854775807) (hp : p.length ≤ 9223372036854775807) : Ans Try.prog n_ref02_checkLines [vw g, vw p] [] (.int .i64 (lineE g p)) [] := by
  obtain ⟨e, he⟩ : ∃ e, lineE g p = e := ⟨_, rfl⟩
  rw [he]
  unfold lineE at he
  refine spec_run e_ref02_checkLines fun G => ?_
  by_cases c1 : g.length = 0 ∨ p.length = 0
  · rw [if_pos c1] at he
    rw [← he]
    by_cases c2 : g.length = 0
    · simp only [go_sem, vw, List.length_map, c2]
    · have c3 : p.length = 0 := by omega
      have n1 : ((g.length : Int) == 0) = false := beq_eq_false_iff_ne.2 (by omega)
      simp only [go_sem, vw, List.length_map, n1, c3]
  · rw [if_neg c1] at he
    have n1 : ((g.length : Int) == 0) = false := beq_eq_false_iff_ne.2 (by omega)
    have n2 : ((p.length : Int) == 0) = false := beq_eq_false_iff_ne.2 (by omega)
    by_cases c2 : 40 < g.length ∨ 40 < p.length
    · rw [if_pos c2] at he
      rw [← he]
      by_cases c3 : 40 < g.length
      · have n3 : (g.length : Int) > 40 := by omega
        simp only [go_sem, vw, List.length_map, n1, n2, n3]
      · have n3 : ¬ (g.length : Int) > 40 := by omega
        have n4 : (p.length : Int) > 40 := by omega
        simp only [go_sem, vw, List.length_map, n1, n2, n3, n4]
    · rw [if_neg c2] at he
      have n3 : ¬ (g.length : Int) > 40 := by omega
      have n4 : ¬ (p.length : Int) > 40 := by omega
      simp only [go_sem, vw, List.length_map, n1, n2, n3, n4]
      refine loop_ind k_ref02_checkLines_r12.eq_1 (fun i : Nat => i ≤ g.length ∧ fnz (ascAt (-1000000) g) i (g.length - i) = ascE (-1000000) g) (fun i => g.length - i)
        (fun i => (tsets 75 [(0, .view (g.map (.int .i64))), (1, .view (p.map (.int .i64))), (4, .int .i64 0), (5, .int .i64 i)], [])) 0 ⟨Nat.zero_le _, rfl⟩ (by simp [go_sem]) rfl ?_
      rintro i ⟨hi, hE⟩ ih
      dsimp only at hi hE ih ⊢
      by_cases h1 : i < g.length
      · have h2 : (i : Int) < g.length := by omega
        have m0 : ¬ (i : Int) < 0 := by omega
        have h3 := idx_next h1 hg
        have hx := get_at h1
        rw [fnz_step h1] at hE
        have kr := rrightG_run (at1 g i)
        simp only [go_sem, h2, m0, List.length_map, hx, Int.toNat_natCast]
        refine cP kr ?_
        by_cases d1 : -1000000 ≤ at1 g i ∧ at1 g i ≤ 1000000
        · have dd : decide ((-1000000 ≤ at1 g i ∧ at1 g i ≤ 1000000) ∧ (0:Int) ≤ 0 ∧ (0:Int) ≤ 1000000) = true := by simp [d1]
          by_cases h0 : 0 < i
          · obtain ⟨j, rfl⟩ : ∃ j, i = j + 1 := ⟨i - 1, by omega⟩
            have hy := get_at (l := g) (i := j) (by omega)
            have e0 : ((j + 1 : Nat) : Int) > 0 := by omega
            have e2 : IntKind.i64.wrap (((j + 1 : Nat) : Int) - 1) = j := by rw [w64 (by omega)]; omega
            have e4 : ¬ (j : Int) < 0 := by omega
            by_cases d2 : at1 g (j + 1) ≤ at1 g j
            · rw [ascAt_fall d1 d2, if_neg (by omega)] at hE
              rw [← hE, if_neg (by omega)] at he
              simp only [go_sem, d1, e0, e2, e4, m0, hx, hy, Int.toNat_natCast, d2]
              exact he
            · rw [ascAt_good d1 d2, if_pos rfl] at hE
              simp only [go_sem, d1, e0, e2, e4, m0, hx, hy, Int.toNat_natCast, d2, h3]
              exact ih (j + 1 + 1) (by omega) ⟨h1, hE⟩ _ (by simp [go_sem])
          · obtain rfl : i = 0 := by omega
            have e0 : ¬ ((0 : Nat) : Int) > 0 := by omega
            rw [ascAt_first d1, if_pos rfl] at hE
            simp only [go_sem, d1, e0, h3]
            exact ih (0 + 1) (by omega) ⟨h1, hE⟩ _ (by simp [go_sem]; rfl)
        · have dd : decide ((-1000000 ≤ at1 g i ∧ at1 g i ≤ 1000000) ∧ (0:Int) ≤ 0 ∧ (0:Int) ≤ 1000000) = false := by simp only [decide_eq_false_iff_not]; exact fun h => d1 h.1
          rw [ascAt_bad d1, if_neg (by omega)] at hE
          rw [← hE, if_neg (by omega)] at he
          simp only [go_sem, d1]
          exact he
      · have h2 : ¬ (i : Int) < g.length := by omega
        obtain rfl : i = g.length := by omega
        rw [Nat.sub_self] at hE
        rw [← hE] at he
        simp only [fnz, if_true] at he
        simp only [go_sem, h2, List.length_map]
        refine loop_ind k_ref02_checkLines_r20.eq_1 (fun i : Nat => i ≤ p.length ∧ fnz (ascAt 0 p) i (p.length - i) = e) (fun i => p.length - i)
          (fun i => (tsets 75 [(0, .view (g.map (.int .i64))), (1, .view (p.map (.int .i64))), (4, .int .i64 0), (6, .int .i64 i)], [])) 0 ⟨Nat.zero_le _, he⟩ (by simp [go_sem]) rfl ?_
        rintro i ⟨hi, hE⟩ ih
        dsimp only at hi hE ih ⊢
        by_cases h1 : i < p.length
        · have h2 : (i : Int) < p.length := by omega
          have m0 : ¬ (i : Int) < 0 := by omega
          have h3 := idx_next h1 hp
          have hx := get_at h1
          rw [fnz_step h1] at hE
          have kr := rrightP_run (at1 p i)
          simp only [go_sem, h2, m0, List.length_map, hx, Int.toNat_natCast]
          refine cP kr ?_
          by_cases d1 : 0 ≤ at1 p i ∧ at1 p i ≤ 1000000
          · have dd : decide (((-1000000:Int) ≤ 0 ∧ (0:Int) ≤ 1000000) ∧ 0 ≤ at1 p i ∧ at1 p i ≤ 1000000) = true := by simp [d1]
            by_cases h0 : 0 < i
            · obtain ⟨j, rfl⟩ : ∃ j, i = j + 1 := ⟨i - 1, by omega⟩
              have hy := get_at (l := p) (i := j) (by omega)
              have e0 : ((j + 1 : Nat) : Int) > 0 := by omega
              have e2 : IntKind.i64.wrap (((j + 1 : Nat) : Int) - 1) = j := by rw [w64 (by omega)]; omega
              have e4 : ¬ (j : Int) < 0 := by omega
              by_cases d2 : at1 p (j + 1) ≤ at1 p j
              · rw [ascAt_fall d1 d2, if_neg (by omega)] at hE
                simp only [go_sem, d1, e0, e2, e4, m0, hx, hy, Int.toNat_natCast, d2]
                exact hE
              · rw [ascAt_good d1 d2, if_pos rfl] at hE
                simp only [go_sem, d1, e0, e2, e4, m0, hx, hy, Int.toNat_natCast, d2, h3]
                exact ih (j + 1 + 1) (by omega) ⟨h1, hE⟩ _ (by simp [go_sem])
            · obtain rfl : i = 0 := by omega
              have e0 : ¬ ((0 : Nat) : Int) > 0 := by omega
              rw [ascAt_first d1, if_pos rfl] at hE
              simp only [go_sem, d1, e0, h3]
              exact ih (0 + 1) (by omega) ⟨h1, hE⟩ _ (by simp [go_sem]; rfl)
          · have dd : decide (((-1000000:Int) ≤ 0 ∧ (0:Int) ≤ 1000000) ∧ 0 ≤ at1 p i ∧ at1 p i ≤ 1000000) = false := by simp only [decide_eq_false_iff_not]; exact fun h => d1 h.2
            rw [ascAt_bad d1, if_neg (by omega)] at hE
            simp only [go_sem, d1]
            exact hE
        · have h2 : ¬ (i : Int) < p.length := by omega
          obtain rfl : i = p.length := by omega
          rw [Nat.sub_self] at hE
          simp only [go_sem, h2, List.length_map]
          exact hE
end Go.Proofs

namespace Go.Proofs
open Go Go.Sx Go.Fam
attribute [local irreducible] Run

theorem rformed_run (t : List (List Int)) (f : Fa) (ht : t.length ≤ 9223372036854775807) : Ans Try.prog n_ref02_formed [Fv f, tw t] [] (.bool (formB f.g.length f.p.length t)) [] := by
  refine spec_run e_ref02_formed fun G => ?_
  by_cases c0 : t.length = f.g.length
  · have n0 : ((t.length : Int) == f.g.length) = true := by simp [c0]
    simp only [go_sem, tw, Fv, Fcs, vw, List.length_map, n0, bne]
    refine loop_ind k_ref02_formed_r8.eq_1 (fun i : Nat => i ≤ t.length ∧ ∀ r ∈ t.take i, r.length = f.p.length) (fun i => t.length - i)
      (fun i => (tsets 27 [(1, tw t), (2, .ptr 0 0 0 1), (4, .bool false), (5, .int .i64 i)], [some (.cells false 4 [Fv f])])) 0 ⟨Nat.zero_le _, by simp⟩ (by simp [go_sem, tw, vw]) (by simp [Fv, Fcs, vw, tw]) ?_
    rintro i ⟨hi, hT⟩ ih
    dsimp only at hi hT ih ⊢
    by_cases h1 : i < t.length
    · have h2 : (i : Int) < t.length := by omega
      have n0 : ¬ (i : Int) < 0 := by omega
      have h3 := idx_next h1 ht
      obtain ⟨r, hr⟩ : ∃ r, t[i]? = some r := ⟨_, List.getElem?_eq_getElem h1⟩
      by_cases c : r.length = f.p.length
      · have n1 : ((r.length : Int) == f.p.length) = true := by simp [c]
        simp only [go_sem, h2, n0, hr, tw, vw, Fv, Fcs, List.length_map, Int.toNat_natCast, n1, bne, h3]
        exact ih (i + 1) (by omega) ⟨h1, fun q hq => by
          rw [List.take_add_one, hr] at hq
          rcases List.mem_append.1 hq with hq | hq
          · exact hT q hq
          · simp at hq; subst hq; exact c⟩ _ (by simp [go_sem, tw, vw])
      · have n1 : ((r.length : Int) == f.p.length) = false := beq_eq_false_iff_ne.2 (by omega)
        have : formB f.g.length f.p.length t = false := by
          rw [Bool.eq_false_iff]; intro hf
          exact c ((form_iff.1 hf).2 r (List.mem_of_getElem? hr))
        simp only [go_sem, h2, n0, hr, tw, vw, Fv, Fcs, List.length_map, Int.toNat_natCast, n1, bne, this]
    · have h2 : ¬ (i : Int) < t.length := by omega
      obtain rfl : i = t.length := by omega
      rw [List.take_length] at hT
      have : formB f.g.length f.p.length t = true := form_iff.2 ⟨c0, hT⟩
      simp only [go_sem, h2, tw, vw, Fv, Fcs, List.length_map, this]
  · have n0 : ((t.length : Int) == f.g.length) = false := beq_eq_false_iff_ne.2 (by omega)
    have : formB f.g.length f.p.length t = false := by
      rw [Bool.eq_false_iff]; intro hf
      exact c0 (form_iff.1 hf).1
    simp only [go_sem, tw, Fv, Fcs, vw, List.length_map, n0, bne, this]

set_option maxHeartbeats 4000000 in
set_option maxRecDepth 20000 in
theorem rfalls_run {m n : Nat} {t : List (List Int)} (hT : Tab m n t) {i k : Nat} (hi : i < m) (hk : k < n) (hm : m ≤ 1000 ∧ n ≤ 1000) :
    Ans Try.prog n_ref02_falls [tw t, .int .i64 i, .int .i64 k] [] (.bool (decide ((0 < k ∧ tg t i k < tg t i (k - 1)) ∨ (0 < i ∧ tg t i k < tg t (i - 1) k)))) [] := by
  obtain ⟨r, hr, hrl⟩ := hT.row i hi
  have a1 := get_at (l := r) (i := k) (by omega)
  rw [← tg_get hr] at a1
  have n1 : ¬ (i : Int) < 0 := by omega
  have n2 : ¬ (k : Int) < 0 := by omega
  obtain ⟨b, hb⟩ : ∃ b, decide ((0 < k ∧ tg t i k < tg t i (k - 1)) ∨ (0 < i ∧ tg t i k < tg t (i - 1) k)) = b := ⟨_, rfl⟩
  rw [hb]
  have before : ∀ (j : Nat), k = j + 1 → r[j]? = some (tg t i j) := fun j hj => by
    rw [tg_get hr]; exact get_at (by omega)
  have up : ∀ (j : Nat), i = j + 1 → ∃ r', t[j]? = some r' ∧ r'[k]? = some (tg t j k) := fun j hj => by
    obtain ⟨r', h1, h2⟩ := hT.row j (by omega)
    exact ⟨r', h1, by rw [tg_get h1]; exact get_at (by omega)⟩
  refine spec_run e_ref02_falls fun G => ?_
  by_cases k0 : 0 < k
  · obtain ⟨j, rfl⟩ : ∃ j, k = j + 1 := ⟨k - 1, by omega⟩
    have u1 := before j rfl
    have e1 : ((j + 1 : Nat) : Int) > 0 := by omega
    have e2 : IntKind.i64.wrap (((j + 1 : Nat) : Int) - 1) = j := by rw [w64 (by omega)]; omega
    have e3 : ¬ (j : Int) < 0 := by omega
    simp only [Nat.add_sub_cancel] at hb
    by_cases c4 : tg t i (j + 1) < tg t i j
    · have : b = true := by rw [← hb, decide_eq_true_iff]; exact .inl ⟨k0, c4⟩
      rw [this]
      simp only [go_sem, tw, vw, e1, e2, e3, hr, n1, n2, Int.toNat_natCast, a1, u1, c4]
    · by_cases i0 : 0 < i
      · obtain ⟨q, rfl⟩ : ∃ q, i = q + 1 := ⟨i - 1, by omega⟩
        obtain ⟨r', v1, v3⟩ := up q rfl
        have g1 : ((q + 1 : Nat) : Int) > 0 := by omega
        have g2 : IntKind.i64.wrap (((q + 1 : Nat) : Int) - 1) = q := by rw [w64 (by omega)]; omega
        have g3 : ¬ (q : Int) < 0 := by omega
        have : b = decide (tg t (q + 1) (j + 1) < tg t q (j + 1)) := by rw [← hb]; refine decide_eq_decide.2 ⟨fun h => ?_, fun h => .inr ⟨i0, by simpa using h⟩⟩; exact h.elim (fun h => absurd h.2 c4) (fun h => by simpa using h.2)
        rw [this]
        simp only [go_sem, tw, vw, e1, e2, e3, hr, n1, n2, Int.toNat_natCast, a1, u1, c4, g1, g2, g3, v1, v3]
      · have g1 : ¬ (i : Int) > 0 := by omega
        have : b = false := by rw [← hb, decide_eq_false_iff_not]; exact fun h => h.elim (fun h => c4 h.2) (fun h => i0 h.1)
        rw [this]
        simp only [go_sem, tw, vw, e1, e2, e3, hr, n1, n2, Int.toNat_natCast, a1, u1, c4, g1]
  · have e1 : ¬ (k : Int) > 0 := by omega
    by_cases i0 : 0 < i
    · obtain ⟨q, rfl⟩ : ∃ q, i = q + 1 := ⟨i - 1, by omega⟩
      obtain ⟨r', v1, v3⟩ := up q rfl
      have g1 : ((q + 1 : Nat) : Int) > 0 := by omega
      have g2 : IntKind.i64.wrap (((q + 1 : Nat) : Int) - 1) = q := by rw [w64 (by omega)]; omega
      have g3 : ¬ (q : Int) < 0 := by omega
      have : b = decide (tg t (q + 1) k < tg t q k) := by rw [← hb]; refine decide_eq_decide.2 ⟨fun h => ?_, fun h => .inr ⟨i0, by simpa using h⟩⟩; exact h.elim (fun h => absurd h.1 k0) (fun h => by simpa using h.2)
      rw [this]
      simp only [go_sem, tw, vw, e1, hr, n1, n2, Int.toNat_natCast, a1, g1, g2, g3, v1, v3]
    · have g1 : ¬ (i : Int) > 0 := by omega
      have : b = false := by rw [← hb, decide_eq_false_iff_not]; exact fun h => h.elim (fun h => k0 h.1) (fun h => i0 h.1)
      rw [this]
      simp only [go_sem, tw, vw, e1, g1]
end Go.Proofs

namespace Go.Proofs
open Go Go.Sx Go.Fam
attribute [local irreducible] Run

set_option maxHeartbeats 4000000 in
set_option maxRecDepth 20000 in
theorem rcheckPlace_run (f : Fa) (hL : Tab f.g.length f.p.length f.lo) (hH : Tab f.g.length f.p.length f.hi) {i k : Nat} (hi : i < f.g.length) (hk : k < f.p.length) (hm : f.g.length ≤ 1000 ∧ f.p.length ≤ 1000) :
    Ans Try.prog n_ref02_checkPlace [Fv f, .int .i64 i, .int .i64 k] [] (.int .i64 (plE f i k)) [] := by
  obtain ⟨r, hr, hrl⟩ := hL.row i hi
  obtain ⟨s, hs, hsl⟩ := hH.row i hi
  have a1 := get_at (l := r) (i := k) (by omega)
  have b1 := get_at (l := s) (i := k) (by omega)
  rw [← tg_get hr] at a1
  rw [← tg_get hs] at b1
  have n1 : ¬ (i : Int) < 0 := by omega
  have n2 : ¬ (k : Int) < 0 := by omega
  have f1 := rfalls_run hL hi hk hm
  have f2 := rfalls_run hH hi hk hm
  obtain ⟨e, he⟩ : ∃ e, plE f i k = e := ⟨_, rfl⟩
  rw [he]
  unfold plE at he
  have hF : ((0 < k ∧ tg f.lo i k < tg f.lo i (k - 1)) ∨ (0 < i ∧ tg f.lo i k < tg f.lo (i - 1) k)) ∨ ((0 < k ∧ tg f.hi i k < tg f.hi i (k - 1)) ∨ (0 < i ∧ tg f.hi i k < tg f.hi (i - 1) k)) ↔ (0 < k ∧ (tg f.lo i k < tg f.lo i (k - 1) ∨ tg f.hi i k < tg f.hi i (k - 1))) ∨ (0 < i ∧ (tg f.lo i k < tg f.lo (i - 1) k ∨ tg f.hi i k < tg f.hi (i - 1) k)) := by omega
  generalize tg f.lo i (k - 1) = a2 at *
  generalize tg f.hi i (k - 1) = b2 at *
  generalize tg f.lo (i - 1) k = a3 at *
  generalize tg f.hi (i - 1) k = b3 at *
  generalize tg f.lo i k = a at *
  generalize tg f.hi i k = b at *
  simp only [tw, vw] at f1 f2
  refine spec_run e_ref02_checkPlace fun G => ?_
  by_cases c1 : (0 ≤ a ∧ a ≤ 1000000) ∧ 0 ≤ b ∧ b ≤ 1000000
  · rw [if_pos c1] at he
    have m1 : ¬ a < 0 := by omega
    have m2 : ¬ a > 1000000 := by omega
    have m3 : ¬ b < 0 := by omega
    have m4 : ¬ b > 1000000 := by omega
    by_cases c3 : b < a
    · rw [if_pos c3] at he
      simp only [go_sem, Fv, Fcs, tw, vw, hr, hs, a1, b1, n1, n2, Int.toNat_natCast, m1, m2, m3, m4, c3]
      exact he
    · rw [if_neg c3] at he
      simp only [go_sem, Fv, Fcs, tw, vw, hr, hs, a1, b1, n1, n2, Int.toNat_natCast, m1, m2, m3, m4, c3]
      refine cP f1 ?_
      by_cases d1 : (0 < k ∧ a < a2) ∨ (0 < i ∧ a < a3)
      · rw [decide_eq_true d1]
        have : e = 11 := by rw [← he]; (repeat' split) <;> omega
        rw [this]
        simp only [go_sem]
      · rw [decide_eq_false d1]
        simp only [go_sem]
        refine cP f2 ?_
        by_cases d2 : (0 < k ∧ b < b2) ∨ (0 < i ∧ b < b3)
        · rw [decide_eq_true d2]
          have : e = 11 := by rw [← he]; (repeat' split) <;> omega
          rw [this]
          simp only [go_sem]
        · rw [decide_eq_false d2]
          have : e = 0 := by rw [← he]; (repeat' split) <;> omega
          rw [this]
          simp only [go_sem]
  · rw [if_neg c1] at he
    rw [← he]
    by_cases m1 : a < 0
    · simp only [go_sem, Fv, Fcs, tw, vw, hr, hs, a1, b1, n1, n2, Int.toNat_natCast, m1]
    · by_cases m2 : a > 1000000
      · simp only [go_sem, Fv, Fcs, tw, vw, hr, hs, a1, b1, n1, n2, Int.toNat_natCast, m1, m2]
      · by_cases m3 : b < 0
        · simp only [go_sem, Fv, Fcs, tw, vw, hr, hs, a1, b1, n1, n2, Int.toNat_natCast, m1, m2, m3]
        · have m4 : b > 1000000 := by omega
          simp only [go_sem, Fv, Fcs, tw, vw, hr, hs, a1, b1, n1, n2, Int.toNat_natCast, m1, m2, m3, m4]

set_option maxHeartbeats 2000000 in
set_option maxRecDepth 10000 in
theorem rCheck_run (f : Fa) (hg : f.g.length ≤ 1000000) (hp : f.p.length ≤ 1000000) (hl : f.lo.length ≤ 1000000) (hh : f.hi.length ≤ 1000000) : Ans Try.prog n_ref02_Check [Fv f] [] (.int .i64 (famE f)) [] := by
  have k1 := rcheckLines_run f.g f.p (by omega) (by omega)
  have k2 := rformed_run f.lo f (by omega)
  have k3 := rformed_run f.hi f (by omega)
  obtain ⟨e, he⟩ : ∃ e, famE f = e := ⟨_, rfl⟩
  rw [he]
  unfold famE at he
  simp only [Fv, Fcs] at k2 k3
  refine spec_run e_ref02_Check fun G => ?_
  simp only [go_sem, Fv, Fcs]
  refine cP k1 ?_
  by_cases c1 : lineE f.g f.p = 0
  · rw [if_pos c1] at he
    obtain ⟨hG, hP⟩ := line_iff.1 c1
    have m1 := hG.most
    have m2 := hP.most
    simp only [go_sem, c1]
    refine cP k2 ?_
    by_cases c2 : formB f.g.length f.p.length f.lo = true
    · simp only [go_sem, c2]
      refine cP k3 ?_
      by_cases c3 : formB f.g.length f.p.length f.hi = true
      · rw [if_pos ⟨c2, c3⟩] at he
        have tL := tab_of c2
        have tH := tab_of c3
        simp only [go_sem, c3]
        refine loop_ind k_ref02_Check_r16.eq_1 (fun i : Nat => i ≤ f.g.length ∧ fnz (rowE f) i (f.g.length - i) = e) (fun i => f.g.length - i)
          (fun i => (tsets 48 [(1, .ptr 0 0 0 1), (2, .int .i64 0), (4, .int .i64 i)], [some (.cells false 4 [Fv f])])) 0 ⟨Nat.zero_le _, he⟩ (by simp [go_sem]) (by simp [Fv, Fcs]) ?_
        rintro i ⟨hi, hE⟩ ih
        dsimp only at hi hE ih ⊢
        by_cases h1 : i < f.g.length
        · have h2 : (i : Int) < f.g.length := by omega
          have h3 := idx_next h1 (by omega)
          rw [rowE_step h1] at hE
          simp only [go_sem, h2, Fv, Fcs, vw, List.length_map]
          refine loop_ind k_ref02_Check_r14.eq_1 (fun k : Nat => k ≤ f.p.length ∧ fnz (plE f i) k (f.p.length - k) = rowE f i) (fun k => f.p.length - k)
            (fun k => (tsets 48 [(1, .ptr 0 0 0 1), (2, .int .i64 0), (4, .int .i64 i), (5, .int .i64 k)], [some (.cells false 4 [Fv f])])) 0 ⟨Nat.zero_le _, rfl⟩ (by simp [go_sem]) (by simp [Fv, Fcs, vw]) ?_
          rintro k ⟨hk, hF⟩ ihk
          dsimp only at hk hF ihk ⊢
          by_cases j1 : k < f.p.length
          · have j2 : (k : Int) < f.p.length := by omega
            have j3 := idx_next j1 (by omega)
            rw [plE_step j1] at hF
            have kp := rcheckPlace_run f tL tH h1 j1 (by omega)
            simp only [Fv, Fcs, vw] at kp
            simp only [go_sem, j2, Fv, Fcs, vw, List.length_map]
            refine cP kp ?_
            by_cases c4 : plE f i k = 0
            · rw [if_pos c4] at hF
              simp only [go_sem, c4, bne, j3]
              exact ihk (k + 1) (by omega) ⟨j1, hF⟩ _ (by simp [go_sem])
            · rw [if_neg c4] at hF
              have n5 : (plE f i k == 0) = false := beq_eq_false_iff_ne.2 c4
              rw [if_neg (by rw [← hF]; exact c4), ← hF] at hE
              simp only [go_sem, n5, bne]
              exact hE
          · have j2 : ¬ (k : Int) < f.p.length := by omega
            obtain rfl : k = f.p.length := by omega
            rw [Nat.sub_self] at hF
            have hF0 : rowE f i = 0 := hF.symm
            rw [if_pos hF0] at hE
            simp only [go_sem, j2, h3, Fv, Fcs, vw, List.length_map]
            exact ih (i + 1) (by omega) ⟨h1, hE⟩ _ (by simp [go_sem])
        · have h2 : ¬ (i : Int) < f.g.length := by omega
          obtain rfl : i = f.g.length := by omega
          rw [Nat.sub_self] at hE
          simp only [go_sem, h2, Fv, Fcs, vw, List.length_map]
          exact hE
      · rw [if_neg (fun h => c3 h.2)] at he
        rw [Bool.not_eq_true] at c3
        simp only [go_sem, c3]
        exact he
    · rw [if_neg (fun h => c2 h.1)] at he
      rw [Bool.not_eq_true] at c2
      simp only [go_sem, c2]
      exact he
  · rw [if_neg c1] at he
    have n5 : (lineE f.g f.p == 0) = false := beq_eq_false_iff_ne.2 c1
    simp only [go_sem, n5, bne]
    exact he

set_option maxHeartbeats 4000000 in
set_option maxRecDepth 20000 in
theorem rAt_run (f : Fa) (hg : f.g.length ≤ 1000000) (hp : f.p.length ≤ 1000000) (hl : f.lo.length ≤ 1000000) (hh : f.hi.length ≤ 1000000) (g p : Int) : Ans Try.prog n_ref02_At [Fv f, .int .i64 g, .int .i64 p] [] (atA f g p) [] := by
  have k1 := rCheck_run f hg hp hl hh
  have k2 := rright_run g p
  obtain ⟨r, hr⟩ : ∃ r, atA f g p = r := ⟨_, rfl⟩
  rw [hr]
  unfold atA at hr
  refine spec_run e_ref02_At fun G => ?_
  simp only [Fv, Fcs] at k1
  simp only [go_sem, Fv, Fcs]
  refine cP k1 ?_
  by_cases c1 : famE f = 0
  · rw [if_pos c1] at hr
    have hf := fam_iff.1 c1
    obtain ⟨tL, tH, sL, sH⟩ := hf.tabs
    have m1 := hf.g.most
    have m2 := hf.p.most
    simp only [go_sem, c1]
    refine cP k2 ?_
    by_cases c2 : (-1000000 ≤ g ∧ g ≤ 1000000) ∧ 0 ≤ p ∧ p ≤ 1000000
    · rw [if_pos c2] at hr
      rw [decide_eq_true c2]
      have k4 := rfind_run (by omega) hf.g (v := g) (by omega)
      have k5 := rfind_run (by omega) hf.p (v := p) (by omega)
      have ox0 : SpOK f.g.length 2000000 (spot f.g g) := spot_ok hf.g (by omega)
      have oy0 : SpOK f.p.length 1000000 (spot f.p p) := spot_ok hf.p (by omega)
      have ox := rspot_ok ox0
      have oy := rspot_ok oy0
      have k6 := rweighted_run tL sL (by omega) ox oy
      have k7 := rweighted_run tH sH (by omega) ox oy
      have hp4 := (pacc_in sH ox oy (q := 4) (Nat.le_refl _))
      have hq4 := (pacc_in sL ox oy (q := 4) (Nat.le_refl _))
      rw [pacc_all] at hp4 hq4
      have hw : 1 ≤ (rspot f.g g).whole * (rspot f.p p).whole := Int.mul_pos (by have := ox.part; omega) (by have := oy.part; omega)
      have hw2 : (rspot f.g g).whole * (rspot f.p p).whole ≤ 2000000 * 1000000 := Int.mul_le_mul ox.whole oy.whole (by have := oy.part; omega) (by omega)
      have hr2 : atV f g p = atR f (rspot f.g g) (rspot f.p p) := (atR_r f (x := spot f.g g) (y := spot f.p p) (by have := ox0.part; omega) (by have := oy0.part; omega)).symm
      rw [hr2] at hr
      unfold atR at hr
      simp only [vw, Sv] at k4 k5
      simp only [tw, vw, Sv] at k6 k7
      generalize rspot f.g g = x at *
      generalize rspot f.p p = y at *
      have wm : IntKind.i64.wrap (x.whole * y.whole) = x.whole * y.whole := w64 (by omega)
      generalize hW : x.whole * y.whole = W at *
      generalize vN f.lo x y = A at *
      generalize vN f.hi x y = B at *
      have k8 := down_run (n := A) (b := W) (by omega) (by omega)
      have k9 := up_run (n := B) (b := W) (by omega) (by omega)
      simp only [go_sem, tw, vw]
      refine dP k4 ?_
      simp only [go_sem]
      refine dP k5 ?_
      simp only [go_sem]
      refine dP k6 ?_
      simp only [go_sem, hW, wm]
      refine dP k8 ?_
      simp only [go_sem]
      refine dP k7 ?_
      simp only [go_sem, hW, wm]
      refine cP k9 ?_
      simp only [go_sem]
      exact hr
    · rw [if_neg c2] at hr
      rw [decide_eq_false c2]
      simp only [go_sem]
      exact hr
  · rw [if_neg c1] at hr
    have n5 : (famE f == 0) = false := beq_eq_false_iff_ne.2 c1
    simp only [go_sem, n5, bne]
    exact hr
end Go.Proofs

namespace Go.Proofs
open Go Go.Sx Go.Fam
attribute [local irreducible] Run

theorem sized_is (l : List Int) : sizedAll 1 (l.map (.int .i64)) = true := by
  unfold sizedAll
  rw [List.all_eq_true]
  intro e he
  obtain ⟨h, _, rfl⟩ := List.mem_map.1 he; rfl
theorem sized_sub {n : Nat} {l l' : List AVal} (h : sizedAll n l = true) (hs : ∀ v ∈ l', v ∈ l) : sizedAll n l' = true := by
  unfold sizedAll at h ⊢
  rw [List.all_eq_true] at h ⊢
  exact fun v hv => h v (hs v hv)
@[go_sem high] theorem sized_i (l : List Int) : sizedAll 1 (List.map (.int .i64) l) = true := sized_is l
@[go_sem high] theorem sized_it (l : List Int) (m : Nat) : sizedAll 1 (List.take m (List.map (.int .i64) l)) = true := sized_sub (sized_is l) fun v hv => List.mem_of_mem_take hv
@[go_sem high] theorem sized_id (l : List Int) (m : Nat) : sizedAll 1 (List.drop m (List.map (.int .i64) l)) = true := sized_sub (sized_is l) fun v hv => List.mem_of_mem_drop hv
@[go_sem high] theorem sized_itd (l : List Int) (m k : Nat) : sizedAll 1 (List.take m (List.drop k (List.map (.int .i64) l))) = true := sized_sub (sized_is l) fun v hv => List.mem_of_mem_drop (List.mem_of_mem_take hv)
theorem Own_run (l : List Int) (hl : l.length ≤ 1000000) : Ans Try.prog n_kit_Own [vw l] [] (.sl 0 0 l.length) [some (.cells true 1 (l.map (.int .i64)))] := by
  have h8 : l.length * 8 ≤ 2 ^ 44 := by omega
  refine spec_run e_kit_Own fun G => ?_
  simp only [go_sem, vw, List.length_map, h8]
  exact ⟨_, rfl⟩

@[go_sem] theorem rowi_bel (g : Bool) (l : List Int) (S : Nat → Prop) : (Row.cells g 1 (l.map (.int .i64))).bel S = True := by rw [row_bel_cells, bels_ints]
@[go_sem] theorem rowi_nv (g : Bool) (l : List Int) : (Row.cells g 1 (l.map (.int .i64))).nv = True := eq_true (row_nv_cells _ _ (by rw [nvs_ints]; trivial))
@[go_sem] theorem rown_bel (g : Bool) (sz : Nat) (S : Nat → Prop) : (Row.cells g sz []).bel S = True := by rw [row_bel_cells]; rfl
@[go_sem] theorem rown_nv (g : Bool) (sz : Nat) : (Row.cells g sz []).nv = True := eq_true (row_nv_cells _ _ trivial)
def lnV (out : List Int) : AVal := if out = [] then .nilsl else .sl 1 0 out.length
def lnH (w : Int) (out : List Int) : Heap := if out = [] then [some (Dr w)] else [some (Dr w), some (.cells false 1 (out.map (.int .i64)))]
def lnT (lo hi : Int) (most : Int) : List (Nat × AVal) := [(0, .ptr 0 0 0 1), (1, .int .i64 lo), (2, .int .i64 hi), (3, .int .i64 most), (8, .nilsl)]
theorem at_less {n : Int} : ∀ {l : List Int} {i : Nat}, i < cntL n l → at1 l i < n
  | [], i, h => by simp [cntL] at h
  | x :: l, i, h => by
    simp only [cntL] at h
    split at h
    · rename_i hx
      cases i with
      | zero => exact hx
      | succ i => have := at_less (n := n) (l := l) (i := i) (by omega); simpa [at1] using this
    · omega
theorem at_cntL {n : Int} : ∀ {l : List Int}, cntL n l < l.length → n ≤ at1 l (cntL n l)
  | [], h => by simp [cntL] at h
  | x :: l, h => by
    simp only [cntL] at h ⊢
    split
    · rename_i hx
      rw [if_pos hx] at h
      have := at_cntL (n := n) (l := l) (by simpa using h)
      simpa [at1] using this
    · rename_i hx; simp only [at1, List.getD_cons_zero]; omega

theorem wk_refl : ∀ ρ : List AVal, Wk ρ ρ
  | [] => trivial
  | _ :: ρ => ⟨.inr rfl, wk_refl ρ⟩
set_option maxRecDepth 20000 in
theorem ln_back {P : Program} {G : Ctx} {rd : Option Nat} {c : ACode} {fs : List Sx.Frame} {Q : Goal} {ρ : List AVal} {H : Heap} {lo hi most w : Int} {out : List Int} {j m : Nat} (hW : Wk ρ (tsets 62 (lnT lo hi most ++ [(9, .sl j 0 out.length), (10, .int .i64 m)])))
    (h0 : H[0]? = some (some (Dr w))) (hj : H[j]? = some (some (.cells true 1 (out.map (.int .i64))))) (hj1 : 1 ≤ j) (hne : out ≠ []) (h : Sx.Loop P G 1 rd c fs ⟨tsets 62 (lnT lo hi most ++ [(9, lnV out), (10, .int .i64 m)]), lnH w out, []⟩ Q) : Sx.Loop P G 1 rd c fs ⟨ρ, H, []⟩ Q := by
  refine loop_wk hW (loop_gc (ρ' := tsets 62 (lnT lo hi most ++ [(9, .sl 1 0 out.length), (10, .int .i64 m)])) (H' := [some (Dr w), some (.cells true 1 (out.map (.int .i64)))]) (fun i => if i = 0 then 0 else j) (fun i hi => by simp [show i = 0 by omega]) (by simp) (fun i k hi hk e => ?_) ?_ ?_ (fun i x hx => ?_)
    (loop_settle 1 (Nat.le_refl _) (fulfs_mem ?_) (fun i x hx => ?_) ?_))
  · simp only [List.length_cons, List.length_nil] at hi hk
    by_cases a : i = 0 <;> by_cases b : k = 0 <;> simp [a, b] at e <;> omega
  · simp [go_sem, lnT, ren]
  · simp [go_sem, lnT]
  · have hi := (List.getElem?_eq_some_iff.1 hx).1
    simp only [List.length_cons, List.length_nil] at hi
    obtain rfl | rfl : i = 0 ∨ i = 1 := by omega
    · simp only [List.getElem?_cons_zero, Option.some.injEq] at hx
      subst hx
      exact ⟨by rw [Row.ren_same (dr_bel _ _)]; exact h0, dr_bel _ _⟩
    · simp only [List.getElem?_cons_succ, List.getElem?_cons_zero, Option.some.injEq] at hx
      subst hx
      exact ⟨by rw [Row.ren_same (by simp only [go_sem])]; exact hj, by simp only [go_sem]⟩
  · simp [go_sem, lnT]
    exact fulf_sl rfl (by simp)
  · have hi := (List.getElem?_eq_some_iff.1 hx).1
    simp only [List.length_cons, List.length_nil] at hi
    obtain rfl | rfl : i = 0 ∨ i = 1 := by omega
    · simp only [List.getElem?_cons_zero, Option.some.injEq] at hx
      subst hx
      exact ⟨_, _, _, rfl, fun e he => by simp at he; subst he; exact fulf_free (by simp only [go_sem])⟩
    · simp only [List.getElem?_cons_succ, List.getElem?_cons_zero, Option.some.injEq] at hx
      subst hx
      exact ⟨_, _, _, rfl, fulfs_ints _ _⟩
  · have e1 : settleFrom 1 [some (Dr w), some (.cells true 1 (out.map (.int .i64)))] = lnH w out := by unfold lnH; rw [if_neg hne]; rfl
    rw [e1]
    unfold lnV at h
    rwa [if_neg hne] at h
theorem own_frz (w : Int) (out : List Int) {c : Nat} (hc : c ≤ out.length) : frz 6 (Heap.onlyR [some (Dr w), some (Row.cells false 1 (List.map (AVal.int IntKind.i64) out))] [1]) (if 0 = (c : Int) then AVal.view [] else AVal.sl 1 0 (c - 0)) = vw (List.take c out) := by
  by_cases h : c = 0
  · subst h; simp [frz, vw]
  · have h1 : ¬ (0 : Int) = (c : Int) := by omega
    rw [if_neg h1, Nat.sub_zero]
    have e : Heap.cellsAt (Heap.onlyR [some (Dr w), some (Row.cells false 1 (List.map (AVal.int IntKind.i64) out))] [1]) 1 = some (false, 1, List.map (AVal.int IntKind.i64) out) := rfl
    simp only [frz, e, Nat.zero_add, List.length_map, true_or, true_and, hc, if_true, List.drop_zero]
    unfold vw
    rw [← List.map_take, List.map_map]
    congr 1
set_option maxHeartbeats 4000000 in
set_option maxRecDepth 20000 in
theorem Lines_run (w lo hi most : Int) (hb : -1000000 ≤ lo ∧ lo ≤ hi ∧ hi ≤ 1000000) (hm : 1 ≤ most ∧ most ≤ 40) :
    Ans Try.prog n_kit_Lines [.ptr 0 0 0 1, .int .i64 lo, .int .i64 hi, .int .i64 most] [some (Dr w)] (.sl 1 0 (linesOf w lo hi most).length) [some (Dr (linesEnd w lo hi most)), some (.cells true 1 ((linesOf w lo hi most).map (.int .i64)))] := by
  have hbt := btw_in (w := w) hm.1
  have hpos := (linesOf_ok (w := w) (a := lo) hb.2.1 hm (Int.le_refl _) hb.2.2).1.pos
  unfold linesOf linesEnd at *
  obtain ⟨R, hR⟩ : ∃ R, linesGo lo hi (btw w 1 most).toNat (dstep w) [] = R := ⟨_, rfl⟩
  rw [hR] at hpos ⊢
  have k1 := between_ok w 1 most (by omega) hm.1 (by omega)
  refine Ans.loosen (LH' := [some (Dr R.2), some (.cells false 1 (R.1.map (.int .i64)))]) (Ans.keep (run_fn e_kit_Lines fun G => ?_) (by simp) (by rw [bel_sl]; simp) ⟨by simp only [go_sem], by rw [row_bel_cells, bels_ints]; trivial, trivial⟩) rfl (fun i => by
    match i with
    | 0 => exact .inl rfl
    | 1 => exact .inr ⟨false, 1, _, rfl, rfl⟩
    | i + 2 => exact .inl (by simp))
  simp only [go_sem]
  refine cD k1 ?_
  simp only [go_sem]
  refine loop_ind k_kit_Lines_r12.eq_1 (fun a : Nat × Int × List Int => linesGo lo hi a.1 a.2.1 a.2.2 = R ∧ a.2.2.length + a.1 ≤ 40) (fun a => a.1)
    (fun a => (tsets 62 (lnT lo hi most ++ [(9, lnV a.2.2), (10, .int .i64 a.1)]), lnH a.2.1 a.2.2)) ((btw w 1 most).toNat, dstep w, []) ⟨hR, by simp only [List.length_nil]; omega⟩ (by simp [go_sem, lnT, lnV]; omega) (by simp [lnH, List.set]) ?_
  rintro ⟨m, w, out⟩ ⟨hG, hl⟩ ih
  dsimp only at hG hl ih ⊢
  have ho : out.length ≤ 40 := by omega
  cases m with
  | zero =>
    have e0 : ¬ ((0 : Nat) : Int) > 0 := by omega
    simp only [linesGo] at hG
    subst hG
    have hne : out ≠ [] := by rintro rfl; simp at hpos
    simp only [go_sem, lnT, lnV, lnH, hne, if_false, e0]
    refine ⟨fun i => i, fun i _ => rfl, fun i j _ _ h => h, by simp [ren], fun i x hx => ?_⟩
    match i with
    | 0 =>
      simp only [List.getElem?_cons_zero, Option.some.injEq] at hx
      subst hx
      rw [Row.ren_same (dr_bel _ _)]; rfl
    | 1 =>
      simp only [List.getElem?_cons_succ, List.getElem?_cons_zero, Option.some.injEq] at hx
      subst hx
      rw [Row.ren_same (by simp only [go_sem])]; rfl
    | i + 2 => simp at hx
  | succ m =>
    have e0 : ((m + 1 : Nat) : Int) > 0 := by omega
    have e1 : IntKind.i64.wrap (((m + 1 : Nat) : Int) - 1) = m := by rw [w64 (by omega)]; omega
    have kb := between_ok w lo hi (by omega) hb.2.1 (by omega)
    by_cases hne : out = []
    · subst hne
      simp only [go_sem, lnT, lnV, lnH, if_true, e0]
      refine cD kb ?_
      simp only [go_sem]
      refine loop_body 3000 k_kit_Lines_r8.eq_1 ?_
      simp only [go_sem]
      refine dFN (Own_run [] (by simp)) 6 [] (by simp only [go_sem, frz, vw, List.map_nil]) ?_
      simp only [go_sem, ren, e1]
      refine ⟨by decide, by decide, ln_back (lo := lo) (hi := hi) (most := most) (m := m) (j := 1) (out := insL (btw w lo hi) []) (w := dstep w) (by simp [go_sem, lnT, insL]) rfl (by simp [insL]) (Nat.le_refl _) (by simp [insL]) ?_⟩
      exact ih (m, dstep w, insL (btw w lo hi) []) (Nat.lt_succ_self _) ⟨hG, by simp only [insL, List.length_singleton]; simp at hl; omega⟩ _ (wk_refl _)
    · simp only [go_sem, lnT, lnV, lnH, hne, if_false, e0]
      refine cD kb ?_
      simp only [go_sem]
      generalize hn : btw w lo hi = n at *
      have hcl := cntL_le n out
      refine loop_indH k_kit_Lines_r8.eq_1 (fun i : Nat => i ≤ cntL n out) (fun i => cntL n out - i)
        (fun i => tsets 62 (lnT lo hi most ++ [(9, .sl 1 0 out.length), (10, .int .i64 (m + 1 : Nat)), (11, .int .i64 n), (12, .int .i64 i)])) 0 (Nat.zero_le _) (by simp [go_sem, lnT]) ?_
      intro i hiv ihi
      have h3 : IntKind.i64.wrap ((i : Int) + 1) = ((i + 1 : Nat) : Int) := by rw [w64 (by omega)]; omega
      have n0 : ¬ (i : Int) < 0 := by omega
      by_cases c1 : i < cntL n out
      · have h2 : (i : Int) < out.length := by omega
        have hx := get_at (l := out) (i := i) (by omega)
        have hx2 := at_less c1
        simp only [go_sem, lnT, h2, n0, hx, Int.toNat_natCast, hx2, h3, List.length_map]
        exact ihi (i + 1) (by omega) (by omega) _ (by simp [go_sem, lnT])
      · obtain rfl : i = cntL n out := by omega
        by_cases c2 : cntL n out < out.length
        · have h2 : ((cntL n out : Nat) : Int) < out.length := by omega
          have hx := get_at (l := out) (i := cntL n out) c2
          have hx2 := at_cntL c2
          have hx3 : ¬ at1 out (cntL n out) < n := by omega
          have b1 : (((cntL n out : Nat) : Int) == out.length) = false := beq_eq_false_iff_ne.2 (by omega)
          by_cases c3 : at1 out (cntL n out) = n
          · have b2 : (at1 out (cntL n out) == n) = true := by simp [c3]
            have e : insL n out = out := by rw [insL_eq, if_pos (by rw [hx, c3])]
            simp only [go_sem, lnT, h2, n0, hx, Int.toNat_natCast, hx3, List.length_map, b1, bne, b2, e1]
            have q := ih (m, dstep w, out) (Nat.lt_succ_self _) ⟨by simp only [linesGo, hn, e] at hG; exact hG, by dsimp only; omega⟩
            simp only [lnH, lnV, hne, if_false] at q
            exact q _ (by simp [go_sem, lnT])
          · have b2 : (at1 out (cntL n out) == n) = false := beq_eq_false_iff_ne.2 c3
            have e : insL n out = out.take (cntL n out) ++ n :: out.drop (cntL n out) := by rw [insL_eq, if_neg (by rw [hx]; simpa using c3)]
            simp only [go_sem, lnT, h2, n0, hx, Int.toNat_natCast, hx3, List.length_map, b1, bne, b2, e1]
            have q1 : ¬ ((cntL n out : Nat) : Int) = (out.length : Int) := by omega
            refine ⟨by omega, dFN (Own_run (out.take (cntL n out)) (by simp; omega)) 6 [1] ⟨.inl (own_frz _ _ hcl), trivial⟩ ?_ (hx := by rw [rowi_bel]; trivial) (hxn := by rw [rowi_nv]; trivial)⟩
            have q2 : cntL n out + (out.length - cntL n out) ≤ out.length := by omega
            have qt : List.take (out.length - cntL n out) (List.drop (cntL n out) (List.map (AVal.int IntKind.i64) out)) = (out.drop (cntL n out)).map (.int .i64) := by rw [← List.map_drop, List.take_of_length_le (by simp)]
            have hmin : min (cntL n out) out.length = cntL n out := Nat.min_eq_left hcl
            simp only [go_sem, ren, e1, q1, q2, qt, hmin, List.length_map, List.length_take, List.length_drop]
            refine ⟨by omega, by omega, by omega, ln_back (lo := lo) (hi := hi) (most := most) (m := m) (j := 2) (out := insL n out) (w := dstep w) ?_ rfl (by rw [e]; simp) (by omega) (by rw [e]; simp) ?_⟩
            · have el : (insL n out).length = cntL n out + 1 + (out.length - cntL n out) := by rw [e]; simp; omega
              simp [go_sem, lnT, el]
            · exact ih (m, dstep w, insL n out) (Nat.lt_succ_self _) ⟨by simp only [linesGo, hn] at hG; exact hG, by have := (insL_len n out).2; dsimp only; omega⟩ _ (wk_refl _)
        · have h2 : ¬ ((cntL n out : Nat) : Int) < out.length := by omega
          have b1 : (((cntL n out : Nat) : Int) == out.length) = true := by simp; omega
          have q1 : ((cntL n out : Nat) : Int) = (out.length : Int) := by omega
          have e : insL n out = out.take (cntL n out) ++ n :: out.drop (cntL n out) := by rw [insL_eq, if_neg (by rw [List.getElem?_eq_none (by omega)]; simp)]
          simp only [go_sem, lnT, h2, List.length_map, b1, e1]
          refine ⟨by omega, dFN (Own_run (out.take (cntL n out)) (by simp; omega)) 6 [1] ⟨.inl (own_frz _ _ hcl), trivial⟩ ?_ (hx := by rw [rowi_bel]; trivial) (hxn := by rw [rowi_nv]; trivial)⟩
          have hmin : min (cntL n out) out.length = cntL n out := Nat.min_eq_left hcl
          simp only [go_sem, ren, e1, q1, hmin, List.length_map, List.length_take]
          refine ⟨by omega, by omega, by omega, ln_back (lo := lo) (hi := hi) (most := most) (m := m) (j := 2) (out := insL n out) (w := dstep w) ?_ rfl (by rw [e, List.drop_eq_nil_of_le (by omega)]; simp) (by omega) (by rw [e]; simp) ?_⟩
          · have el : (insL n out).length = cntL n out + 1 + (out.length - cntL n out) := by rw [e]; simp; omega
            simp [go_sem, lnT, el]
            omega
          · exact ih (m, dstep w, insL n out) (Nat.lt_succ_self _) ⟨by simp only [linesGo, hn] at hG; exact hG, by have := (insL_len n out).2; dsimp only; omega⟩ _ (wk_refl _)
end Go.Proofs

namespace Go.Proofs
open Go Go.Sx Go.Fam
attribute [local irreducible] Run

theorem rcheckRange_yes {a b lo hi : Int} (h : lo ≤ a ∧ a ≤ b ∧ b ≤ hi) : Ans Try.prog n_ref02_checkRange [.agg [.int .i64 a, .int .i64 b], .int .i64 lo, .int .i64 hi] [] (.int .i64 0) [] := by
  have h1 : ¬ a > b := by omega
  have h2 : ¬ a < lo := by omega
  have h3 : ¬ b > hi := by omega
  refine spec_run e_ref02_checkRange fun G => ?_
  simp only [go_sem, h1, h2, h3]
set_option maxRecDepth 20000 in
theorem rCheckLaw_ok (l : Lw) (h : LwOK l) : Ans Try.prog n_ref02_CheckLaw [l.v] [] (.int .i64 0) [] := by
  have k1 := rcheckRange_yes h.perv
  have k2 := rcheckRange_yes h.gain
  have k3 := rcheckRange_yes h.shift
  have k4 := rcheckRange_yes h.full
  have k5 := rcheckRange_yes h.part
  have u1 : IntKind.i64.wrap 1 = 1 := rfl
  have u2 : IntKind.i64.wrap 2 = 2 := rfl
  have u3 : IntKind.i64.wrap 3 = 3 := rfl
  have u4 : IntKind.i64.wrap 4 = 4 := rfl
  have u5 : IntKind.i64.wrap 5 = 5 := rfl
  refine spec_run e_ref02_CheckLaw fun G => ?_
  simp only [go_sem, Lw.v, Lw.cs]
  refine loop_body 200 k_ref02_CheckLaw_r10.eq_1 ?_
  simp only [go_sem]
  refine cP k1 ?_
  simp only [go_sem, u1]
  refine loop_body 200 k_ref02_CheckLaw_r10.eq_1 ?_
  simp only [go_sem]
  refine cP k2 ?_
  simp only [go_sem, u2]
  refine loop_body 200 k_ref02_CheckLaw_r10.eq_1 ?_
  simp only [go_sem]
  refine cP k3 ?_
  simp only [go_sem, u3]
  refine loop_body 200 k_ref02_CheckLaw_r10.eq_1 ?_
  simp only [go_sem]
  refine cP k4 ?_
  simp only [go_sem, u4]
  refine loop_body 200 k_ref02_CheckLaw_r10.eq_1 ?_
  simp only [go_sem]
  refine cP k5 ?_
  simp only [go_sem, u5]
  refine loop_body 200 k_ref02_CheckLaw_r10.eq_1 ?_
  simp only [go_sem]

theorem cut_run (n : Int) : Ans Try.prog n_ref02_cut [.int .i64 n] [] (.int .i64 (bnd n)) [] := by
  refine spec_run e_ref02_cut fun G => ?_
  simp only [go_sem]
  unfold bnd
  repeat' split
  all_goals omega

theorem rdrive_run (l : Lw) (h : LwOK l) (g p : Int) (h1 : -1000000 ≤ g ∧ g ≤ 1000000) (h2 : 0 ≤ p ∧ p ≤ 1000000) : Ans Try.prog n_ref02_drive [l.v, .int .i64 g, .int .i64 p] [] (driveOf l g p).v [] := by
  obtain ⟨_, ⟨b1, b2, b3⟩, ⟨c1, c2, c3⟩, _, _⟩ := h
  have q1 : 0 ≤ 1000 * p / l.gain.hi := Int.ediv_nonneg (by omega) (by omega)
  have q2 : 1000 * p / l.gain.hi ≤ 1000 * p := Int.ediv_le_self _ (by omega)
  have q3 : 0 ≤ rup (1000 * p) l.gain.lo := Int.ediv_nonneg (by omega) (by omega)
  have q4 : rup (1000 * p) l.gain.lo ≤ 1000 * p + l.gain.lo - 1 := Int.ediv_le_self _ (by omega)
  have m1 : IntKind.i64.wrap (1000 * p) = 1000 * p := w64 (by omega)
  have m3 : IntKind.i64.wrap (g + l.shift.lo) = g + l.shift.lo := w64 (by omega)
  have m4 : IntKind.i64.wrap (g + l.shift.lo + 1000 * p / l.gain.hi) = g + l.shift.lo + 1000 * p / l.gain.hi := w64 (by omega)
  have m5 : IntKind.i64.wrap (g + l.shift.hi) = g + l.shift.hi := w64 (by omega)
  have m6 : IntKind.i64.wrap (g + l.shift.hi + rup (1000 * p) l.gain.lo) = g + l.shift.hi + rup (1000 * p) l.gain.lo := w64 (by omega)
  have d1 := down_run (n := 1000 * p) (b := l.gain.hi) (by omega) (by omega)
  have d2 : Ans Try.prog n_ref02_up [.int .i64 (1000 * p), .int .i64 l.gain.lo] [] (.int .i64 (rup (1000 * p) l.gain.lo)) [] := up_run (n := 1000 * p) (b := l.gain.lo) (by omega) (by omega)
  refine spec_run e_ref02_drive fun G => ?_
  simp only [go_sem, Lw.v, Lw.cs, m1, m3]
  refine dP d1 ?_
  simp only [go_sem, m4]
  refine dP (cut_run _) ?_
  simp only [go_sem, m5, m1]
  refine dP d2 ?_
  simp only [go_sem, m6]
  refine cP (cut_run _) ?_
  simp only [go_sem, driveOf, Rg.v]

theorem div_iff {n q : Int} (hq : 1 ≤ q) : q ≤ n / q ↔ q * q ≤ n := Int.le_ediv_iff_mul_le (by omega)
theorem root_iff {n q : Int} (hn : 0 ≤ n) (hq : 0 ≤ q) : q * q ≤ n ↔ q ≤ root n := by
  obtain ⟨a, b, c⟩ := root_ok hn
  constructor
  · intro h
    by_cases d : root n + 1 ≤ q
    · have := sq_le (a := root n + 1) (b := q) (by omega) d; omega
    · omega
  · intro h
    have := sq_le hq h; omega
theorem rroot_run (n : Int) (h0 : 0 ≤ n) (h1 : n ≤ 1152921504606846976) : Ans Try.prog n_ref02_root [.int .i64 n] [] (.int .i64 (root n)) [] := by
  have hr := root_le h0 h1
  obtain ⟨r1, _, _⟩ := root_ok h0
  refine spec_run e_ref02_root fun G => ?_
  simp only [go_sem]
  refine loop_ind k_ref02_root_r7.eq_1 (fun a : Int × Int => 0 ≤ a.1 ∧ a.1 ≤ root n ∧ root n ≤ a.2 ∧ a.2 ≤ 3000000000) (fun a => (a.2 - a.1).toNat)
    (fun a => (tsets 23 [(0, .int .i64 n), (2, .int .i64 0), (3, .int .i64 a.1), (4, .int .i64 a.2)], [])) (0, 3000000000) ⟨Int.le_refl _, r1, by dsimp only; omega, Int.le_refl _⟩ (by simp [go_sem]) rfl ?_
  rintro ⟨i, j⟩ ⟨g0, g1, g2, g3⟩ ih
  dsimp only at g0 g1 g2 g3 ih ⊢
  by_cases c : i < j
  · have w1 : IntKind.i64.wrap (i + j) = i + j := w64 (by omega)
    have w2 : IntKind.i64.wrap (i + j + 1) = i + j + 1 := w64 (by omega)
    have e1 : (i + j + 1).tdiv 2 = (i + j + 1) / 2 := Int.tdiv_eq_ediv_of_nonneg (by omega)
    obtain ⟨q, hq⟩ : ∃ q, (i + j + 1) / 2 = q := ⟨_, rfl⟩
    rw [hq] at e1
    have w3 : IntKind.i64.wrap q = q := w64 (by omega)
    have e2 : n.tdiv q = n / q := Int.tdiv_eq_ediv_of_nonneg h0
    have q1 : 0 ≤ n / q := Int.ediv_nonneg h0 (by omega)
    have q2 : n / q ≤ n := Int.ediv_le_self _ h0
    have w4 : IntKind.i64.wrap (n / q) = n / q := w64 (by omega)
    have w5 : IntKind.i64.wrap (q - 1) = q - 1 := w64 (by omega)
    have z : ¬ q = 0 := by omega
    have hi := div_iff (n := n) (q := q) (by omega)
    rw [root_iff h0 (by omega)] at hi
    by_cases d : q ≤ n / q
    · simp only [go_sem, c, w1, w2, e1, w3, z, e2, w4, d]
      exact ih (q, j) (by dsimp only; omega) ⟨by dsimp only; omega, hi.1 d, g2, g3⟩ _ (by simp [go_sem])
    · simp only [go_sem, c, w1, w2, e1, w3, z, e2, w4, d, w5]
      have nq : ¬ q ≤ root n := fun h => d (hi.2 h)
      exact ih (i, q - 1) (by dsimp only; omega) ⟨g0, g1, by dsimp only; omega, by dsimp only; omega⟩ _ (by simp [go_sem])
  · simp only [go_sem, c]
    omega
theorem rabove_run (n : Int) (h0 : 0 ≤ n) (h1 : n ≤ 1152921504606846976) : Ans Try.prog n_ref02_above [.int .i64 n] [] (.int .i64 (rootU n)) [] := by
  have hr := root_le h0 h1
  obtain ⟨r1, r2, _⟩ := root_ok h0
  have hm := mul_in (a := root n) (b := root n) (A := 1073741824) (B := 1073741824) ⟨r1, hr⟩ ⟨r1, hr⟩
  have w1 : IntKind.i64.wrap (root n * root n) = root n * root n := w64 (by omega)
  have w2 : IntKind.i64.wrap (root n + 1) = root n + 1 := w64 (by omega)
  refine spec_run e_ref02_above fun G => ?_
  simp only [go_sem]
  refine cP (rroot_run n h0 h1) ?_
  by_cases c : root n * root n < n
  · simp only [go_sem, w1, c, w2, rootU, if_true]
  · simp only [go_sem, w1, c, rootU, if_false]

set_option maxHeartbeats 1000000 in
theorem rcurrent_run (l : Lw) (h : LwOK l) (g p : Int) (h1 : -1000000 ≤ g ∧ g ≤ 1000000) (h2 : 0 ≤ p ∧ p ≤ 1000000) : Ans Try.prog n_ref02_current [l.v, .int .i64 g, .int .i64 p] [] (curOf l g p).v [] := by
  have hd := rdrive_run l h g p h1 h2
  have hlo := bnd_in (g + l.shift.lo + (1000 * p) / l.gain.hi)
  have hhi := bnd_in (g + l.shift.hi + rup (1000 * p) l.gain.lo)
  rw [show bnd (g + l.shift.lo + (1000 * p) / l.gain.hi) = (driveOf l g p).lo from rfl] at hlo
  rw [show bnd (g + l.shift.hi + rup (1000 * p) l.gain.lo) = (driveOf l g p).hi from rfl] at hhi
  unfold curOf
  generalize driveOf l g p = d at *
  obtain ⟨⟨a1, a2, a3⟩, _, _, ⟨d1, d2, d3⟩, ⟨e1, e2, e3⟩⟩ := h
  obtain ⟨c1, c2, c3, c4⟩ := cube_in hlo.1 hlo.2
  obtain ⟨c5, c6, c7, c8⟩ := cube_in hhi.1 hhi.2
  obtain ⟨r1, _, _⟩ := root_ok c3
  have r2 := root_le c3 (by omega)
  obtain ⟨r3, _, _⟩ := root_ok c7
  have r4 := root_le c7 (by omega)
  have r5 : 0 ≤ rootU (cube d.hi) ∧ rootU (cube d.hi) ≤ 1073741825 := by unfold rootU; split <;> omega
  have p1 := mul_in (a := l.perv.lo) (A := 1000000) ⟨a1, by omega⟩ ⟨r1, r2⟩
  have p2 := mul_in (a := l.perv.hi) (A := 1000000) ⟨by omega, by omega⟩ r5
  have s1 : 0 ≤ spaceLo l d ∧ spaceLo l d ≤ l.perv.lo * root (cube d.lo) := ⟨Int.ediv_nonneg p1.1 (by decide), Int.ediv_le_self _ p1.1⟩
  have s2 : 0 ≤ spaceHi l d ∧ _ := rup_in p2.1 (by decide)
  have m1 := mn_in s1.1 d1
  have m2 := mn_in s2.1 (show 0 ≤ l.full.hi by omega)
  have p3 := mul_in (a := l.part.lo) (A := 1000000) (B := 1000000) ⟨e1, by omega⟩ ⟨m1.1, by omega⟩
  have p4 := mul_in (a := l.part.hi) (A := 1000000) (B := 1000000) ⟨by omega, by omega⟩ ⟨m2.1, by omega⟩
  have w1 : IntKind.i64.wrap (d.lo * d.lo) = d.lo * d.lo := w64 (by omega)
  have w2 : IntKind.i64.wrap (d.lo * d.lo * d.lo) = cube d.lo := w64 (n := cube d.lo) (by omega)
  have w3 : IntKind.i64.wrap (d.hi * d.hi) = d.hi * d.hi := w64 (by omega)
  have w4 : IntKind.i64.wrap (d.hi * d.hi * d.hi) = cube d.hi := w64 (n := cube d.hi) (by omega)
  have w5 : IntKind.i64.wrap (l.perv.lo * root (cube d.lo)) = l.perv.lo * root (cube d.lo) := w64 (by omega)
  have w8 : IntKind.i64.wrap (l.perv.hi * rootU (cube d.hi)) = l.perv.hi * rootU (cube d.hi) := w64 (by omega)
  have n1 : (if l.full.lo < spaceLo l d then l.full.lo else spaceLo l d) = mn (spaceLo l d) l.full.lo := rfl
  have n2 : (if l.full.hi < spaceHi l d then l.full.hi else spaceHi l d) = mn (spaceHi l d) l.full.hi := rfl
  have w9 : IntKind.i64.wrap (l.part.lo * mn (spaceLo l d) l.full.lo) = l.part.lo * mn (spaceLo l d) l.full.lo := w64 (by omega)
  have w12 : IntKind.i64.wrap (l.part.hi * mn (spaceHi l d) l.full.hi) = l.part.hi * mn (spaceHi l d) l.full.hi := w64 (by omega)
  have kr := rroot_run _ c3 (by omega)
  have ka := rabove_run _ c7 (by omega)
  have k1 : Ans Try.prog n_ref02_down [.int .i64 (l.perv.lo * root (cube d.lo)), .int .i64 1000000] [] (.int .i64 (spaceLo l d)) [] := down_run (by omega) (by omega)
  have k2 : Ans Try.prog n_ref02_up [.int .i64 (l.perv.hi * rootU (cube d.hi)), .int .i64 1000000] [] (.int .i64 (spaceHi l d)) [] := up_run (by omega) (by omega)
  have k3 : Ans Try.prog n_ref02_down [.int .i64 (l.part.lo * mn (spaceLo l d) l.full.lo), .int .i64 1000000] [] (.int .i64 (curLo l d)) [] := down_run (by omega) (by omega)
  have k4 : Ans Try.prog n_ref02_up [.int .i64 (l.part.hi * mn (spaceHi l d) l.full.hi), .int .i64 1000000] [] (.int .i64 (curHi l d)) [] := up_run (by omega) (by omega)
  simp only [Lw.v, Lw.cs, Rg.v] at hd
  refine spec_run e_ref02_current fun G => ?_
  simp only [go_sem, Lw.v, Lw.cs]
  refine cP hd ?_
  simp only [go_sem, w1, w2]
  refine dP kr ?_
  simp only [go_sem, w5]
  refine cP k1 ?_
  simp only [go_sem, w3, w4]
  refine dP ka ?_
  simp only [go_sem, w8]
  refine cP k2 ?_
  simp only [go_sem, n1, n2, w9]
  refine dP k3 ?_
  simp only [go_sem, w12]
  refine cP k4 ?_
  simp only [go_sem, Rg.v]
end Go.Proofs

namespace Go.Proofs
open Go Go.Sx Go.Fam

def lsC (l : List Int) : AVal := if l = [] then .nilsl else vw l
def tbC (t : List (List Int)) : AVal := if t = [] then .nilsl else tw t
abbrev ivL (l : List Int) : List AVal := l.map (.int .i64)

theorem all3_ints {d : Nat} {H : Heap} : ∀ {ι : List Nat} {vs : List AVal} {l : List Int}, All3 (Dat d H) ι vs (l.map (.int .i64)) → vs = l.map (.int .i64) ∧ ι = []
  | ι, [], [], h => ⟨rfl, h⟩
  | ι, v :: vs, x :: l, h => by
    obtain ⟨κ, κ', rfl, h1, h2⟩ := h
    obtain ⟨rfl, rfl⟩ := all3_ints h2
    cases d with
    | zero => exact h1.elim
    | succ d =>
      obtain ⟨rfl, rfl, _⟩ := h1
      exact ⟨rfl, rfl⟩
  | _, [], _ :: _, h => h.elim
  | _, _ :: _, [], h => h.elim
theorem vw_get {d : Nat} {J : Heap} {κ : List Nat} {v : AVal} {l : List Int} (h : Dat (d + 1) J κ v (vw l)) : l ≠ [] ∧ ∃ r, v = .sl r 0 l.length ∧ κ = [r] ∧ J[r]? = some (some (.cells true 1 (ivL l))) := by
  obtain ⟨h0, r, vs, κ', rfl, rfl, h2, h3⟩ := h
  obtain ⟨rfl, rfl⟩ := all3_ints h3
  have hl : l ≠ [] := by rintro rfl; exact h0 rfl
  refine ⟨hl, r, by simp, rfl, ?_⟩
  cases l with
  | nil => exact absurd rfl hl
  | cons x l => exact h2
theorem vw_put {d : Nat} {J : Heap} {r n : Nat} {l : List Int} (h0 : l ≠ []) (hn : n = l.length) (h : J[r]? = some (some (.cells true 1 (ivL l)))) : Dat (d + 2) J [r] (.sl r 0 n) (vw l) := by
  have : l.map (AVal.int .i64) ≠ [] := by simpa using h0
  refine Dat.list (κ := []) this (by simpa using hn) ?_ h (Dat.ints _ _)
  cases l with
  | nil => exact absurd rfl h0
  | cons x l => rfl
theorem ls_get {d : Nat} {J : Heap} {κ : List Nat} {v : AVal} {l : List Int} (h : Dat (d + 1) J κ v (lsC l)) (h0 : l ≠ []) : ∃ r, v = .sl r 0 l.length ∧ κ = [r] ∧ J[r]? = some (some (.cells true 1 (ivL l))) := by
  unfold lsC at h; rw [if_neg h0] at h; exact (vw_get h).2
theorem ls_put {d : Nat} {J : Heap} {r n : Nat} {l : List Int} (h0 : l ≠ []) (hn : n = l.length) (h : J[r]? = some (some (.cells true 1 (ivL l)))) : Dat (d + 2) J [r] (.sl r 0 n) (lsC l) := by
  unfold lsC; rw [if_neg h0]; exact vw_put h0 hn h
theorem nil_get {d : Nat} {J : Heap} {κ : List Nat} {v : AVal} (h : Dat (d + 1) J κ v .nilsl) : v = .nilsl ∧ κ = [] := ⟨h.1, h.2.1⟩
theorem tb_get {d : Nat} {J : Heap} {κ : List Nat} {v : AVal} {t : List (List Int)} (h : Dat (d + 1) J κ v (tbC t)) (h0 : t ≠ []) : ∃ r vs κ', v = .sl r 0 t.length ∧ κ = κ' ++ [r] ∧ J[r]? = some (some (.cells true 1 vs)) ∧ All3 (Dat d J) κ' vs (t.map vw) := by
  unfold tbC at h; rw [if_neg h0] at h
  obtain ⟨_, r, vs, κ', rfl, rfl, h2, h3⟩ := h
  refine ⟨r, vs, κ', by simp, rfl, ?_, h3⟩
  cases t with
  | nil => exact absurd rfl h0
  | cons x l => exact h2
theorem tb_put {d : Nat} {J : Heap} {r n : Nat} {κ : List Nat} {vs : List AVal} {t : List (List Int)} (h0 : t ≠ []) (hn : n = t.length) (h : J[r]? = some (some (.cells true 1 vs))) (h3 : All3 (Dat d J) κ vs (t.map vw)) : Dat (d + 1) J (κ ++ [r]) (.sl r 0 n) (tbC t) := by
  unfold tbC; rw [if_neg h0]
  refine Dat.list (by simpa using h0) (by simpa using hn) ?_ h h3
  cases t with
  | nil => exact absurd rfl h0
  | cons x l => rfl

structure FS (F : Nat → Prop) (J : Heap) (g p : List Int) (L U : List (List Int)) (lo hi : List Int) (v0 v1 v2 v3 v4 v5 : AVal) (κ0 κ1 κ2 κ3 κ4 κ5 : List Nat) : Prop where
  len : ∀ a, F a → a < J.length
  d0 : Dat 5 J κ0 v0 (vw g)
  d1 : Dat 5 J κ1 v1 (vw p)
  d2 : Dat 5 J κ2 v2 (tbC L)
  d3 : Dat 5 J κ3 v3 (tbC U)
  d4 : Dat 5 J κ4 v4 (lsC lo)
  d5 : Dat 5 J κ5 v5 (lsC hi)
  nd : ∀ a, κ0.count a + κ1.count a + κ2.count a + κ3.count a + κ4.count a + κ5.count a ≤ 1
  ge : ∀ a, F a → κ0.count a + κ1.count a + κ2.count a + κ3.count a + κ4.count a + κ5.count a = 0

section
variable {F : Nat → Prop} {J J' : Heap} {g p : List Int} {L U : List (List Int)} {lo hi : List Int} {v0 v1 v2 v3 v4 v5 : AVal} {κ0 κ1 κ2 κ3 κ4 κ5 : List Nat}
theorem cnt_mem {κ : List Nat} {r : Nat} : r ∈ κ ↔ 0 < κ.count r := List.count_pos_iff.symm
theorem FS.up (h : FS F J g p L U lo hi v0 v1 v2 v3 v4 v5 κ0 κ1 κ2 κ3 κ4 κ5) : (∀ r ∈ κ0, ¬ F r) ∧ (∀ r ∈ κ1, ¬ F r) ∧ (∀ r ∈ κ2, ¬ F r) ∧ (∀ r ∈ κ3, ¬ F r) ∧ (∀ r ∈ κ4, ¬ F r) ∧ ∀ r ∈ κ5, ¬ F r := by
  have := h.ge
  refine ⟨?_, ?_, ?_, ?_, ?_, ?_⟩ <;>
  · intro r hr
    rw [cnt_mem] at hr
    intro hn
    have := h.ge r hn; omega
theorem FS.lt0 (h : FS F J g p L U lo hi v0 v1 v2 v3 v4 v5 κ0 κ1 κ2 κ3 κ4 κ5) {r : Nat} (hr : J.length ≤ r) : κ0.count r + κ1.count r + κ2.count r + κ3.count r + κ4.count r + κ5.count r = 0 := by
  have z : ∀ {κ : List Nat} {v c : AVal}, Dat 5 J κ v c → κ.count r = 0 := fun hd => List.count_eq_zero.2 fun hm => by have := hd.lt r hm; omega
  have := z h.d0; have := z h.d1; have := z h.d2; have := z h.d3; have := z h.d4; have := z h.d5; omega

theorem FS.first (h : FS F J g p L U [] [] v0 v1 v2 v3 v4 v5 κ0 κ1 κ2 κ3 κ4 κ5) : v4 = .nilsl ∧ v5 = .nilsl ∧ ∀ (J' : Heap) (r s : Nat) (x y : Int), r ≠ s → J.length ≤ r → J.length ≤ s → (∀ q, ¬ F q → q < J.length → J'[q]? = J[q]?) →
    J'[r]? = some (some (.cells true 1 [.int .i64 x])) → J'[s]? = some (some (.cells true 1 [.int .i64 y])) → FS F J' g p L U [x] [y] v0 v1 v2 v3 (.sl r 0 1) (.sl s 0 1) κ0 κ1 κ2 κ3 [r] [s] := by
  obtain ⟨e4, k4⟩ := nil_get (J := J) (d := 4) (κ := κ4) (v := v4) (by simpa [lsC] using h.d4)
  obtain ⟨e5, k5⟩ := nil_get (J := J) (d := 4) (κ := κ5) (v := v5) (by simpa [lsC] using h.d5)
  subst e4; subst e5; subst k4; subst k5
  refine ⟨rfl, rfl, fun J' r s x y hrs hr hs hJ h1 h2 => ?_⟩
  obtain ⟨u0, u1, u2, u3, _, _⟩ := h.up
  have l0 := h.len
  have m := fun {κ : List Nat} {v c : AVal} (hd : Dat 5 J κ v c) (hu : ∀ r ∈ κ, ¬ F r) => hd.congr fun q hq => hJ q (hu q hq) (hd.lt q hq)
  have hlt := (List.getElem?_eq_some_iff.1 h1).1
  refine ⟨fun a ha => by have := l0 a ha; omega, m h.d0 u0, m h.d1 u1, m h.d2 u2, m h.d3 u3, ls_put (by simp) rfl h1, ls_put (by simp) rfl h2, fun a => ?_, fun a ha => ?_⟩
  · have h3 := h.nd a
    have h4 := h.lt0 hr
    have h5 := h.lt0 hs
    simp only [List.count_nil, Nat.add_zero, List.count_cons, beq_iff_eq, Nat.zero_add] at *
    by_cases c1 : r = a
    · subst c1
      have c2 : ¬ s = r := fun e => hrs e.symm
      simp only [c2, if_true, if_false]; omega
    · by_cases c2 : s = a
      · subst c2
        simp only [c1, if_true, if_false]; omega
      · simp only [c1, c2, if_false]; omega
  · have h3 := h.ge a ha
    simp only [List.count_nil, Nat.add_zero, List.count_cons, beq_iff_eq, Nat.zero_add] at *
    have c1 : ¬ r = a := by have := l0 a ha; omega
    have c2 : ¬ s = a := by have := l0 a ha; omega
    simp only [c1, c2, if_false]; omega
theorem FS.next (h : FS F J g p L U lo hi v0 v1 v2 v3 v4 v5 κ0 κ1 κ2 κ3 κ4 κ5) (hlo : lo ≠ []) (hhi : hi ≠ []) : ∃ r s, v4 = .sl r 0 lo.length ∧ v5 = .sl s 0 hi.length ∧ r ≠ s ∧ ¬ F r ∧ ¬ F s ∧ J[r]? = some (some (.cells true 1 (ivL lo))) ∧ J[s]? = some (some (.cells true 1 (ivL hi))) ∧
    ∀ (J' : Heap) (x y : Int), (∀ q, ¬ F q → q < J.length → q ≠ r → q ≠ s → J'[q]? = J[q]?) → J'[r]? = some (some (.cells true 1 (ivL lo ++ [.int .i64 x]))) → J'[s]? = some (some (.cells true 1 (ivL hi ++ [.int .i64 y]))) → (∀ a, F a → a < J'.length) →
    FS F J' g p L U (lo ++ [x]) (hi ++ [y]) v0 v1 v2 v3 (.sl r 0 (lo.length + 1)) (.sl s 0 (hi.length + 1)) κ0 κ1 κ2 κ3 κ4 κ5 := by
  obtain ⟨r, e4, k4, g4⟩ := ls_get h.d4 hlo
  obtain ⟨s, e5, k5, g5⟩ := ls_get h.d5 hhi
  obtain ⟨u0, u1, u2, u3, u4, u5⟩ := h.up
  subst e4; subst e5; subst k4; subst k5
  have nr := h.nd r
  have ns := h.nd s
  have hrs : r ≠ s := by
    rintro rfl
    simp [List.count_cons] at nr
  refine ⟨r, s, rfl, rfl, hrs, u4 r (by simp), u5 s (by simp), g4, g5, fun J' x y hJ h1 h2 hn => ?_⟩
  have hsr : ¬ s = r := fun e => hrs e.symm
  simp only [List.count_cons, List.count_nil, beq_iff_eq, hrs, hsr, if_true, if_false] at nr ns
  have m := fun {κ : List Nat} {v c : AVal} (hd : Dat 5 J κ v c) (hu : ∀ r ∈ κ, ¬ F r) (c1 : κ.count r = 0) (c2 : κ.count s = 0) => hd.congr fun q hq => hJ q (hu q hq) (hd.lt q hq) (by rintro rfl; exact List.count_eq_zero.1 c1 hq) (by rintro rfl; exact List.count_eq_zero.1 c2 hq)
  refine ⟨hn, m h.d0 u0 (by omega) (by omega), m h.d1 u1 (by omega) (by omega), m h.d2 u2 (by omega) (by omega), m h.d3 u3 (by omega) (by omega), ls_put (by simp) (by simp) (by simpa using h1), ls_put (by simp) (by simp) (by simpa using h2), h.nd, h.ge⟩

theorem row_one {d : Nat} {J' : Heap} {κ : List Nat} {v : AVal} {lo : List Int} (h : Dat d J' κ v (vw lo)) : All3 (Dat d J') κ [v] ([lo].map vw) := ⟨κ, [], by simp, h, rfl⟩
theorem row_more {d : Nat} {J' : Heap} {κ κ' : List Nat} {v : AVal} {vs : List AVal} {t : List (List Int)} {lo : List Int} (h : All3 (Dat d J') κ vs (t.map vw)) (hv : Dat d J' κ' v (vw lo)) : All3 (Dat d J') (κ ++ κ') (vs ++ [v]) ((t ++ [lo]).map vw) := by
  rw [List.map_append]; exact h.snoc hv

theorem FS.row1 (h : FS F J g p [] [] lo hi v0 v1 v2 v3 v4 v5 κ0 κ1 κ2 κ3 κ4 κ5) (hlo : lo ≠ []) (hhi : hi ≠ []) : v2 = .nilsl ∧ v3 = .nilsl ∧ ∀ (J' : Heap) (r s : Nat), r ≠ s → J.length ≤ r → J.length ≤ s → (∀ q, ¬ F q → q < J.length → J'[q]? = J[q]?) →
    J'[r]? = some (some (.cells true 1 [v4])) → J'[s]? = some (some (.cells true 1 [v5])) → FS F J' g p [lo] [hi] [] [] v0 v1 (.sl r 0 1) (.sl s 0 1) .nilsl .nilsl κ0 κ1 (κ4 ++ [r]) (κ5 ++ [s]) [] [] := by
  obtain ⟨e2, k2⟩ := nil_get (J := J) (d := 4) (κ := κ2) (v := v2) (by simpa [tbC] using h.d2)
  obtain ⟨e3, k3⟩ := nil_get (J := J) (d := 4) (κ := κ3) (v := v3) (by simpa [tbC] using h.d3)
  subst e2; subst e3; subst k2; subst k3
  refine ⟨rfl, rfl, fun J' r s hrs hr hs hJ h1 h2 => ?_⟩
  obtain ⟨u0, u1, _, _, u4, u5⟩ := h.up
  have l0 := h.len
  obtain ⟨r4, e4, k4, g4⟩ := ls_get h.d4 hlo
  obtain ⟨s5, e5, k5, g5⟩ := ls_get h.d5 hhi
  have m := fun {κ : List Nat} {v c : AVal} (hd : Dat 5 J κ v c) (hu : ∀ r ∈ κ, ¬ F r) => hd.congr fun q hq => hJ q (hu q hq) (hd.lt q hq)
  have hlt := (List.getElem?_eq_some_iff.1 h1).1
  have w4 : Dat 4 J' κ4 v4 (vw lo) := by
    subst e4; subst k4
    exact vw_put hlo rfl (by rw [hJ r4 (u4 r4 (by simp)) (List.getElem?_eq_some_iff.1 g4).1]; exact g4)
  have w5 : Dat 4 J' κ5 v5 (vw hi) := by
    subst e5; subst k5
    exact vw_put hhi rfl (by rw [hJ s5 (u5 s5 (by simp)) (List.getElem?_eq_some_iff.1 g5).1]; exact g5)
  refine ⟨fun a ha => by have := l0 a ha; omega, m h.d0 u0, m h.d1 u1, tb_put (by simp) rfl h1 (row_one w4), tb_put (by simp) rfl h2 (row_one w5), ⟨rfl, rfl, rfl⟩, ⟨rfl, rfl, rfl⟩, fun a => ?_, fun a ha => ?_⟩
  · have h3 := h.nd a
    have h4 := h.lt0 hr
    have h5 := h.lt0 hs
    simp only [List.count_nil, Nat.add_zero, List.count_cons, List.count_append, beq_iff_eq, Nat.zero_add] at *
    by_cases c1 : r = a
    · subst c1
      have c2 : ¬ s = r := fun e => hrs e.symm
      simp only [c2, if_true, if_false]; omega
    · by_cases c2 : s = a
      · subst c2
        simp only [c1, if_true, if_false]; omega
      · simp only [c1, c2, if_false]; omega
  · have h3 := h.ge a ha
    simp only [List.count_nil, Nat.add_zero, List.count_cons, List.count_append, beq_iff_eq, Nat.zero_add] at *
    have c1 : ¬ r = a := by have := l0 a ha; omega
    have c2 : ¬ s = a := by have := l0 a ha; omega
    simp only [c1, c2, if_false]; omega
theorem FS.rows (h : FS F J g p L U lo hi v0 v1 v2 v3 v4 v5 κ0 κ1 κ2 κ3 κ4 κ5) (hL : L ≠ []) (hU : U ≠ []) (hlo : lo ≠ []) (hhi : hi ≠ []) : ∃ r s vs us κ2' κ3', v2 = .sl r 0 L.length ∧ v3 = .sl s 0 U.length ∧ r ≠ s ∧ ¬ F r ∧ ¬ F s ∧ J[r]? = some (some (.cells true 1 vs)) ∧ J[s]? = some (some (.cells true 1 us)) ∧
    vs.length = L.length ∧ us.length = U.length ∧ ∀ (J' : Heap), (∀ q, ¬ F q → q < J.length → q ≠ r → q ≠ s → J'[q]? = J[q]?) → J'[r]? = some (some (.cells true 1 (vs ++ [v4]))) → J'[s]? = some (some (.cells true 1 (us ++ [v5]))) → (∀ a, F a → a < J'.length) →
    FS F J' g p (L ++ [lo]) (U ++ [hi]) [] [] v0 v1 (.sl r 0 (L.length + 1)) (.sl s 0 (U.length + 1)) .nilsl .nilsl κ0 κ1 κ2' κ3' [] [] := by
  obtain ⟨r, vs, κ2', e2, k2, g2, a2⟩ := tb_get h.d2 hL
  obtain ⟨s, us, κ3', e3, k3, g3, a3⟩ := tb_get h.d3 hU
  obtain ⟨r4, e4, k4, g4⟩ := ls_get h.d4 hlo
  obtain ⟨s5, e5, k5, g5⟩ := ls_get h.d5 hhi
  obtain ⟨u0, u1, u2, u3, u4, u5⟩ := h.up
  subst e2; subst k2; subst e3; subst k3
  have nr := h.nd r
  have ns := h.nd s
  have hrs : r ≠ s := by
    rintro rfl
    simp [List.count_cons, List.count_append] at nr
    omega
  have hsr : ¬ s = r := fun e => hrs e.symm
  have l2 := a2.len
  have l3 := a3.len
  simp only [List.length_map] at l2 l3
  simp only [List.count_cons, List.count_append, List.count_nil, beq_iff_eq, hrs, hsr, if_true, if_false] at nr ns
  refine ⟨r, s, vs, us, κ2' ++ κ4 ++ [r], κ3' ++ κ5 ++ [s], rfl, rfl, hrs, u2 r (by simp), u3 s (by simp), g2, g3, l2, l3, fun J' hJ h1 h2 hn => ?_⟩
  have m := fun {d : Nat} {κ : List Nat} {v c : AVal} (hd : Dat d J κ v c) (hu : ∀ r ∈ κ, ¬ F r) (c1 : κ.count r = 0) (c2 : κ.count s = 0) => hd.congr fun q hq => hJ q (hu q hq) (hd.lt q hq) (by rintro rfl; exact List.count_eq_zero.1 c1 hq) (by rintro rfl; exact List.count_eq_zero.1 c2 hq)
  have ma := fun {κ : List Nat} {xs es : List AVal} (hd : All3 (Dat 4 J) κ xs es) (hu : ∀ r ∈ κ, ¬ F r) (c1 : κ.count r = 0) (c2 : κ.count s = 0) => hd.mono (R' := Dat 4 J') fun κ' v e hs _ he => he.congr fun q hq => hJ q (hu q (hs q hq)) (he.lt q hq) (by rintro rfl; exact List.count_eq_zero.1 c1 (hs _ hq)) (by rintro rfl; exact List.count_eq_zero.1 c2 (hs _ hq))
  have w4 : Dat 4 J' κ4 v4 (vw lo) := by
    have hc : r4 ≠ r ∧ r4 ≠ s := by
      subst k4
      refine ⟨?_, ?_⟩
      · rintro rfl; simp [List.count_cons] at nr; try omega
      · rintro rfl; simp [List.count_cons] at ns; try omega
    subst e4; subst k4
    exact vw_put hlo rfl (by rw [hJ r4 (u4 r4 (by simp)) (List.getElem?_eq_some_iff.1 g4).1 hc.1 hc.2]; exact g4)
  have w5 : Dat 4 J' κ5 v5 (vw hi) := by
    have hc : s5 ≠ r ∧ s5 ≠ s := by
      subst k5
      refine ⟨?_, ?_⟩
      · rintro rfl; simp [List.count_cons] at nr; try omega
      · rintro rfl; simp [List.count_cons] at ns; try omega
    subst e5; subst k5
    exact vw_put hhi rfl (by rw [hJ s5 (u5 s5 (by simp)) (List.getElem?_eq_some_iff.1 g5).1 hc.1 hc.2]; exact g5)
  have q2 := ma a2 (fun r hr => u2 r (by simp [hr])) (by omega) (by omega)
  have q3 := ma a3 (fun r hr => u3 r (by simp [hr])) (by omega) (by omega)
  refine ⟨hn, m h.d0 u0 (by omega) (by omega), m h.d1 u1 (by omega) (by omega), tb_put (by simp) (by simp) h1 (row_more q2 w4), tb_put (by simp) (by simp) h2 (row_more q3 w5), ⟨rfl, rfl, rfl⟩, ⟨rfl, rfl, rfl⟩, fun a => ?_, fun a ha => ?_⟩
  · have h3 := h.nd a
    simp only [List.count_append, List.count_nil, Nat.add_zero] at *
    omega
  · have h3 := h.ge a ha
    simp only [List.count_append, List.count_nil, Nat.add_zero] at *
    omega
theorem FS.all (h : FS F J g p L U [] [] v0 v1 v2 v3 v4 v5 κ0 κ1 κ2 κ3 κ4 κ5) (hL : L ≠ []) (hU : U ≠ []) : ∃ ι, Dat 6 J ι (.agg [v0, v1, v2, v3]) (Fv ⟨g, p, L, U⟩) ∧ ι.Nodup ∧ ∀ r ∈ ι, ¬ F r := by
  have d2 : Dat 5 J κ2 v2 (tw L) := by have := h.d2; unfold tbC at this; rwa [if_neg hL] at this
  have d3 : Dat 5 J κ3 v3 (tw U) := by have := h.d3; unfold tbC at this; rwa [if_neg hU] at this
  refine ⟨κ0 ++ (κ1 ++ (κ2 ++ (κ3 ++ []))), ⟨_, rfl, κ0, _, rfl, h.d0, κ1, _, rfl, h.d1, κ2, _, rfl, d2, κ3, [], rfl, d3, rfl⟩, List.nodup_iff_count.2 fun a => ?_, fun r hr => ?_⟩
  · have := h.nd a
    simp only [List.count_append, List.count_nil]
    omega
  · obtain ⟨u0, u1, u2, u3, _, _⟩ := h.up
    simp only [List.append_nil, List.mem_append] at hr
    rcases hr with hr | hr | hr | hr
    · exact u0 r hr
    · exact u1 r hr
    · exact u2 r hr
    · exact u3 r hr
end
end Go.Proofs

