/- A part of the proof. -/
import Derived.Test.YtoipalbjmbkdeaaPC
set_option linter.unusedSimpArgs false
set_option linter.unusedVariables false
namespace Go.Proofs
open Go Go.Sx Go.Fam
attribute [local irreducible] Run

theorem rright_run (g p : Int) : Ans Try.prog n_ref02_right [.int .i64 g, .int .i64 p] [] (.bool (decide ((-1000000 ≤ g ∧ g ≤ 1000000) ∧ 0 ≤ p ∧ p ≤ 1000000))) [] := by
  refine spec_run e_ref02_right fun G => ?_
  by_cases h1 : -1000000 ≤ g
  · by_cases h2 : g ≤ 1000000
    · by_cases h3 : 0 ≤ p
      · simp [go_sem, h1, h2, h3]
      · simp [go_sem, h1, h2, h3]
    · simp [go_sem, h1, h2]
  · simp [go_sem, h1]

theorem down_run {n b : Int} (hn : -4000000000000000000 ≤ n ∧ n ≤ 4000000000000000000) (hb : 1 ≤ b ∧ b ≤ 4000000000000000000) : Ans Try.prog n_ref02_down [.int .i64 n, .int .i64 b] [] (.int .i64 (n / b)) [] := by
  have h1 := Int.emod_add_mul_ediv n b
  have h2 := Int.emod_nonneg n (show b ≠ 0 by omega)
  have h3 := Int.emod_lt_of_pos n (show 0 < b by omega)
  have t1 := Int.tmod_add_mul_tdiv n b
  have hb0 : ¬ b = 0 := by omega
  refine spec_run e_ref02_down fun G => ?_
  by_cases hn0 : 0 ≤ n
  · have e1 : n.tdiv b = n / b := Int.tdiv_eq_ediv_of_nonneg hn0
    have e2 : n.tmod b = n % b := Int.tmod_eq_emod_of_nonneg hn0
    have q1 : 0 ≤ n / b := Int.ediv_nonneg hn0 (by omega)
    have q2 : n / b ≤ n := Int.ediv_le_self _ hn0
    have w1 : IntKind.i64.wrap (n / b) = n / b := w64 (by omega)
    have w2 : IntKind.i64.wrap (n % b) = n % b := w64 (by omega)
    have n1 : ¬ n % b < 0 := by omega
    simp only [go_sem, hb0, e1, e2, w1, w2, n1]
  · have e2 : n.tmod b = -((-n) % b) := by
      have := Int.neg_tmod (a := -n) (b := b)
      rw [Int.neg_neg] at this
      rw [this, Int.tmod_eq_emod_of_nonneg (by omega)]
    have e1 : n.tdiv b = -((-n) / b) := by
      have := Int.neg_tdiv (a := -n) (b := b)
      rw [Int.neg_neg] at this
      rw [this, Int.tdiv_eq_ediv_of_nonneg (by omega)]
    have m2 := Int.emod_nonneg (-n) (show b ≠ 0 by omega)
    have m3 := Int.emod_lt_of_pos (-n) (show 0 < b by omega)
    have q1 : 0 ≤ (-n) / b := Int.ediv_nonneg (by omega) (by omega)
    have q2 : (-n) / b ≤ -n := Int.ediv_le_self _ (by omega)
    have m1 := Int.emod_add_mul_ediv (-n) b
    have w1 : IntKind.i64.wrap (-((-n) / b)) = -((-n) / b) := w64 (by omega)
    have w2 : IntKind.i64.wrap (-((-n) % b)) = -((-n) % b) := w64 (by omega)
    have w3 : IntKind.i64.wrap (-((-n) / b) - 1) = -((-n) / b) - 1 := w64 (by omega)
    by_cases c : (-n) % b = 0
    · have n1 : ¬ -((-n) % b) < 0 := by omega
      have hq : n / b = -((-n) / b) := by
        have : b * (n / b) + n % b = b * (-((-n) / b)) := by rw [Int.mul_neg]; omega
        have h4 : n % b = 0 := by
          have : b ∣ -n := Int.dvd_of_emod_eq_zero c
          exact Int.emod_eq_zero_of_dvd ((Int.dvd_neg).1 this)
        rw [h4, Int.add_zero] at this
        exact Int.eq_of_mul_eq_mul_left (by omega) this
      simp only [go_sem, hb0, e1, e2, w1, w2, n1, hq]
    · have n1 : -((-n) % b) < 0 := by omega
      have hq : n / b = -((-n) / b) - 1 := by
        have e : n = (b - (-n) % b) + b * (-((-n) / b) - 1) := by rw [Int.mul_sub, Int.mul_neg]; omega
        rw [e, Int.add_mul_ediv_left _ _ (by omega), Int.ediv_eq_zero_of_lt (by omega) (by omega), Int.zero_add, ← e]
      simp only [go_sem, hb0, e1, e2, w1, w2, w3, n1, hq]
theorem up_run {n b : Int} (hn : -4000000000000000000 ≤ n ∧ n ≤ 4000000000000000000) (hb : 1 ≤ b ∧ b ≤ 4000000000000000000) : Ans Try.prog n_ref02_up [.int .i64 n, .int .i64 b] [] (.int .i64 (cup n b)) [] := by
  have hd := down_run (n := -n) (b := b) (by omega) hb
  have w1 : IntKind.i64.wrap (0 - n) = -n := by rw [w64 (by omega)]; omega
  have b1 : -4000000000000000000 ≤ (-n) / b ∧ (-n) / b ≤ 4000000000000000000 := by
    constructor
    · exact (Int.le_ediv_iff_mul_le (by omega)).2 (by have : -4000000000000000000 * b ≤ -4000000000000000000 * 1 := Int.mul_le_mul_of_nonpos_left (by omega) (by omega); omega)
    · exact Int.le_trans (Int.ediv_le_ediv (by omega) (show -n ≤ 4000000000000000000 by omega)) (Int.ediv_le_self _ (by omega))
  have w2 : IntKind.i64.wrap (0 - -n / b) = -(-n / b) := by rw [w64 (by omega)]; omega
  rw [cup_eq _ _ (by omega)]
  refine spec_run e_ref02_up fun G => ?_
  simp only [go_sem, w1]
  refine cP hd ?_
  simp only [go_sem, w2]

end Go.Proofs

namespace Go.Proofs
open Go Go.Sx Go.Fam
attribute [local irreducible] Run

end Go.Proofs

namespace Go.Proofs
open Go Go.Sx Go.Fam
attribute [local irreducible] Run

theorem ascAt_bad {a : Int} {l : List Int} {i : Nat} (h : ¬ (a ≤ at1 l i ∧ at1 l i ≤ 1000000)) : ascAt a l i = 2 := by unfold ascAt; rw [if_neg h]
theorem ascAt_fall {a : Int} {l : List Int} {i : Nat} (h : a ≤ at1 l (i + 1) ∧ at1 l (i + 1) ≤ 1000000) (h2 : at1 l (i + 1) ≤ at1 l i) : ascAt a l (i + 1) = 11 := by unfold ascAt; rw [if_pos h, if_pos ⟨by omega, by simpa using h2⟩]
theorem ascAt_good {a : Int} {l : List Int} {i : Nat} (h : a ≤ at1 l (i + 1) ∧ at1 l (i + 1) ≤ 1000000) (h2 : ¬ at1 l (i + 1) ≤ at1 l i) : ascAt a l (i + 1) = 0 := by unfold ascAt; rw [if_pos h, if_neg (by simpa using h2)]
theorem ascAt_first {a : Int} {l : List Int} (h : a ≤ at1 l 0 ∧ at1 l 0 ≤ 1000000) : ascAt a l 0 = 0 := by unfold ascAt; rw [if_pos h, if_neg (by omega)]
theorem fnz_step {e : Nat → Int} {i n : Nat} (h : i < n) : fnz e i (n - i) = if e i = 0 then fnz e (i + 1) (n - (i + 1)) else e i := by
  rw [show n - i = (n - (i + 1)) + 1 by omega]; rfl

theorem rrightG_run (g : Int) : Ans Try.prog n_ref02_right [.int .i64 g, .int .i64 0] [] (.bool (decide (-1000000 ≤ g ∧ g ≤ 1000000))) [] := by
  have := rright_run g 0
  rwa [show decide ((-1000000 ≤ g ∧ g ≤ 1000000) ∧ (0:Int) ≤ 0 ∧ (0:Int) ≤ 1000000) = decide (-1000000 ≤ g ∧ g ≤ 1000000) from decide_eq_decide.2 (by omega)] at this
theorem rrightP_run (p : Int) : Ans Try.prog n_ref02_right [.int .i64 0, .int .i64 p] [] (.bool (decide (0 ≤ p ∧ p ≤ 1000000))) [] := by
  have := rright_run 0 p
  rwa [show decide (((-1000000:Int) ≤ 0 ∧ (0:Int) ≤ 1000000) ∧ 0 ≤ p ∧ p ≤ 1000000) = decide (0 ≤ p ∧ p ≤ 1000000) from decide_eq_decide.2 (by omega)] at this
set_option maxHeartbeats 2000000 in
set_option maxRecDepth 10000 in
theorem rcheckLines_run (g p : List Int) (hg : g.length ≤ 9223372036854775807) (hp : p.length ≤ 9223372036854775807) : Ans Try.prog n_ref02_checkLines [vw g, vw p] [] (.int .i64 (lineE g p)) [] := by
  obtain ⟨e, he⟩ : ∃ e, lineE g p = e := ⟨_, rfl⟩
  rw [he]
  unfold lineE at he
  refine spec_run e_ref02_checkLines fun G => ?_
  by_cases c1 : g.length = 0 ∨ p.length = 0
  · rw [if_pos c1] at he
    rw [← he]
    by_cases c2 : g.length = 0
    · simp only [go_sem, vw, List.length_map, c2]
    · have c3 : p.length = 0 := by omega
      have n1 : ((g.length : Int) == 0) = false := beq_eq_false_iff_ne.2 (by omega)
      simp only [go_sem, vw, List.length_map, n1, c3]
  · rw [if_neg c1] at he
    have n1 : ((g.length : Int) == 0) = false := beq_eq_false_iff_ne.2 (by omega)
    have n2 : ((p.length : Int) == 0) = false := beq_eq_false_iff_ne.2 (by omega)
    by_cases c2 : 40 < g.length ∨ 40 < p.length
    · rw [if_pos c2] at he
      rw [← he]
      by_cases c3 : 40 < g.length
      · have n3 : (g.length : Int) > 40 := by omega
        simp only [go_sem, vw, List.length_map, n1, n2, n3]
      · have n3 : ¬ (g.length : Int) > 40 := by omega
        have n4 : (p.length : Int) > 40 := by omega
        simp only [go_sem, vw, List.length_map, n1, n2, n3, n4]
    · rw [if_neg c2] at he
      have n3 : ¬ (g.length : Int) > 40 := by omega
      have n4 : ¬ (p.length : Int) > 40 := by omega
      simp only [go_sem, vw, List.length_map, n1, n2, n3, n4]
      refine loop_ind k_ref02_checkLines_r12.eq_1 (fun i : Nat => i ≤ g.length ∧ fnz (ascAt (-1000000) g) i (g.length - i) = ascE (-1000000) g) (fun i => g.length - i)
        (fun i => (tsets 75 [(0, .view (g.map (.int .i64))), (1, .view (p.map (.int .i64))), (4, .int .i64 0), (5, .int .i64 i)], [])) 0 ⟨Nat.zero_le _, rfl⟩ (by simp [go_sem]) rfl ?_
      rintro i ⟨hi, hE⟩ ih
      dsimp only at hi hE ih ⊢
      by_cases h1 : i < g.length
      · have h2 : (i : Int) < g.length := by omega
        have m0 : ¬ (i : Int) < 0 := by omega
        have h3 := idx_next h1 hg
        have hx := get_at h1
        rw [fnz_step h1] at hE
        have kr := rrightG_run (at1 g i)
        simp only [go_sem, h2, m0, List.length_map, hx, Int.toNat_natCast]
        refine cP kr ?_
        by_cases d1 : -1000000 ≤ at1 g i ∧ at1 g i ≤ 1000000
        · have dd : decide ((-1000000 ≤ at1 g i ∧ at1 g i ≤ 1000000) ∧ (0:Int) ≤ 0 ∧ (0:Int) ≤ 1000000) = true := by simp [d1]
          by_cases h0 : 0 < i
          · obtain ⟨j, rfl⟩ : ∃ j, i = j + 1 := ⟨i - 1, by omega⟩
            have hy := get_at (l := g) (i := j) (by omega)
            have e0 : ((j + 1 : Nat) : Int) > 0 := by omega
            have e2 : IntKind.i64.wrap (((j + 1 : Nat) : Int) - 1) = j := by rw [w64 (by omega)]; omega
            have e4 : ¬ (j : Int) < 0 := by omega
            by_cases d2 : at1 g (j + 1) ≤ at1 g j
            · rw [ascAt_fall d1 d2, if_neg (by omega)] at hE
              rw [← hE, if_neg (by omega)] at he
              simp only [go_sem, d1, e0, e2, e4, m0, hx, hy, Int.toNat_natCast, d2]
              exact he
            · rw [ascAt_good d1 d2, if_pos rfl] at hE
              simp only [go_sem, d1, e0, e2, e4, m0, hx, hy, Int.toNat_natCast, d2, h3]
              exact ih (j + 1 + 1) (by omega) ⟨h1, hE⟩ _ (by simp [go_sem])
          · obtain rfl : i = 0 := by omega
            have e0 : ¬ ((0 : Nat) : Int) > 0 := by omega
            rw [ascAt_first d1, if_pos rfl] at hE
            simp only [go_sem, d1, e0, h3]
            exact ih (0 + 1) (by omega) ⟨h1, hE⟩ _ (by simp [go_sem]; rfl)
        · have dd : decide ((-1000000 ≤ at1 g i ∧ at1 g i ≤ 1000000) ∧ (0:Int) ≤ 0 ∧ (0:Int) ≤ 1000000) = false := by simp only [decide_eq_false_iff_not]; exact fun h => d1 h.1
          rw [ascAt_bad d1, if_neg (by omega)] at hE
          rw [← hE, if_neg (by omega)] at he
          simp only [go_sem, d1]
          exact he
      · have h2 : ¬ (i : Int) < g.length := by omega
        obtain rfl : i = g.length := by omega
        rw [Nat.sub_self] at hE
        rw [← hE] at he
        simp only [fnz, if_true] at he
        simp only [go_sem, h2, List.length_map]
        refine loop_ind k_ref02_checkLines_r20.eq_1 (fun i : Nat => i ≤ p.length ∧ fnz (ascAt 0 p) i (p.length - i) = e) (fun i => p.length - i)
          (fun i => (tsets 75 [(0, .view (g.map (.int .i64))), (1, .view (p.map (.int .i64))), (4, .int .i64 0), (6, .int .i64 i)], [])) 0 ⟨Nat.zero_le _, he⟩ (by simp [go_sem]) rfl ?_
        rintro i ⟨hi, hE⟩ ih
        dsimp only at hi hE ih ⊢
        by_cases h1 : i < p.length
        · have h2 : (i : Int) < p.length := by omega
          have m0 : ¬ (i : Int) < 0 := by omega
          have h3 := idx_next h1 hp
          have hx := get_at h1
          rw [fnz_step h1] at hE
          have kr := rrightP_run (at1 p i)
          simp only [go_sem, h2, m0, List.length_map, hx, Int.toNat_natCast]
          refine cP kr ?_
          by_cases d1 : 0 ≤ at1 p i ∧ at1 p i ≤ 1000000
          · have dd : decide (((-1000000:Int) ≤ 0 ∧ (0:Int) ≤ 1000000) ∧ 0 ≤ at1 p i ∧ at1 p i ≤ 1000000) = true := by simp [d1]
            by_cases h0 : 0 < i
            · obtain ⟨j, rfl⟩ : ∃ j, i = j + 1 := ⟨i - 1, by omega⟩
              have hy := get_at (l := p) (i := j) (by omega)
              have e0 : ((j + 1 : Nat) : Int) > 0 := by omega
              have e2 : IntKind.i64.wrap (((j + 1 : Nat) : Int) - 1) = j := by rw [w64 (by omega)]; omega
              have e4 : ¬ (j : Int) < 0 := by omega
              by_cases d2 : at1 p (j + 1) ≤ at1 p j
              · rw [ascAt_fall d1 d2, if_neg (by omega)] at hE
                simp only [go_sem, d1, e0, e2, e4, m0, hx, hy, Int.toNat_natCast, d2]
                exact hE
              · rw [ascAt_good d1 d2, if_pos rfl] at hE
                simp only [go_sem, d1, e0, e2, e4, m0, hx, hy, Int.toNat_natCast, d2, h3]
                exact ih (j + 1 + 1) (by omega) ⟨h1, hE⟩ _ (by simp [go_sem])
            · obtain rfl : i = 0 := by omega
              have e0 : ¬ ((0 : Nat) : Int) > 0 := by omega
              rw [ascAt_first d1, if_pos rfl] at hE
              simp only [go_sem, d1, e0, h3]
              exact ih (0 + 1) (by omega) ⟨h1, hE⟩ _ (by simp [go_sem]; rfl)
          · have dd : decide (((-1000000:Int) ≤ 0 ∧ (0:Int) ≤ 1000000) ∧ 0 ≤ at1 p i ∧ at1 p i ≤ 1000000) = false := by simp only [decide_eq_false_iff_not]; exact fun h => d1 h.2
            rw [ascAt_bad d1, if_neg (by omega)] at hE
            simp only [go_sem, d1]
            exact hE
        · have h2 : ¬ (i : Int) < p.length := by omega
          obtain rfl : i = p.length := by omega
          rw [Nat.sub_self] at hE
          simp only [go_sem, h2, List.length_map]
          exact hE
end Go.Proofs

namespace Go.Proofs
open Go Go.Sx Go.Fam
attribute [local irreducible] Run

end Go.Proofs

namespace Go.Proofs
open Go Go.Sx Go.Fam
attribute [local irreducible] Run

end Go.Proofs

namespace Go.Proofs
open Go Go.Sx Go.Fam
attribute [local irreducible] Run

theorem sized_is (l : List Int) : sizedAll 1 (l.map (.int .i64)) = true := by
  unfold sizedAll
  rw [List.all_eq_true]
  intro e he
  obtain ⟨h, _, rfl⟩ := List.mem_map.1 he; rfl
theorem sized_sub {n : Nat} {l l' : List AVal} (h : sizedAll n l = true) (hs : ∀ v ∈ l', v ∈ l) : sizedAll n l' = true := by
  unfold sizedAll at h ⊢
  rw [List.all_eq_true] at h ⊢
  exact fun v hv => h v (hs v hv)
@[go_sem high] theorem sized_i (l : List Int) : sizedAll 1 (List.map (.int .i64) l) = true := sized_is l
@[go_sem high] theorem sized_it (l : List Int) (m : Nat) : sizedAll 1 (List.take m (List.map (.int .i64) l)) = true := sized_sub (sized_is l) fun v hv => List.mem_of_mem_take hv
@[go_sem high] theorem sized_id (l : List Int) (m : Nat) : sizedAll 1 (List.drop m (List.map (.int .i64) l)) = true := sized_sub (sized_is l) fun v hv => List.mem_of_mem_drop hv
@[go_sem high] theorem sized_itd (l : List Int) (m k : Nat) : sizedAll 1 (List.take m (List.drop k (List.map (.int .i64) l))) = true := sized_sub (sized_is l) fun v hv => List.mem_of_mem_drop (List.mem_of_mem_take hv)
theorem Own_run (l : List Int) (hl : l.length ≤ 1000000) : Ans Try.prog n_kit_Own [vw l] [] (.sl 0 0 l.length) [some (.cells true 1 (l.map (.int .i64)))] := by
  have h8 : l.length * 8 ≤ 2 ^ 44 := by omega
  refine spec_run e_kit_Own fun G => ?_
  simp only [go_sem, vw, List.length_map, h8]
  exact ⟨_, rfl⟩

@[go_sem] theorem rowi_bel (g : Bool) (l : List Int) (S : Nat → Prop) : (Row.cells g 1 (l.map (.int .i64))).bel S = True := by rw [row_bel_cells, bels_ints]
@[go_sem] theorem rowi_nv (g : Bool) (l : List Int) : (Row.cells g 1 (l.map (.int .i64))).nv = True := eq_true (row_nv_cells _ _ (by rw [nvs_ints]; trivial))
@[go_sem] theorem rown_bel (g : Bool) (sz : Nat) (S : Nat → Prop) : (Row.cells g sz []).bel S = True := by rw [row_bel_cells]; rfl
@[go_sem] theorem rown_nv (g : Bool) (sz : Nat) : (Row.cells g sz []).nv = True := eq_true (row_nv_cells _ _ trivial)
def lnV (out : List Int) : AVal := if out = [] then .nilsl else .sl 1 0 out.length
def lnH (w : Int) (out : List Int) : Heap := if out = [] then [some (Dr w)] else [some (Dr w), some (.cells false 1 (out.map (.int .i64)))]
def lnT (lo hi : Int) (most : Int) : List (Nat × AVal) := [(0, .ptr 0 0 0 1), (1, .int .i64 lo), (2, .int .i64 hi), (3, .int .i64 most), (8, .nilsl)]
theorem at_less {n : Int} : ∀ {l : List Int} {i : Nat}, i < cntL n l → at1 l i < n
  | [], i, h => by simp [cntL] at h
  | x :: l, i, h => by
    simp only [cntL] at h
    split at h
    · rename_i hx
      cases i with
      | zero => exact hx
      | succ i => have := at_less (n := n) (l := l) (i := i) (by omega); simpa [at1] using this
    · omega
theorem at_cntL {n : Int} : ∀ {l : List Int}, cntL n l < l.length → n ≤ at1 l (cntL n l)
  | [], h => by simp [cntL] at h
  | x :: l, h => by
    simp only [cntL] at h ⊢
    split
    · rename_i hx
      rw [if_pos hx] at h
      have := at_cntL (n := n) (l := l) (by simpa using h)
      simpa [at1] using this
    · rename_i hx; simp only [at1, List.getD_cons_zero]; omega

theorem wk_refl : ∀ ρ : List AVal, Wk ρ ρ
  | [] => trivial
  | _ :: ρ => ⟨.inr rfl, wk_refl ρ⟩
set_option maxRecDepth 20000 in
theorem ln_back {P : Program} {G : Ctx} {rd : Option Nat} {c : ACode} {fs : List Sx.Frame} {Q : Goal} {ρ : List AVal} {H : Heap} {lo hi most w : Int} {out : List Int} {j m : Nat} (hW : Wk ρ (tsets 62 (lnT lo hi most ++ [(9, .sl j 0 out.length), (10, .int .i64 m)])))
    (h0 : H[0]? = some (some (Dr w))) (hj : H[j]? = some (some (.cells true 1 (out.map (.int .i64))))) (hj1 : 1 ≤ j) (hne : out ≠ []) (h : Sx.Loop P G 1 rd c fs ⟨tsets 62 (lnT lo hi most ++ [(9, lnV out), (10, .int .i64 m)]), lnH w out, []⟩ Q) : Sx.Loop P G 1 rd c fs ⟨ρ, H, []⟩ Q := by
  refine loop_wk hW (loop_gc (ρ' := tsets 62 (lnT lo hi most ++ [(9, .sl 1 0 out.length), (10, .int .i64 m)])) (H' := [some (Dr w), some (.cells true 1 (out.map (.int .i64)))]) (fun i => if i = 0 then 0 else j) (fun i hi => by simp [show i = 0 by omega]) (by simp) (fun i k hi hk e => ?_) ?_ ?_ (fun i x hx => ?_)
    (loop_settle 1 (Nat.le_refl _) (fulfs_mem ?_) (fun i x hx => ?_) ?_))
  · simp only [List.length_cons, List.length_nil] at hi hk
    by_cases a : i = 0 <;> by_cases b : k = 0 <;> simp [a, b] at e <;> omega
  · simp [go_sem, lnT, ren]
  · simp [go_sem, lnT]
  · have hi := (List.getElem?_eq_some_iff.1 hx).1
    simp only [List.length_cons, List.length_nil] at hi
    obtain rfl | rfl : i = 0 ∨ i = 1 := by omega
    · simp only [List.getElem?_cons_zero, Option.some.injEq] at hx
      subst hx
      exact ⟨by rw [Row.ren_same (dr_bel _ _)]; exact h0, dr_bel _ _⟩
    · simp only [List.getElem?_cons_succ, List.getElem?_cons_zero, Option.some.injEq] at hx
      subst hx
      exact ⟨by rw [Row.ren_same (by simp only [go_sem])]; exact hj, by simp only [go_sem]⟩
  · simp [go_sem, lnT]
    exact fulf_sl rfl (by simp)
  · have hi := (List.getElem?_eq_some_iff.1 hx).1
    simp only [List.length_cons, List.length_nil] at hi
    obtain rfl | rfl : i = 0 ∨ i = 1 := by omega
    · simp only [List.getElem?_cons_zero, Option.some.injEq] at hx
      subst hx
      exact ⟨_, _, _, rfl, fun e he => by simp at he; subst he; exact fulf_free (by simp only [go_sem])⟩
    · simp only [List.getElem?_cons_succ, List.getElem?_cons_zero, Option.some.injEq] at hx
      subst hx
      exact ⟨_, _, _, rfl, fulfs_ints _ _⟩
  · have e1 : settleFrom 1 [some (Dr w), some (.cells true 1 (out.map (.int .i64)))] = lnH w out := by unfold lnH; rw [if_neg hne]; rfl
    rw [e1]
    unfold lnV at h
    rwa [if_neg hne] at h
theorem own_frz (w : Int) (out : List Int) {c : Nat} (hc : c ≤ out.length) : frz 6 (Heap.onlyR [some (Dr w), some (Row.cells false 1 (List.map (AVal.int IntKind.i64) out))] [1]) (if 0 = (c : Int) then AVal.view [] else AVal.sl 1 0 (c - 0)) = vw (List.take c out) := by
  by_cases h : c = 0
  · subst h; simp [frz, vw]
  · have h1 : ¬ (0 : Int) = (c : Int) := by omega
    rw [if_neg h1, Nat.sub_zero]
    have e : Heap.cellsAt (Heap.onlyR [some (Dr w), some (Row.cells false 1 (List.map (AVal.int IntKind.i64) out))] [1]) 1 = some (false, 1, List.map (AVal.int IntKind.i64) out) := rfl
    simp only [frz, e, Nat.zero_add, List.length_map, true_or, true_and, hc, if_true, List.drop_zero]
    unfold vw
    rw [← List.map_take, List.map_map]
    congr 1
set_option maxHeartbeats 4000000 in
set_option maxRecDepth 20000 in
theorem Lines_run (w lo hi most : Int) (hb : -1000000 ≤ lo ∧ lo ≤ hi ∧ hi ≤ 1000000) (hm : 1 ≤ most ∧ most ≤ 40) :
    Ans Try.prog n_kit_Lines [.ptr 0 0 0 1, .int .i64 lo, .int .i64 hi, .int .i64 most] [some (Dr w)] (.sl 1 0 (linesOf w lo hi most).length) [some (Dr (linesEnd w lo hi most)), some (.cells true 1 ((linesOf w lo hi most).map (.int .i64)))] := by
  have hbt := btw_in (w := w) hm.1
  have hpos := (linesOf_ok (w := w) (a := lo) hb.2.1 hm (Int.le_refl _) hb.2.2).1.pos
  unfold linesOf linesEnd at *
  obtain ⟨R, hR⟩ : ∃ R, linesGo lo hi (btw w 1 most).toNat (dstep w) [] = R := ⟨_, rfl⟩
  rw [hR] at hpos ⊢
  have k1 := between_ok w 1 most (by omega) hm.1 (by omega)
  refine Ans.loosen (LH' := [some (Dr R.2), some (.cells false 1 (R.1.map (.int .i64)))]) (Ans.keep (run_fn e_kit_Lines fun G => ?_) (by simp) (by rw [bel_sl]; simp) ⟨by simp only [go_sem], by rw [row_bel_cells, bels_ints]; trivial, trivial⟩) rfl (fun i => by
    match i with
    | 0 => exact .inl rfl
    | 1 => exact .inr ⟨false, 1, _, rfl, rfl⟩
    | i + 2 => exact .inl (by simp))
  simp only [go_sem]
  refine cD k1 ?_
  simp only [go_sem]
  refine loop_ind k_kit_Lines_r12.eq_1 (fun a : Nat × Int × List Int => linesGo lo hi a.1 a.2.1 a.2.2 = R ∧ a.2.2.length + a.1 ≤ 40) (fun a => a.1)
    (fun a => (tsets 62 (lnT lo hi most ++ [(9, lnV a.2.2), (10, .int .i64 a.1)]), lnH a.2.1 a.2.2)) ((btw w 1 most).toNat, dstep w, []) ⟨hR, by simp only [List.length_nil]; omega⟩ (by simp [go_sem, lnT, lnV]; omega) (by simp [lnH, List.set]) ?_
  rintro ⟨m, w, out⟩ ⟨hG, hl⟩ ih
  dsimp only at hG hl ih ⊢
  have ho : out.length ≤ 40 := by omega
  cases m with
  | zero =>
    have e0 : ¬ ((0 : Nat) : Int) > 0 := by omega
    simp only [linesGo] at hG
    subst hG
    have hne : out ≠ [] := by rintro rfl; simp at hpos
    simp only [go_sem, lnT, lnV, lnH, hne, if_false, e0]
    refine ⟨fun i => i, fun i _ => rfl, fun i j _ _ h => h, by simp [ren], fun i x hx => ?_⟩
    match i with
    | 0 =>
      simp only [List.getElem?_cons_zero, Option.some.injEq] at hx
      subst hx
      rw [Row.ren_same (dr_bel _ _)]; rfl
    | 1 =>
      simp only [List.getElem?_cons_succ, List.getElem?_cons_zero, Option.some.injEq] at hx
      subst hx
      rw [Row.ren_same (by simp only [go_sem])]; rfl
    | i + 2 => simp at hx
  | succ m =>
    have e0 : ((m + 1 : Nat) : Int) > 0 := by omega
    have e1 : IntKind.i64.wrap (((m + 1 : Nat) : Int) - 1) = m := by rw [w64 (by omega)]; omega
    have kb := between_ok w lo hi (by omega) hb.2.1 (by omega)
    by_cases hne : out = []
    · subst hne
      simp only [go_sem, lnT, lnV, lnH, if_true, e0]
      refine cD kb ?_
      simp only [go_sem]
      refine loop_body 3000 k_kit_Lines_r8.eq_1 ?_
      simp only [go_sem]
      refine dFN (Own_run [] (by simp)) 6 [] (by simp only [go_sem, frz, vw, List.map_nil]) ?_
      simp only [go_sem, ren, e1]
      refine ⟨by decide, by decide, ln_back (lo := lo) (hi := hi) (most := most) (m := m) (j := 1) (out := insL (btw w lo hi) []) (w := dstep w) (by simp [go_sem, lnT, insL]) rfl (by simp [insL]) (Nat.le_refl _) (by simp [insL]) ?_⟩
      exact ih (m, dstep w, insL (btw w lo hi) []) (Nat.lt_succ_self _) ⟨hG, by simp only [insL, List.length_singleton]; simp at hl; omega⟩ _ (wk_refl _)
    · simp only [go_sem, lnT, lnV, lnH, hne, if_false, e0]
      refine cD kb ?_
      simp only [go_sem]
      generalize hn : btw w lo hi = n at *
      have hcl := cntL_le n out
      refine loop_indH k_kit_Lines_r8.eq_1 (fun i : Nat => i ≤ cntL n out) (fun i => cntL n out - i)
        (fun i => tsets 62 (lnT lo hi most ++ [(9, .sl 1 0 out.length), (10, .int .i64 (m + 1 : Nat)), (11, .int .i64 n), (12, .int .i64 i)])) 0 (Nat.zero_le _) (by simp [go_sem, lnT]) ?_
      intro i hiv ihi
      have h3 : IntKind.i64.wrap ((i : Int) + 1) = ((i + 1 : Nat) : Int) := by rw [w64 (by omega)]; omega
      have n0 : ¬ (i : Int) < 0 := by omega
      by_cases c1 : i < cntL n out
      · have h2 : (i : Int) < out.length := by omega
        have hx := get_at (l := out) (i := i) (by omega)
        have hx2 := at_less c1
        simp only [go_sem, lnT, h2, n0, hx, Int.toNat_natCast, hx2, h3, List.length_map]
        exact ihi (i + 1) (by omega) (by omega) _ (by simp [go_sem, lnT])
      · obtain rfl : i = cntL n out := by omega
        by_cases c2 : cntL n out < out.length
        · have h2 : ((cntL n out : Nat) : Int) < out.length := by omega
          have hx := get_at (l := out) (i := cntL n out) c2
          have hx2 := at_cntL c2
          have hx3 : ¬ at1 out (cntL n out) < n := by omega
          have b1 : (((cntL n out : Nat) : Int) == out.length) = false := beq_eq_false_iff_ne.2 (by omega)
          by_cases c3 : at1 out (cntL n out) = n
          · have b2 : (at1 out (cntL n out) == n) = true := by simp [c3]
            have e : insL n out = out := by rw [insL_eq, if_pos (by rw [hx, c3])]
            simp only [go_sem, lnT, h2, n0, hx, Int.toNat_natCast, hx3, List.length_map, b1, bne, b2, e1]
            have q := ih (m, dstep w, out) (Nat.lt_succ_self _) ⟨by simp only [linesGo, hn, e] at hG; exact hG, by dsimp only; omega⟩
            simp only [lnH, lnV, hne, if_false] at q
            exact q _ (by simp [go_sem, lnT])
          · have b2 : (at1 out (cntL n out) == n) = false := beq_eq_false_iff_ne.2 c3
            have e : insL n out = out.take (cntL n out) ++ n :: out.drop (cntL n out) := by rw [insL_eq, if_neg (by rw [hx]; simpa using c3)]
            simp only [go_sem, lnT, h2, n0, hx, Int.toNat_natCast, hx3, List.length_map, b1, bne, b2, e1]
            have q1 : ¬ ((cntL n out : Nat) : Int) = (out.length : Int) := by omega
            refine ⟨by omega, dFN (Own_run (out.take (cntL n out)) (by simp; omega)) 6 [1] ⟨.inl (own_frz _ _ hcl), trivial⟩ ?_ (hx := by rw [rowi_bel]; trivial) (hxn := by rw [rowi_nv]; trivial)⟩
            have q2 : cntL n out + (out.length - cntL n out) ≤ out.length := by omega
            have qt : List.take (out.length - cntL n out) (List.drop (cntL n out) (List.map (AVal.int IntKind.i64) out)) = (out.drop (cntL n out)).map (.int .i64) := by rw [← List.map_drop, List.take_of_length_le (by simp)]
            have hmin : min (cntL n out) out.length = cntL n out := Nat.min_eq_left hcl
            simp only [go_sem, ren, e1, q1, q2, qt, hmin, List.length_map, List.length_take, List.length_drop]
            refine ⟨by omega, by omega, by omega, ln_back (lo := lo) (hi := hi) (most := most) (m := m) (j := 2) (out := insL n out) (w := dstep w) ?_ rfl (by rw [e]; simp) (by omega) (by rw [e]; simp) ?_⟩
            · have el : (insL n out).length = cntL n out + 1 + (out.length - cntL n out) := by rw [e]; simp; omega
              simp [go_sem, lnT, el]
            · exact ih (m, dstep w, insL n out) (Nat.lt_succ_self _) ⟨by simp only [linesGo, hn] at hG; exact hG, by have := (insL_len n out).2; dsimp only; omega⟩ _ (wk_refl _)
        · have h2 : ¬ ((cntL n out : Nat) : Int) < out.length := by omega
          have b1 : (((cntL n out : Nat) : Int) == out.length) = true := by simp; omega
          have q1 : ((cntL n out : Nat) : Int) = (out.length : Int) := by omega
          have e : insL n out = out.take (cntL n out) ++ n :: out.drop (cntL n out) := by rw [insL_eq, if_neg (by rw [List.getElem?_eq_none (by omega)]; simp)]
          simp only [go_sem, lnT, h2, List.length_map, b1, e1]
          refine ⟨by omega, dFN (Own_run (out.take (cntL n out)) (by simp; omega)) 6 [1] ⟨.inl (own_frz _ _ hcl), trivial⟩ ?_ (hx := by rw [rowi_bel]; trivial) (hxn := by rw [rowi_nv]; trivial)⟩
          have hmin : min (cntL n out) out.length = cntL n out := Nat.min_eq_left hcl
          simp only [go_sem, ren, e1, q1, hmin, List.length_map, List.length_take]
          refine ⟨by omega, by omega, by omega, ln_back (lo := lo) (hi := hi) (most := most) (m := m) (j := 2) (out := insL n out) (w := dstep w) ?_ rfl (by rw [e, List.drop_eq_nil_of_le (by omega)]; simp) (by omega) (by rw [e]; simp) ?_⟩
          · have el : (insL n out).length = cntL n out + 1 + (out.length - cntL n out) := by rw [e]; simp; omega
            simp [go_sem, lnT, el]
            omega
          · exact ih (m, dstep w, insL n out) (Nat.lt_succ_self _) ⟨by simp only [linesGo, hn] at hG; exact hG, by have := (insL_len n out).2; dsimp only; omega⟩ _ (wk_refl _)
end Go.Proofs

namespace Go.Proofs
open Go Go.Sx Go.Fam
attribute [local irreducible] Run

theorem rcheckRange_yes {a b lo hi : Int} (h : lo ≤ a ∧ a ≤ b ∧ b ≤ hi) : Ans Try.prog n_ref02_checkRange [.agg [.int .i64 a, .int .i64 b], .int .i64 lo, .int .i64 hi] [] (.int .i64 0) [] := by
  have h1 : ¬ a > b := by omega
  have h2 : ¬ a < lo := by omega
  have h3 : ¬ b > hi := by omega
  refine spec_run e_ref02_checkRange fun G => ?_
  simp only [go_sem, h1, h2, h3]
set_option maxRecDepth 20000 in
theorem rCheckLaw_ok (l : Lw) (h : LwOK l) : Ans Try.prog n_ref02_CheckLaw [l.v] [] (.int .i64 0) [] := by
  have k1 := rcheckRange_yes h.perv
  have k2 := rcheckRange_yes h.gain
  have k3 := rcheckRange_yes h.shift
  have k4 := rcheckRange_yes h.full
  have k5 := rcheckRange_yes h.part
  have u1 : IntKind.i64.wrap 1 = 1 := rfl
  have u2 : IntKind.i64.wrap 2 = 2 := rfl
  have u3 : IntKind.i64.wrap 3 = 3 := rfl
  have u4 : IntKind.i64.wrap 4 = 4 := rfl
  have u5 : IntKind.i64.wrap 5 = 5 := rfl
  refine spec_run e_ref02_CheckLaw fun G => ?_
  simp only [go_sem, Lw.v, Lw.cs]
  refine loop_body 200 k_ref02_CheckLaw_r10.eq_1 ?_
  simp only [go_sem]
  refine cP k1 ?_
  simp only [go_sem, u1]
  refine loop_body 200 k_ref02_CheckLaw_r10.eq_1 ?_
  simp only [go_sem]
  refine cP k2 ?_
  simp only [go_sem, u2]
  refine loop_body 200 k_ref02_CheckLaw_r10.eq_1 ?_
  simp only [go_sem]
  refine cP k3 ?_
  simp only [go_sem, u3]
  refine loop_body 200 k_ref02_CheckLaw_r10.eq_1 ?_
  simp only [go_sem]
  refine cP k4 ?_
  simp only [go_sem, u4]
  refine loop_body 200 k_ref02_CheckLaw_r10.eq_1 ?_
  simp only [go_sem]
  refine cP k5 ?_
  simp only [go_sem, u5]
  refine loop_body 200 k_ref02_CheckLaw_r10.eq_1 ?_
  simp only [go_sem]

theorem cut_run (n : Int) : Ans Try.prog n_ref02_cut [.int .i64 n] [] (.int .i64 (bnd n)) [] := by
  refine spec_run e_ref02_cut fun G => ?_
  simp only [go_sem]
  unfold bnd
  repeat' split
  all_goals omega

theorem rdrive_run (l : Lw) (h : LwOK l) (g p : Int) (h1 : -1000000 ≤ g ∧ g ≤ 1000000) (h2 : 0 ≤ p ∧ p ≤ 1000000) : Ans Try.prog n_ref02_drive [l.v, .int .i64 g, .int .i64 p] [] (driveOf l g p).v [] := by
  obtain ⟨_, ⟨b1, b2, b3⟩, ⟨c1, c2, c3⟩, _, _⟩ := h
  have q1 : 0 ≤ 1000 * p / l.gain.hi := Int.ediv_nonneg (by omega) (by omega)
  have q2 : 1000 * p / l.gain.hi ≤ 1000 * p := Int.ediv_le_self _ (by omega)
  have q3 : 0 ≤ rup (1000 * p) l.gain.lo := Int.ediv_nonneg (by omega) (by omega)
  have q4 : rup (1000 * p) l.gain.lo ≤ 1000 * p + l.gain.lo - 1 := Int.ediv_le_self _ (by omega)
  have m1 : IntKind.i64.wrap (1000 * p) = 1000 * p := w64 (by omega)
  have m3 : IntKind.i64.wrap (g + l.shift.lo) = g + l.shift.lo := w64 (by omega)
  have m4 : IntKind.i64.wrap (g + l.shift.lo + 1000 * p / l.gain.hi) = g + l.shift.lo + 1000 * p / l.gain.hi := w64 (by omega)
  have m5 : IntKind.i64.wrap (g + l.shift.hi) = g + l.shift.hi := w64 (by omega)
  have m6 : IntKind.i64.wrap (g + l.shift.hi + rup (1000 * p) l.gain.lo) = g + l.shift.hi + rup (1000 * p) l.gain.lo := w64 (by omega)
  have d1 := down_run (n := 1000 * p) (b := l.gain.hi) (by omega) (by omega)
  have d2 : Ans Try.prog n_ref02_up [.int .i64 (1000 * p), .int .i64 l.gain.lo] [] (.int .i64 (rup (1000 * p) l.gain.lo)) [] := up_run (n := 1000 * p) (b := l.gain.lo) (by omega) (by omega)
  refine spec_run e_ref02_drive fun G => ?_
  simp only [go_sem, Lw.v, Lw.cs, m1, m3]
  refine dP d1 ?_
  simp only [go_sem, m4]
  refine dP (cut_run _) ?_
  simp only [go_sem, m5, m1]
  refine dP d2 ?_
  simp only [go_sem, m6]
  refine cP (cut_run _) ?_
  simp only [go_sem, driveOf, Rg.v]

theorem div_iff {n q : Int} (hq : 1 ≤ q) : q ≤ n / q ↔ q * q ≤ n := Int.le_ediv_iff_mul_le (by omega)
theorem root_iff {n q : Int} (hn : 0 ≤ n) (hq : 0 ≤ q) : q * q ≤ n ↔ q ≤ root n := by
  obtain ⟨a, b, c⟩ := root_ok hn
  constructor
  · intro h
    by_cases d : root n + 1 ≤ q
    · have := sq_le (a := root n + 1) (b := q) (by omega) d; omega
    · omega
  · intro h
    have := sq_le hq h; omega
theorem rroot_run (n : Int) (h0 : 0 ≤ n) (h1 : n ≤ 1152921504606846976) : Ans Try.prog n_ref02_root [.int .i64 n] [] (.int .i64 (root n)) [] := by
  have hr := root_le h0 h1
  obtain ⟨r1, _, _⟩ := root_ok h0
  refine spec_run e_ref02_root fun G => ?_
  simp only [go_sem]
  refine loop_ind k_ref02_root_r7.eq_1 (fun a : Int × Int => 0 ≤ a.1 ∧ a.1 ≤ root n ∧ root n ≤ a.2 ∧ a.2 ≤ 3000000000) (fun a => (a.2 - a.1).toNat)
    (fun a => (tsets 23 [(0, .int .i64 n), (2, .int .i64 0), (3, .int .i64 a.1), (4, .int .i64 a.2)], [])) (0, 3000000000) ⟨Int.le_refl _, r1, by dsimp only; omega, Int.le_refl _⟩ (by simp [go_sem]) rfl ?_
  rintro ⟨i, j⟩ ⟨g0, g1, g2, g3⟩ ih
  dsimp only at g0 g1 g2 g3 ih ⊢
  by_cases c : i < j
  · have w1 : IntKind.i64.wrap (i + j) = i + j := w64 (by omega)
    have w2 : IntKind.i64.wrap (i + j + 1) = i + j + 1 := w64 (by omega)
    have e1 : (i + j + 1).tdiv 2 = (i + j + 1) / 2 := Int.tdiv_eq_ediv_of_nonneg (by omega)
    obtain ⟨q, hq⟩ : ∃ q, (i + j + 1) / 2 = q := ⟨_, rfl⟩
    rw [hq] at e1
    have w3 : IntKind.i64.wrap q = q := w64 (by omega)
    have e2 : n.tdiv q = n / q := Int.tdiv_eq_ediv_of_nonneg h0
    have q1 : 0 ≤ n / q := Int.ediv_nonneg h0 (by omega)
    have q2 : n / q ≤ n := Int.ediv_le_self _ h0
    have w4 : IntKind.i64.wrap (n / q) = n / q := w64 (by omega)
    have w5 : IntKind.i64.wrap (q - 1) = q - 1 := w64 (by omega)
    have z : ¬ q = 0 := by omega
    have hi := div_iff (n := n) (q := q) (by omega)
    rw [root_iff h0 (by omega)] at hi
    by_cases d : q ≤ n / q
    · simp only [go_sem, c, w1, w2, e1, w3, z, e2, w4, d]
      exact ih (q, j) (by dsimp only; omega) ⟨by dsimp only; omega, hi.1 d, g2, g3⟩ _ (by simp [go_sem])
    · simp only [go_sem, c, w1, w2, e1, w3, z, e2, w4, d, w5]
      have nq : ¬ q ≤ root n := fun h => d (hi.2 h)
      exact ih (i, q - 1) (by dsimp only; omega) ⟨g0, g1, by dsimp only; omega, by dsimp only; omega⟩ _ (by simp [go_sem])
  · simp only [go_sem, c]
    omega
theorem rabove_run (n : Int) (h0 : 0 ≤ n) (h1 : n ≤ 1152921504606846976) : Ans Try.prog n_ref02_above [.int .i64 n] [] (.int .i64 (rootU n)) [] := by
  have hr := root_le h0 h1
  obtain ⟨r1, r2, _⟩ := root_ok h0
  have hm := mul_in (a := root n) (b := root n) (A := 1073741824) (B := 1073741824) ⟨r1, hr⟩ ⟨r1, hr⟩
  have w1 : IntKind.i64.wrap (root n * root n) = root n * root n := w64 (by omega)
  have w2 : IntKind.i64.wrap (root n + 1) = root n + 1 := w64 (by omega)
  refine spec_run e_ref02_above fun G => ?_
  simp only [go_sem]
  refine cP (rroot_run n h0 h1) ?_
  by_cases c : root n * root n < n
  · simp only [go_sem, w1, c, w2, rootU, if_true]
  · simp only [go_sem, w1, c, rootU, if_false]

set_option maxHeartbeats 1000000 in
theorem rcurrent_run (l : Lw) (h : LwOK l) (g p : Int) (h1 : -1000000 ≤ g ∧ g ≤ 1000000) (h2 : 0 ≤ p ∧ p ≤ 1000000) : Ans Try.prog n_ref02_current [l.v, .int .i64 g, .int .i64 p] [] (curOf l g p).v [] := by
  have hd := rdrive_run l h g p h1 h2
  have hlo := bnd_in (g + l.shift.lo + (1000 * p) / l.gain.hi)
  have hhi := bnd_in (g + l.shift.hi + rup (1000 * p) l.gain.lo)
  rw [show bnd (g + l.shift.lo + (1000 * p) / l.gain.hi) = (driveOf l g p).lo from rfl] at hlo
  rw [show bnd (g + l.shift.hi + rup (1000 * p) l.gain.lo) = (driveOf l g p).hi from rfl] at hhi
  unfold curOf
  generalize driveOf l g p = d at *
  obtain ⟨⟨a1, a2, a3⟩, _, _, ⟨d1, d2, d3⟩, ⟨e1, e2, e3⟩⟩ := h
  obtain ⟨c1, c2, c3, c4⟩ := cube_in hlo.1 hlo.2
  obtain ⟨c5, c6, c7, c8⟩ := cube_in hhi.1 hhi.2
  obtain ⟨r1, _, _⟩ := root_ok c3
  have r2 := root_le c3 (by omega)
  obtain ⟨r3, _, _⟩ := root_ok c7
  have r4 := root_le c7 (by omega)
  have r5 : 0 ≤ rootU (cube d.hi) ∧ rootU (cube d.hi) ≤ 1073741825 := by unfold rootU; split <;> omega
  have p1 := mul_in (a := l.perv.lo) (A := 1000000) ⟨a1, by omega⟩ ⟨r1, r2⟩
  have p2 := mul_in (a := l.perv.hi) (A := 1000000) ⟨by omega, by omega⟩ r5
  have s1 : 0 ≤ spaceLo l d ∧ spaceLo l d ≤ l.perv.lo * root (cube d.lo) := ⟨Int.ediv_nonneg p1.1 (by decide), Int.ediv_le_self _ p1.1⟩
  have s2 : 0 ≤ spaceHi l d ∧ _ := rup_in p2.1 (by decide)
  have m1 := mn_in s1.1 d1
  have m2 := mn_in s2.1 (show 0 ≤ l.full.hi by omega)
  have p3 := mul_in (a := l.part.lo) (A := 1000000) (B := 1000000) ⟨e1, by omega⟩ ⟨m1.1, by omega⟩
  have p4 := mul_in (a := l.part.hi) (A := 1000000) (B := 1000000) ⟨by omega, by omega⟩ ⟨m2.1, by omega⟩
  have w1 : IntKind.i64.wrap (d.lo * d.lo) = d.lo * d.lo := w64 (by omega)
  have w2 : IntKind.i64.wrap (d.lo * d.lo * d.lo) = cube d.lo := w64 (n := cube d.lo) (by omega)
  have w3 : IntKind.i64.wrap (d.hi * d.hi) = d.hi * d.hi := w64 (by omega)
  have w4 : IntKind.i64.wrap (d.hi * d.hi * d.hi) = cube d.hi := w64 (n := cube d.hi) (by omega)
  have w5 : IntKind.i64.wrap (l.perv.lo * root (cube d.lo)) = l.perv.lo * root (cube d.lo) := w64 (by omega)
  have w8 : IntKind.i64.wrap (l.perv.hi * rootU (cube d.hi)) = l.perv.hi * rootU (cube d.hi) := w64 (by omega)
  have n1 : (if l.full.lo < spaceLo l d then l.full.lo else spaceLo l d) = mn (spaceLo l d) l.full.lo := rfl
  have n2 : (if l.full.hi < spaceHi l d then l.full.hi else spaceHi l d) = mn (spaceHi l d) l.full.hi := rfl
  have w9 : IntKind.i64.wrap (l.part.lo * mn (spaceLo l d) l.full.lo) = l.part.lo * mn (spaceLo l d) l.full.lo := w64 (by omega)
  have w12 : IntKind.i64.wrap (l.part.hi * mn (spaceHi l d) l.full.hi) = l.part.hi * mn (spaceHi l d) l.full.hi := w64 (by omega)
  have kr := rroot_run _ c3 (by omega)
  have ka := rabove_run _ c7 (by omega)
  have k1 : Ans Try.prog n_ref02_down [.int .i64 (l.perv.lo * root (cube d.lo)), .int .i64 1000000] [] (.int .i64 (spaceLo l d)) [] := down_run (by omega) (by omega)
  have k2 : Ans Try.prog n_ref02_up [.int .i64 (l.perv.hi * rootU (cube d.hi)), .int .i64 1000000] [] (.int .i64 (spaceHi l d)) [] := up_run (by omega) (by omega)
  have k3 : Ans Try.prog n_ref02_down [.int .i64 (l.part.lo * mn (spaceLo l d) l.full.lo), .int .i64 1000000] [] (.int .i64 (curLo l d)) [] := down_run (by omega) (by omega)
  have k4 : Ans Try.prog n_ref02_up [.int .i64 (l.part.hi * mn (spaceHi l d) l.full.hi), .int .i64 1000000] [] (.int .i64 (curHi l d)) [] := up_run (by omega) (by omega)
  simp only [Lw.v, Lw.cs, Rg.v] at hd
  refine spec_run e_ref02_current fun G => ?_
  simp only [go_sem, Lw.v, Lw.cs]
  refine cP hd ?_
  simp only [go_sem, w1, w2]
  refine dP kr ?_
  simp only [go_sem, w5]
  refine cP k1 ?_
  simp only [go_sem, w3, w4]
  refine dP ka ?_
  simp only [go_sem, w8]
  refine cP k2 ?_
  simp only [go_sem, n1, n2, w9]
  refine dP k3 ?_
  simp only [go_sem, w12]
  refine cP k4 ?_
  simp only [go_sem, Rg.v]
end Go.Proofs

namespace Go.Proofs
open Go Go.Sx

def k_law02_long_r0 : List AOper := [
  ⟨(some (2)), .move (.const (.bool false)), none, []⟩]
def k_law02_long_r1 : List AOper := [
  ⟨(some (3)), .move (.const (.int .i64 0)), none, []⟩]
def k_law02_long_r2 : List AOper := [
  ⟨(some (4)), .move (.tmp 3), none, []⟩, 
  ⟨(some (5)), .move (.tmp 0), none, []⟩, 
  ⟨(some (6)), .len false (.tmp 5), none, []⟩, 
  ⟨(some (7)), .bin .plain .lss (.tmp 4) (.tmp 6), none, []⟩]
def k_law02_long_r3 : List AOper := [
  ⟨(some (10)), .move (.tmp 0), none, []⟩, 
  ⟨(some (11)), .move (.tmp 3), none, []⟩, 
  ⟨(some (12)), .indexAddr 1 (.tmp 10) (.tmp 11), none, []⟩, 
  ⟨(some (13)), .load none (.tmp 12), none, []⟩, 
  ⟨(some (14)), .len false (.tmp 13), none, []⟩, 
  ⟨(some (15)), .bin .plain .gtr (.tmp 14) (.const (.int .i64 50)), none, []⟩]
def k_law02_long_r4 : List AOper := [
  ⟨(some (2)), .move (.const (.bool true)), none, []⟩]
def k_law02_long_r5 : List AOper := [
  ⟨(some (8)), .move (.tmp 3), none, []⟩, 
  ⟨(some (9)), .bin .plain .add (.tmp 8) (.const (.int .i64 1)), none, []⟩, 
  ⟨(some (3)), .move (.tmp 9), none, []⟩]
def k_law02_long_r6 : ACode := (.seq (.seq (.reg k_law02_long_r2 false) (.cond (.tmp 7) .skip (.exit 0))) (.seq (.block 1 (.seq (.reg k_law02_long_r3 false) (.cond (.tmp 15) (.seq (.reg k_law02_long_r4 false) .ret) .skip))) (.reg k_law02_long_r5 false)))
def k_law02_long_r7 : List AOper := [
  ⟨(some (2)), .move (.const (.bool false)), none, []⟩]
def k_law02_long : AFun := { params := 1, ntmps := 16, body := (.seq (.reg k_law02_long_r0 false) (.seq (.seq (.reg k_law02_long_r1 false) (.block 0 (.loop k_law02_long_r6))) (.seq (.reg k_law02_long_r7 false) .ret))), res := [.tmp 2] }
theorem k_law02_long_ok : cfun Try.prog Try.f61 = k_law02_long := by kernel_rfl


abbrev n_law02_long : Nat := 61
theorem e_law02_long : EntryOK Try.prog n_law02_long k_law02_long := ⟨Try.f61, Try.func61, k_law02_long_ok, by kernel_rfl⟩

attribute [go_sem] k_law02_long_r0 k_law02_long_r1 k_law02_long_r2 k_law02_long_r3 k_law02_long_r4 k_law02_long_r5 k_law02_long_r7
attribute [go_sem] k_law02_long
end Go.Proofs

