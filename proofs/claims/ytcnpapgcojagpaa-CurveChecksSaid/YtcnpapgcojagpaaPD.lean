/- A part of the proof. -/
import Derived.Test.YtcnpapgcojagpaaPC
set_option linter.unusedSimpArgs false
set_option linter.unusedVariables false
namespace Go.Proofs
open Go Go.Sx Go.Fam
attribute [local irreducible] Run

theorem rformed_run (t : List (List Int)) (f : Fa) (ht : t.length ≤ 9223372036854775807) : Ans Try.prog n_ref02_formed [Fv f, tw t] [] (.bool (formB f.g.length f.p.length t)) [] := by
  refine spec_run e_ref02_formed fun G => ?_
  by_cases c0 : t.length = f.g.length
  · have n0 : ((t.length : Int) == f.g.length) = true := by simp [c0]
    simp only [go_sem, tw, Fv, Fcs, vw, List.length_map, n0, bne]
    refine loop_ind k_ref02_formed_r8.eq_1 (fun i : Nat => i ≤ t.length ∧ ∀ r ∈ t.take i, r.length = f.p.length) (fun i => t.length - i)
      (fun i => (tsets 27 [(1, tw t), (2, .ptr 0 0 0 1), (4, .bool false), (5, .int .i64 i)], [some (.cells false 4 [Fv f])])) 0 ⟨Nat.zero_le _, by simp⟩ (by simp [go_sem, tw, vw]) (by simp [Fv, Fcs, vw, tw]) ?_
    rintro i ⟨hi, hT⟩ ih
    dsimp only at hi hT ih ⊢
    by_cases h1 : i < t.length
    · have h2 : (i : Int) < t.length := by omega
      have n0 : ¬ (i : Int) < 0 := by omega
      have h3 := idx_next h1 ht
      obtain ⟨r, hr⟩ : ∃ r, t[i]? = some r := ⟨_, List.getElem?_eq_getElem h1⟩
      by_cases c : r.length = f.p.length
      · have n1 : ((r.length : Int) == f.p.length) = true := by simp [c]
        simp only [go_sem, h2, n0, hr, tw, vw, Fv, Fcs, List.length_map, Int.toNat_natCast, n1, bne, h3]
        exact ih (i + 1) (by omega) ⟨h1, fun q hq => by
          rw [List.take_add_one, hr] at hq
          rcases List.mem_append.1 hq with hq | hq
          · exact hT q hq
          · simp at hq; subst hq; exact c⟩ _ (by simp [go_sem, tw, vw])
      · have n1 : ((r.length : Int) == f.p.length) = false := beq_eq_false_iff_ne.2 (by omega)
        have : formB f.g.length f.p.length t = false := by
          rw [Bool.eq_false_iff]; intro hf
          exact c ((form_iff.1 hf).2 r (List.mem_of_getElem? hr))
        simp only [go_sem, h2, n0, hr, tw, vw, Fv, Fcs, List.length_map, Int.toNat_natCast, n1, bne, this]
    · have h2 : ¬ (i : Int) < t.length := by omega
      obtain rfl : i = t.length := by omega
      rw [List.take_length] at hT
      have : formB f.g.length f.p.length t = true := form_iff.2 ⟨c0, hT⟩
      simp only [go_sem, h2, tw, vw, Fv, Fcs, List.length_map, this]
  · have n0 : ((t.length : Int) == f.g.length) = false := beq_eq_false_iff_ne.2 (by omega)
    have : formB f.g.length f.p.length t = false := by
      rw [Bool.eq_false_iff]; intro hf
      exact c0 (form_iff.1 hf).1
    simp only [go_sem, tw, Fv, Fcs, vw, List.length_map, n0, bne, this]

set_option maxHeartbeats 4000000 in
set_option maxRecDepth 20000 in
theorem rfalls_run {m n : Nat} {t : List (List Int)} (hT : Tab m n t) {i k : Nat} (hi : i < m) (hk : k < n) (hm : m ≤ 1000 ∧ n ≤ 1000) :
    Ans Try.prog n_ref02_falls [tw t, .int .i64 i, .int .i64 k] [] (.bool (decide ((0 < k ∧ tg t i k < tg t i (k - 1)) ∨ (0 < i ∧ tg t i k < tg t (i - 1) k)))) [] := by
  obtain ⟨r, hr, hrl⟩ := hT.row i hi
  have a1 := get_at (l := r) (i := k) (by omega)
  rw [← tg_get hr] at a1
  have n1 : ¬ (i : Int) < 0 := by omega
  have n2 : ¬ (k : Int) < 0 := by omega
  obtain ⟨b, hb⟩ : ∃ b, decide ((0 < k ∧ tg t i k < tg t i (k - 1)) ∨ (0 < i ∧ tg t i k < tg t (i - 1) k)) = b := ⟨_, rfl⟩
  rw [hb]
  have before : ∀ (j : Nat), k = j + 1 → r[j]? = some (tg t i j) := fun j hj => by
    rw [tg_get hr]; exact get_at (by omega)
  have up : ∀ (j : Nat), i = j + 1 → ∃ r', t[j]? = some r' ∧ r'[k]? = some (tg t j k) := fun j hj => by
    obtain ⟨r', h1, h2⟩ := hT.row j (by omega)
    exact ⟨r', h1, by rw [tg_get h1]; exact get_at (by omega)⟩
  refine spec_run e_ref02_falls fun G => ?_
  by_cases k0 : 0 < k
  · obtain ⟨j, rfl⟩ : ∃ j, k = j + 1 := ⟨k - 1, by omega⟩
    have u1 := before j rfl
    have e1 : ((j + 1 : Nat) : Int) > 0 := by omega
    have e2 : IntKind.i64.wrap (((j + 1 : Nat) : Int) - 1) = j := by rw [w64 (by omega)]; omega
    have e3 : ¬ (j : Int) < 0 := by omega
    simp only [Nat.add_sub_cancel] at hb
    by_cases c4 : tg t i (j + 1) < tg t i j
    · have : b = true := by rw [← hb, decide_eq_true_iff]; exact .inl ⟨k0, c4⟩
      rw [this]
      simp only [go_sem, tw, vw, e1, e2, e3, hr, n1, n2, Int.toNat_natCast, a1, u1, c4]
    · by_cases i0 : 0 < i
      · obtain ⟨q, rfl⟩ : ∃ q, i = q + 1 := ⟨i - 1, by omega⟩
        obtain ⟨r', v1, v3⟩ := up q rfl
        have g1 : ((q + 1 : Nat) : Int) > 0 := by omega
        have g2 : IntKind.i64.wrap (((q + 1 : Nat) : Int) - 1) = q := by rw [w64 (by omega)]; omega
        have g3 : ¬ (q : Int) < 0 := by omega
        have : b = decide (tg t (q + 1) (j + 1) < tg t q (j + 1)) := by rw [← hb]; refine decide_eq_decide.2 ⟨fun h => ?_, fun h => .inr ⟨i0, by simpa using h⟩⟩; exact h.elim (fun h => absurd h.2 c4) (fun h => by simpa using h.2)
        rw [this]
        simp only [go_sem, tw, vw, e1, e2, e3, hr, n1, n2, Int.toNat_natCast, a1, u1, c4, g1, g2, g3, v1, v3]
      · have g1 : ¬ (i : Int) > 0 := by omega
        have : b = false := by rw [← hb, decide_eq_false_iff_not]; exact fun h => h.elim (fun h => c4 h.2) (fun h => i0 h.1)
        rw [this]
        simp only [go_sem, tw, vw, e1, e2, e3, hr, n1, n2, Int.toNat_natCast, a1, u1, c4, g1]
  · have e1 : ¬ (k : Int) > 0 := by omega
    by_cases i0 : 0 < i
    · obtain ⟨q, rfl⟩ : ∃ q, i = q + 1 := ⟨i - 1, by omega⟩
      obtain ⟨r', v1, v3⟩ := up q rfl
      have g1 : ((q + 1 : Nat) : Int) > 0 := by omega
      have g2 : IntKind.i64.wrap (((q + 1 : Nat) : Int) - 1) = q := by rw [w64 (by omega)]; omega
      have g3 : ¬ (q : Int) < 0 := by omega
      have : b = decide (tg t (q + 1) k < tg t q k) := by rw [← hb]; refine decide_eq_decide.2 ⟨fun h => ?_, fun h => .inr ⟨i0, by simpa using h⟩⟩; exact h.elim (fun h => absurd h.1 k0) (fun h => by simpa using h.2)
      rw [this]
      simp only [go_sem, tw, vw, e1, hr, n1, n2, Int.toNat_natCast, a1, g1, g2, g3, v1, v3]
    · have g1 : ¬ (i : Int) > 0 := by omega
      have : b = false := by rw [← hb, decide_eq_false_iff_not]; exact fun h => h.elim (fun h => k0 h.1) (fun h => i0 h.1)
      rw [this]
      simp only [go_sem, tw, vw, e1, g1]
end Go.Proofs

namespace Go.Proofs
open Go Go.Sx Go.Fam
attribute [local irreducible] Run

set_option maxHeartbeats 4000000 in
set_option maxRecDepth 20000 in
theorem rcheckPlace_run (f : Fa) (hL : Tab f.g.length f.p.length f.lo) (hH : Tab f.g.length f.p.length f.hi) {i k : Nat} (hi : i < f.g.length) (hk : k < f.p.length) (hm : f.g.length ≤ 1000 ∧ f.p.length ≤ 1000) :
    Ans Try.prog n_ref02_checkPlace [Fv f, .int .i64 i, .int .i64 k] [] (.int .i64 (plE f i k)) [] := by
  obtain ⟨r, hr, hrl⟩ := hL.row i hi
  obtain ⟨s, hs, hsl⟩ := hH.row i hi
  have a1 := get_at (l := r) (i := k) (by omega)
  have b1 := get_at (l := s) (i := k) (by omega)
  rw [← tg_get hr] at a1
  rw [← tg_get hs] at b1
  have n1 : ¬ (i : Int) < 0 := by omega
  have n2 : ¬ (k : Int) < 0 := by omega
  have f1 := rfalls_run hL hi hk hm
  have f2 := rfalls_run hH hi hk hm
  obtain ⟨e, he⟩ : ∃ e, plE f i k = e := ⟨_, rfl⟩
  rw [he]
  unfold plE at he
  have hF : ((0 < k ∧ tg f.lo i k < tg f.lo i (k - 1)) ∨ (0 < i ∧ tg f.lo i k < tg f.lo (i - 1) k)) ∨ ((0 < k ∧ tg f.hi i k < tg f.hi i (k - 1)) ∨ (0 < i ∧ tg f.hi i k < tg f.hi (i - 1) k)) ↔ (0 < k ∧ (tg f.lo i k < tg f.lo i (k - 1) ∨ tg f.hi i k < tg f.hi i (k - 1))) ∨ (0 < i ∧ (tg f.lo i k < tg f.lo (i - 1) k ∨ tg f.hi i k < tg f.hi (i - 1) k)) := by omega
  generalize tg f.lo i (k - 1) = a2 at *
  generalize tg f.hi i (k - 1) = b2 at *
  generalize tg f.lo (i - 1) k = a3 at *
  generalize tg f.hi (i - 1) k = b3 at *
  generalize tg f.lo i k = a at *
  generalize tg f.hi i k = b at *
  simp only [tw, vw] at f1 f2
  refine spec_run e_ref02_checkPlace fun G => ?_
  by_cases c1 : (0 ≤ a ∧ a ≤ 1000000) ∧ 0 ≤ b ∧ b ≤ 1000000
  · rw [if_pos c1] at he
    have m1 : ¬ a < 0 := by omega
    have m2 : ¬ a > 1000000 := by omega
    have m3 : ¬ b < 0 := by omega
    have m4 : ¬ b > 1000000 := by omega
    by_cases c3 : b < a
    · rw [if_pos c3] at he
      simp only [go_sem, Fv, Fcs, tw, vw, hr, hs, a1, b1, n1, n2, Int.toNat_natCast, m1, m2, m3, m4, c3]
      exact he
    · rw [if_neg c3] at he
      simp only [go_sem, Fv, Fcs, tw, vw, hr, hs, a1, b1, n1, n2, Int.toNat_natCast, m1, m2, m3, m4, c3]
      refine cP f1 ?_
      by_cases d1 : (0 < k ∧ a < a2) ∨ (0 < i ∧ a < a3)
      · rw [decide_eq_true d1]
        have : e = 11 := by rw [← he]; (repeat' split) <;> omega
        rw [this]
        simp only [go_sem]
      · rw [decide_eq_false d1]
        simp only [go_sem]
        refine cP f2 ?_
        by_cases d2 : (0 < k ∧ b < b2) ∨ (0 < i ∧ b < b3)
        · rw [decide_eq_true d2]
          have : e = 11 := by rw [← he]; (repeat' split) <;> omega
          rw [this]
          simp only [go_sem]
        · rw [decide_eq_false d2]
          have : e = 0 := by rw [← he]; (repeat' split) <;> omega
          rw [this]
          simp only [go_sem]
  · rw [if_neg c1] at he
    rw [← he]
    by_cases m1 : a < 0
    · simp only [go_sem, Fv, Fcs, tw, vw, hr, hs, a1, b1, n1, n2, Int.toNat_natCast, m1]
    · by_cases m2 : a > 1000000
      · simp only [go_sem, Fv, Fcs, tw, vw, hr, hs, a1, b1, n1, n2, Int.toNat_natCast, m1, m2]
      · by_cases m3 : b < 0
        · simp only [go_sem, Fv, Fcs, tw, vw, hr, hs, a1, b1, n1, n2, Int.toNat_natCast, m1, m2, m3]
        · have m4 : b > 1000000 := by omega
          simp only [go_sem, Fv, Fcs, tw, vw, hr, hs, a1, b1, n1, n2, Int.toNat_natCast, m1, m2, m3, m4]

set_option maxHeartbeats 2000000 in
set_option maxRecDepth 10000 in
theorem rCheck_run (f : Fa) (hg : f.g.length ≤ 1000000) (hp : f.p.length ≤ 1000000) (hl : f.lo.length ≤ 1000000) (hh : f.hi.length ≤ 1000000) : Ans Try.prog n_ref02_Check [Fv f] [] (.int .i64 (famE f)) [] := by
  have k1 := rcheckLines_run f.g f.p (by omega) (by omega)
  have k2 := rformed_run f.lo f (by omega)
  have k3 := rformed_run f.hi f (by omega)
  obtain ⟨e, he⟩ : ∃ e, famE f = e := ⟨_, rfl⟩
  rw [he]
  unfold famE at he
  simp only [Fv, Fcs] at k2 k3
  refine spec_run e_ref02_Check fun G => ?_
  simp only [go_sem, Fv, Fcs]
  refine cP k1 ?_
  by_cases c1 : lineE f.g f.p = 0
  · rw [if_pos c1] at he
    obtain ⟨hG, hP⟩ := line_iff.1 c1
    have m1 := hG.most
    have m2 := hP.most
    simp only [go_sem, c1]
    refine cP k2 ?_
    by_cases c2 : formB f.g.length f.p.length f.lo = true
    · simp only [go_sem, c2]
      refine cP k3 ?_
      by_cases c3 : formB f.g.length f.p.length f.hi = true
      · rw [if_pos ⟨c2, c3⟩] at he
        have tL := tab_of c2
        have tH := tab_of c3
        simp only [go_sem, c3]
        refine loop_ind k_ref02_Check_r16.eq_1 (fun i : Nat => i ≤ f.g.length ∧ fnz (rowE f) i (f.g.length - i) = e) (fun i => f.g.length - i)
          (fun i => (tsets 48 [(1, .ptr 0 0 0 1), (2, .int .i64 0), (4, .int .i64 i)], [some (.cells false 4 [Fv f])])) 0 ⟨Nat.zero_le _, he⟩ (by simp [go_sem]) (by simp [Fv, Fcs]) ?_
        rintro i ⟨hi, hE⟩ ih
        dsimp only at hi hE ih ⊢
        by_cases h1 : i < f.g.length
        · have h2 : (i : Int) < f.g.length := by omega
          have h3 := idx_next h1 (by omega)
          rw [rowE_step h1] at hE
          simp only [go_sem, h2, Fv, Fcs, vw, List.length_map]
          refine loop_ind k_ref02_Check_r14.eq_1 (fun k : Nat => k ≤ f.p.length ∧ fnz (plE f i) k (f.p.length - k) = rowE f i) (fun k => f.p.length - k)
            (fun k => (tsets 48 [(1, .ptr 0 0 0 1), (2, .int .i64 0), (4, .int .i64 i), (5, .int .i64 k)], [some (.cells false 4 [Fv f])])) 0 ⟨Nat.zero_le _, rfl⟩ (by simp [go_sem]) (by simp [Fv, Fcs, vw]) ?_
          rintro k ⟨hk, hF⟩ ihk
          dsimp only at hk hF ihk ⊢
          by_cases j1 : k < f.p.length
          · have j2 : (k : Int) < f.p.length := by omega
            have j3 := idx_next j1 (by omega)
            rw [plE_step j1] at hF
            have kp := rcheckPlace_run f tL tH h1 j1 (by omega)
            simp only [Fv, Fcs, vw] at kp
            simp only [go_sem, j2, Fv, Fcs, vw, List.length_map]
            refine cP kp ?_
            by_cases c4 : plE f i k = 0
            · rw [if_pos c4] at hF
              simp only [go_sem, c4, bne, j3]
              exact ihk (k + 1) (by omega) ⟨j1, hF⟩ _ (by simp [go_sem])
            · rw [if_neg c4] at hF
              have n5 : (plE f i k == 0) = false := beq_eq_false_iff_ne.2 c4
              rw [if_neg (by rw [← hF]; exact c4), ← hF] at hE
              simp only [go_sem, n5, bne]
              exact hE
          · have j2 : ¬ (k : Int) < f.p.length := by omega
            obtain rfl : k = f.p.length := by omega
            rw [Nat.sub_self] at hF
            have hF0 : rowE f i = 0 := hF.symm
            rw [if_pos hF0] at hE
            simp only [go_sem, j2, h3, Fv, Fcs, vw, List.length_map]
            exact ih (i + 1) (by omega) ⟨h1, hE⟩ _ (by simp [go_sem])
        · have h2 : ¬ (i : Int) < f.g.length := by omega
          obtain rfl : i = f.g.length := by omega
          rw [Nat.sub_self] at hE
          simp only [go_sem, h2, Fv, Fcs, vw, List.length_map]
          exact hE
      · rw [if_neg (fun h => c3 h.2)] at he
        rw [Bool.not_eq_true] at c3
        simp only [go_sem, c3]
        exact he
    · rw [if_neg (fun h => c2 h.1)] at he
      rw [Bool.not_eq_true] at c2
      simp only [go_sem, c2]
      exact he
  · rw [if_neg c1] at he
    have n5 : (lineE f.g f.p == 0) = false := beq_eq_false_iff_ne.2 c1
    simp only [go_sem, n5, bne]
    exact he

end Go.Proofs

namespace Go.Proofs
open Go Go.Sx Go.Fam
attribute [local irreducible] Run

theorem sized_is (l : List Int) : sizedAll 1 (l.map (.int .i64)) = true := by
  unfold sizedAll
  rw [List.all_eq_true]
  intro e he
  obtain ⟨h, _, rfl⟩ := List.mem_map.1 he; rfl
theorem sized_sub {n : Nat} {l l' : List AVal} (h : sizedAll n l = true) (hs : ∀ v ∈ l', v ∈ l) : sizedAll n l' = true := by
  unfold sizedAll at h ⊢
  rw [List.all_eq_true] at h ⊢
  exact fun v hv => h v (hs v hv)
@[go_sem high] theorem sized_i (l : List Int) : sizedAll 1 (List.map (.int .i64) l) = true := sized_is l
@[go_sem high] theorem sized_it (l : List Int) (m : Nat) : sizedAll 1 (List.take m (List.map (.int .i64) l)) = true := sized_sub (sized_is l) fun v hv => List.mem_of_mem_take hv
@[go_sem high] theorem sized_id (l : List Int) (m : Nat) : sizedAll 1 (List.drop m (List.map (.int .i64) l)) = true := sized_sub (sized_is l) fun v hv => List.mem_of_mem_drop hv
@[go_sem high] theorem sized_itd (l : List Int) (m k : Nat) : sizedAll 1 (List.take m (List.drop k (List.map (.int .i64) l))) = true := sized_sub (sized_is l) fun v hv => List.mem_of_mem_drop (List.mem_of_mem_take hv)
theorem Own_run (l : List Int) (hl : l.length ≤ 1000000) : Ans Try.prog n_kit_Own [vw l] [] (.sl 0 0 l.length) [some (.cells true 1 (l.map (.int .i64)))] := by
  have h8 : l.length * 8 ≤ 2 ^ 44 := by omega
  refine spec_run e_kit_Own fun G => ?_
  simp only [go_sem, vw, List.length_map, h8]
  exact ⟨_, rfl⟩

@[go_sem] theorem rowi_bel (g : Bool) (l : List Int) (S : Nat → Prop) : (Row.cells g 1 (l.map (.int .i64))).bel S = True := by rw [row_bel_cells, bels_ints]
@[go_sem] theorem rowi_nv (g : Bool) (l : List Int) : (Row.cells g 1 (l.map (.int .i64))).nv = True := eq_true (row_nv_cells _ _ (by rw [nvs_ints]; trivial))
@[go_sem] theorem rown_bel (g : Bool) (sz : Nat) (S : Nat → Prop) : (Row.cells g sz []).bel S = True := by rw [row_bel_cells]; rfl
@[go_sem] theorem rown_nv (g : Bool) (sz : Nat) : (Row.cells g sz []).nv = True := eq_true (row_nv_cells _ _ trivial)
def lnV (out : List Int) : AVal := if out = [] then .nilsl else .sl 1 0 out.length
def lnH (w : Int) (out : List Int) : Heap := if out = [] then [some (Dr w)] else [some (Dr w), some (.cells false 1 (out.map (.int .i64)))]
def lnT (lo hi : Int) (most : Int) : List (Nat × AVal) := [(0, .ptr 0 0 0 1), (1, .int .i64 lo), (2, .int .i64 hi), (3, .int .i64 most), (8, .nilsl)]
theorem at_less {n : Int} : ∀ {l : List Int} {i : Nat}, i < cntL n l → at1 l i < n
  | [], i, h => by simp [cntL] at h
  | x :: l, i, h => by
    simp only [cntL] at h
    split at h
    · rename_i hx
      cases i with
      | zero => exact hx
      | succ i => have := at_less (n := n) (l := l) (i := i) (by omega); simpa [at1] using this
    · omega
theorem at_cntL {n : Int} : ∀ {l : List Int}, cntL n l < l.length → n ≤ at1 l (cntL n l)
  | [], h => by simp [cntL] at h
  | x :: l, h => by
    simp only [cntL] at h ⊢
    split
    · rename_i hx
      rw [if_pos hx] at h
      have := at_cntL (n := n) (l := l) (by simpa using h)
      simpa [at1] using this
    · rename_i hx; simp only [at1, List.getD_cons_zero]; omega

theorem wk_refl : ∀ ρ : List AVal, Wk ρ ρ
  | [] => trivial
  | _ :: ρ => ⟨.inr rfl, wk_refl ρ⟩
set_option maxRecDepth 20000 in
theorem ln_back {P : Program} {G : Ctx} {rd : Option Nat} {c : ACode} {fs : List Sx.Frame} {Q : Goal} {ρ : List AVal} {H : Heap} {lo hi most w : Int} {out : List Int} {j m : Nat} (hW : Wk ρ (tsets 62 (lnT lo hi most ++ [(9, .sl j 0 out.length), (10, .int .i64 m)])))
    (h0 : H[0]? = some (some (Dr w))) (hj : H[j]? = some (some (.cells true 1 (out.map (.int .i64))))) (hj1 : 1 ≤ j) (hne : out ≠ []) (h : Sx.Loop P G 1 rd c fs ⟨tsets 62 (lnT lo hi most ++ [(9, lnV out), (10, .int .i64 m)]), lnH w out, []⟩ Q) : Sx.Loop P G 1 rd c fs ⟨ρ, H, []⟩ Q := by
  refine loop_wk hW (loop_gc (ρ' := tsets 62 (lnT lo hi most ++ [(9, .sl 1 0 out.length), (10, .int .i64 m)])) (H' := [some (Dr w), some (.cells true 1 (out.map (.int .i64)))]) (fun i => if i = 0 then 0 else j) (fun i hi => by simp [show i = 0 by omega]) (by simp) (fun i k hi hk e => ?_) ?_ ?_ (fun i x hx => ?_)
    (loop_settle 1 (Nat.le_refl _) (fulfs_mem ?_) (fun i x hx => ?_) ?_))
  · simp only [List.length_cons, List.length_nil] at hi hk
    by_cases a : i = 0 <;> by_cases b : k = 0 <;> simp [a, b] at e <;> omega
  · simp [go_sem, lnT, ren]
  · simp [go_sem, lnT]
  · have hi := (List.getElem?_eq_some_iff.1 hx).1
    simp only [List.length_cons, List.length_nil] at hi
    obtain rfl | rfl : i = 0 ∨ i = 1 := by omega
    · simp only [List.getElem?_cons_zero, Option.some.injEq] at hx
      subst hx
      exact ⟨by rw [Row.ren_same (dr_bel _ _)]; exact h0, dr_bel _ _⟩
    · simp only [List.getElem?_cons_succ, List.getElem?_cons_zero, Option.some.injEq] at hx
      subst hx
      exact ⟨by rw [Row.ren_same (by simp only [go_sem])]; exact hj, by simp only [go_sem]⟩
  · simp [go_sem, lnT]
    exact fulf_sl rfl (by simp)
  · have hi := (List.getElem?_eq_some_iff.1 hx).1
    simp only [List.length_cons, List.length_nil] at hi
    obtain rfl | rfl : i = 0 ∨ i = 1 := by omega
    · simp only [List.getElem?_cons_zero, Option.some.injEq] at hx
      subst hx
      exact ⟨_, _, _, rfl, fun e he => by simp at he; subst he; exact fulf_free (by simp only [go_sem])⟩
    · simp only [List.getElem?_cons_succ, List.getElem?_cons_zero, Option.some.injEq] at hx
      subst hx
      exact ⟨_, _, _, rfl, fulfs_ints _ _⟩
  · have e1 : settleFrom 1 [some (Dr w), some (.cells true 1 (out.map (.int .i64)))] = lnH w out := by unfold lnH; rw [if_neg hne]; rfl
    rw [e1]
    unfold lnV at h
    rwa [if_neg hne] at h
theorem own_frz (w : Int) (out : List Int) {c : Nat} (hc : c ≤ out.length) : frz 6 (Heap.onlyR [some (Dr w), some (Row.cells false 1 (List.map (AVal.int IntKind.i64) out))] [1]) (if 0 = (c : Int) then AVal.view [] else AVal.sl 1 0 (c - 0)) = vw (List.take c out) := by
  by_cases h : c = 0
  · subst h; simp [frz, vw]
  · have h1 : ¬ (0 : Int) = (c : Int) := by omega
    rw [if_neg h1, Nat.sub_zero]
    have e : Heap.cellsAt (Heap.onlyR [some (Dr w), some (Row.cells false 1 (List.map (AVal.int IntKind.i64) out))] [1]) 1 = some (false, 1, List.map (AVal.int IntKind.i64) out) := rfl
    simp only [frz, e, Nat.zero_add, List.length_map, true_or, true_and, hc, if_true, List.drop_zero]
    unfold vw
    rw [← List.map_take, List.map_map]
    congr 1
set_option maxHeartbeats 4000000 in
set_option maxRecDepth 20000 in
theorem Lines_run (w lo hi most : Int) (hb : -1000000 ≤ lo ∧ lo ≤ hi ∧ hi ≤ 1000000) (hm : 1 ≤ most ∧ most ≤ 40) :
    Ans Try.prog n_kit_Lines [.ptr 0 0 0 1, .int .i64 lo, .int .i64 hi, .int .i64 most] [some (Dr w)] (.sl 1 0 (linesOf w lo hi most).length) [some (Dr (linesEnd w lo hi most)), some (.cells true 1 ((linesOf w lo hi most).map (.int .i64)))] := by
  have hbt := btw_in (w := w) hm.1
  have hpos := (linesOf_ok (w := w) (a := lo) hb.2.1 hm (Int.le_refl _) hb.2.2).1.pos
  unfold linesOf linesEnd at *
  obtain ⟨R, hR⟩ : ∃ R, linesGo lo hi (btw w 1 most).toNat (dstep w) [] = R := ⟨_, rfl⟩
  rw [hR] at hpos ⊢
  have k1 := between_ok w 1 most (by omega) hm.1 (by omega)
  refine Ans.loosen (LH' := [some (Dr R.2), some (.cells false 1 (R.1.map (.int .i64)))]) (Ans.keep (run_fn e_kit_Lines fun G => ?_) (by simp) (by rw [bel_sl]; simp) ⟨by simp only [go_sem], by rw [row_bel_cells, bels_ints]; trivial, trivial⟩) rfl (fun i => by
    match i with
    | 0 => exact .inl rfl
    | 1 => exact .inr ⟨false, 1, _, rfl, rfl⟩
    | i + 2 => exact .inl (by simp))
  simp only [go_sem]
  refine cD k1 ?_
  simp only [go_sem]
  refine loop_ind k_kit_Lines_r12.eq_1 (fun a : Nat × Int × List Int => linesGo lo hi a.1 a.2.1 a.2.2 = R ∧ a.2.2.length + a.1 ≤ 40) (fun a => a.1)
    (fun a => (tsets 62 (lnT lo hi most ++ [(9, lnV a.2.2), (10, .int .i64 a.1)]), lnH a.2.1 a.2.2)) ((btw w 1 most).toNat, dstep w, []) ⟨hR, by simp only [List.length_nil]; omega⟩ (by simp [go_sem, lnT, lnV]; omega) (by simp [lnH, List.set]) ?_
  rintro ⟨m, w, out⟩ ⟨hG, hl⟩ ih
  dsimp only at hG hl ih ⊢
  have ho : out.length ≤ 40 := by omega
  cases m with
  | zero =>
    have e0 : ¬ ((0 : Nat) : Int) > 0 := by omega
    simp only [linesGo] at hG
    subst hG
    have hne : out ≠ [] := by rintro rfl; simp at hpos
    simp only [go_sem, lnT, lnV, lnH, hne, if_false, e0]
    refine ⟨fun i => i, fun i _ => rfl, fun i j _ _ h => h, by simp [ren], fun i x hx => ?_⟩
    match i with
    | 0 =>
      simp only [List.getElem?_cons_zero, Option.some.injEq] at hx
      subst hx
      rw [Row.ren_same (dr_bel _ _)]; rfl
    | 1 =>
      simp only [List.getElem?_cons_succ, List.getElem?_cons_zero, Option.some.injEq] at hx
      subst hx
      rw [Row.ren_same (by simp only [go_sem])]; rfl
    | i + 2 => simp at hx
  | succ m =>
    have e0 : ((m + 1 : Nat) : Int) > 0 := by omega
    have e1 : IntKind.i64.wrap (((m + 1 : Nat) : Int) - 1) = m := by rw [w64 (by omega)]; omega
    have kb := between_ok w lo hi (by omega) hb.2.1 (by omega)
    by_cases hne : out = []
    · subst hne
      simp only [go_sem, lnT, lnV, lnH, if_true, e0]
      refine cD kb ?_
      simp only [go_sem]
      refine loop_body 3000 k_kit_Lines_r8.eq_1 ?_
      simp only [go_sem]
      refine dFN (Own_run [] (by simp)) 6 [] (by simp only [go_sem, frz, vw, List.map_nil]) ?_
      simp only [go_sem, ren, e1]
      refine ⟨by decide, by decide, ln_back (lo := lo) (hi := hi) (most := most) (m := m) (j := 1) (out := insL (btw w lo hi) []) (w := dstep w) (by simp [go_sem, lnT, insL]) rfl (by simp [insL]) (Nat.le_refl _) (by simp [insL]) ?_⟩
      exact ih (m, dstep w, insL (btw w lo hi) []) (Nat.lt_succ_self _) ⟨hG, by simp only [insL, List.length_singleton]; simp at hl; omega⟩ _ (wk_refl _)
    · simp only [go_sem, lnT, lnV, lnH, hne, if_false, e0]
      refine cD kb ?_
      simp only [go_sem]
      generalize hn : btw w lo hi = n at *
      have hcl := cntL_le n out
      refine loop_indH k_kit_Lines_r8.eq_1 (fun i : Nat => i ≤ cntL n out) (fun i => cntL n out - i)
        (fun i => tsets 62 (lnT lo hi most ++ [(9, .sl 1 0 out.length), (10, .int .i64 (m + 1 : Nat)), (11, .int .i64 n), (12, .int .i64 i)])) 0 (Nat.zero_le _) (by simp [go_sem, lnT]) ?_
      intro i hiv ihi
      have h3 : IntKind.i64.wrap ((i : Int) + 1) = ((i + 1 : Nat) : Int) := by rw [w64 (by omega)]; omega
      have n0 : ¬ (i : Int) < 0 := by omega
      by_cases c1 : i < cntL n out
      · have h2 : (i : Int) < out.length := by omega
        have hx := get_at (l := out) (i := i) (by omega)
        have hx2 := at_less c1
        simp only [go_sem, lnT, h2, n0, hx, Int.toNat_natCast, hx2, h3, List.length_map]
        exact ihi (i + 1) (by omega) (by omega) _ (by simp [go_sem, lnT])
      · obtain rfl : i = cntL n out := by omega
        by_cases c2 : cntL n out < out.length
        · have h2 : ((cntL n out : Nat) : Int) < out.length := by omega
          have hx := get_at (l := out) (i := cntL n out) c2
          have hx2 := at_cntL c2
          have hx3 : ¬ at1 out (cntL n out) < n := by omega
          have b1 : (((cntL n out : Nat) : Int) == out.length) = false := beq_eq_false_iff_ne.2 (by omega)
          by_cases c3 : at1 out (cntL n out) = n
          · have b2 : (at1 out (cntL n out) == n) = true := by simp [c3]
            have e : insL n out = out := by rw [insL_eq, if_pos (by rw [hx, c3])]
            simp only [go_sem, lnT, h2, n0, hx, Int.toNat_natCast, hx3, List.length_map, b1, bne, b2, e1]
            have q := ih (m, dstep w, out) (Nat.lt_succ_self _) ⟨by simp only [linesGo, hn, e] at hG; exact hG, by dsimp only; omega⟩
            simp only [lnH, lnV, hne, if_false] at q
            exact q _ (by simp [go_sem, lnT])
          · have b2 : (at1 out (cntL n out) == n) = false := beq_eq_false_iff_ne.2 c3
            have e : insL n out = out.take (cntL n out) ++ n :: out.drop (cntL n out) := by rw [insL_eq, if_neg (by rw [hx]; simpa using c3)]
            simp only [go_sem, lnT, h2, n0, hx, Int.toNat_natCast, hx3, List.length_map, b1, bne, b2, e1]
            have q1 : ¬ ((cntL n out : Nat) : Int) = (out.length : Int) := by omega
            refine ⟨by omega, dFN (Own_run (out.take (cntL n out)) (by simp; omega)) 6 [1] ⟨.inl (own_frz _ _ hcl), trivial⟩ ?_ (hx := by rw [rowi_bel]; trivial) (hxn := by rw [rowi_nv]; trivial)⟩
            have q2 : cntL n out + (out.length - cntL n out) ≤ out.length := by omega
            have qt : List.take (out.length - cntL n out) (List.drop (cntL n out) (List.map (AVal.int IntKind.i64) out)) = (out.drop (cntL n out)).map (.int .i64) := by rw [← List.map_drop, List.take_of_length_le (by simp)]
            have hmin : min (cntL n out) out.length = cntL n out := Nat.min_eq_left hcl
            simp only [go_sem, ren, e1, q1, q2, qt, hmin, List.length_map, List.length_take, List.length_drop]
            refine ⟨by omega, by omega, by omega, ln_back (lo := lo) (hi := hi) (most := most) (m := m) (j := 2) (out := insL n out) (w := dstep w) ?_ rfl (by rw [e]; simp) (by omega) (by rw [e]; simp) ?_⟩
            · have el : (insL n out).length = cntL n out + 1 + (out.length - cntL n out) := by rw [e]; simp; omega
              simp [go_sem, lnT, el]
            · exact ih (m, dstep w, insL n out) (Nat.lt_succ_self _) ⟨by simp only [linesGo, hn] at hG; exact hG, by have := (insL_len n out).2; dsimp only; omega⟩ _ (wk_refl _)
        · have h2 : ¬ ((cntL n out : Nat) : Int) < out.length := by omega
          have b1 : (((cntL n out : Nat) : Int) == out.length) = true := by simp; omega
          have q1 : ((cntL n out : Nat) : Int) = (out.length : Int) := by omega
          have e : insL n out = out.take (cntL n out) ++ n :: out.drop (cntL n out) := by rw [insL_eq, if_neg (by rw [List.getElem?_eq_none (by omega)]; simp)]
          simp only [go_sem, lnT, h2, List.length_map, b1, e1]
          refine ⟨by omega, dFN (Own_run (out.take (cntL n out)) (by simp; omega)) 6 [1] ⟨.inl (own_frz _ _ hcl), trivial⟩ ?_ (hx := by rw [rowi_bel]; trivial) (hxn := by rw [rowi_nv]; trivial)⟩
          have hmin : min (cntL n out) out.length = cntL n out := Nat.min_eq_left hcl
          simp only [go_sem, ren, e1, q1, hmin, List.length_map, List.length_take]
          refine ⟨by omega, by omega, by omega, ln_back (lo := lo) (hi := hi) (most := most) (m := m) (j := 2) (out := insL n out) (w := dstep w) ?_ rfl (by rw [e, List.drop_eq_nil_of_le (by omega)]; simp) (by omega) (by rw [e]; simp) ?_⟩
          · have el : (insL n out).length = cntL n out + 1 + (out.length - cntL n out) := by rw [e]; simp; omega
            simp [go_sem, lnT, el]
            omega
          · exact ih (m, dstep w, insL n out) (Nat.lt_succ_self _) ⟨by simp only [linesGo, hn] at hG; exact hG, by have := (insL_len n out).2; dsimp only; omega⟩ _ (wk_refl _)
end Go.Proofs

namespace Go.Proofs
open Go Go.Sx Go.Fam
attribute [local irreducible] Run

theorem rcheckRange_yes {a b lo hi : Int} (h : lo ≤ a ∧ a ≤ b ∧ b ≤ hi) : Ans Try.prog n_ref02_checkRange [.agg [.int .i64 a, .int .i64 b], .int .i64 lo, .int .i64 hi] [] (.int .i64 0) [] := by
  have h1 : ¬ a > b := by omega
  have h2 : ¬ a < lo := by omega
  have h3 : ¬ b > hi := by omega
  refine spec_run e_ref02_checkRange fun G => ?_
  simp only [go_sem, h1, h2, h3]
set_option maxRecDepth 20000 in
theorem rCheckLaw_ok (l : Lw) (h : LwOK l) : Ans Try.prog n_ref02_CheckLaw [l.v] [] (.int .i64 0) [] := by
  have k1 := rcheckRange_yes h.perv
  have k2 := rcheckRange_yes h.gain
  have k3 := rcheckRange_yes h.shift
  have k4 := rcheckRange_yes h.full
  have k5 := rcheckRange_yes h.part
  have u1 : IntKind.i64.wrap 1 = 1 := rfl
  have u2 : IntKind.i64.wrap 2 = 2 := rfl
  have u3 : IntKind.i64.wrap 3 = 3 := rfl
  have u4 : IntKind.i64.wrap 4 = 4 := rfl
  have u5 : IntKind.i64.wrap 5 = 5 := rfl
  refine spec_run e_ref02_CheckLaw fun G => ?_
  simp only [go_sem, Lw.v, Lw.cs]
  refine loop_body 200 k_ref02_CheckLaw_r10.eq_1 ?_
  simp only [go_sem]
  refine cP k1 ?_
  simp only [go_sem, u1]
  refine loop_body 200 k_ref02_CheckLaw_r10.eq_1 ?_
  simp only [go_sem]
  refine cP k2 ?_
  simp only [go_sem, u2]
  refine loop_body 200 k_ref02_CheckLaw_r10.eq_1 ?_
  simp only [go_sem]
  refine cP k3 ?_
  simp only [go_sem, u3]
  refine loop_body 200 k_ref02_CheckLaw_r10.eq_1 ?_
  simp only [go_sem]
  refine cP k4 ?_
  simp only [go_sem, u4]
  refine loop_body 200 k_ref02_CheckLaw_r10.eq_1 ?_
  simp only [go_sem]
  refine cP k5 ?_
  simp only [go_sem, u5]
  refine loop_body 200 k_ref02_CheckLaw_r10.eq_1 ?_
  simp only [go_sem]

theorem cut_run (n : Int) : Ans Try.prog n_ref02_cut [.int .i64 n] [] (.int .i64 (bnd n)) [] := by
  refine spec_run e_ref02_cut fun G => ?_
  simp only [go_sem]
  unfold bnd
  repeat' split
  all_goals omega

theorem rdrive_run (l : Lw) (h : LwOK l) (g p : Int) (h1 : -1000000 ≤ g ∧ g ≤ 1000000) (h2 : 0 ≤ p ∧ p ≤ 1000000) : Ans Try.prog n_ref02_drive [l.v, .int .i64 g, .int .i64 p] [] (driveOf l g p).v [] := by
  obtain ⟨_, ⟨b1, b2, b3⟩, ⟨c1, c2, c3⟩, _, _⟩ := h
  have q1 : 0 ≤ 1000 * p / l.gain.hi := Int.ediv_nonneg (by omega) (by omega)
  have q2 : 1000 * p / l.gain.hi ≤ 1000 * p := Int.ediv_le_self _ (by omega)
  have q3 : 0 ≤ rup (1000 * p) l.gain.lo := Int.ediv_nonneg (by omega) (by omega)
  have q4 : rup (1000 * p) l.gain.lo ≤ 1000 * p + l.gain.lo - 1 := Int.ediv_le_self _ (by omega)
  have m1 : IntKind.i64.wrap (1000 * p) = 1000 * p := w64 (by omega)
  have m3 : IntKind.i64.wrap (g + l.shift.lo) = g + l.shift.lo := w64 (by omega)
  have m4 : IntKind.i64.wrap (g + l.shift.lo + 1000 * p / l.gain.hi) = g + l.shift.lo + 1000 * p / l.gain.hi := w64 (by omega)
  have m5 : IntKind.i64.wrap (g + l.shift.hi) = g + l.shift.hi := w64 (by omega)
  have m6 : IntKind.i64.wrap (g + l.shift.hi + rup (1000 * p) l.gain.lo) = g + l.shift.hi + rup (1000 * p) l.gain.lo := w64 (by omega)
  have d1 := down_run (n := 1000 * p) (b := l.gain.hi) (by omega) (by omega)
  have d2 : Ans Try.prog n_ref02_up [.int .i64 (1000 * p), .int .i64 l.gain.lo] [] (.int .i64 (rup (1000 * p) l.gain.lo)) [] := up_run (n := 1000 * p) (b := l.gain.lo) (by omega) (by omega)
  refine spec_run e_ref02_drive fun G => ?_
  simp only [go_sem, Lw.v, Lw.cs, m1, m3]
  refine dP d1 ?_
  simp only [go_sem, m4]
  refine dP (cut_run _) ?_
  simp only [go_sem, m5, m1]
  refine dP d2 ?_
  simp only [go_sem, m6]
  refine cP (cut_run _) ?_
  simp only [go_sem, driveOf, Rg.v]

theorem div_iff {n q : Int} (hq : 1 ≤ q) : q ≤ n / q ↔ q * q ≤ n := Int.le_ediv_iff_mul_le (by omega)
theorem root_iff {n q : Int} (hn : 0 ≤ n) (hq : 0 ≤ q) : q * q ≤ n ↔ q ≤ root n := by
  obtain ⟨a, b, c⟩ := root_ok hn
  constructor
  · intro h
    by_cases d : root n + 1 ≤ q
    · have := sq_le (a := root n + 1) (b := q) (by omega) d; omega
    · omega
  · intro h
    have := sq_le hq h; omega
theorem rroot_run (n : Int) (h0 : 0 ≤ n) (h1 : n ≤ 1152921504606846976) : Ans Try.prog n_ref02_root [.int .i64 n] [] (.int .i64 (root n)) [] := by
  have hr := root_le h0 h1
  obtain ⟨r1, _, _⟩ := root_ok h0
  refine spec_run e_ref02_root fun G => ?_
  simp only [go_sem]
  refine loop_ind k_ref02_root_r7.eq_1 (fun a : Int × Int => 0 ≤ a.1 ∧ a.1 ≤ root n ∧ root n ≤ a.2 ∧ a.2 ≤ 3000000000) (fun a => (a.2 - a.1).toNat)
    (fun a => (tsets 23 [(0, .int .i64 n), (2, .int .i64 0), (3, .int .i64 a.1), (4, .int .i64 a.2)], [])) (0, 3000000000) ⟨Int.le_refl _, r1, by dsimp only; omega, Int.le_refl _⟩ (by simp [go_sem]) rfl ?_
  rintro ⟨i, j⟩ ⟨g0, g1, g2, g3⟩ ih
  dsimp only at g0 g1 g2 g3 ih ⊢
  by_cases c : i < j
  · have w1 : IntKind.i64.wrap (i + j) = i + j := w64 (by omega)
    have w2 : IntKind.i64.wrap (i + j + 1) = i + j + 1 := w64 (by omega)
    have e1 : (i + j + 1).tdiv 2 = (i + j + 1) / 2 := Int.tdiv_eq_ediv_of_nonneg (by omega)
    obtain ⟨q, hq⟩ : ∃ q, (i + j + 1) / 2 = q := ⟨_, rfl⟩
    rw [hq] at e1
    have w3 : IntKind.i64.wrap q = q := w64 (by omega)
    have e2 : n.tdiv q = n / q := Int.tdiv_eq_ediv_of_nonneg h0
    have q1 : 0 ≤ n / q := Int.ediv_nonneg h0 (by omega)
    have q2 : n / q ≤ n := Int.ediv_le_self _ h0
    have w4 : IntKind.i64.wrap (n / q) = n / q := w64 (by omega)
    have w5 : IntKind.i64.wrap (q - 1) = q - 1 := w64 (by omega)
    have z : ¬ q = 0 := by omega
    have hi := div_iff (n := n) (q := q) (by omega)
    rw [root_iff h0 (by omega)] at hi
    by_cases d : q ≤ n / q
    · simp only [go_sem, c, w1, w2, e1, w3, z, e2, w4, d]
      exact ih (q, j) (by dsimp only; omega) ⟨by dsimp only; omega, hi.1 d, g2, g3⟩ _ (by simp [go_sem])
    · simp only [go_sem, c, w1, w2, e1, w3, z, e2, w4, d, w5]
      have nq : ¬ q ≤ root n := fun h => d (hi.2 h)
      exact ih (i, q - 1) (by dsimp only; omega) ⟨g0, g1, by dsimp only; omega, by dsimp only; omega⟩ _ (by simp [go_sem])
  · simp only [go_sem, c]
    omega
theorem rabove_run (n : Int) (h0 : 0 ≤ n) (h1 : n ≤ 1152921504606846976) : Ans Try.prog n_ref02_above [.int .i64 n] [] (.int .i64 (rootU n)) [] := by
  have hr := root_le h0 h1
  obtain ⟨r1, r2, _⟩ := root_ok h0
  have hm := mul_in (a := root n) (b := root n) (A := 1073741824) (B := 1073741824) ⟨r1, hr⟩ ⟨r1, hr⟩
  have w1 : IntKind.i64.wrap (root n * root n) = root n * root n := w64 (by omega)
  have w2 : IntKind.i64.wrap (root n + 1) = root n + 1 := w64 (by omega)
  refine spec_run e_ref02_above fun G => ?_
  simp only [go_sem]
  refine cP (rroot_run n h0 h1) ?_
  by_cases c : root n * root n < n
  · simp only [go_sem, w1, c, w2, rootU, if_true]
  · simp only [go_sem, w1, c, rootU, if_false]

set_option maxHeartbeats 1000000 in
theorem rcurrent_run (l : Lw) (h : LwOK l) (g p : Int) (h1 : -1000000 ≤ g ∧ g ≤ 1000000) (h2 : 0 ≤ p ∧ p ≤ 1000000) : Ans Try.prog n_ref02_current [l.v, .int .i64 g, .int .i64 p] [] (curOf l g p).v [] := by
  have hd := rdrive_run l h g p h1 h2
  have hlo := bnd_in (g + l.shift.lo + (1000 * p) / l.gain.hi)
  have hhi := bnd_in (g + l.shift.hi + rup (1000 * p) l.gain.lo)
  rw [show bnd (g + l.shift.lo + (1000 * p) / l.gain.hi) = (driveOf l g p).lo from rfl] at hlo
  rw [show bnd (g + l.shift.hi + rup (1000 * p) l.gain.lo) = (driveOf l g p).hi from rfl] at hhi
  unfold curOf
  generalize driveOf l g p = d at *
  obtain ⟨⟨a1, a2, a3⟩, _, _, ⟨d1, d2, d3⟩, ⟨e1, e2, e3⟩⟩ := h
  obtain ⟨c1, c2, c3, c4⟩ := cube_in hlo.1 hlo.2
  obtain ⟨c5, c6, c7, c8⟩ := cube_in hhi.1 hhi.2
  obtain ⟨r1, _, _⟩ := root_ok c3
  have r2 := root_le c3 (by omega)
  obtain ⟨r3, _, _⟩ := root_ok c7
  have r4 := root_le c7 (by omega)
  have r5 : 0 ≤ rootU (cube d.hi) ∧ rootU (cube d.hi) ≤ 1073741825 := by unfold rootU; split <;> omega
  have p1 := mul_in (a := l.perv.lo) (A := 1000000) ⟨a1, by omega⟩ ⟨r1, r2⟩
  have p2 := mul_in (a := l.perv.hi) (A := 1000000) ⟨by omega, by omega⟩ r5
  have s1 : 0 ≤ spaceLo l d ∧ spaceLo l d ≤ l.perv.lo * root (cube d.lo) := ⟨Int.ediv_nonneg p1.1 (by decide), Int.ediv_le_self _ p1.1⟩
  have s2 : 0 ≤ spaceHi l d ∧ _ := rup_in p2.1 (by decide)
  have m1 := mn_in s1.1 d1
  have m2 := mn_in s2.1 (show 0 ≤ l.full.hi by omega)
  have p3 := mul_in (a := l.part.lo) (A := 1000000) (B := 1000000) ⟨e1, by omega⟩ ⟨m1.1, by omega⟩
  have p4 := mul_in (a := l.part.hi) (A := 1000000) (B := 1000000) ⟨by omega, by omega⟩ ⟨m2.1, by omega⟩
  have w1 : IntKind.i64.wrap (d.lo * d.lo) = d.lo * d.lo := w64 (by omega)
  have w2 : IntKind.i64.wrap (d.lo * d.lo * d.lo) = cube d.lo := w64 (n := cube d.lo) (by omega)
  have w3 : IntKind.i64.wrap (d.hi * d.hi) = d.hi * d.hi := w64 (by omega)
  have w4 : IntKind.i64.wrap (d.hi * d.hi * d.hi) = cube d.hi := w64 (n := cube d.hi) (by omega)
  have w5 : IntKind.i64.wrap (l.perv.lo * root (cube d.lo)) = l.perv.lo * root (cube d.lo) := w64 (by omega)
  have w8 : IntKind.i64.wrap (l.perv.hi * rootU (cube d.hi)) = l.perv.hi * rootU (cube d.hi) := w64 (by omega)
  have n1 : (if l.full.lo < spaceLo l d then l.full.lo else spaceLo l d) = mn (spaceLo l d) l.full.lo := rfl
  have n2 : (if l.full.hi < spaceHi l d then l.full.hi else spaceHi l d) = mn (spaceHi l d) l.full.hi := rfl
  have w9 : IntKind.i64.wrap (l.part.lo * mn (spaceLo l d) l.full.lo) = l.part.lo * mn (spaceLo l d) l.full.lo := w64 (by omega)
  have w12 : IntKind.i64.wrap (l.part.hi * mn (spaceHi l d) l.full.hi) = l.part.hi * mn (spaceHi l d) l.full.hi := w64 (by omega)
  have kr := rroot_run _ c3 (by omega)
  have ka := rabove_run _ c7 (by omega)
  have k1 : Ans Try.prog n_ref02_down [.int .i64 (l.perv.lo * root (cube d.lo)), .int .i64 1000000] [] (.int .i64 (spaceLo l d)) [] := down_run (by omega) (by omega)
  have k2 : Ans Try.prog n_ref02_up [.int .i64 (l.perv.hi * rootU (cube d.hi)), .int .i64 1000000] [] (.int .i64 (spaceHi l d)) [] := up_run (by omega) (by omega)
  have k3 : Ans Try.prog n_ref02_down [.int .i64 (l.part.lo * mn (spaceLo l d) l.full.lo), .int .i64 1000000] [] (.int .i64 (curLo l d)) [] := down_run (by omega) (by omega)
  have k4 : Ans Try.prog n_ref02_up [.int .i64 (l.part.hi * mn (spaceHi l d) l.full.hi), .int .i64 1000000] [] (.int .i64 (curHi l d)) [] := up_run (by omega) (by omega)
  simp only [Lw.v, Lw.cs, Rg.v] at hd
  refine spec_run e_ref02_current fun G => ?_
  simp only [go_sem, Lw.v, Lw.cs]
  refine cP hd ?_
  simp only [go_sem, w1, w2]
  refine dP kr ?_
  simp only [go_sem, w5]
  refine cP k1 ?_
  simp only [go_sem, w3, w4]
  refine dP ka ?_
  simp only [go_sem, w8]
  refine cP k2 ?_
  simp only [go_sem, n1, n2, w9]
  refine dP k3 ?_
  simp only [go_sem, w12]
  refine cP k4 ?_
  simp only [go_sem, Rg.v]
end Go.Proofs

namespace Go.Proofs
open Go Go.Sx Go.Fam

def lsC (l : List Int) : AVal := if l = [] then .nilsl else vw l
def tbC (t : List (List Int)) : AVal := if t = [] then .nilsl else tw t
abbrev ivL (l : List Int) : List AVal := l.map (.int .i64)

theorem all3_ints {d : Nat} {H : Heap} : ∀ {ι : List Nat} {vs : List AVal} {l : List Int}, All3 (Dat d H) ι vs (l.map (.int .i64)) → vs = l.map (.int .i64) ∧ ι = []
  | ι, [], [], h => ⟨rfl, h⟩
  | ι, v :: vs, x :: l, h => by
    obtain ⟨κ, κ', rfl, h1, h2⟩ := h
    obtain ⟨rfl, rfl⟩ := all3_ints h2
    cases d with
    | zero => exact h1.elim
    | succ d =>
      obtain ⟨rfl, rfl, _⟩ := h1
      exact ⟨rfl, rfl⟩
  | _, [], _ :: _, h => h.elim
  | _, _ :: _, [], h => h.elim
theorem vw_get {d : Nat} {J : Heap} {κ : List Nat} {v : AVal} {l : List Int} (h : Dat (d + 1) J κ v (vw l)) : l ≠ [] ∧ ∃ r, v = .sl r 0 l.length ∧ κ = [r] ∧ J[r]? = some (some (.cells true 1 (ivL l))) := by
  obtain ⟨h0, r, vs, κ', rfl, rfl, h2, h3⟩ := h
  obtain ⟨rfl, rfl⟩ := all3_ints h3
  have hl : l ≠ [] := by rintro rfl; exact h0 rfl
  refine ⟨hl, r, by simp, rfl, ?_⟩
  cases l with
  | nil => exact absurd rfl hl
  | cons x l => exact h2
theorem vw_put {d : Nat} {J : Heap} {r n : Nat} {l : List Int} (h0 : l ≠ []) (hn : n = l.length) (h : J[r]? = some (some (.cells true 1 (ivL l)))) : Dat (d + 2) J [r] (.sl r 0 n) (vw l) := by
  have : l.map (AVal.int .i64) ≠ [] := by simpa using h0
  refine Dat.list (κ := []) this (by simpa using hn) ?_ h (Dat.ints _ _)
  cases l with
  | nil => exact absurd rfl h0
  | cons x l => rfl
theorem ls_get {d : Nat} {J : Heap} {κ : List Nat} {v : AVal} {l : List Int} (h : Dat (d + 1) J κ v (lsC l)) (h0 : l ≠ []) : ∃ r, v = .sl r 0 l.length ∧ κ = [r] ∧ J[r]? = some (some (.cells true 1 (ivL l))) := by
  unfold lsC at h; rw [if_neg h0] at h; exact (vw_get h).2
theorem ls_put {d : Nat} {J : Heap} {r n : Nat} {l : List Int} (h0 : l ≠ []) (hn : n = l.length) (h : J[r]? = some (some (.cells true 1 (ivL l)))) : Dat (d + 2) J [r] (.sl r 0 n) (lsC l) := by
  unfold lsC; rw [if_neg h0]; exact vw_put h0 hn h
theorem nil_get {d : Nat} {J : Heap} {κ : List Nat} {v : AVal} (h : Dat (d + 1) J κ v .nilsl) : v = .nilsl ∧ κ = [] := ⟨h.1, h.2.1⟩
theorem tb_get {d : Nat} {J : Heap} {κ : List Nat} {v : AVal} {t : List (List Int)} (h : Dat (d + 1) J κ v (tbC t)) (h0 : t ≠ []) : ∃ r vs κ', v = .sl r 0 t.length ∧ κ = κ' ++ [r] ∧ J[r]? = some (some (.cells true 1 vs)) ∧ All3 (Dat d J) κ' vs (t.map vw) := by
  unfold tbC at h; rw [if_neg h0] at h
  obtain ⟨_, r, vs, κ', rfl, rfl, h2, h3⟩ := h
  refine ⟨r, vs, κ', by simp, rfl, ?_, h3⟩
  cases t with
  | nil => exact absurd rfl h0
  | cons x l => exact h2
theorem tb_put {d : Nat} {J : Heap} {r n : Nat} {κ : List Nat} {vs : List AVal} {t : List (List Int)} (h0 : t ≠ []) (hn : n = t.length) (h : J[r]? = some (some (.cells true 1 vs))) (h3 : All3 (Dat d J) κ vs (t.map vw)) : Dat (d + 1) J (κ ++ [r]) (.sl r 0 n) (tbC t) := by
  unfold tbC; rw [if_neg h0]
  refine Dat.list (by simpa using h0) (by simpa using hn) ?_ h h3
  cases t with
  | nil => exact absurd rfl h0
  | cons x l => rfl

structure FS (F : Nat → Prop) (J : Heap) (g p : List Int) (L U : List (List Int)) (lo hi : List Int) (v0 v1 v2 v3 v4 v5 : AVal) (κ0 κ1 κ2 κ3 κ4 κ5 : List Nat) : Prop where
  len : ∀ a, F a → a < J.length
  d0 : Dat 5 J κ0 v0 (vw g)
  d1 : Dat 5 J κ1 v1 (vw p)
  d2 : Dat 5 J κ2 v2 (tbC L)
  d3 : Dat 5 J κ3 v3 (tbC U)
  d4 : Dat 5 J κ4 v4 (lsC lo)
  d5 : Dat 5 J κ5 v5 (lsC hi)
  nd : ∀ a, κ0.count a + κ1.count a + κ2.count a + κ3.count a + κ4.count a + κ5.count a ≤ 1
  ge : ∀ a, F a → κ0.count a + κ1.count a + κ2.count a + κ3.count a + κ4.count a + κ5.count a = 0

section
variable {F : Nat → Prop} {J J' : Heap} {g p : List Int} {L U : List (List Int)} {lo hi : List Int} {v0 v1 v2 v3 v4 v5 : AVal} {κ0 κ1 κ2 κ3 κ4 κ5 : List Nat}
theorem cnt_mem {κ : List Nat} {r : Nat} : r ∈ κ ↔ 0 < κ.count r := List.count_pos_iff.symm
theorem FS.up (h : FS F J g p L U lo hi v0 v1 v2 v3 v4 v5 κ0 κ1 κ2 κ3 κ4 κ5) : (∀ r ∈ κ0, ¬ F r) ∧ (∀ r ∈ κ1, ¬ F r) ∧ (∀ r ∈ κ2, ¬ F r) ∧ (∀ r ∈ κ3, ¬ F r) ∧ (∀ r ∈ κ4, ¬ F r) ∧ ∀ r ∈ κ5, ¬ F r := by
  have := h.ge
  refine ⟨?_, ?_, ?_, ?_, ?_, ?_⟩ <;>
  · intro r hr
    rw [cnt_mem] at hr
    intro hn
    have := h.ge r hn; omega
theorem FS.lt0 (h : FS F J g p L U lo hi v0 v1 v2 v3 v4 v5 κ0 κ1 κ2 κ3 κ4 κ5) {r : Nat} (hr : J.length ≤ r) : κ0.count r + κ1.count r + κ2.count r + κ3.count r + κ4.count r + κ5.count r = 0 := by
  have z : ∀ {κ : List Nat} {v c : AVal}, Dat 5 J κ v c → κ.count r = 0 := fun hd => List.count_eq_zero.2 fun hm => by have := hd.lt r hm; omega
  have := z h.d0; have := z h.d1; have := z h.d2; have := z h.d3; have := z h.d4; have := z h.d5; omega

theorem FS.first (h : FS F J g p L U [] [] v0 v1 v2 v3 v4 v5 κ0 κ1 κ2 κ3 κ4 κ5) : v4 = .nilsl ∧ v5 = .nilsl ∧ ∀ (J' : Heap) (r s : Nat) (x y : Int), r ≠ s → J.length ≤ r → J.length ≤ s → (∀ q, ¬ F q → q < J.length → J'[q]? = J[q]?) →
    J'[r]? = some (some (.cells true 1 [.int .i64 x])) → J'[s]? = some (some (.cells true 1 [.int .i64 y])) → FS F J' g p L U [x] [y] v0 v1 v2 v3 (.sl r 0 1) (.sl s 0 1) κ0 κ1 κ2 κ3 [r] [s] := by
  obtain ⟨e4, k4⟩ := nil_get (J := J) (d := 4) (κ := κ4) (v := v4) (by simpa [lsC] using h.d4)
  obtain ⟨e5, k5⟩ := nil_get (J := J) (d := 4) (κ := κ5) (v := v5) (by simpa [lsC] using h.d5)
  subst e4; subst e5; subst k4; subst k5
  refine ⟨rfl, rfl, fun J' r s x y hrs hr hs hJ h1 h2 => ?_⟩
  obtain ⟨u0, u1, u2, u3, _, _⟩ := h.up
  have l0 := h.len
  have m := fun {κ : List Nat} {v c : AVal} (hd : Dat 5 J κ v c) (hu : ∀ r ∈ κ, ¬ F r) => hd.congr fun q hq => hJ q (hu q hq) (hd.lt q hq)
  have hlt := (List.getElem?_eq_some_iff.1 h1).1
  refine ⟨fun a ha => by have := l0 a ha; omega, m h.d0 u0, m h.d1 u1, m h.d2 u2, m h.d3 u3, ls_put (by simp) rfl h1, ls_put (by simp) rfl h2, fun a => ?_, fun a ha => ?_⟩
  · have h3 := h.nd a
    have h4 := h.lt0 hr
    have h5 := h.lt0 hs
    simp only [List.count_nil, Nat.add_zero, List.count_cons, beq_iff_eq, Nat.zero_add] at *
    by_cases c1 : r = a
    · subst c1
      have c2 : ¬ s = r := fun e => hrs e.symm
      simp only [c2, if_true, if_false]; omega
    · by_cases c2 : s = a
      · subst c2
        simp only [c1, if_true, if_false]; omega
      · simp only [c1, c2, if_false]; omega
  · have h3 := h.ge a ha
    simp only [List.count_nil, Nat.add_zero, List.count_cons, beq_iff_eq, Nat.zero_add] at *
    have c1 : ¬ r = a := by have := l0 a ha; omega
    have c2 : ¬ s = a := by have := l0 a ha; omega
    simp only [c1, c2, if_false]; omega
theorem FS.next (h : FS F J g p L U lo hi v0 v1 v2 v3 v4 v5 κ0 κ1 κ2 κ3 κ4 κ5) (hlo : lo ≠ []) (hhi : hi ≠ []) : ∃ r s, v4 = .sl r 0 lo.length ∧ v5 = .sl s 0 hi.length ∧ r ≠ s ∧ ¬ F r ∧ ¬ F s ∧ J[r]? = some (some (.cells true 1 (ivL lo))) ∧ J[s]? = some (some (.cells true 1 (ivL hi))) ∧
    ∀ (J' : Heap) (x y : Int), (∀ q, ¬ F q → q < J.length → q ≠ r → q ≠ s → J'[q]? = J[q]?) → J'[r]? = some (some (.cells true 1 (ivL lo ++ [.int .i64 x]))) → J'[s]? = some (some (.cells true 1 (ivL hi ++ [.int .i64 y]))) → (∀ a, F a → a < J'.length) →
    FS F J' g p L U (lo ++ [x]) (hi ++ [y]) v0 v1 v2 v3 (.sl r 0 (lo.length + 1)) (.sl s 0 (hi.length + 1)) κ0 κ1 κ2 κ3 κ4 κ5 := by
  obtain ⟨r, e4, k4, g4⟩ := ls_get h.d4 hlo
  obtain ⟨s, e5, k5, g5⟩ := ls_get h.d5 hhi
  obtain ⟨u0, u1, u2, u3, u4, u5⟩ := h.up
  subst e4; subst e5; subst k4; subst k5
  have nr := h.nd r
  have ns := h.nd s
  have hrs : r ≠ s := by
    rintro rfl
    simp [List.count_cons] at nr
  refine ⟨r, s, rfl, rfl, hrs, u4 r (by simp), u5 s (by simp), g4, g5, fun J' x y hJ h1 h2 hn => ?_⟩
  have hsr : ¬ s = r := fun e => hrs e.symm
  simp only [List.count_cons, List.count_nil, beq_iff_eq, hrs, hsr, if_true, if_false] at nr ns
  have m := fun {κ : List Nat} {v c : AVal} (hd : Dat 5 J κ v c) (hu : ∀ r ∈ κ, ¬ F r) (c1 : κ.count r = 0) (c2 : κ.count s = 0) => hd.congr fun q hq => hJ q (hu q hq) (hd.lt q hq) (by rintro rfl; exact List.count_eq_zero.1 c1 hq) (by rintro rfl; exact List.count_eq_zero.1 c2 hq)
  refine ⟨hn, m h.d0 u0 (by omega) (by omega), m h.d1 u1 (by omega) (by omega), m h.d2 u2 (by omega) (by omega), m h.d3 u3 (by omega) (by omega), ls_put (by simp) (by simp) (by simpa using h1), ls_put (by simp) (by simp) (by simpa using h2), h.nd, h.ge⟩

theorem row_one {d : Nat} {J' : Heap} {κ : List Nat} {v : AVal} {lo : List Int} (h : Dat d J' κ v (vw lo)) : All3 (Dat d J') κ [v] ([lo].map vw) := ⟨κ, [], by simp, h, rfl⟩
theorem row_more {d : Nat} {J' : Heap} {κ κ' : List Nat} {v : AVal} {vs : List AVal} {t : List (List Int)} {lo : List Int} (h : All3 (Dat d J') κ vs (t.map vw)) (hv : Dat d J' κ' v (vw lo)) : All3 (Dat d J') (κ ++ κ') (vs ++ [v]) ((t ++ [lo]).map vw) := by
  rw [List.map_append]; exact h.snoc hv

theorem FS.row1 (h : FS F J g p [] [] lo hi v0 v1 v2 v3 v4 v5 κ0 κ1 κ2 κ3 κ4 κ5) (hlo : lo ≠ []) (hhi : hi ≠ []) : v2 = .nilsl ∧ v3 = .nilsl ∧ ∀ (J' : Heap) (r s : Nat), r ≠ s → J.length ≤ r → J.length ≤ s → (∀ q, ¬ F q → q < J.length → J'[q]? = J[q]?) →
    J'[r]? = some (some (.cells true 1 [v4])) → J'[s]? = some (some (.cells true 1 [v5])) → FS F J' g p [lo] [hi] [] [] v0 v1 (.sl r 0 1) (.sl s 0 1) .nilsl .nilsl κ0 κ1 (κ4 ++ [r]) (κ5 ++ [s]) [] [] := by
  obtain ⟨e2, k2⟩ := nil_get (J := J) (d := 4) (κ := κ2) (v := v2) (by simpa [tbC] using h.d2)
  obtain ⟨e3, k3⟩ := nil_get (J := J) (d := 4) (κ := κ3) (v := v3) (by simpa [tbC] using h.d3)
  subst e2; subst e3; subst k2; subst k3
  refine ⟨rfl, rfl, fun J' r s hrs hr hs hJ h1 h2 => ?_⟩
  obtain ⟨u0, u1, _, _, u4, u5⟩ := h.up
  have l0 := h.len
  obtain ⟨r4, e4, k4, g4⟩ := ls_get h.d4 hlo
  obtain ⟨s5, e5, k5, g5⟩ := ls_get h.d5 hhi
  have m := fun {κ : List Nat} {v c : AVal} (hd : Dat 5 J κ v c) (hu : ∀ r ∈ κ, ¬ F r) => hd.congr fun q hq => hJ q (hu q hq) (hd.lt q hq)
  have hlt := (List.getElem?_eq_some_iff.1 h1).1
  have w4 : Dat 4 J' κ4 v4 (vw lo) := by
    subst e4; subst k4
    exact vw_put hlo rfl (by rw [hJ r4 (u4 r4 (by simp)) (List.getElem?_eq_some_iff.1 g4).1]; exact g4)
  have w5 : Dat 4 J' κ5 v5 (vw hi) := by
    subst e5; subst k5
    exact vw_put hhi rfl (by rw [hJ s5 (u5 s5 (by simp)) (List.getElem?_eq_some_iff.1 g5).1]; exact g5)
  refine ⟨fun a ha => by have := l0 a ha; omega, m h.d0 u0, m h.d1 u1, tb_put (by simp) rfl h1 (row_one w4), tb_put (by simp) rfl h2 (row_one w5), ⟨rfl, rfl, rfl⟩, ⟨rfl, rfl, rfl⟩, fun a => ?_, fun a ha => ?_⟩
  · have h3 := h.nd a
    have h4 := h.lt0 hr
    have h5 := h.lt0 hs
    simp only [List.count_nil, Nat.add_zero, List.count_cons, List.count_append, beq_iff_eq, Nat.zero_add] at *
    by_cases c1 : r = a
    · subst c1
      have c2 : ¬ s = r := fun e => hrs e.symm
      simp only [c2, if_true, if_false]; omega
    · by_cases c2 : s = a
      · subst c2
        simp only [c1, if_true, if_false]; omega
      · simp only [c1, c2, if_false]; omega
  · have h3 := h.ge a ha
    simp only [List.count_nil, Nat.add_zero, List.count_cons, List.count_append, beq_iff_eq, Nat.zero_add] at *
    have c1 : ¬ r = a := by have := l0 a ha; omega
    have c2 : ¬ s = a := by have := l0 a ha; omega
    simp only [c1, c2, if_false]; omega
theorem FS.rows (h : FS F J g p L U lo hi v0 v1 v2 v3 v4 v5 κ0 κ1 κ2 κ3 κ4 κ5) (hL : L ≠ []) (hU : U ≠ []) (hlo : lo ≠ []) (hhi : hi ≠ []) : ∃ r s vs us κ2' κ3', v2 = .sl r 0 L.length ∧ v3 = .sl s 0 U.length ∧ r ≠ s ∧ ¬ F r ∧ ¬ F s ∧ J[r]? = some (some (.cells true 1 vs)) ∧ J[s]? = some (some (.cells true 1 us)) ∧
    vs.length = L.length ∧ us.length = U.length ∧ ∀ (J' : Heap), (∀ q, ¬ F q → q < J.length → q ≠ r → q ≠ s → J'[q]? = J[q]?) → J'[r]? = some (some (.cells true 1 (vs ++ [v4]))) → J'[s]? = some (some (.cells true 1 (us ++ [v5]))) → (∀ a, F a → a < J'.length) →
    FS F J' g p (L ++ [lo]) (U ++ [hi]) [] [] v0 v1 (.sl r 0 (L.length + 1)) (.sl s 0 (U.length + 1)) .nilsl .nilsl κ0 κ1 κ2' κ3' [] [] := by
  obtain ⟨r, vs, κ2', e2, k2, g2, a2⟩ := tb_get h.d2 hL
  obtain ⟨s, us, κ3', e3, k3, g3, a3⟩ := tb_get h.d3 hU
  obtain ⟨r4, e4, k4, g4⟩ := ls_get h.d4 hlo
  obtain ⟨s5, e5, k5, g5⟩ := ls_get h.d5 hhi
  obtain ⟨u0, u1, u2, u3, u4, u5⟩ := h.up
  subst e2; subst k2; subst e3; subst k3
  have nr := h.nd r
  have ns := h.nd s
  have hrs : r ≠ s := by
    rintro rfl
    simp [List.count_cons, List.count_append] at nr
    omega
  have hsr : ¬ s = r := fun e => hrs e.symm
  have l2 := a2.len
  have l3 := a3.len
  simp only [List.length_map] at l2 l3
  simp only [List.count_cons, List.count_append, List.count_nil, beq_iff_eq, hrs, hsr, if_true, if_false] at nr ns
  refine ⟨r, s, vs, us, κ2' ++ κ4 ++ [r], κ3' ++ κ5 ++ [s], rfl, rfl, hrs, u2 r (by simp), u3 s (by simp), g2, g3, l2, l3, fun J' hJ h1 h2 hn => ?_⟩
  have m := fun {d : Nat} {κ : List Nat} {v c : AVal} (hd : Dat d J κ v c) (hu : ∀ r ∈ κ, ¬ F r) (c1 : κ.count r = 0) (c2 : κ.count s = 0) => hd.congr fun q hq => hJ q (hu q hq) (hd.lt q hq) (by rintro rfl; exact List.count_eq_zero.1 c1 hq) (by rintro rfl; exact List.count_eq_zero.1 c2 hq)
  have ma := fun {κ : List Nat} {xs es : List AVal} (hd : All3 (Dat 4 J) κ xs es) (hu : ∀ r ∈ κ, ¬ F r) (c1 : κ.count r = 0) (c2 : κ.count s = 0) => hd.mono (R' := Dat 4 J') fun κ' v e hs _ he => he.congr fun q hq => hJ q (hu q (hs q hq)) (he.lt q hq) (by rintro rfl; exact List.count_eq_zero.1 c1 (hs _ hq)) (by rintro rfl; exact List.count_eq_zero.1 c2 (hs _ hq))
  have w4 : Dat 4 J' κ4 v4 (vw lo) := by
    have hc : r4 ≠ r ∧ r4 ≠ s := by
      subst k4
      refine ⟨?_, ?_⟩
      · rintro rfl; simp [List.count_cons] at nr; try omega
      · rintro rfl; simp [List.count_cons] at ns; try omega
    subst e4; subst k4
    exact vw_put hlo rfl (by rw [hJ r4 (u4 r4 (by simp)) (List.getElem?_eq_some_iff.1 g4).1 hc.1 hc.2]; exact g4)
  have w5 : Dat 4 J' κ5 v5 (vw hi) := by
    have hc : s5 ≠ r ∧ s5 ≠ s := by
      subst k5
      refine ⟨?_, ?_⟩
      · rintro rfl; simp [List.count_cons] at nr; try omega
      · rintro rfl; simp [List.count_cons] at ns; try omega
    subst e5; subst k5
    exact vw_put hhi rfl (by rw [hJ s5 (u5 s5 (by simp)) (List.getElem?_eq_some_iff.1 g5).1 hc.1 hc.2]; exact g5)
  have q2 := ma a2 (fun r hr => u2 r (by simp [hr])) (by omega) (by omega)
  have q3 := ma a3 (fun r hr => u3 r (by simp [hr])) (by omega) (by omega)
  refine ⟨hn, m h.d0 u0 (by omega) (by omega), m h.d1 u1 (by omega) (by omega), tb_put (by simp) (by simp) h1 (row_more q2 w4), tb_put (by simp) (by simp) h2 (row_more q3 w5), ⟨rfl, rfl, rfl⟩, ⟨rfl, rfl, rfl⟩, fun a => ?_, fun a ha => ?_⟩
  · have h3 := h.nd a
    simp only [List.count_append, List.count_nil, Nat.add_zero] at *
    omega
  · have h3 := h.ge a ha
    simp only [List.count_append, List.count_nil, Nat.add_zero] at *
    omega
theorem FS.all (h : FS F J g p L U [] [] v0 v1 v2 v3 v4 v5 κ0 κ1 κ2 κ3 κ4 κ5) (hL : L ≠ []) (hU : U ≠ []) : ∃ ι, Dat 6 J ι (.agg [v0, v1, v2, v3]) (Fv ⟨g, p, L, U⟩) ∧ ι.Nodup ∧ ∀ r ∈ ι, ¬ F r := by
  have d2 : Dat 5 J κ2 v2 (tw L) := by have := h.d2; unfold tbC at this; rwa [if_neg hL] at this
  have d3 : Dat 5 J κ3 v3 (tw U) := by have := h.d3; unfold tbC at this; rwa [if_neg hU] at this
  refine ⟨κ0 ++ (κ1 ++ (κ2 ++ (κ3 ++ []))), ⟨_, rfl, κ0, _, rfl, h.d0, κ1, _, rfl, h.d1, κ2, _, rfl, d2, κ3, [], rfl, d3, rfl⟩, List.nodup_iff_count.2 fun a => ?_, fun r hr => ?_⟩
  · have := h.nd a
    simp only [List.count_append, List.count_nil]
    omega
  · obtain ⟨u0, u1, u2, u3, _, _⟩ := h.up
    simp only [List.append_nil, List.mem_append] at hr
    rcases hr with hr | hr | hr | hr
    · exact u0 r hr
    · exact u1 r hr
    · exact u2 r hr
    · exact u3 r hr
end
end Go.Proofs

namespace Go.Proofs
open Go Go.Sx Go.Fam
attribute [local irreducible] Run

end Go.Proofs

namespace Go.Proofs
open Go Go.Sx Go.Fam
attribute [local irreducible] Run

theorem rints_run (l : List Int) (hl : l.length ≤ 1000000) (h0 : l ≠ []) : Ans Try.prog n_ref02_ints [vw l] [] (.sl 0 0 l.length) [some (.cells true 1 (l.map (.int .i64)))] := by
  have h8 : l.length * 8 ≤ 2 ^ 44 := by omega
  have h1 : ¬ l = [] := h0
  refine spec_run e_ref02_ints fun G => ?_
  simp only [go_sem, vw, List.length_map, h8, h1]
  simp [h1]
theorem cells_more {H : Heap} {j : Nat} {r : Bool × Nat × List AVal} (h : H.cellsAt j = some r) (Y : Heap) : (H ++ Y).cellsAt j = some r := by
  unfold Heap.cellsAt at *
  rcases hj : H[j]? with _ | _ | x
  · rw [hj] at h; simp at h
  · rw [hj] at h; simp at h
  · rw [List.getElem?_append_left (List.getElem?_eq_some_iff.1 hj).1, hj]
    rw [hj] at h
    exact h
theorem put_more {H : Heap} {j : Nat} (h : j < H.length) (Y : Heap) (x : Row) : Heap.put (H ++ Y) j x = H.set j (some x) ++ Y := by
  rw [put_lt (by simp; omega), List.set_append_left _ _ h]

def ofT (f : Rg → Int) (l : Lw) (g p : List Int) : List (List Int) := g.map fun x => p.map fun y => f (curOf l x y)
def ofF (l : Lw) (g p : List Int) : Fa := ⟨g, p, ofT Rg.lo l g p, ofT Rg.hi l g p⟩
def rowT (f : Rg → Int) (l : Lw) (x : Int) (p : List Int) : List Int := p.map fun y => f (curOf l x y)
def oF (a : Nat) : Prop := a = 0 ∨ a = 1 ∨ a = 4
structure OfH (l : Lw) (J : Heap) (v0 v1 v2 v3 : AVal) : Prop where
  r0 : J[0]? = some (some (.cells false 10 [l.v]))
  r1 : J[1]? = some (some (.cells false 4 [.agg [.nilsl, .nilsl, .nilsl, .nilsl]]))
  r4 : J[4]? = some (some (.cells false 4 [.agg [v0, v1, v2, v3]]))
theorem OfH.mono {l : Lw} {J J' : Heap} {v0 v1 v2 v3 : AVal} (h : OfH l J v0 v1 v2 v3) (hJ : ∀ q, oF q → q < J.length → J'[q]? = J[q]?) : OfH l J' v0 v1 v2 v3 :=
  ⟨by rw [hJ 0 (by simp [oF]) (List.getElem?_eq_some_iff.1 h.r0).1]; exact h.r0, by rw [hJ 1 (by simp [oF]) (List.getElem?_eq_some_iff.1 h.r1).1]; exact h.r1, by rw [hJ 4 (by simp [oF]) (List.getElem?_eq_some_iff.1 h.r4).1]; exact h.r4⟩
theorem cells_mid {A : Heap} {n : Nat} (h : A.length = n) (g : Bool) (sz : Nat) (es : List AVal) (Y : Heap) : Heap.cellsAt (A ++ some (.cells g sz es) :: Y) n = some (g, sz, es) :=
  cells_at (by rw [List.getElem?_append_right (by omega), h, Nat.sub_self]; rfl)
theorem get_new {A Y : Heap} {n i : Nat} (h : A.length = n) : (A ++ Y)[n + i]? = Y[i]? := by rw [List.getElem?_append_right (by omega), h, Nat.add_sub_cancel_left]
theorem two_off {J Y : Heap} {r s q : Nat} {A B : Option Row} (h : q < J.length) (h1 : q ≠ r) (h2 : q ≠ s) : ((J.set r A).set s B ++ Y)[q]? = J[q]? := by
  rw [List.getElem?_append_left (by simpa using h), List.getElem?_set_ne (fun e => h2 e.symm), List.getElem?_set_ne (fun e => h1 e.symm)]
theorem two_r {J Y : Heap} {r s : Nat} {A B : Option Row} (h : r < J.length) (h1 : r ≠ s) : ((J.set r A).set s B ++ Y)[r]? = some A := by
  rw [List.getElem?_append_left (by simpa using h), List.getElem?_set_ne (fun e => h1 e.symm), List.getElem?_set_self h]
theorem two_s {J Y : Heap} {r s : Nat} {A B : Option Row} (h : s < J.length) : ((J.set r A).set s B ++ Y)[s]? = some B := by
  rw [List.getElem?_append_left (by simpa using h), List.getElem?_set_self (by simpa using h)]
def OfI (l : Lw) (g p : List Int) (J : Heap) (L U : List (List Int)) (lo hi : List Int) (v0 v1 v2 v3 v4 v5 : AVal) : Prop := OfH l J v0 v1 v2 v3 ∧ ∃ κ0 κ1 κ2 κ3 κ4 κ5, FS oF J g p L U lo hi v0 v1 v2 v3 v4 v5 κ0 κ1 κ2 κ3 κ4 κ5
def oT (g p : List Int) : List (Nat × AVal) := [(1, vw g), (2, vw p), (3, .ptr 0 0 0 1), (6, .ptr 1 0 0 1), (7, .int .i64 0), (10, .ptr 4 0 0 1)]

set_option maxHeartbeats 4000000 in
set_option maxRecDepth 20000 in
theorem rOf_fn (l : Lw) (h : LwOK l) (g p : List Int) (hg : Asc (-1000000) g) (hp : Asc 0 p) : Go.Sx.Fn Try.prog n_ref02_Of [l.v, vw g, vw p] [] fun v H' => ∃ ι, Dat 7 H' ι v (.tup [Fv (ofF l g p), .int .i64 0]) ∧ ι.Nodup := by
  have g0 : g ≠ [] := by have := hg.pos; rintro rfl; simp at this
  have p0 : p ≠ [] := by have := hp.pos; rintro rfl; simp at this
  have gm := hg.most
  have pm := hp.most
  have k1 := rCheckLaw_ok l h
  have k2 := rcheckLines_run g p (by omega) (by omega)
  rw [line_iff.2 ⟨hg, hp⟩] at k2
  have k3 := rints_run g (by omega) g0
  have k4 := rints_run p (by omega) p0
  refine run_fn e_ref02_Of fun G => ?_
  simp only [Lw.v, Lw.cs] at k1
  simp only [go_sem, Lw.v, Lw.cs]
  refine cP k1 ?_
  simp only [go_sem]
  refine cP k2 ?_
  simp only [go_sem]
  refine cN1 k3 ?_
  simp only [go_sem, ren]
  refine cN1 k4 ?_
  simp only [go_sem, ren]
  have hI0 : OfI l g p [some (.cells false 10 [l.v]), some (.cells false 4 [.agg [.nilsl, .nilsl, .nilsl, .nilsl]]), some (.cells true 1 (ivL g)), some (.cells true 1 (ivL p)), some (.cells false 4 [.agg [.sl 2 0 g.length, .sl 3 0 p.length, .nilsl, .nilsl]])] [] [] [] []
      (.sl 2 0 g.length) (.sl 3 0 p.length) .nilsl .nilsl .nilsl .nilsl := by
    refine ⟨⟨rfl, rfl, rfl⟩, [2], [3], [], [], [], [], fun a ha => by unfold oF at ha; simp; omega, vw_put g0 rfl rfl, vw_put p0 rfl rfl, ⟨rfl, rfl, rfl⟩, ⟨rfl, rfl, rfl⟩, ⟨rfl, rfl, rfl⟩, ⟨rfl, rfl, rfl⟩, fun a => ?_, fun a ha => ?_⟩
    · simp only [List.count_cons, List.count_nil, beq_iff_eq]
      split <;> split <;> omega
    · unfold oF at ha
      simp only [List.count_cons, List.count_nil, beq_iff_eq]
      rw [if_neg (by omega), if_neg (by omega)]
  refine loop_ind k_ref02_Of_r19.eq_1 (fun a : Nat × Heap × AVal × AVal × AVal × AVal => a.1 ≤ g.length ∧ OfI l g p a.2.1 (ofT Rg.lo l (g.take a.1) p) (ofT Rg.hi l (g.take a.1) p) [] [] a.2.2.1 a.2.2.2.1 a.2.2.2.2.1 a.2.2.2.2.2 .nilsl .nilsl) (fun a => g.length - a.1)
    (fun a => (tsets 79 (oT g p ++ [(11, .int .i64 a.1)]), a.2.1)) (0, _, .sl 2 0 g.length, .sl 3 0 p.length, .nilsl, .nilsl) ⟨Nat.zero_le _, hI0⟩ (by simp [go_sem, oT]) (by simp [Lw.v, Lw.cs]) ?_
  rintro ⟨i, J, v0, v1, v2, v3⟩ ⟨hi, hI⟩ ih
  dsimp only at hi hI ih ⊢
  by_cases h1 : i < g.length
  · have h2 : (i : Int) < g.length := by omega
    have m0 : ¬ (i : Int) < 0 := by omega
    have h3 := idx_next h1 (by omega)
    have hx := get_at h1
    obtain ⟨x, hxe⟩ : ∃ x, at1 g i = x := ⟨_, rfl⟩
    have hxr := hg.inn i h1
    rw [hxe] at hx hxr
    simp only [go_sem, oT, h2, vw, List.length_map]
    refine loop_ind k_ref02_Of_r16.eq_1 (fun a : Nat × Heap × AVal × AVal => a.1 ≤ p.length ∧ OfI l g p a.2.1 (ofT Rg.lo l (g.take i) p) (ofT Rg.hi l (g.take i) p) (rowT Rg.lo l x (p.take a.1)) (rowT Rg.hi l x (p.take a.1)) v0 v1 v2 v3 a.2.2.1 a.2.2.2) (fun a => p.length - a.1)
      (fun a => (tsets 79 (oT g p ++ [(11, .int .i64 i), (12, a.2.2.1), (13, a.2.2.2), (14, .int .i64 a.1)]), a.2.1)) (0, J, .nilsl, .nilsl) ⟨Nat.zero_le _, hI⟩ (by simp [go_sem, oT, vw]) rfl ?_
    rintro ⟨k, J, v4, v5⟩ ⟨hk, hR⟩ ihk
    dsimp only at hk hR ihk ⊢
    by_cases j1 : k < p.length
    · have j2 : (k : Int) < p.length := by omega
      have m1 : ¬ (k : Int) < 0 := by omega
      have j3 := idx_next j1 (by omega)
      have hy := get_at j1
      obtain ⟨y, hye⟩ : ∃ y, at1 p k = y := ⟨_, rfl⟩
      have hyr := hp.inn k j1
      rw [hye] at hy hyr
      have kc := rcurrent_run l h x y (by omega) (by omega)
      obtain ⟨⟨f0, f1, f4⟩, κ0, κ1, κ2, κ3, κ4, κ5, hF⟩ := hR
      have c0 := cells_at f0
      simp only [Lw.v, Lw.cs, Rg.v] at kc c0
      have hsnoc : ∀ f : Rg → Int, rowT f l x (p.take (k + 1)) = rowT f l x (p.take k) ++ [f (curOf l x y)] := fun f => by unfold rowT; rw [List.take_add_one, hy, List.map_append]; rfl
      have ihn := fun J' v4' v5' hh => ihk (k + 1, J', v4', v5') (by omega) ⟨j1, hh⟩
      clear ihk
      dsimp only at ihn
      rw [hsnoc, hsnoc] at ihn
      have hrl : ∀ f : Rg → Int, (rowT f l x (p.take k)).length = k := fun f => by unfold rowT; simp; omega
      have hl1 := hrl Rg.lo
      have hl2 := hrl Rg.hi
      generalize rowT Rg.lo l x (p.take k) = lo at *
      generalize rowT Rg.hi l x (p.take k) = hi at *
      generalize curOf l x y = c at *
      by_cases k0 : k = 0
      · have : lo = [] := List.length_eq_zero_iff.1 (by omega)
        subst this
        have : hi = [] := List.length_eq_zero_iff.1 (by omega)
        subst this
        obtain ⟨e4, e5, hn⟩ := hF.first
        subst e4; subst e5
        simp only [go_sem, oT, j2, vw, List.length_map, m0, m1, hx, hy, Int.toNat_natCast, c0]
        refine dP kc ?_
        simp only [go_sem, cells_end, j3]
        refine ⟨by have := hF.len 4 (by simp [oF]); omega, by decide, by simp, by simp, by simp, by decide, ?_⟩
        exact ihn _ _ _ ⟨OfH.mono ⟨f0, f1, f4⟩ fun q _ hq => List.getElem?_append_left hq, _, _, _, _, _, _, hn _ (J.length + 2) (J.length + 4) c.lo c.hi (by omega) (by omega) (by omega) (fun q _ hq => List.getElem?_append_left hq) (by rw [get_new rfl]; rfl) (by rw [get_new rfl]; rfl)⟩ _ (by simp [go_sem, oT, vw])
      · have lo0 : lo ≠ [] := by rintro rfl; simp at hl1; omega
        have hi0 : hi ≠ [] := by rintro rfl; simp at hl2; omega
        obtain ⟨r, s, e4, e5, hrs, hr, hs, g4, g5, hn⟩ := hF.next lo0 hi0
        subst e4; subst e5
        have hrl := (List.getElem?_eq_some_iff.1 g4).1
        have hsl := (List.getElem?_eq_some_iff.1 g5).1
        have q1 := fun Y => cells_more (cells_at g4) Y
        have q2 := fun Y x => put_more (H := J) hrl Y x
        have q3 := fun x Y => cells_more (H := J.set r x) (j := s) (cells_at (by rw [List.getElem?_set_ne hrs]; exact g5)) Y
        have q4 := fun z Y x => put_more (H := J.set r z) (j := s) (by simpa using hsl) Y x
        have q5 := fun x g sz es Y => cells_mid (A := J.set r x) (n := J.length) (by simp) g sz es Y
        have z0 := hF.len 4 (by simp [oF])
        have z1 : (lo.length + 1) * 8 ≤ 2 ^ 44 := by omega
        have z2 : (hi.length + 1) * 8 ≤ 2 ^ 44 := by omega
        have z3 : ¬ r = J.length := by omega
        have z4 : ¬ s = J.length := by omega
        simp only [go_sem, oT, j2, vw, List.length_map, m0, m1, hx, hy, Int.toNat_natCast, c0]
        refine dP kc ?_
        simp only [go_sem, cells_end, j3, q1, q2, q3, q4, q5, z1, z2]
        refine ⟨by omega, by simp; omega, by simp; omega, by simp; omega, ?_⟩
        exact ihn _ _ _ ⟨OfH.mono ⟨f0, f1, f4⟩ fun q hq hl => two_off hl (fun e => hr (by rw [← e]; exact hq)) (fun e => hs (by rw [← e]; exact hq)), _, _, _, _, _, _, hn _ c.lo c.hi (fun q _ hl a b => two_off hl a b) (two_r hrl hrs) (two_s hsl) (fun a ha => by have := hF.len a ha; simp; omega)⟩ _ (by simp [go_sem, oT, vw])
    · have j2 : ¬ (k : Int) < p.length := by omega
      obtain rfl : k = p.length := by omega
      rw [List.take_length] at hR
      have hl1 : (rowT Rg.lo l x p).length = p.length := by simp [rowT]
      have hl2 : (rowT Rg.hi l x p).length = p.length := by simp [rowT]
      have lo0 : rowT Rg.lo l x p ≠ [] := by intro e; rw [e] at hl1; exact p0 (List.length_eq_zero_iff.1 hl1.symm)
      have hi0 : rowT Rg.hi l x p ≠ [] := by intro e; rw [e] at hl2; exact p0 (List.length_eq_zero_iff.1 hl2.symm)
      have htn : ∀ f : Rg → Int, ofT f l (g.take (i + 1)) p = ofT f l (g.take i) p ++ [rowT f l x p] := fun f => by unfold ofT rowT; rw [List.take_add_one, hx, List.map_append]; rfl
      have htl : ∀ f : Rg → Int, (ofT f l (g.take i) p).length = i := fun f => by unfold ofT; simp; omega
      have ihn := fun J' v0' v1' v2' v3' hh => ih (i + 1, J', v0', v1', v2', v3') (by omega) ⟨h1, hh⟩
      clear ih ihk
      dsimp only at ihn
      rw [htn, htn] at ihn
      have t1 := htl Rg.lo
      have t2 := htl Rg.hi
      generalize rowT Rg.lo l x p = lo at *
      generalize rowT Rg.hi l x p = hi at *
      generalize ofT Rg.lo l (g.take i) p = L at *
      generalize ofT Rg.hi l (g.take i) p = U at *
      obtain ⟨⟨f0, f1, f4⟩, κ0, κ1, κ2, κ3, κ4, κ5, hF⟩ := hR
      have c4 := cells_at f4
      have z0 := hF.len 4 (by simp [oF])
      obtain ⟨r4, e4, -, -⟩ := ls_get hF.d4 lo0
      obtain ⟨r5, e5, -, -⟩ := ls_get hF.d5 hi0
      subst e4; subst e5
      have hlt4 := (List.getElem?_eq_some_iff.1 f4).1
      have q1 := fun Y => cells_more c4 Y
      by_cases i0 : i = 0
      · have : L = [] := List.length_eq_zero_iff.1 (by omega)
        subst this
        have : U = [] := List.length_eq_zero_iff.1 (by omega)
        subst this
        obtain ⟨e2, e3, hn⟩ := hF.row1 lo0 hi0
        subst e2; subst e3
        have q2 := fun Y x => put_more (H := J) hlt4 Y x
        have q3 := fun g sz es Y => cells_more (H := J.set 4 (some (Row.cells g sz es))) (j := 4) (cells_at (List.getElem?_set_self hlt4)) Y
        have q4 := fun z Y x => put_more (H := J.set 4 z) (j := 4) (by simpa using hlt4) Y x
        simp only [go_sem, oT, j2, vw, List.length_map, c4, h3, q1, q2, q3, q4, List.set_set]
        refine ⟨by simp; omega, by decide, by simp; omega, by simp; omega, by simp; omega, by decide, by simp; omega, ?_⟩
        have off : ∀ (A : Option Row) (Y : Heap) (q : Nat), q < J.length → q ≠ 4 → (J.set 4 A ++ Y)[q]? = J[q]? := fun A Y q hq hn => by rw [List.getElem?_append_left (by simpa using hq), List.getElem?_set_ne (fun e => hn e.symm)]
        have at4 : ∀ (A : Option Row) (Y : Heap), (J.set 4 A ++ Y)[4]? = some A := fun A Y => by rw [List.getElem?_append_left (by simpa using hlt4), List.getElem?_set_self hlt4]
        exact ihn _ _ _ _ _ ⟨⟨by rw [off _ _ 0 (by omega) (by omega)]; exact f0, by rw [off _ _ 1 (by omega) (by omega)]; exact f1, at4 _ _⟩, _, _, _, _, _, _, hn _ (J.length + 1) (J.length + 3) (by omega) (by omega) (by omega) (fun q hnF hq => off _ _ q hq (by rintro rfl; exact hnF (by simp [oF]))) (by rw [get_new (by simp)]; rfl) (by rw [get_new (by simp)]; rfl)⟩ _ (by simp [go_sem, oT, vw])
      · have L0 : L ≠ [] := by rintro rfl; simp at t1; omega
        have U0 : U ≠ [] := by rintro rfl; simp at t2; omega
        obtain ⟨r, s, vs, us, κ2', κ3', e2, e3, hrs, hr, hs, g2, g3, l2, l3, hn⟩ := hF.rows L0 U0 lo0 hi0
        subst e2; subst e3
        have hrl := (List.getElem?_eq_some_iff.1 g2).1
        have hsl := (List.getElem?_eq_some_iff.1 g3).1
        have r4' : r ≠ 4 := by rintro rfl; exact hr (by simp [oF])
        have s4' : s ≠ 4 := by rintro rfl; exact hs (by simp [oF])
        have z1 : (L.length + 1) * 24 ≤ 2 ^ 44 := by omega
        have z2 : (U.length + 1) * 24 ≤ 2 ^ 44 := by omega
        have a1 := fun Y => cells_more (cells_at g2) Y
        have a2 := fun Y x => put_more (H := J) hrl Y x
        have a3 := fun x Y => cells_more (H := J.set r x) (j := 4) (cells_at (by rw [List.getElem?_set_ne r4']; exact f4)) Y
        have a4 := fun x Y => cells_more (H := J.set r x) (j := s) (cells_at (by rw [List.getElem?_set_ne hrs]; exact g3)) Y
        have a5 := fun z Y x => put_more (H := J.set r z) (j := s) (by simpa using hsl) Y x
        have a6 := fun x y Y => cells_more (H := (J.set r x).set s y) (j := 4) (cells_at (by rw [List.getElem?_set_ne s4', List.getElem?_set_ne r4']; exact f4)) Y
        have a7 := fun z y Y x => put_more (H := (J.set r z).set s y) (j := 4) (by simpa using hlt4) Y x
        have a8 := fun x y g sz es Y => cells_more (H := ((J.set r x).set s y).set 4 (some (Row.cells g sz es))) (j := 4) (cells_at (List.getElem?_set_self (by simpa using hlt4))) Y
        have a9 := fun z y w Y x => put_more (H := ((J.set r z).set s y).set 4 w) (j := 4) (by simpa using hlt4) Y x
        simp only [go_sem, oT, j2, vw, List.length_map, c4, h3, q1, a1, a2, a3, a4, a5, a6, a7, a8, a9, List.set_set, z1, z2, l2, l3]
        refine ⟨by simp; omega, by simp; omega, by simp; omega, by simp; omega, by simp; omega, ?_⟩
        have off : ∀ (A B C : Option Row) (Y : Heap) (q : Nat), q < J.length → q ≠ r → q ≠ s → q ≠ 4 → (((J.set r A).set s B).set 4 C ++ Y)[q]? = J[q]? := fun A B C Y q hq n1 n2 n3 => by
          rw [List.getElem?_append_left (by simpa using hq), List.getElem?_set_ne (fun e => n3 e.symm), List.getElem?_set_ne (fun e => n2 e.symm), List.getElem?_set_ne (fun e => n1 e.symm)]
        have at4 : ∀ (A B C : Option Row) (Y : Heap), (((J.set r A).set s B).set 4 C ++ Y)[4]? = some C := fun A B C Y => by rw [List.getElem?_append_left (by simpa using hlt4), List.getElem?_set_self (by simpa using hlt4)]
        have atr : ∀ (A B C : Option Row) (Y : Heap), (((J.set r A).set s B).set 4 C ++ Y)[r]? = some A := fun A B C Y => by
          rw [List.getElem?_append_left (by simpa using hrl), List.getElem?_set_ne (fun e => r4' e.symm), List.getElem?_set_ne (fun e => hrs e.symm), List.getElem?_set_self hrl]
        have ats : ∀ (A B C : Option Row) (Y : Heap), (((J.set r A).set s B).set 4 C ++ Y)[s]? = some B := fun A B C Y => by
          rw [List.getElem?_append_left (by simpa using hsl), List.getElem?_set_ne (fun e => s4' e.symm), List.getElem?_set_self (by simpa using hsl)]
        have nr : ∀ q, oF q → q ≠ r := fun q hq e => hr (by rw [← e]; exact hq)
        have ns : ∀ q, oF q → q ≠ s := fun q hq e => hs (by rw [← e]; exact hq)
        exact ihn _ _ _ _ _ ⟨⟨by rw [off _ _ _ _ 0 (by omega) (nr 0 (by simp [oF])) (ns 0 (by simp [oF])) (by omega)]; exact f0, by rw [off _ _ _ _ 1 (by omega) (nr 1 (by simp [oF])) (ns 1 (by simp [oF])) (by omega)]; exact f1, at4 _ _ _ _⟩, _, _, _, _, _, _,
          hn _ (fun q hnF hq n1 n2 => off _ _ _ _ q hq n1 n2 (by rintro rfl; exact hnF (by simp [oF]))) (atr _ _ _ _) (ats _ _ _ _) (fun a ha => by have := hF.len a ha; simp; omega)⟩ _ (by simp [go_sem, oT, vw])
  · have h2 : ¬ (i : Int) < g.length := by omega
    obtain rfl : i = g.length := by omega
    rw [List.take_length] at hI
    obtain ⟨⟨f0, f1, f4⟩, κ0, κ1, κ2, κ3, κ4, κ5, hF⟩ := hI
    have hne : ∀ f : Rg → Int, ofT f l g p ≠ [] := fun f e => g0 (by unfold ofT at e; simpa using e)
    obtain ⟨ι, hD, hnd, hge⟩ := hF.all (hne _) (hne _)
    obtain ⟨_, b0, e0, -, -⟩ := vw_get hF.d0
    obtain ⟨_, b1, e1, -, -⟩ := vw_get hF.d1
    obtain ⟨b2, _, _, e2, -, -, -⟩ := tb_get hF.d2 (hne _)
    obtain ⟨b3, _, _, e3, -, -, -⟩ := tb_get hF.d3 (hne _)
    subst e0; subst e1; subst e2; subst e3
    have c4 := cells_at f4
    have c1 := cells_at f1
    have hlt1 := (List.getElem?_eq_some_iff.1 f1).1
    have q1 := fun x => put_lt (H := J) (x := x) hlt1
    have q2 := fun g sz es => cells_at (H := J.set 1 (some (Row.cells g sz es))) (j := 1) (List.getElem?_set_self hlt1)
    simp only [go_sem, oT, h2, vw, List.length_map, c4, c1, q1, q2]
    exact ⟨ι, ⟨_, rfl, ι, [], by simp, hD.set _ (fun h => hge 1 h (by simp [oF])), [], [], rfl, .int _ _ _ _, rfl⟩, hnd⟩
theorem fv_pure {f : Fa} (h0 : f.g ≠ []) (h1 : f.p ≠ []) (h2 : f.lo ≠ []) (h3 : f.hi ≠ []) (h4 : ∀ r ∈ f.lo, r ≠ []) (h5 : ∀ r ∈ f.hi, r ≠ []) : Pure 6 (Fv f) := by
  have iv : ∀ (d : Nat) (l : List Int), l ≠ [] → Pure (d + 2) (vw l) := fun d l hl => ⟨by simpa using hl, fun e he => by obtain ⟨x, _, rfl⟩ := List.mem_map.1 he; rfl⟩
  have tv : ∀ (t : List (List Int)), t ≠ [] → (∀ r ∈ t, r ≠ []) → Pure 5 (tw t) := fun t ht hr => ⟨by simpa using ht, fun e he => by obtain ⟨x, hx, rfl⟩ := List.mem_map.1 he; exact iv _ x (hr x hx)⟩
  intro e he
  simp only [Fcs, List.mem_cons, List.not_mem_nil, or_false] at he
  rcases he with rfl | rfl | rfl | rfl
  · exact iv _ _ h0
  · exact iv _ _ h1
  · exact tv _ h2 h4
  · exact tv _ h3 h5
theorem ofF_pure (l : Lw) {g p : List Int} (g0 : g ≠ []) (p0 : p ≠ []) : Pure 6 (Fv (ofF l g p)) := by
  have r0 : ∀ f : Rg → Int, ofT f l g p ≠ [] := fun f e => g0 (by unfold ofT at e; simpa using e)
  have r1 : ∀ f : Rg → Int, ∀ r ∈ ofT f l g p, r ≠ [] := fun f r hr e => by
    obtain ⟨x, _, rfl⟩ := List.mem_map.1 hr
    exact p0 (by simpa using e)
  exact fv_pure g0 p0 (r0 _) (r0 _) (r1 _) (r1 _)
def ofC (l : Lw) (g p : List Int) : AVal := .tup [Fv (ofF l g p), .int .i64 0]
theorem ofC_pure (l : Lw) {g p : List Int} (g0 : g ≠ []) (p0 : p ≠ []) : Pure 7 (ofC l g p) := by
  intro e he
  simp only [List.mem_cons, List.not_mem_nil, or_false] at he
  rcases he with rfl | rfl
  · exact ofF_pure l g0 p0
  · rfl
theorem rOf_run (l : Lw) (h : LwOK l) {g p : List Int} (hg : Asc (-1000000) g) (hp : Asc 0 p) : Ans Try.prog n_ref02_Of [l.v, vw g, vw p] [] (thaw 7 0 (ofC l g p)).1 (thaw 7 0 (ofC l g p)).2 :=
  ans_dat0 (ofC_pure l (by have := hg.pos; rintro rfl; simp at this) (by have := hp.pos; rintro rfl; simp at this)) (rOf_fn l h g p hg hp)
end Go.Proofs

namespace Go.Proofs
open Go Go.Sx Go.Fam
attribute [local irreducible] Run

section
variable {P : Program} {G : Ctx} {g : FuncId} {args : List AVal} {H : Heap} {k : Nat} {R : Runner} {l : List AOper} {fs : List Sx.Frame} {ρ : List AVal} {ms : List Nat} {Q : Goal} {dst : Option Nat} {x x' y : Row} {r : AVal} {j : Nat}
theorem cDN (h : Ans P g (.ptr 0 0 0 1 :: args) [some x] r [some x', some y]) (hK : R (.ops l) fs ⟨setD ρ dst (ren (fun _ => H.length) r), H.set j (some x') ++ [some y], ms⟩ Q) (hr : Bel (· = 1) r) (hj : H[j]? = some (some x) := by first | rfl | simp only [go_sem]) (hb : Bels (fun _ => False) args := by simp only [go_sem])
    (hx : x.bel (fun _ => False) := by simp only [go_sem]) (hx' : x'.bel (fun _ => False) := by simp only [go_sem]) (hy : y.bel (fun _ => False) := by simp only [go_sem])
    (hk : k ≤ H.length := by simp) (hms : ∀ q ∈ ms, q ≠ j ∧ H[q]? = some (some .dfr) := by simp) : CallR P G k R g (.ptr j 0 0 1 :: args) dst l fs ρ H ms Q :=
  callDN (Φ := fun _ : Unit => True) (r := fun _ => r) (x' := fun _ => x') (y := fun _ => y) (Ans.toE (a := ()) (r := fun _ : Unit => r) (L' := fun _ => [some x', some y]) h trivial) hj hb hx (fun _ _ => ⟨hr, hx', hy⟩) hk hms fun _ _ => hK
end

theorem FS.fix {F : Nat → Prop} {J J' : Heap} {g p : List Int} {L U : List (List Int)} {lo hi : List Int} {v0 v1 v2 v3 v4 v5 : AVal} {κ0 κ1 κ2 κ3 κ4 κ5 : List Nat} (h : FS F J g p L U lo hi v0 v1 v2 v3 v4 v5 κ0 κ1 κ2 κ3 κ4 κ5) (hJ : ∀ q, ¬ F q → J'[q]? = J[q]?) (hl : ∀ a, F a → a < J'.length) :
    FS F J' g p L U lo hi v0 v1 v2 v3 v4 v5 κ0 κ1 κ2 κ3 κ4 κ5 := by
  obtain ⟨u0, u1, u2, u3, u4, u5⟩ := h.up
  exact ⟨hl, h.d0.congr fun q hq => hJ q (u0 q hq), h.d1.congr fun q hq => hJ q (u1 q hq), h.d2.congr fun q hq => hJ q (u2 q hq), h.d3.congr fun q hq => hJ q (u3 q hq), h.d4.congr fun q hq => hJ q (u4 q hq), h.d5.congr fun q hq => hJ q (u5 q hq), h.nd, h.ge⟩
theorem all3_rows {J : Heap} : ∀ {κ : List Nat} {vs : List AVal} {t : List (List Int)}, All3 (Dat 4 J) κ vs (t.map vw) → ∀ (i : Nat) (row : List Int), t[i]? = some row → ∃ q, vs[i]? = some (.sl q 0 row.length) ∧ q ∈ κ ∧ J[q]? = some (some (.cells true 1 (ivL row))) := by
  intro κ vs t h i row hi
  obtain ⟨κ', v, h1, h2, h3⟩ := h.get i (vw row) (by rw [List.getElem?_map, hi]; rfl)
  obtain ⟨_, q, rfl, rfl, h4⟩ := vw_get h3
  exact ⟨q, h1, h2 q (by simp), h4⟩
theorem FS.read {F : Nat → Prop} {J : Heap} {g p : List Int} {L U : List (List Int)} {lo hi : List Int} {v0 v1 v2 v3 v4 v5 : AVal} {κ0 κ1 κ2 κ3 κ4 κ5 : List Nat} (h : FS F J g p L U lo hi v0 v1 v2 v3 v4 v5 κ0 κ1 κ2 κ3 κ4 κ5) (hL : L ≠ []) (hU : U ≠ []) {i : Nat} {a b : List Int} (ha : L[i]? = some a) (hb : U[i]? = some b) :
    ∃ r s vs us q1 q2, v2 = .sl r 0 L.length ∧ v3 = .sl s 0 U.length ∧ ¬ F r ∧ ¬ F s ∧ ¬ F q1 ∧ ¬ F q2 ∧ J[r]? = some (some (.cells true 1 vs)) ∧ J[s]? = some (some (.cells true 1 us)) ∧ vs.length = L.length ∧ us.length = U.length ∧ vs[i]? = some (.sl q1 0 a.length) ∧ us[i]? = some (.sl q2 0 b.length) ∧
      J[q1]? = some (some (.cells true 1 (ivL a))) ∧ J[q2]? = some (some (.cells true 1 (ivL b))) := by
  obtain ⟨r, vs, κ2', e2, k2, g2, a2⟩ := tb_get h.d2 hL
  obtain ⟨s, us, κ3', e3, k3, g3, a3⟩ := tb_get h.d3 hU
  obtain ⟨u0, u1, u2, u3, u4, u5⟩ := h.up
  obtain ⟨q1, m1, m2, m3⟩ := all3_rows a2 i a ha
  obtain ⟨q2, n1, n2, n3⟩ := all3_rows a3 i b hb
  subst k2; subst k3
  have l2 := a2.len
  have l3 := a3.len
  simp only [List.length_map] at l2 l3
  exact ⟨r, s, vs, us, q1, q2, e2, e3, u2 r (by simp), u3 s (by simp), u2 q1 (by simp [m2]), u3 q2 (by simp [n2]), g2, g3, l2, l3, m1, n1, m3, n3⟩

def famG (w : Int) : List Int := linesOf w (-9000) 3000 5
def famW1 (w : Int) : Int := linesEnd w (-9000) 3000 5
def famP (w : Int) : List Int := linesOf (famW1 w) 0 300000 5
def famW2 (w : Int) : Int := linesEnd (famW1 w) 0 300000 5
def famT (w : Int) : TabR := tabGo (famP w).length (famG w).length (dstep (famW2 w)) [] []
def famOf (w : Int) : Fa := if upto (famW2 w) 2 = 0 then ofF (lawOf (dstep (famW2 w))) (famG w) (famP w) else ⟨famG w, famP w, (famT w).lo, (famT w).hi⟩
def famEnd (w : Int) : Int := if upto (famW2 w) 2 = 0 then lawEnd (dstep (famW2 w)) else (famT w).w
theorem famG_asc (w : Int) : Asc (-1000000) (famG w) ∧ (famG w).length ≤ 5 := linesOf_ok (by omega) (by omega) (by omega) (by omega)
theorem famP_asc (w : Int) : Asc 0 (famP w) ∧ (famP w).length ≤ 5 := linesOf_ok (by omega) (by omega) (by omega) (by omega)
theorem famG_ne (w : Int) : famG w ≠ [] := by have := (famG_asc w).1.pos; intro e; rw [e] at this; simp at this
theorem famP_ne (w : Int) : famP w ≠ [] := by have := (famP_asc w).1.pos; intro e; rw [e] at this; simp at this
theorem thaw_ofC (l : Lw) (g p : List Int) (k : Nat) : thaw 7 k (ofC l g p) = (.tup [(thaw 6 k (Fv (ofF l g p))).1, .int .i64 0], (thaw 6 k (Fv (ofF l g p))).2) := by
  unfold ofC
  simp only [thaw, mapk, List.append_nil]
theorem thaw_fv (f : Fa) (k : Nat) : ∃ a b c d, (thaw 6 k (Fv f)).1 = .agg [.sl a 0 f.g.length, .sl b 0 f.p.length, .sl c 0 f.lo.length, .sl d 0 f.hi.length] := by
  unfold Fv Fcs vw tw
  simp only [thaw, mapk, List.length_map]
  exact ⟨_, _, _, _, rfl⟩

set_option maxHeartbeats 4000000 in
set_option maxRecDepth 20000 in
theorem famOf_law {w w1 w2 : Int} {gL pL : List Int} (k1 : Ans Try.prog n_kit_Lines [.ptr 0 0 0 1, .int .i64 (-9000), .int .i64 3000, .int .i64 5] [some (Dr w)] (.sl 1 0 gL.length) [some (Dr w1), some (.cells true 1 (gL.map (.int .i64)))])
    (k2 : Ans Try.prog n_kit_Lines [.ptr 0 0 0 1, .int .i64 0, .int .i64 300000, .int .i64 5] [some (Dr w1)] (.sl 1 0 pL.length) [some (Dr w2), some (.cells true 1 (pL.map (.int .i64)))]) (hg : Asc (-1000000) gL) (hp : Asc 0 pL) (g0 : gL ≠ []) (p0 : pL ≠ [])
    (b1 : (upto w2 2 == 0) = true) {w3 w4 : Int} (k3 : Ans Try.prog n_kit_Dice_One [.ptr 0 0 0 1, .int .i64 2] [some (Dr w2)] (.bool (upto w2 2 == 0)) [some (Dr w3)]) {l : Lw} (kl : Ans Try.prog n_kit_LawOf [.ptr 0 0 0 1] [some (Dr w3)] l.v [some (Dr w4)]) (hl : LwOK l) :
    Go.Sx.Fn Try.prog n_kit_FamilyOf [.ptr 0 0 0 1] [some (Dr w)] fun v H' => ∃ ι, Dat 6 H' ι v (Fv (ofF l gL pL)) ∧ ι.Nodup ∧ 0 ∉ ι ∧ H'[0]? = some (some (Dr w4)) := by
  have ko := rOf_run l hl hg hp
  rw [b1] at k3
  refine run_fn e_kit_FamilyOf fun G => ?_
  simp only [go_sem]
  refine cDN k1 ?_ (by rw [bel_sl])
  simp only [go_sem, ren]
  refine cDN k2 ?_ (by rw [bel_sl])
  simp only [go_sem, ren]
  refine cD k3 ?_
  simp only [go_sem]
  refine cD kl ?_ (hr := lw_bel _ _)
  simp only [go_sem]
  refine cFD ko (ofC_pure l g0 p0) 8 ⟨.inl ?_, .inl (vw_put (d := 6) (l := gL) g0 rfl rfl).frz, .inl (vw_put (d := 6) (l := pL) p0 rfl rfl).frz, trivial⟩ ?_
  · unfold Lw.v Lw.cs; simp [frz]
  rw [thaw_ofC]
  obtain ⟨a, b, c, d, e⟩ := thaw_fv (ofF l gL pL) 4
  have hpu := ofF_pure l g0 p0
  have hD := fun (A : Heap) (hA : A.length = 4) => thaw_dat (H := A ++ (thaw 6 4 (Fv (ofF l gL pL))).2) 4 hpu fun i hi => by rw [get_new hA]
  simp only [List.length_cons, List.length_nil, e] at hD ⊢
  generalize (thaw 6 4 (Fv (ofF l gL pL))).2 = Y at *
  simp only [go_sem]
  refine ⟨_, (hD [some (Dr w4), some (Row.cells false 4 [AVal.agg [.sl a 0 (ofF l gL pL).g.length, .sl b 0 (ofF l gL pL).p.length, .sl c 0 (ofF l gL pL).lo.length, .sl d 0 (ofF l gL pL).hi.length]]), some (Row.cells true 1 (gL.map (.int .i64))), some (Row.cells true 1 (pL.map (.int .i64)))] rfl).congr fun q hq => ?_, upFrom_nodup _ _, fun h0 => by have := upFrom_mem.1 h0; omega⟩
  have hq' := upFrom_mem.1 hq
  obtain ⟨q, rfl⟩ : ∃ i, q = 4 + i := ⟨q - 4, by omega⟩
  have hl' : q < Y.length := by omega
  simp only [List.cons_append, List.nil_append]
  rw [show 4 + q = q + 1 + 1 + 1 + 1 by omega]
  simp only [List.getElem?_cons_succ]
  rw [List.getElem?_append_left hl']

end Go.Proofs

