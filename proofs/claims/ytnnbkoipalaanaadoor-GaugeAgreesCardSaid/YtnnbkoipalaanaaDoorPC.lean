/- A part of the proof. -/
import Derived.Test.YtnnbkoipalaanaaDoorPB
import Derived.ProofKit
import Derived.LaidMore
set_option linter.unusedSimpArgs false
set_option linter.unusedVariables false
namespace Go.Proofs
open Go Go.Sx Go.Gauge
attribute [local irreducible] Run

theorem beyond_run (n a b : Int) : Ans Tryd.prog n_ref07_beyond [.int .i64 n, .int .i64 a, .int .i64 b] [] (.bool (!decide (a ≤ n ∧ n ≤ b))) [] := by
  refine spec_run e_ref07_beyond fun G => ?_
  by_cases h1 : n < a
  · have h2 : ¬ (a ≤ n ∧ n ≤ b) := by omega
    simp only [go_sem, h1, decide_eq_false h2]
  · by_cases h2 : b < n
    · have h3 : ¬ (a ≤ n ∧ n ≤ b) := by omega
      simp only [go_sem, h1, h2, decide_eq_false h3]
    · have h3 : (a ≤ n ∧ n ≤ b) := by omega
      simp only [go_sem, h1, h2, decide_eq_true h3]
theorem rcheckRange_yes {a b c d : Int} (h : c ≤ a ∧ a ≤ b ∧ b ≤ d) : Ans Tryd.prog n_ref07_checkRange [r2 a b, .int .i64 c, .int .i64 d] [] (.int .i64 0) [] := by
  have k1 := beyond_run a c d
  have k2 := beyond_run b c d
  rw [decide_eq_true (by omega)] at k1 k2
  have c1 : ¬ b < a := by omega
  refine spec_run e_ref07_checkRange fun G => ?_
  simp only [go_sem, r2]
  refine cP k1 ?_
  simp only [go_sem]
  refine cP k2 ?_
  simp only [go_sem, c1]
theorem rcheckMaking_yes {m : Mt} (h : MtOK m) : Ans Tryd.prog n_ref07_checkMaking [Mv m] [] (.int .i64 0) [] := by
  have k1 := rcheckRange_yes (a := m.glo) (b := m.ghi) (c := 500000) (d := 2000000) (by have := h.g; omega)
  have k2 := rcheckRange_yes (a := m.olo) (b := m.ohi) (c := -1000000) (d := 1000000) (by have := h.o; omega)
  simp only [r2] at k1 k2
  refine spec_run e_ref07_checkMaking fun G => ?_
  simp only [go_sem, Mv, Mc]
  refine cP k1 ?_
  simp only [go_sem]
  refine cP k2 ?_
  simp only [go_sem]

set_option maxHeartbeats 4000000 in
set_option maxRecDepth 10000 in
theorem rchain_run {bs : List Mt} (h : VB bs) {m0 : Int} (h0 : 0 ≤ m0) (h1 : m0 < bs.length) :
    Ans Tryd.prog n_ref07_chain [.view (bs.map Mv), .int .i64 m0] [] (.tup [.sl 0 0 (ch bs m0).length, .bool true]) [some (.cells true 1 ((ch bs m0).map (.int .i64)))] := by
  have hlen := h.len
  have hc0 := ch_len h (show -1 ≤ m0 by omega) h1
  have hst0 := ch_step h h0 h1
  have hx0 := mt_get h0 h1
  have hcm0 := h.cmp _ (mt_mem h0 h1)
  have n0 : ¬ m0 < 0 := by omega
  have l0 : (0 : Int) ≤ bs.length := by omega
  obtain ⟨T, hT⟩ : ∃ T, ch bs m0 = T := ⟨_, rfl⟩
  rw [hT] at hc0 hst0 ⊢
  refine Ans.keep (run_fn e_ref07_chain fun G => ?_) (by simp) (by simp [go_sem]) ⟨by rw [row_bel_cells]; simp only [go_sem], trivial⟩
  simp only [go_sem]
  refine loop_body 400 k_ref07_chain_r5.eq_1 ?_
  simp only [go_sem, h0, l0, n0, hx0, h1, Mv, Mc]
  refine ⟨by decide, ?_⟩
  refine loop_ind k_ref07_chain_r5.eq_1 (fun a : Int × List Int × Heap => -1 ≤ a.1 ∧ a.1 < bs.length ∧ 1 ≤ a.2.1.length ∧ a.2.1 ++ ch bs a.1 = T) (fun a => T.length - a.2.1.length)
    (fun a => (tsets 28 [(0, .view (bs.map Mv)), (1, .int .i64 a.1), (6, .sl 1 0 a.2.1.length)], some (.cells false 1 [.int .i64 m0]) :: some (.cells true 1 (a.2.1.map (.int .i64))) :: a.2.2)) ((mt bs m0).cmp, [m0], []) ⟨hcm0.1, hcm0.2, by simp, hst0.symm⟩ (by simp [go_sem]) rfl ?_
  rintro ⟨m, l, X⟩ ⟨g1, g2, g3, g4⟩ ih
  dsimp only at g1 g2 g3 g4 ih ⊢
  have hTl : l.length + (ch bs m).length = T.length := by rw [← g4]; simp
  by_cases c1 : m = -1
  · have c2 : ¬ (0 : Int) ≤ m := by omega
    have c3 : m < 0 := by omega
    rw [c1, ch_end, List.append_nil] at g4
    subst g4
    simp only [go_sem, c2, c3]
    refine kept_one 1 (by simp [ren, rens]) (by rw [row_bel_cells]; simp only [go_sem]) rfl
  · have c2 : (0 : Int) ≤ m := by omega
    have c3 : (l.length : Int) ≤ bs.length := by omega
    have n1 : ¬ m < 0 := by omega
    have hst := ch_step h c2 g2
    have hx := mt_get c2 g2
    have hcm := h.cmp _ (mt_mem c2 g2)
    have hq : (l.length + 1) * 8 ≤ 2 ^ 44 := by omega
    have ez : l.map (AVal.int .i64) ++ [.int .i64 m] = (l ++ [m]).map (.int .i64) := by simp
    have el : l.length + 1 = (l ++ [m]).length := by simp
    have hl2 : (ch bs m).length = (ch bs (mt bs m).cmp).length + 1 := by rw [hst]; rfl
    simp only [go_sem, c2, c3, n1, hx, g2, hq, Mv, Mc, List.length_map]
    rw [ez, el]
    exact ih ((mt bs m).cmp, l ++ [m], _) (by simp; omega) ⟨hcm.1, hcm.2, by simp, by rw [← g4, hst]; simp⟩ _ (by simp [go_sem])

set_option maxHeartbeats 4000000 in
set_option maxRecDepth 10000 in
theorem rCheck_yes {bs : List Mt} (h : VB bs) : Ans Tryd.prog n_ref07_Check [.view (bs.map Mv)] [] (.int .i64 0) [] := by
  have hlen := h.len
  have c0 : ¬ (12 : Int) < bs.length := by omega
  refine spec_run e_ref07_Check fun G => ?_
  simp only [go_sem, c0, List.length_map]
  refine loop_ind k_ref07_Check_r12.eq_1 (fun a : Nat × Heap => a.1 ≤ bs.length) (fun a => bs.length - a.1)
    (fun a => (tsets 57 [(0, .view (bs.map Mv)), (3, .int .i64 a.1)], a.2)) (0, []) (Nat.zero_le _) (by simp [go_sem]) rfl ?_
  rintro ⟨i, H⟩ hi ih
  dsimp only at hi ih ⊢
  by_cases c1 : i < bs.length
  · have c2 : (i : Int) < bs.length := by omega
    have n0 : ¬ (i : Int) < 0 := by omega
    have w1 : IntKind.i64.wrap ((i : Int) + 1) = ((i + 1 : Nat) : Int) := by rw [w64 (by omega)]; rfl
    have w2 : IntKind.i64.wrap ((bs.length : Int) - 1) = (bs.length : Int) - 1 := w64 (by omega)
    obtain ⟨z, hz⟩ : ∃ z, bs[i]? = some z := ⟨_, List.getElem?_eq_getElem c1⟩
    have hm := List.mem_of_getElem? hz
    have hs := (h.all z hm).s
    have hd := (h.all z hm).d
    have hc := h.cmp z hm
    have k := rcheckMaking_yes (h.all z hm)
    have k1 := beyond_run z.step 1 1000000
    have k2 := beyond_run z.due 0 1000000000
    have k3 := beyond_run z.cmp (-1) ((bs.length : Int) - 1)
    rw [decide_eq_true (by omega)] at k1 k2 k3
    simp only [Mv, Mc] at k
    simp only [go_sem, c2, n0, hz, Mv, Mc, cells_end, get_end, put_at_end, List.length_map]
    refine cP k ?_
    simp only [go_sem, cells_end, get_end]
    refine cP k1 ?_
    simp only [go_sem, cells_end, get_end]
    refine cP k2 ?_
    simp only [go_sem, cells_end, get_end, w2, List.length_map]
    refine cP k3 ?_
    simp only [go_sem, w1]
    exact ih (i + 1, _) (by dsimp only; omega) c1 _ (by simp [go_sem])
  · have c2 : ¬ (i : Int) < bs.length := by omega
    simp only [go_sem, c2, List.length_map]
    refine loop_ind k_ref07_Check_r19.eq_1 (fun a : Nat × Heap => a.1 ≤ bs.length) (fun a => bs.length - a.1)
      (fun a => (tsets 57 [(0, .view (bs.map Mv)), (6, .int .i64 a.1)], a.2)) (0, H) (Nat.zero_le _) (by simp [go_sem]) rfl ?_
    clear ih
    rintro ⟨i, H⟩ hi ih
    dsimp only at hi ih ⊢
    by_cases c1 : i < bs.length
    · have c2 : (i : Int) < bs.length := by omega
      have w1 : IntKind.i64.wrap ((i : Int) + 1) = ((i + 1 : Nat) : Int) := by rw [w64 (by omega)]; rfl
      have k := rchain_run h (m0 := i) (by omega) c2
      simp only [go_sem, c2, List.length_map]
      refine cN1 k ?_
      simp only [go_sem, ren, rens, w1]
      exact ih (i + 1, _) (by dsimp only; omega) c1 _ (by simp [go_sem])
    · have c2 : ¬ (i : Int) < bs.length := by omega
      simp only [go_sem, c2, List.length_map]
theorem rChain_run {bs : List Mt} (h : VB bs) {m0 : Int} (h0 : 0 ≤ m0) (h1 : m0 < bs.length) :
    Ans Tryd.prog n_ref07_Chain [.view (bs.map Mv), .int .i64 m0] [] (.sl 0 0 (ch bs m0).length) [some (.cells true 1 ((ch bs m0).map (.int .i64)))] := by
  have hlen := h.len
  have w2 : IntKind.i64.wrap ((bs.length : Int) - 1) = (bs.length : Int) - 1 := w64 (by omega)
  have k1 := beyond_run m0 0 ((bs.length : Int) - 1)
  rw [decide_eq_true (by omega)] at k1
  refine spec_run e_ref07_Chain fun G => ?_
  simp only [go_sem]
  refine cP (rCheck_yes h) ?_
  simp only [go_sem, w2, List.length_map]
  refine cP k1 ?_
  simp only [go_sem]
  refine cN1 (rchain_run h h0 h1) ?_
  simp only [go_sem, ren, rens]
  exact ⟨_, rfl⟩
end Go.Proofs

namespace Go.Proofs
open Go Go.Sx Go.Gauge
attribute [local irreducible] Run

def sel3 (t a b c : Int) : Int := if t = 0 then a else if t = 1 then b else c
theorem sel3_get (t a b c : Int) (ht : 0 ≤ t ∧ t < 3) : [AVal.int .i64 a, .int .i64 b, .int .i64 c][t.toNat]? = some (.int .i64 (sel3 t a b c)) := by
  obtain rfl | rfl | rfl : t = 0 ∨ t = 1 ∨ t = 2 := by omega
  · rfl
  · rfl
  · rfl
def shw (bs : List Mt) (t : Int) : List Int → Int → Int → Int × Int
  | [], x, w => (x, w)
  | m :: ms, x, w => (sel3 t (mkLo (mt bs m) (shw bs t ms x w).1) (mkHi (mt bs m) (shw bs t ms x w).1) (btw (shw bs t ms x w).2 (mkLo (mt bs m) (shw bs t ms x w).1) (mkHi (mt bs m) (shw bs t ms x w).1)), dstep (shw bs t ms x w).2)
theorem shw_rd {bs : List Mt} {t : Int} : ∀ {l : List Int} {x w : Int}, (∀ m ∈ l, MtOK (mt bs m)) → Rd bs l x (shw bs t l x w).1
  | [], _, _, _ => rfl
  | m :: ms, x, w, h => by
    have hm := h m List.mem_cons_self
    have hle := mk_le hm (shw bs t ms x w).1
    have hb := btw_in (w := (shw bs t ms x w).2) hle
    refine ⟨(shw bs t ms x w).1, shw_rd fun k hk => h k (List.mem_cons_of_mem _ hk), ?_⟩
    simp only [shw, sel3]
    split
    · omega
    · split <;> omega
def shN (m : Mt) (v w : Int) : Int × Int :=
  if m.step < 2 * (v - v / m.step * m.step) then (v / m.step * m.step + m.step, w)
  else if 2 * (v - v / m.step * m.step) = m.step then (if upto w 2 = 0 then v / m.step * m.step + m.step else v / m.step * m.step, dstep w) else (v / m.step * m.step, w)
def showR (bs : List Mt) (m x w : Int) : Int × Int := shN (mt bs m) (shw bs (upto w 3) (ch bs m) x (dstep w)).1 (shw bs (upto w 3) (ch bs m) x (dstep w)).2
theorem low_in {v s : Int} (h : 1 ≤ s) : v - s < v / s * s ∧ v / s * s ≤ v := by
  have e := Int.emod_add_mul_ediv v s
  have h1 := Int.emod_nonneg v (show s ≠ 0 by omega)
  have h2 := Int.emod_lt_of_pos v (show 0 < s by omega)
  have e2 : s * (v / s) = v / s * s := Int.mul_comm _ _
  omega
theorem shN_near (m : Mt) (v w : Int) (h : 1 ≤ m.step) : 2 * ((shN m v w).1 - v) ≤ m.step ∧ 2 * (v - (shN m v w).1) ≤ m.step := by
  have h1 := low_in (v := v) h
  unfold shN
  split
  · dsimp only; omega
  · split
    · dsimp only; split <;> omega
    · dsimp only; omega
theorem shN_mul (m : Mt) (v w : Int) : (shN m v w).1 % m.step = 0 := by
  have h1 : v / m.step * m.step % m.step = 0 := Int.mul_emod_left _ _
  have h2 : (v / m.step * m.step + m.step) % m.step = 0 := by rw [Int.add_emod_right]; exact h1
  unfold shN
  split
  · exact h2
  · split
    · dsimp only
      split
      · exact h2
      · exact h1
    · exact h1

theorem mv_frz (ms : List Mt) (d : Nat) (H : Heap) : (ms.map Mv).map (frz (d + 2) H) = ms.map Mv := by rw [List.map_map]; rfl
theorem bs_frz {bs : List Mt} {H : Heap} {j n : Nat} {g : Bool} (h : H[j]? = some (some (.cells g 7 (bs.map Mv)))) (hn : n = bs.length) : frz 6 H (.sl j 0 n) = .view (bs.map Mv) := by
  rw [frz_sl (d := 5) h (by simpa using hn), mv_frz]

set_option maxHeartbeats 8000000 in
set_option maxRecDepth 10000 in
theorem Showing_run {bs : List Mt} (h : VB bs) {m x : Int} (h0 : 0 ≤ m) (h1 : m < bs.length) (hx : -1000000000 ≤ x ∧ x ≤ 1000000000) (w : Int) (g : Bool) :
    Ans Tryd.prog n_kit_Showing [.ptr 0 0 0 1, .sl 1 0 bs.length, .int .i64 m, .int .i64 x] [some (Dr w), some (.cells g 7 (bs.map Mv))] (.int .i64 (showR bs m x w).1) [some (Dr (showR bs m x w).2), some (.cells g 7 (bs.map Mv))] := by
  have hlen := h.len
  have hcl := ch_len h (show -1 ≤ m by omega) h1
  have hmem := ch_mem h _ m rfl (by omega) h1
  have hall : ∀ k ∈ ch bs m, MtOK (mt bs k) := fun k hk => h.all _ (mt_mem (hmem k hk).1 (hmem k hk).2)
  have ht := upto_in (w := w) (n := 3) (by decide)
  have hxm := mt_get h0 h1
  have hsm := (h.all _ (mt_mem h0 h1)).s
  have nm0 : ¬ m < 0 := by omega
  have gl : g = false ∨ True := .inr trivial
  unfold showR
  obtain ⟨t, htt⟩ : ∃ t, upto w 3 = t := ⟨_, rfl⟩
  obtain ⟨w0, hw0⟩ : ∃ w0, dstep w = w0 := ⟨_, rfl⟩
  obtain ⟨l, hl⟩ : ∃ l, ch bs m = l := ⟨_, rfl⟩
  have kc := rChain_run h h0 h1
  rw [hl] at hcl hmem hall kc
  rw [htt] at ht
  rw [htt, hw0, hl]
  have w1 : IntKind.i64.wrap ((l.length : Int) - 1) = (l.length : Int) - 1 := w64 (by omega)
  refine spec_run e_kit_Showing fun G => ?_
  simp only [go_sem]
  refine cFN kc 6 ⟨.inl (bs_frz (g := g) rfl rfl), .inl rfl, trivial⟩ ?_ (hx := by rw [row_bel_cells]; simp only [go_sem]) (hxn := row_nv_cells _ _ (nvs_ints _ _ ▸ trivial))
  simp only [go_sem, ren, rens]
  refine cD (upto_ok w 3 (by decide)) ?_
  simp only [go_sem, htt, hw0, w1]
  refine loop_ind k_kit_Showing_r8.eq_1 (fun a : Nat × Heap => a.1 ≤ l.length) (fun a => a.1)
    (fun a => (tsets 78 [(0, .ptr 0 0 0 1), (1, .sl 1 0 bs.length), (2, .int .i64 m), (3, .int .i64 (shw bs t (l.drop a.1) x w0).1), (9, .sl 2 0 l.length), (10, .int .i64 t), (11, .int .i64 ((a.1 : Int) - 1))],
      some (Dr (shw bs t (l.drop a.1) x w0).2) :: some (.cells g 7 (bs.map Mv)) :: some (.cells true 1 (l.map (.int .i64))) :: a.2)) (l.length, []) (Nat.le_refl _) (by simp [go_sem, shw]) (by simp [shw]) ?_
  rintro ⟨k, X⟩ hk ih
  dsimp only at hk ih ⊢
  have hrd : Rd bs (l.drop k) x (shw bs t (l.drop k) x w0).1 := shw_rd fun j hj => hall j (List.mem_of_mem_drop hj)
  have hbd := hrd.bd (fun j hj => hall j (List.mem_of_mem_drop hj)) hx
  have hb2 := bnd_rch (n := (l.drop k).length) (by rw [List.length_drop]; omega)
  rcases k with _ | k
  · have c1 : ¬ (0 : Int) ≤ ((0 : Nat) : Int) - 1 := by omega
    rw [List.drop_zero] at *
    obtain ⟨v, hv⟩ : ∃ v, (shw bs t l x w0).1 = v := ⟨_, rfl⟩
    obtain ⟨w2, hw2⟩ : ∃ w2, (shw bs t l x w0).2 = w2 := ⟨_, rfl⟩
    rw [hv] at hbd ⊢
    rw [hw2]
    have lo := low_in (v := v) hsm.1
    obtain ⟨q, hq⟩ : ∃ q, v / (mt bs m).step = q := ⟨_, rfl⟩
    have kd := refDown_run v (mt bs m).step (by omega) (by omega)
    have e1 : shN (mt bs m) v w2 = if (mt bs m).step < 2 * (v - q * (mt bs m).step) then (q * (mt bs m).step + (mt bs m).step, w2)
      else if 2 * (v - q * (mt bs m).step) = (mt bs m).step then (if upto w2 2 = 0 then q * (mt bs m).step + (mt bs m).step else q * (mt bs m).step, dstep w2) else (q * (mt bs m).step, w2) := by rw [← hq]; rfl
    rw [e1]
    rw [hq] at lo kd
    have u1 : IntKind.i64.wrap (q * (mt bs m).step) = q * (mt bs m).step := w64 (by omega)
    have u2 : IntKind.i64.wrap (v - q * (mt bs m).step) = v - q * (mt bs m).step := w64 (by omega)
    have u3 : IntKind.i64.wrap (2 * (v - q * (mt bs m).step)) = 2 * (v - q * (mt bs m).step) := w64 (by omega)
    have u4 : IntKind.i64.wrap (q * (mt bs m).step + (mt bs m).step) = q * (mt bs m).step + (mt bs m).step := w64 (by omega)
    obtain ⟨p, hp⟩ : ∃ p, q * (mt bs m).step = p := ⟨_, rfl⟩
    rw [hp] at lo u1 u2 u3 u4 ⊢
    simp only [go_sem, c1, nm0, hxm, h1, Mv, Mc, List.length_map]
    refine cP kd ?_
    by_cases d1 : (mt bs m).step < 2 * (v - p)
    · simp only [go_sem, hp, u1, u2, u3, d1, u4]
      exact ⟨_, rfl⟩
    · by_cases d2 : 2 * (v - p) = (mt bs m).step
      · have d3 : (2 * (v - p) == (mt bs m).step) = true := beq_iff_eq.2 d2
        simp only [go_sem, hp, u1, u2, u3, d1, d3]
        refine cD (one_ok _ 2 (by decide)) ?_
        by_cases d4 : upto w2 2 = 0
        · have d5 : (upto w2 2 == 0) = true := by rw [d4]; rfl
          simp only [go_sem, d4, d5, u4, if_pos d2]
          exact ⟨_, rfl⟩
        · have d5 : (upto w2 2 == 0) = false := beq_eq_false_iff_ne.2 d4
          simp only [go_sem, d4, d5, if_pos d2]
          exact ⟨_, rfl⟩
      · have d3 : (2 * (v - p) == (mt bs m).step) = false := beq_eq_false_iff_ne.2 d2
        simp only [go_sem, hp, u1, u2, u3, d1, d3, if_neg d2]
        exact ⟨_, rfl⟩
  · have hk' : k < l.length := by omega
    have ei : ((k + 1 : Nat) : Int) - 1 = k := by omega
    have c1 : (0 : Int) ≤ (k : Int) := by omega
    have nk : ¬ (k : Int) < 0 := by omega
    obtain ⟨mk, hmk⟩ : ∃ mk, l[k]? = some mk := ⟨_, List.getElem?_eq_getElem hk'⟩
    have hml := List.mem_of_getElem? hmk
    obtain ⟨m1, m2⟩ := hmem mk hml
    have nmk : ¬ mk < 0 := by omega
    have hxk := mt_get m1 m2
    have hdr : l.drop k = mk :: l.drop (k + 1) := by
      rw [List.drop_eq_getElem_cons hk']
      have := List.getElem?_eq_getElem hk'
      rw [hmk] at this; cases this; rfl
    have ihk := ih (k, X)
    rw [ei]
    have hsh : shw bs t (l.drop k) x w0 = (sel3 t (mkLo (mt bs mk) (shw bs t (l.drop (k + 1)) x w0).1) (mkHi (mt bs mk) (shw bs t (l.drop (k + 1)) x w0).1) (btw (shw bs t (l.drop (k + 1)) x w0).2 (mkLo (mt bs mk) (shw bs t (l.drop (k + 1)) x w0).1) (mkHi (mt bs mk) (shw bs t (l.drop (k + 1)) x w0).1)), dstep (shw bs t (l.drop (k + 1)) x w0).2) := by
      rw [hdr]; rfl
    have ihk := fun X' => ih (k, X') (by dsimp only; omega) (by dsimp only; omega)
    dsimp only at ihk
    rw [hsh] at ihk
    clear ih hsh
    obtain ⟨u, hu⟩ : ∃ u, (shw bs t (l.drop (k + 1)) x w0).1 = u := ⟨_, rfl⟩
    obtain ⟨wu, hwu⟩ : ∃ wu, (shw bs t (l.drop (k + 1)) x w0).2 = wu := ⟨_, rfl⟩
    rw [hu] at hbd ihk ⊢
    rw [hwu] at ihk ⊢
    have km := Made_run (hall mk hml) (x := u) (by simp only [rch]; omega)
    have hb3 := mk_bd (hall mk hml) hbd
    have hb4 := mk_le (hall mk hml) u
    obtain ⟨lo, hlo⟩ : ∃ lo, mkLo (mt bs mk) u = lo := ⟨_, rfl⟩
    obtain ⟨hi, hhi⟩ : ∃ hi, mkHi (mt bs mk) u = hi := ⟨_, rfl⟩
    rw [hlo, hhi] at km hb3 hb4 ihk
    have ki := in_run wu lo hi (by omega) hb4 (by omega)
    simp only [Mv, Mc, r2] at km ki
    have w5 : IntKind.i64.wrap ((k : Int) - 1) = (k : Int) - 1 := w64 (by omega)
    have s3 := sel3_get t lo hi (btw wu lo hi) ht
    have nt : ¬ t < 0 := by omega
    simp only [go_sem, c1, nk, hmk, nmk, hxk, m2, Mv, Mc, List.length_map]
    refine ⟨by omega, ?_⟩
    refine cP km ?_
    simp only [go_sem, cells_end, get_end, put_at_end]
    refine dD ki ?_
    simp only [go_sem, nt, s3, w5, cells_end, get_end]
    exact ⟨ht.2, ihk _ _ (by simp [go_sem])⟩
end Go.Proofs

namespace Go.Proofs
open Go Go.Sx
def pchk : Option (AVal × Heap) → Bool
  | some (.tup [.agg [.int .i64 3, .int .i64 0], .int .i64 0], _) => true
  | _ => false
theorem pchk_eq {o : Option (AVal × Heap)} (h : pchk o = true) : ∃ H', o = some (.tup [.agg [.int .i64 3, .int .i64 0], .int .i64 0], H') := by
  unfold pchk at h
  split at h
  · exact ⟨_, rfl⟩
  · cases h
theorem plan_ex : pchk (exFn tab 3000 40 n_gauge_Plan [.int .i64 10, .int .i64 0, .int .i64 5, .int .i64 10, .int .i64 10] []) = true := by kernel_rfl
theorem plan_run : Ans Tryd.prog n_gauge_Plan [.int .i64 10, .int .i64 0, .int .i64 5, .int .i64 10, .int .i64 10] [] (.tup [.agg [.int .i64 3, .int .i64 0], .int .i64 0]) [] := by
  obtain ⟨H', h1⟩ := pchk_eq plan_ex
  exact (spec_ex mixed tab_ok h1).mono fun v H'' hv => ⟨hv.1, H'', rfl⟩
end Go.Proofs

namespace Go.Proofs
open Go Go.Sx
def kchk : Option (AVal × Heap) → Bool
  | some (.tup [.agg [.int .i64 5000, .int .i64 1000000], .int .i64 0], _) => true
  | _ => false
theorem kchk_eq {o : Option (AVal × Heap)} (h : kchk o = true) : ∃ H', o = some (.tup [.agg [.int .i64 5000, .int .i64 1000000], .int .i64 0], H') := by
  unfold kchk at h
  split at h
  · exact ⟨_, rfl⟩
  · cases h
theorem keeps_ex : kchk (exFn tab 3000 40 n_gauge_Keeps [.agg [.int .i64 10, .int .i64 20], .agg [.int .i64 0, .int .i64 1], .agg [.int .i64 0, .int .i64 25]] []) = true := by kernel_rfl
theorem keeps_run : Ans Tryd.prog n_gauge_Keeps [.agg [.int .i64 10, .int .i64 20], .agg [.int .i64 0, .int .i64 1], .agg [.int .i64 0, .int .i64 25]] [] (.tup [.agg [.int .i64 5000, .int .i64 1000000], .int .i64 0]) [] := by
  obtain ⟨H', h1⟩ := kchk_eq keeps_ex
  exact (spec_ex mixed tab_ok h1).mono fun v H'' hv => ⟨hv.1, H'', rfl⟩
end Go.Proofs

namespace Go.Proofs
open Go Go.Sx Go.Gauge
attribute [local irreducible] Run

def vrd (a b c d : Int) : Int := if b < a ∨ d < c then 0 else if c ≤ a ∧ b ≤ d then 1 else if min b d < max a c then 2 else 3
theorem Verdict_run (a b c d : Int) : Ans Tryd.prog n_gauge_Verdict [r2 a b, r2 c d] [] (.int .i64 (vrd a b c d)) [] := by
  have k1 := isEmpty_run a b
  have k2 := isEmpty_run c d
  have k3 := common_run a b c d
  have k4 := isEmpty_run (max a c) (min b d)
  simp only [r2] at k1 k2 k3 k4
  refine spec_run e_gauge_Verdict fun G => ?_
  simp only [go_sem, r2]
  refine cP k1 ?_
  by_cases c1 : b < a
  · have e : vrd a b c d = 0 := if_pos (.inl c1)
    simp only [go_sem, c1, e]
  · simp only [go_sem, c1]
    refine cP k2 ?_
    by_cases c2 : d < c
    · have e : vrd a b c d = 0 := if_pos (.inr c2)
      simp only [go_sem, c2, e]
    · have e1 : vrd a b c d = if c ≤ a ∧ b ≤ d then 1 else if min b d < max a c then 2 else 3 := if_neg (by omega)
      rw [e1]
      have fin : ¬ (c ≤ a ∧ b ≤ d) → ∀ P : Prop, (min b d < max a c → P) → (¬ min b d < max a c → P) → P := fun _ P h1 h2 => by
        by_cases h : min b d < max a c
        · exact h1 h
        · exact h2 h
      by_cases c3 : c ≤ a
      · by_cases c4 : b ≤ d
        · simp only [go_sem, c2, c3, c4]
        · by_cases c5 : min b d < max a c
          · simp only [go_sem, c2, c3, c4]
            refine cP k3 ?_
            simp only [go_sem]
            refine cP k4 ?_
            simp only [go_sem, c5]
          · simp only [go_sem, c2, c3, c4]
            refine cP k3 ?_
            simp only [go_sem]
            refine cP k4 ?_
            simp only [go_sem, c5]
      · by_cases c5 : min b d < max a c
        · simp only [go_sem, c2, c3]
          refine cP k3 ?_
          simp only [go_sem]
          refine cP k4 ?_
          simp only [go_sem, c5]
        · simp only [go_sem, c2, c3]
          refine cP k3 ?_
          simp only [go_sem]
          refine cP k4 ?_
          simp only [go_sem, c5]
theorem span_run (a b : Int) : Ans Tryd.prog n_law07_span [.int .i64 a, .int .i64 b] [] (.agg [.int .i64 a, .int .i64 b]) [] := by
  refine spec_run e_law07_span fun G => ?_
  simp only [go_sem]

def exB : List Mt := [⟨1000000, 1000000, 0, 0, 10, -1, 100⟩, ⟨990000, 1010000, -5, 5, 1, 0, 50⟩]
theorem exB_ok : VB exB := by
  refine VB.made (by decide) (fun x hx => ?_) fun i x hx => ?_
  · simp only [exB, List.mem_cons, List.not_mem_nil, or_false] at hx
    rcases hx with rfl | rfl
    · exact ⟨by decide, by decide, by decide, by decide⟩
    · exact ⟨by decide, by decide, by decide, by decide⟩
  · match i, hx with
    | 0, hx => simp [exB] at hx; subst hx; decide
    | 1, hx => simp [exB] at hx; subst hx; decide
    | i + 2, hx => simp [exB] at hx
theorem lf_val {m : Mt} (h : MtOK m) {y L : Int} (hL : -rch < L ∧ L ≤ rch) (h1 : y ≤ mkHi m L) (h2 : mkHi m (L - 1) < y) : lf m y = L := by
  have a1 := (lf_iff h (y := y) (x := L) (by omega) hL.2).1 h1
  have a2 : ¬ lf m y ≤ L - 1 := fun e => by
    have := (lf_iff h (y := y) (x := L - 1) (by omega) (by omega)).2 e
    omega
  omega
theorem mf_val {m : Mt} (h : MtOK m) {y L : Int} (hL : -rch ≤ L ∧ L < rch) (h1 : mkLo m L ≤ y) (h2 : y < mkLo m (L + 1)) : mf m y = L := by
  have a1 := (mf_iff h (y := y) (x := L) hL.1 (by omega)).1 h1
  have a2 : ¬ L + 1 ≤ mf m y := fun e => by
    have := (mf_iff h (y := y) (x := L + 1) (by omega) (by omega)).2 e
    omega
  omega
theorem exB_true : tru exB 1 1000 = some (985, 1016) := by
  have h1 : MtOK (mt exB 1) := exB_ok.all _ (mt_mem (by decide) (by decide))
  have h0 : MtOK (mt exB 0) := exB_ok.all _ (mt_mem (by decide) (by decide))
  have hc : ch exB 1 = [1, 0] := by decide
  have hs : (mt exB 1).step = 1 := rfl
  unfold tru
  rw [hc, hs]
  have e1 : lf (mt exB 1) 1000 = 985 := lf_val h1 (by decide) (by decide) (by decide)
  have e2 : mf (mt exB 1) 1000 = 1016 := mf_val h1 (by decide) (by decide) (by decide)
  have e3 : lf (mt exB 0) 985 = 985 := lf_val h0 (by decide) (by decide) (by decide)
  have e4 : mf (mt exB 0) 1016 = 1016 := mf_val h0 (by decide) (by decide) (by decide)
  have w1 : (1000 : Int) - 1 / 2 = 1000 := by decide
  have w2 : (1000 : Int) + 1 / 2 = 1000 := by decide
  rw [w1, w2]
  simp only [tfr, e1, e2, e3, e4]
  decide
theorem bench_ex : Ans Tryd.prog n_law07_bench [] [] (.sl 0 0 2) [some (.cells false 7 (exB.map Mv))] := by
  refine spec_run e_law07_bench fun G => ?_
  simp only [go_sem]
  refine cP (span_run 1000000 1000000) ?_
  simp only [go_sem]
  refine cP (span_run 990000 1010000) ?_
  simp only [go_sem]
  refine cP (span_run (-5) 5) ?_
  simp only [go_sem]
  exact ⟨_, rfl⟩

theorem zs_frz (H : Heap) (h : H[4]? = some (some (.cells false 7 (List.replicate 13 (.agg [.int .i64 0, .int .i64 0, .int .i64 0, .int .i64 0, .int .i64 0, .int .i64 0, .int .i64 0]))))) :
    frz 6 H (.sl 4 0 13) = .view (List.replicate 13 (.agg [.int .i64 0, .int .i64 0, .int .i64 0, .int .i64 0, .int .i64 0, .int .i64 0, .int .i64 0])) := by
  rw [frz_sl (d := 5) h (by simp), List.map_replicate]; rfl

set_option maxHeartbeats 4000000 in
set_option maxRecDepth 10000 in
theorem awake_ok : Ans Tryd.prog n_law07_awake [] [] (.bool true) [] := by
  have kt := True_run exB_ok (m0 := 1) (n := 1000) (by decide) (by decide) (by decide) (by decide)
  rw [exB_true] at kt
  simp only [truV] at kt
  have kv := Verdict_run 95 105 106 200
  simp only [r2] at kv
  have ev : vrd 95 105 106 200 = 2 := by decide
  rw [ev] at kv
  refine spec_run e_law07_awake fun G => ?_
  simp only [go_sem]
  refine cN1 bench_ex ?_
  simp only [go_sem, ren, rens]
  refine cF kt 6 ⟨.inl (bs_frz (g := false) rfl rfl), .inl rfl, .inl rfl, trivial⟩ ?_
  simp only [go_sem]
  refine cP plan_run ?_
  simp only [go_sem]
  refine cP (span_run 10 20) ?_
  simp only [go_sem]
  refine cP (span_run 0 1) ?_
  simp only [go_sem]
  refine cP (span_run 0 25) ?_
  simp only [go_sem]
  refine cP keeps_run ?_
  simp only [go_sem]
  refine dP (span_run 985 1016) ?_
  simp only [go_sem]
  refine dP (span_run 5000 1000000) ?_
  simp only [go_sem]
  refine cP (span_run 95 105) ?_
  simp only [go_sem]
  refine cP (span_run 106 200) ?_
  simp only [go_sem]
  refine cP kv ?_
  simp only [go_sem]
  refine ⟨by decide, ?_⟩
  refine cF (Check_full (es := List.replicate 13 (.agg [.int .i64 0, .int .i64 0, .int .i64 0, .int .i64 0, .int .i64 0, .int .i64 0, .int .i64 0])) (by simp) (by simp only [go_sem])) 6 ⟨.inl (zs_frz _ rfl), trivial⟩ ?_
  simp only [go_sem]
end Go.Proofs

namespace Go.Proofs
open Go Go.Sx Go.Gauge
attribute [local irreducible] Run

theorem mod_in (a b : Int) (hb : 1 ≤ b) : 0 ≤ a % b ∧ a % b < b := ⟨Int.emod_nonneg _ (by omega), Int.emod_lt_of_pos _ (by omega)⟩
theorem bk_bel (bs : List Mt) (g : Bool) (S : Nat → Prop) : (Row.cells g 7 (bs.map Mv)).bel S := by rw [row_bel_cells]; simp only [go_sem]
theorem showR_ok {bs : List Mt} (h : VB bs) {m x w : Int} (h0 : 0 ≤ m) (h1 : m < bs.length) (hx : -1000000000 ≤ x ∧ x ≤ 1000000000) :
    (showR bs m x w).1 % (mt bs m).step = 0 ∧ ∃ a b, tru bs m (showR bs m x w).1 = some (a, b) ∧ a ≤ x ∧ x ≤ b := by
  have hs := (h.all _ (mt_mem h0 h1)).s
  refine ⟨shN_mul _ _ _, ?_⟩
  have hm := ch_mem h _ m rfl (by omega) h1
  exact tru_has h h0 h1 hx (shw_rd (t := upto w 3) (w := dstep w) fun k hk => h.all _ (mt_mem (hm k hk).1 (hm k hk).2)) (shN_near _ _ _ hs.1)

end Go.Proofs

namespace Go.Proofs
open Go Go.Sx Go.Gauge
attribute [local irreducible] Run

section
variable {P : Program} {g : FuncId} {args largs : List AVal} {H : Heap} {R : Runner} {l : List AOper} {fs : List Sx.Frame} {ρ : List AVal} {ms : List Nat} {Q : Sx.Goal} {ao : AOper} {lo hi : Nat} {tr : List (List Nat × List Nat)} {ss : List (List AOper)}
end
end Go.Proofs

namespace Go.Proofs
open Go Go.Sx

def k_gauge_Together_r0 : List AOper := [
  ⟨(some (4)), .box (.const (.agg [.int .i64 0, .int .i64 0])), none, []⟩, 
  ⟨(some (5)), .move (.const (.int .i64 0)), none, []⟩]
def k_gauge_Together_r1 : List AOper := [
  ⟨(some (12)), .move (.tmp 0), none, []⟩, 
  ⟨(some (13)), .call (.const (.fn (.func 23) [] [])) [.tmp 12], none, []⟩, 
  ⟨(some (6)), .move (.tmp 13), none, []⟩]
def k_gauge_Together_r2 : List AOper := [
  ⟨(some (14)), .move (.tmp 6), none, []⟩, 
  ⟨(some (15)), .bin .plain .neq (.tmp 14) (.const (.int .i64 0)), none, []⟩]
def k_gauge_Together_r3 : List AOper := [
  ⟨(some (16)), .build [.int .i64 0, .int .i64 0] [], none, []⟩, 
  ⟨(some (17)), .move (.tmp 6), none, []⟩, 
  ⟨none, .store 2 (.tmp 4) (.tmp 16), none, []⟩, 
  ⟨(some (5)), .move (.tmp 17), none, []⟩]
def k_gauge_Together_r4 : List AOper := [
  ⟨(some (18)), .move (.tmp 1), none, []⟩, 
  ⟨(some (19)), .len false (.tmp 18), none, []⟩, 
  ⟨(some (20)), .bin .plain .eql (.tmp 19) (.const (.int .i64 0)), none, []⟩]
def k_gauge_Together_r5 : List AOper := [
  ⟨(some (21)), .build [.int .i64 0, .int .i64 0] [], none, []⟩, 
  ⟨none, .store 2 (.tmp 4) (.tmp 21), none, []⟩, 
  ⟨(some (5)), .move (.const (.int .i64 6)), none, []⟩]
def k_gauge_Together_r6 : List AOper := [
  ⟨(some (22)), .move (.tmp 1), none, []⟩, 
  ⟨(some (23)), .len false (.tmp 22), none, []⟩, 
  ⟨(some (24)), .bin .plain .gtr (.tmp 23) (.const (.int .i64 10)), none, []⟩]
def k_gauge_Together_r7 : List AOper := [
  ⟨(some (25)), .build [.int .i64 0, .int .i64 0] [], none, []⟩, 
  ⟨none, .store 2 (.tmp 4) (.tmp 25), none, []⟩, 
  ⟨(some (5)), .move (.const (.int .i64 8)), none, []⟩]
def k_gauge_Together_r8 : List AOper := [
  ⟨(some (26)), .load (some (2)) (.const (.rptr (.agg [.int .i64 (-1000000000), .int .i64 1000000000]) 0)), none, []⟩, 
  ⟨(some (7)), .box (.const (.agg [.int .i64 0, .int .i64 0])), none, []⟩, 
  ⟨none, .store 2 (.tmp 7) (.tmp 26), none, []⟩]
def k_gauge_Together_r9 : List AOper := [
  ⟨(some (27)), .move (.tmp 1), none, []⟩, 
  ⟨(some (28)), .len false (.tmp 27), none, []⟩, 
  ⟨(some (29)), .move (.const (.int .i64 0)), none, []⟩]
def k_gauge_Together_r10 : List AOper := [
  ⟨(some (30)), .bin .plain .lss (.tmp 29) (.tmp 28), none, []⟩]
def k_gauge_Together_r11 : List AOper := [
  ⟨(some (31)), .indexAddr 2 (.tmp 27) (.tmp 29), none, []⟩, 
  ⟨(some (32)), .load (some (2)) (.tmp 31), none, []⟩, 
  ⟨(some (9)), .box (.const (.agg [.int .i64 0, .int .i64 0])), none, []⟩, 
  ⟨none, .store 2 (.tmp 9) (.tmp 32), none, []⟩]
def k_gauge_Together_r12 : List AOper := [
  ⟨(some (34)), .move (.tmp 0), none, []⟩, 
  ⟨(some (35)), .fieldAddr 0 (.tmp 9), none, []⟩, 
  ⟨(some (36)), .load none (.tmp 35), none, []⟩, 
  ⟨(some (37)), .fieldAddr 1 (.tmp 9), none, []⟩, 
  ⟨(some (38)), .load none (.tmp 37), none, []⟩, 
  ⟨(some (39)), .call (.const (.fn (.func 32) [] [])) [.tmp 34, .tmp 36, .tmp 38], none, []⟩, 
  ⟨(some (33)), .move (.tmp 39), none, []⟩, 
  ⟨(some (40)), .extract (.tmp 33) 0, none, []⟩, 
  ⟨(some (41)), .extract (.tmp 33) 1, none, []⟩, 
  ⟨(some (10)), .box (.const (.agg [.int .i64 0, .int .i64 0])), none, []⟩, 
  ⟨none, .store 2 (.tmp 10) (.tmp 40), none, []⟩, 
  ⟨(some (11)), .move (.tmp 41), none, []⟩]
def k_gauge_Together_r13 : List AOper := [
  ⟨(some (42)), .move (.tmp 11), none, []⟩, 
  ⟨(some (43)), .bin .plain .neq (.tmp 42) (.const (.int .i64 0)), none, []⟩]
def k_gauge_Together_r14 : List AOper := [
  ⟨(some (44)), .build [.int .i64 0, .int .i64 0] [], none, []⟩, 
  ⟨(some (45)), .move (.tmp 11), none, []⟩, 
  ⟨none, .store 2 (.tmp 4) (.tmp 44), none, []⟩, 
  ⟨(some (5)), .move (.tmp 45), none, []⟩]
def k_gauge_Together_r15 : List AOper := [
  ⟨(some (46)), .load (some (2)) (.tmp 7), none, []⟩, 
  ⟨(some (47)), .load (some (2)) (.tmp 10), none, []⟩, 
  ⟨(some (48)), .call (.const (.fn (.func 71) [] [])) [.tmp 46, .tmp 47], none, []⟩, 
  ⟨none, .store 2 (.tmp 7) (.tmp 48), none, []⟩]
def k_gauge_Together_r16 : List AOper := [
  ⟨(some (49)), .bin .plain .add (.tmp 29) (.const (.int .i64 1)), none, []⟩, 
  ⟨(some (29)), .move (.tmp 49), none, []⟩]
def k_gauge_Together_r17 : ACode := (.seq (.reg k_gauge_Together_r10 false) (.seq (.cond (.tmp 30) .skip (.exit 0)) (.seq (.block 1 (.seq (.reg k_gauge_Together_r11 false) (.seq (.reg k_gauge_Together_r12 false) (.seq (.seq (.reg k_gauge_Together_r13 false) (.cond (.tmp 43) (.seq (.reg k_gauge_Together_r14 false) .ret) .skip)) (.reg k_gauge_Together_r15 false))))) (.reg k_gauge_Together_r16 false))))
def k_gauge_Together_r18 : List AOper := [
  ⟨(some (50)), .load (some (2)) (.tmp 7), none, []⟩, 
  ⟨(some (51)), .call (.const (.fn (.func 70) [] [])) [.tmp 50], none, []⟩]
def k_gauge_Together_r19 : List AOper := [
  ⟨(some (52)), .build [.int .i64 0, .int .i64 0] [], none, []⟩, 
  ⟨none, .store 2 (.tmp 4) (.tmp 52), none, []⟩, 
  ⟨(some (5)), .move (.const (.int .i64 12)), none, []⟩]
def k_gauge_Together_r20 : List AOper := [
  ⟨(some (53)), .load (some (2)) (.tmp 7), none, []⟩, 
  ⟨none, .store 2 (.tmp 4) (.tmp 53), none, []⟩, 
  ⟨(some (5)), .move (.const (.int .i64 0)), none, []⟩]
def k_gauge_Together : AFun := { params := 2, ntmps := 54, body := (.seq (.reg k_gauge_Together_r0 false) (.seq (.seq (.reg k_gauge_Together_r1 false) (.seq (.reg k_gauge_Together_r2 false) (.cond (.tmp 15) (.seq (.reg k_gauge_Together_r3 false) .ret) .skip))) (.seq (.seq (.reg k_gauge_Together_r4 false) (.cond (.tmp 20) (.seq (.reg k_gauge_Together_r5 false) .ret) .skip)) (.seq (.seq (.reg k_gauge_Together_r6 false) (.cond (.tmp 24) (.seq (.reg k_gauge_Together_r7 false) .ret) .skip)) (.seq (.reg k_gauge_Together_r8 false) (.seq (.seq (.reg k_gauge_Together_r9 false) (.block 0 (.loop k_gauge_Together_r17))) (.seq (.seq (.reg k_gauge_Together_r18 false) (.cond (.tmp 51) (.seq (.reg k_gauge_Together_r19 false) .ret) .skip)) (.seq (.reg k_gauge_Together_r20 false) .ret)))))))), res := [.cell 4 (some ((some (2)))), .tmp 5] }
theorem k_gauge_Together_ok : cfun Tryd.prog Tryd.f39 = k_gauge_Together := by kernel_rfl

def k_kit_Within_r0 : List AOper := [
  ⟨(some (2)), .box (.tmp 0), none, []⟩, 
  ⟨(some (3)), .box (.tmp 1), none, []⟩, 
  ⟨(some (4)), .move (.const (.bool false)), none, []⟩]
def k_kit_Within_r1 : List AOper := [
  ⟨(some (5)), .fieldAddr 0 (.tmp 2), none, []⟩, 
  ⟨(some (6)), .load none (.tmp 5), none, []⟩, 
  ⟨(some (7)), .fieldAddr 0 (.tmp 3), none, []⟩, 
  ⟨(some (8)), .load none (.tmp 7), none, []⟩, 
  ⟨(some (9)), .bin .plain .geq (.tmp 6) (.tmp 8), none, []⟩, 
  ⟨(some (10)), .move (.tmp 9), none, []⟩, 
  ⟨(some (11)), .fieldAddr 1 (.tmp 2), (some (10, true)), []⟩, 
  ⟨(some (12)), .load none (.tmp 11), (some (10, true)), []⟩, 
  ⟨(some (13)), .fieldAddr 1 (.tmp 3), (some (10, true)), []⟩, 
  ⟨(some (14)), .load none (.tmp 13), (some (10, true)), []⟩, 
  ⟨(some (15)), .bin .plain .leq (.tmp 12) (.tmp 14), (some (10, true)), []⟩, 
  ⟨(some (16)), .pick (.tmp 10) (.tmp 15) (.const (.bool false)), none, []⟩, 
  ⟨(some (4)), .move (.tmp 16), none, []⟩]
def k_kit_Within : AFun := { params := 2, ntmps := 17, body := (.seq (.reg k_kit_Within_r0 false) (.seq (.reg k_kit_Within_r1 false) .ret)), res := [.tmp 4] }
theorem k_kit_Within_ok : cfun Tryd.prog Tryd.f49 = k_kit_Within := by kernel_rfl


abbrev n_gauge_Together : Nat := 39
theorem e_gauge_Together : EntryOK Tryd.prog n_gauge_Together k_gauge_Together := ⟨Tryd.f39, Tryd.func39, k_gauge_Together_ok, by kernel_rfl⟩
abbrev n_kit_Within : Nat := 49
theorem e_kit_Within : EntryOK Tryd.prog n_kit_Within k_kit_Within := ⟨Tryd.f49, Tryd.func49, k_kit_Within_ok, by kernel_rfl⟩

attribute [go_sem] k_gauge_Together_r0 k_gauge_Together_r1 k_gauge_Together_r2 k_gauge_Together_r3 k_gauge_Together_r4 k_gauge_Together_r5 k_gauge_Together_r6 k_gauge_Together_r7 k_gauge_Together_r8 k_gauge_Together_r9 k_gauge_Together_r10 k_gauge_Together_r11
attribute [go_sem] k_gauge_Together_r12 k_gauge_Together_r13 k_gauge_Together_r14 k_gauge_Together_r15 k_gauge_Together_r16 k_gauge_Together_r18 k_gauge_Together_r19 k_gauge_Together_r20 k_kit_Within_r0 k_kit_Within_r1 k_gauge_Together k_kit_Within
end Go.Proofs

namespace Go.Proofs
open Go Go.Sx Go.Gauge
attribute [local irreducible] Run

def Sv (s : Int × Int) : AVal := .agg [.int .i64 s.1, .int .i64 s.2]
@[go_sem] theorem sv_bel (s : Int × Int) (S : Nat → Prop) : Bel S (Sv s) = True := by unfold Sv; simp only [go_sem]
@[go_sem] theorem svs_bel (l : List (Int × Int)) (S : Nat → Prop) : Bels S (l.map Sv) = True := eq_true (bels_map _ _ fun m => by simp only [go_sem])
@[go_sem] theorem sv_nv (s : Int × Int) : NV (Sv s) = True := by unfold Sv; simp only [go_sem]
@[go_sem] theorem svs_nv (l : List (Int × Int)) : NVs (l.map Sv) = True := eq_true (nvs_map _ _ fun m => by simp only [go_sem])
theorem sv_frz (l : List (Int × Int)) (d : Nat) (H : Heap) : (l.map Sv).map (frz (d + 2) H) = l.map Sv := by rw [List.map_map]; rfl
theorem ss_frz {l : List (Int × Int)} {H : Heap} {j n : Nat} {g : Bool} (h : H[j]? = some (some (.cells g 2 (l.map Sv)))) (hn : n = l.length) : frz 6 H (.sl j 0 n) = .view (l.map Sv) := by
  rw [frz_sl (d := 5) h (by simpa using hn), sv_frz]

structure OkS (bs : List Mt) (s : Int × Int) : Prop where
  m : 0 ≤ s.1 ∧ s.1 < bs.length
  n : -1000000000 ≤ s.2 ∧ s.2 ≤ 1000000000
  mul : s.2 % (mt bs s.1).step = 0
  some : ∃ a b, tru bs s.1 s.2 = some (a, b)
noncomputable def loS (bs : List Mt) (s : Int × Int) : Int := ((tru bs s.1 s.2).getD (0, 0)).1
noncomputable def hiS (bs : List Mt) (s : Int × Int) : Int := ((tru bs s.1 s.2).getD (0, 0)).2
noncomputable def togLo (bs : List Mt) (l : List (Int × Int)) : Int := l.foldl (fun a s => max a (loS bs s)) (-1000000000)
noncomputable def togHi (bs : List Mt) (l : List (Int × Int)) : Int := l.foldl (fun b s => min b (hiS bs s)) 1000000000
theorem OkS.eq {bs : List Mt} {s : Int × Int} (h : OkS bs s) : tru bs s.1 s.2 = Option.some (loS bs s, hiS bs s) := by
  obtain ⟨a, b, e⟩ := h.some
  unfold loS hiS
  rw [e]; rfl
theorem fold_max {α : Type} (f : α → Int) : ∀ (l : List α) (a k : Int), l.foldl (fun a s => max a (f s)) a ≤ k ↔ a ≤ k ∧ ∀ s ∈ l, f s ≤ k
  | [], a, k => by simp
  | x :: l, a, k => by
    rw [List.foldl_cons, fold_max f l]
    simp only [List.mem_cons, forall_eq_or_imp]
    constructor
    · rintro ⟨h1, h2⟩; exact ⟨by omega, by omega, h2⟩
    · rintro ⟨h1, h2, h3⟩; exact ⟨by omega, h3⟩
theorem fold_min {α : Type} (f : α → Int) : ∀ (l : List α) (a k : Int), k ≤ l.foldl (fun a s => min a (f s)) a ↔ k ≤ a ∧ ∀ s ∈ l, k ≤ f s
  | [], a, k => by simp
  | x :: l, a, k => by
    rw [List.foldl_cons, fold_min f l]
    simp only [List.mem_cons, forall_eq_or_imp]
    constructor
    · rintro ⟨h1, h2⟩; exact ⟨by omega, by omega, h2⟩
    · rintro ⟨h1, h2, h3⟩; exact ⟨by omega, h3⟩
theorem togLo_le {bs : List Mt} {l : List (Int × Int)} {k : Int} : togLo bs l ≤ k ↔ -1000000000 ≤ k ∧ ∀ s ∈ l, loS bs s ≤ k := fold_max _ _ _ _
theorem le_togHi {bs : List Mt} {l : List (Int × Int)} {k : Int} : k ≤ togHi bs l ↔ k ≤ 1000000000 ∧ ∀ s ∈ l, k ≤ hiS bs s := fold_min _ _ _ _
theorem tog_rev (bs : List Mt) (l : List (Int × Int)) : togLo bs l.reverse = togLo bs l ∧ togHi bs l.reverse = togHi bs l := by
  constructor
  · refine Int.le_antisymm (togLo_le.2 ⟨?_, fun s hs => ?_⟩) (togLo_le.2 ⟨?_, fun s hs => ?_⟩)
    · exact (togLo_le.1 (Int.le_refl (togLo bs l))).1
    · exact (togLo_le.1 (Int.le_refl (togLo bs l))).2 s (List.mem_reverse.1 hs)
    · exact (togLo_le.1 (Int.le_refl (togLo bs l.reverse))).1
    · exact (togLo_le.1 (Int.le_refl (togLo bs l.reverse))).2 s (List.mem_reverse.2 hs)
  · refine Int.le_antisymm (le_togHi.2 ⟨?_, fun s hs => ?_⟩) (le_togHi.2 ⟨?_, fun s hs => ?_⟩)
    · exact (le_togHi.1 (Int.le_refl (togHi bs l.reverse))).1
    · exact (le_togHi.1 (Int.le_refl (togHi bs l.reverse))).2 s (List.mem_reverse.2 hs)
    · exact (le_togHi.1 (Int.le_refl (togHi bs l))).1
    · exact (le_togHi.1 (Int.le_refl (togHi bs l))).2 s (List.mem_reverse.1 hs)
theorem Within_run (a b c d : Int) : Ans Tryd.prog n_kit_Within [r2 a b, r2 c d] [] (.bool (decide (c ≤ a ∧ b ≤ d))) [] := by
  refine spec_run e_kit_Within fun G => ?_
  by_cases h1 : c ≤ a
  · by_cases h2 : b ≤ d <;> simp only [go_sem, r2, h1, h2]
  · simp only [go_sem, r2, h1]

set_option maxHeartbeats 8000000 in
set_option maxRecDepth 10000 in
theorem Together_run {bs : List Mt} (h : VB bs) {l : List (Int × Int)} (h1 : 1 ≤ l.length ∧ l.length ≤ 10) (hs : ∀ s ∈ l, OkS bs s) (hne : togLo bs l ≤ togHi bs l) :
    Ans Tryd.prog n_gauge_Together [.view (bs.map Mv), .view (l.map Sv)] [] (.tup [.agg [.int .i64 (togLo bs l), .int .i64 (togHi bs l)], .int .i64 0]) [] := by
  have c1 : ((l.length : Int) == 0) = false := beq_eq_false_iff_ne.2 (by omega)
  have c2 : ¬ (10 : Int) < l.length := by omega
  refine spec_run e_gauge_Together fun G => ?_
  simp only [go_sem]
  refine cP (Check_yes h) ?_
  simp only [go_sem, c1, c2, List.length_map]
  refine loop_ind k_gauge_Together_r17.eq_1 (fun a : Nat × Heap => a.1 ≤ l.length) (fun a => l.length - a.1)
    (fun a => (tsets 54 [(0, .view (bs.map Mv)), (4, .ptr 0 0 0 1), (5, .int .i64 0), (7, .ptr 1 0 0 1), (27, .view (l.map Sv)), (28, .int .i64 l.length), (29, .int .i64 a.1)],
      some (.cells false 2 [.agg [.int .i64 0, .int .i64 0]]) :: some (.cells false 2 [.agg [.int .i64 (togLo bs (l.take a.1)), .int .i64 (togHi bs (l.take a.1))]]) :: a.2)) (0, []) (Nat.zero_le _) (by simp [go_sem]) (by simp [togLo, togHi]) ?_
  rintro ⟨i, X⟩ hi ih
  dsimp only at hi ih ⊢
  by_cases d1 : i < l.length
  · have d2 : (i : Int) < l.length := by omega
    have n0 : ¬ (i : Int) < 0 := by omega
    have w1 : IntKind.i64.wrap ((i : Int) + 1) = ((i + 1 : Nat) : Int) := by rw [w64 (by omega)]; rfl
    obtain ⟨s, hz⟩ : ∃ s, l[i]? = some s := ⟨_, List.getElem?_eq_getElem d1⟩
    have ho := hs s (List.mem_of_getElem? hz)
    have kt := True_run h ho.m.1 ho.m.2 ho.n ho.mul
    rw [ho.eq] at kt
    simp only [truV] at kt
    have ht : l.take (i + 1) = l.take i ++ [s] := by rw [List.take_add_one, hz]; rfl
    have e1 : togLo bs (l.take (i + 1)) = max (togLo bs (l.take i)) (loS bs s) := by unfold togLo; rw [ht, List.foldl_append]; rfl
    have e2 : togHi bs (l.take (i + 1)) = min (togHi bs (l.take i)) (hiS bs s) := by unfold togHi; rw [ht, List.foldl_append]; rfl
    have kc := common_run (togLo bs (l.take i)) (togHi bs (l.take i)) (loS bs s) (hiS bs s)
    rw [← e1, ← e2] at kc
    simp only [r2] at kc
    simp only [go_sem, d2, n0, hz, Sv, cells_end, get_end, put_at_end]
    refine cP kt ?_
    simp only [go_sem, cells_end, get_end, put_at_end]
    refine cP kc ?_
    simp only [go_sem, w1]
    exact ih (i + 1, _) (by dsimp only; omega) d1 _ (by simp [go_sem])
  · have d2 : ¬ (i : Int) < l.length := by omega
    have ke := isEmpty_run (togLo bs l) (togHi bs l)
    rw [decide_eq_false (by omega)] at ke
    simp only [r2] at ke
    rw [List.take_of_length_le (by omega)] at *
    simp only [go_sem, d2]
    refine cP ke ?_
    simp only [go_sem]
end Go.Proofs

namespace Go.Proofs
open Go Go.Sx

def k_law07_GaugeAgrees_r0 : List AOper := [
  ⟨(some (4)), .move (.const (.bool false)), none, []⟩]
def k_law07_GaugeAgrees_r1 : List AOper := [
  ⟨(some (20)), .move (.tmp 0), none, []⟩, 
  ⟨(some (21)), .call (.const (.fn (.func 16) [] [])) [.tmp 20], none, []⟩, 
  ⟨(some (5)), .move (.tmp 21), none, []⟩]
def k_law07_GaugeAgrees_r2 : List AOper := [
  ⟨(some (22)), .move (.tmp 5), none, []⟩, 
  ⟨(some (23)), .call (.const (.fn (.func 17) [] [])) [.tmp 22, .const (.int .i64 4)], none, []⟩, 
  ⟨(some (6)), .move (.tmp 23), none, []⟩]
def k_law07_GaugeAgrees_r3 : List AOper := [
  ⟨(some (24)), .move (.tmp 1), none, []⟩, 
  ⟨(some (25)), .call (.const (.fn (.func 22) [] [])) [.tmp 24, .const (.int .i64 200001)], none, []⟩, 
  ⟨(some (26)), .bin .plain .sub (.tmp 25) (.const (.int .i64 100000)), none, []⟩, 
  ⟨(some (7)), .move (.tmp 26), none, []⟩]
def k_law07_GaugeAgrees_r4 : List AOper := [
  ⟨(some (8)), .move (.const (.nilsl)), none, []⟩, 
  ⟨(some (9)), .move (.const (.nilsl)), none, []⟩]
def k_law07_GaugeAgrees_r5 : List AOper := [
  ⟨(some (27)), .move (.tmp 5), none, []⟩, 
  ⟨(some (28)), .call (.const (.fn (.func 20) [] [])) [.tmp 27, .const (.int .i64 1), .const (.int .i64 5)], none, []⟩, 
  ⟨(some (10)), .move (.tmp 28), none, []⟩]
def k_law07_GaugeAgrees_r6 : List AOper := [
  ⟨(some (29)), .move (.tmp 10), none, []⟩, 
  ⟨(some (30)), .bin .plain .gtr (.tmp 29) (.const (.int .i64 0)), none, []⟩]
def k_law07_GaugeAgrees_r7 : List AOper := [
  ⟨(some (33)), .move (.tmp 5), none, []⟩, 
  ⟨(some (34)), .move (.tmp 6), none, []⟩, 
  ⟨(some (35)), .len false (.tmp 34), none, []⟩, 
  ⟨(some (36)), .call (.const (.fn (.func 19) [] [])) [.tmp 33, .tmp 35], none, []⟩, 
  ⟨(some (11)), .move (.tmp 36), none, []⟩]
def k_law07_GaugeAgrees_r8 : List AOper := [
  ⟨(some (37)), .move (.tmp 11), none, []⟩, 
  ⟨(some (38)), .move (.tmp 5), none, []⟩, 
  ⟨(some (39)), .move (.tmp 6), none, []⟩, 
  ⟨(some (40)), .move (.tmp 11), none, []⟩, 
  ⟨(some (41)), .move (.tmp 7), none, []⟩, 
  ⟨(some (42)), .call (.const (.fn (.func 31) [] [])) [.tmp 38, .tmp 39, .tmp 40, .tmp 41], none, []⟩, 
  ⟨(some (43)), .build [.int .i64 0, .int .i64 0] [(0, 1, .tmp 37), (1, 1, .tmp 42)], none, []⟩, 
  ⟨(some (12)), .box (.const (.agg [.int .i64 0, .int .i64 0])), none, []⟩, 
  ⟨none, .store 2 (.tmp 12) (.tmp 43), none, []⟩]
def k_law07_GaugeAgrees_r9 : List AOper := [
  ⟨(some (44)), .move (.tmp 8), none, []⟩, 
  ⟨(some (45)), .load (some (2)) (.tmp 12), none, [0]⟩, 
  ⟨(some (46)), .buildSlice 2 [.tmp 45], none, [0]⟩, 
  ⟨(some (47)), .append 2 16 true (.tmp 44) (.tmp 46), none, []⟩, 
  ⟨(some (48)), .load (some (2)) (.tmp 12), none, [0, 1, 2, 3]⟩, 
  ⟨(some (49)), .buildSlice 2 [.tmp 48], none, [0, 1, 2, 3]⟩, 
  ⟨(some (50)), .move (.tmp 9), none, [0, 1, 2, 3, 4, 5]⟩, 
  ⟨(some (51)), .append 2 16 true (.tmp 49) (.tmp 50), none, []⟩, 
  ⟨(some (8)), .move (.tmp 47), none, []⟩, 
  ⟨(some (9)), .move (.tmp 51), none, []⟩]
def k_law07_GaugeAgrees_r9s : List (List AOper) := [
  [
  ⟨(some (44)), .move (.tmp 8), none, []⟩, 
  ⟨(some (45)), .load (some (2)) (.tmp 12), none, [0]⟩, 
  ⟨(some (46)), .buildSlice 2 [.tmp 45], none, [0]⟩, 
  ⟨(some (47)), .append 2 16 true (.tmp 44) (.tmp 46), none, []⟩, 
  ⟨(some (48)), .load (some (2)) (.tmp 12), none, [0, 1, 2, 3]⟩, 
  ⟨(some (49)), .buildSlice 2 [.tmp 48], none, [0, 1, 2, 3]⟩, 
  ⟨(some (50)), .move (.tmp 9), none, [0, 1, 2, 3, 4, 5]⟩], 
  [
  ⟨(some (51)), .append 2 16 true (.tmp 49) (.tmp 50), none, []⟩], 
  [
  ⟨(some (8)), .move (.tmp 47), none, []⟩], 
  [
  ⟨(some (9)), .move (.tmp 51), none, []⟩]]
theorem k_law07_GaugeAgrees_r9_sg : segs k_law07_GaugeAgrees_r9 = k_law07_GaugeAgrees_r9s := by kernel_rfl
theorem k_law07_GaugeAgrees_r9_st : statOK k_law07_GaugeAgrees_r9 = true := by kernel_rfl
def k_law07_GaugeAgrees_r10 : List AOper := [
  ⟨(some (31)), .move (.tmp 10), none, []⟩, 
  ⟨(some (32)), .bin .plain .sub (.tmp 31) (.const (.int .i64 1)), none, []⟩, 
  ⟨(some (10)), .move (.tmp 32), none, []⟩]
def k_law07_GaugeAgrees_r11 : ACode := (.seq (.seq (.reg k_law07_GaugeAgrees_r6 false) (.cond (.tmp 30) .skip (.exit 0))) (.seq (.block 1 (.seq (.reg k_law07_GaugeAgrees_r7 false) (.seq (.reg k_law07_GaugeAgrees_r8 false) (.reg k_law07_GaugeAgrees_r9 true)))) (.reg k_law07_GaugeAgrees_r10 false)))
def k_law07_GaugeAgrees_r12 : List AOper := [
  ⟨(some (53)), .move (.tmp 6), none, []⟩, 
  ⟨(some (54)), .move (.tmp 8), none, []⟩, 
  ⟨(some (55)), .call (.const (.fn (.func 39) [] [])) [.tmp 53, .tmp 54], none, []⟩, 
  ⟨(some (52)), .move (.tmp 55), none, []⟩, 
  ⟨(some (56)), .extract (.tmp 52) 0, none, []⟩, 
  ⟨(some (57)), .extract (.tmp 52) 1, none, []⟩, 
  ⟨(some (13)), .box (.const (.agg [.int .i64 0, .int .i64 0])), none, []⟩, 
  ⟨none, .store 2 (.tmp 13) (.tmp 56), none, []⟩, 
  ⟨(some (14)), .move (.tmp 57), none, []⟩]
def k_law07_GaugeAgrees_r13 : List AOper := [
  ⟨(some (59)), .move (.tmp 6), none, []⟩, 
  ⟨(some (60)), .move (.tmp 9), none, []⟩, 
  ⟨(some (61)), .call (.const (.fn (.func 39) [] [])) [.tmp 59, .tmp 60], none, []⟩, 
  ⟨(some (58)), .move (.tmp 61), none, []⟩, 
  ⟨(some (62)), .extract (.tmp 58) 0, none, []⟩, 
  ⟨(some (63)), .extract (.tmp 58) 1, none, []⟩, 
  ⟨(some (15)), .box (.const (.agg [.int .i64 0, .int .i64 0])), none, []⟩, 
  ⟨none, .store 2 (.tmp 15) (.tmp 62), none, []⟩, 
  ⟨(some (16)), .move (.tmp 63), none, []⟩]
def k_law07_GaugeAgrees_r14 : List AOper := [
  ⟨(some (64)), .move (.tmp 14), none, []⟩, 
  ⟨(some (65)), .bin .plain .neq (.tmp 64) (.const (.int .i64 0)), none, []⟩, 
  ⟨(some (66)), .move (.tmp 65), none, []⟩, 
  ⟨(some (67)), .move (.tmp 16), (some (66, false)), []⟩, 
  ⟨(some (68)), .bin .plain .neq (.tmp 67) (.const (.int .i64 0)), (some (66, false)), []⟩, 
  ⟨(some (69)), .pick (.tmp 66) (.const (.bool true)) (.tmp 68), none, []⟩, 
  ⟨(some (70)), .move (.tmp 69), none, []⟩, 
  ⟨(some (71)), .load (some (2)) (.tmp 13), (some (70, false)), []⟩, 
  ⟨(some (72)), .load (some (2)) (.tmp 15), (some (70, false)), []⟩, 
  ⟨(some (73)), .eqAgg true [.int, .int] (.tmp 71) (.tmp 72), (some (70, false)), []⟩, 
  ⟨(some (74)), .pick (.tmp 70) (.const (.bool true)) (.tmp 73), none, []⟩, 
  ⟨(some (75)), .move (.tmp 74), none, []⟩, 
  ⟨(some (76)), .move (.tmp 7), (some (75, false)), []⟩, 
  ⟨(some (77)), .fieldAddr 0 (.tmp 13), (some (75, false)), []⟩, 
  ⟨(some (78)), .load none (.tmp 77), (some (75, false)), []⟩, 
  ⟨(some (79)), .bin .plain .lss (.tmp 76) (.tmp 78), (some (75, false)), []⟩, 
  ⟨(some (80)), .pick (.tmp 75) (.const (.bool true)) (.tmp 79), none, []⟩, 
  ⟨(some (81)), .move (.tmp 80), none, []⟩, 
  ⟨(some (82)), .move (.tmp 7), (some (81, false)), []⟩, 
  ⟨(some (83)), .fieldAddr 1 (.tmp 13), (some (81, false)), []⟩, 
  ⟨(some (84)), .load none (.tmp 83), (some (81, false)), []⟩, 
  ⟨(some (85)), .bin .plain .gtr (.tmp 82) (.tmp 84), (some (81, false)), []⟩, 
  ⟨(some (86)), .pick (.tmp 81) (.const (.bool true)) (.tmp 85), none, []⟩]
def k_law07_GaugeAgrees_r15 : List AOper := [
  ⟨(some (4)), .move (.const (.bool false)), none, []⟩]
def k_law07_GaugeAgrees_r16 : List AOper := [
  ⟨(some (17)), .move (.const (.int .i64 0)), none, []⟩]
def k_law07_GaugeAgrees_r17 : List AOper := [
  ⟨(some (87)), .move (.tmp 17), none, []⟩, 
  ⟨(some (88)), .move (.tmp 8), none, []⟩, 
  ⟨(some (89)), .len false (.tmp 88), none, []⟩, 
  ⟨(some (90)), .bin .plain .lss (.tmp 87) (.tmp 89), none, []⟩]
def k_law07_GaugeAgrees_r18 : List AOper := [
  ⟨(some (94)), .move (.tmp 6), none, []⟩, 
  ⟨(some (95)), .move (.tmp 8), none, [0]⟩, 
  ⟨(some (96)), .move (.tmp 17), none, [0, 1]⟩, 
  ⟨(some (97)), .indexAddr 2 (.tmp 95) (.tmp 96), none, [0]⟩, 
  ⟨(some (98)), .fieldAddr 0 (.tmp 97), none, [0]⟩, 
  ⟨(some (99)), .load none (.tmp 98), none, [0]⟩, 
  ⟨(some (100)), .move (.tmp 8), none, [0, 1, 2, 3, 4, 5]⟩, 
  ⟨(some (101)), .move (.tmp 17), none, [0, 1, 2, 3, 4, 5, 6]⟩, 
  ⟨(some (102)), .indexAddr 2 (.tmp 100) (.tmp 101), none, [0, 1, 2, 3, 4, 5]⟩, 
  ⟨(some (103)), .fieldAddr 1 (.tmp 102), none, [0, 1, 2, 3, 4, 5]⟩, 
  ⟨(some (104)), .load none (.tmp 103), none, [0, 1, 2, 3, 4, 5]⟩, 
  ⟨(some (105)), .call (.const (.fn (.func 32) [] [])) [.tmp 94, .tmp 99, .tmp 104], none, []⟩, 
  ⟨(some (93)), .move (.tmp 105), none, []⟩, 
  ⟨(some (106)), .extract (.tmp 93) 0, none, []⟩, 
  ⟨(some (107)), .extract (.tmp 93) 1, none, [13]⟩, 
  ⟨(some (18)), .box (.const (.agg [.int .i64 0, .int .i64 0])), none, [0, 1, 2, 3, 4, 5, 6, 7, 8, 9, 10, 11, 12, 13, 14]⟩, 
  ⟨none, .store 2 (.tmp 18) (.tmp 106), none, [14]⟩, 
  ⟨(some (19)), .move (.tmp 107), none, []⟩]
def k_law07_GaugeAgrees_r18s : List (List AOper) := [
  [
  ⟨(some (94)), .move (.tmp 6), none, []⟩, 
  ⟨(some (95)), .move (.tmp 8), none, [0]⟩, 
  ⟨(some (96)), .move (.tmp 17), none, [0, 1]⟩, 
  ⟨(some (97)), .indexAddr 2 (.tmp 95) (.tmp 96), none, [0]⟩, 
  ⟨(some (98)), .fieldAddr 0 (.tmp 97), none, [0]⟩, 
  ⟨(some (99)), .load none (.tmp 98), none, [0]⟩, 
  ⟨(some (100)), .move (.tmp 8), none, [0, 1, 2, 3, 4, 5]⟩, 
  ⟨(some (101)), .move (.tmp 17), none, [0, 1, 2, 3, 4, 5, 6]⟩, 
  ⟨(some (102)), .indexAddr 2 (.tmp 100) (.tmp 101), none, [0, 1, 2, 3, 4, 5]⟩, 
  ⟨(some (103)), .fieldAddr 1 (.tmp 102), none, [0, 1, 2, 3, 4, 5]⟩, 
  ⟨(some (104)), .load none (.tmp 103), none, [0, 1, 2, 3, 4, 5]⟩, 
  ⟨(some (105)), .call (.const (.fn (.func 32) [] [])) [.tmp 94, .tmp 99, .tmp 104], none, []⟩, 
  ⟨(some (93)), .move (.tmp 105), none, []⟩, 
  ⟨(some (106)), .extract (.tmp 93) 0, none, []⟩, 
  ⟨(some (107)), .extract (.tmp 93) 1, none, [13]⟩, 
  ⟨(some (18)), .box (.const (.agg [.int .i64 0, .int .i64 0])), none, [0, 1, 2, 3, 4, 5, 6, 7, 8, 9, 10, 11, 12, 13, 14]⟩, 
  ⟨none, .store 2 (.tmp 18) (.tmp 106), none, [14]⟩], 
  [
  ⟨(some (19)), .move (.tmp 107), none, []⟩]]
theorem k_law07_GaugeAgrees_r18_sg : segs k_law07_GaugeAgrees_r18 = k_law07_GaugeAgrees_r18s := by kernel_rfl
theorem k_law07_GaugeAgrees_r18_st : statOK k_law07_GaugeAgrees_r18 = true := by kernel_rfl
def k_law07_GaugeAgrees_r19 : List AOper := [
  ⟨(some (108)), .move (.tmp 19), none, []⟩, 
  ⟨(some (109)), .bin .plain .neq (.tmp 108) (.const (.int .i64 0)), none, []⟩, 
  ⟨(some (110)), .move (.tmp 109), none, []⟩, 
  ⟨(some (111)), .load (some (2)) (.tmp 13), (some (110, false)), []⟩, 
  ⟨(some (112)), .load (some (2)) (.tmp 18), (some (110, false)), []⟩, 
  ⟨(some (113)), .call (.const (.fn (.func 49) [] [])) [.tmp 111, .tmp 112], (some (110, false)), []⟩, 
  ⟨(some (114)), .not (.tmp 113), (some (110, false)), []⟩, 
  ⟨(some (115)), .pick (.tmp 110) (.const (.bool true)) (.tmp 114), none, []⟩]
def k_law07_GaugeAgrees_r20 : List AOper := [
  ⟨(some (4)), .move (.const (.bool false)), none, []⟩]
def k_law07_GaugeAgrees_r21 : List AOper := [
  ⟨(some (91)), .move (.tmp 17), none, []⟩, 
  ⟨(some (92)), .bin .plain .add (.tmp 91) (.const (.int .i64 1)), none, []⟩, 
  ⟨(some (17)), .move (.tmp 92), none, []⟩]
def k_law07_GaugeAgrees_r22 : ACode := (.seq (.seq (.reg k_law07_GaugeAgrees_r17 false) (.cond (.tmp 90) .skip (.exit 2))) (.seq (.block 3 (.seq (.reg k_law07_GaugeAgrees_r18 true) (.seq (.reg k_law07_GaugeAgrees_r19 false) (.cond (.tmp 115) (.seq (.reg k_law07_GaugeAgrees_r20 false) .ret) .skip)))) (.reg k_law07_GaugeAgrees_r21 false)))
def k_law07_GaugeAgrees_r23 : List AOper := [
  ⟨(some (116)), .call (.const (.fn (.func 15) [] [])) [], none, []⟩, 
  ⟨(some (4)), .move (.tmp 116), none, []⟩]
def k_law07_GaugeAgrees : AFun := { params := 2, ntmps := 117, body := (.seq (.reg k_law07_GaugeAgrees_r0 false) (.seq (.reg k_law07_GaugeAgrees_r1 false) (.seq (.reg k_law07_GaugeAgrees_r2 false) (.seq (.reg k_law07_GaugeAgrees_r3 false) (.seq (.reg k_law07_GaugeAgrees_r4 false) (.seq (.seq (.reg k_law07_GaugeAgrees_r5 false) (.block 0 (.loop k_law07_GaugeAgrees_r11))) (.seq (.reg k_law07_GaugeAgrees_r12 false) (.seq (.reg k_law07_GaugeAgrees_r13 false) (.seq (.seq (.reg k_law07_GaugeAgrees_r14 false) (.cond (.tmp 86) (.seq (.reg k_law07_GaugeAgrees_r15 false) .ret) .skip)) (.seq (.seq (.reg k_law07_GaugeAgrees_r16 false) (.block 2 (.loop k_law07_GaugeAgrees_r22))) (.seq (.reg k_law07_GaugeAgrees_r23 false) .ret))))))))))), res := [.tmp 4] }
theorem k_law07_GaugeAgrees_ok : cfun Tryd.prog Tryd.f13 = k_law07_GaugeAgrees := by kernel_rfl


abbrev n_law07_GaugeAgrees : Nat := 13
theorem e_law07_GaugeAgrees : EntryOK Tryd.prog n_law07_GaugeAgrees k_law07_GaugeAgrees := ⟨Tryd.f13, Tryd.func13, k_law07_GaugeAgrees_ok, by kernel_rfl⟩

attribute [go_sem] k_law07_GaugeAgrees_r0 k_law07_GaugeAgrees_r1 k_law07_GaugeAgrees_r2 k_law07_GaugeAgrees_r3 k_law07_GaugeAgrees_r4 k_law07_GaugeAgrees_r5 k_law07_GaugeAgrees_r6 k_law07_GaugeAgrees_r7 k_law07_GaugeAgrees_r8 k_law07_GaugeAgrees_r9s k_law07_GaugeAgrees_r10 k_law07_GaugeAgrees_r12
attribute [go_sem] k_law07_GaugeAgrees_r13 k_law07_GaugeAgrees_r14 k_law07_GaugeAgrees_r15 k_law07_GaugeAgrees_r16 k_law07_GaugeAgrees_r17 k_law07_GaugeAgrees_r18s k_law07_GaugeAgrees_r19 k_law07_GaugeAgrees_r20 k_law07_GaugeAgrees_r21 k_law07_GaugeAgrees_r23 k_law07_GaugeAgrees_r9_sg k_law07_GaugeAgrees_r18_sg
attribute [go_sem] k_law07_GaugeAgrees_r9_st k_law07_GaugeAgrees_r18_st k_law07_GaugeAgrees
end Go.Proofs

namespace Go.Gauge

def bdB (B : Int) : Nat → Int
  | 0 => B
  | n + 1 => 2 * bdB B n + 1000000
theorem Rd.bdB {bs : List Mt} {B : Int} : ∀ {l : List Int} {x v : Int}, (∀ m ∈ l, MtOK (mt bs m)) → -B ≤ x ∧ x ≤ B → Rd bs l x v → -bdB B l.length ≤ v ∧ v ≤ bdB B l.length
  | [], x, v, _, hx, h => by cases h; exact hx
  | m :: ms, x, v, hm, hx, ⟨u, h1, h2, h3⟩ => by
    have := Rd.bdB (fun k hk => hm k (List.mem_cons_of_mem _ hk)) hx h1
    have h4 := mk_bd (hm m List.mem_cons_self) this
    simp only [List.length_cons, Gauge.bdB]; omega
theorem bdB_mono {B : Int} (hB : 0 ≤ B) {a b : Nat} (h : a ≤ b) : Gauge.bdB B a ≤ Gauge.bdB B b := by
  have h1 : ∀ n, 0 ≤ Gauge.bdB B n := fun n => by induction n with | zero => exact hB | succ n ih => unfold Gauge.bdB; omega
  induction h with
  | refl => exact Int.le_refl _
  | step _ ih =>
    rename_i m _
    have := h1 m
    have e : Gauge.bdB B m.succ = 2 * Gauge.bdB B m + 1000000 := rfl
    omega

end Go.Gauge

namespace Go.Proofs
open Go Go.Sx Go.Gauge
attribute [local irreducible] Run

theorem bk4 (w : Int) : AnsE Tryd.prog n_kit_BenchOf [.ptr 0 0 0 1, .int .i64 4] [some (Dr w)] (fun a : List Mt × Int => BkOK a.1 ∧ 1 ≤ a.1.length ∧ a.1.length ≤ 4) (fun a => .sl 1 0 a.1.length) (fun a => [some (Dr a.2), some (.cells true 7 (a.1.map Mv))]) := benchOf_run w (N := 4) (by decide)
theorem showR_bd {bs : List Mt} (h : VB bs) {m x w B : Int} (h0 : 0 ≤ m) (h1 : m < bs.length) (hx : -B ≤ x ∧ x ≤ B) :
    -(bdB B bs.length + (mt bs m).step) ≤ (showR bs m x w).1 ∧ (showR bs m x w).1 ≤ bdB B bs.length + (mt bs m).step := by
  have hs := (h.all _ (mt_mem h0 h1)).s
  have hm := ch_mem h _ m rfl (by omega) h1
  have hl := ch_len h (show -1 ≤ m by omega) h1
  have hr : Rd bs (ch bs m) x (shw bs (upto w 3) (ch bs m) x (dstep w)).1 := shw_rd fun k hk => h.all _ (mt_mem (hm k hk).1 (hm k hk).2)
  have hb := hr.bdB (fun k hk => h.all _ (mt_mem (hm k hk).1 (hm k hk).2)) hx
  have hmo := bdB_mono (B := B) (by omega) hl
  have hn := shN_near (mt bs m) (shw bs (upto w 3) (ch bs m) x (dstep w)).1 (shw bs (upto w 3) (ch bs m) x (dstep w)).2 hs.1
  unfold showR
  omega
def OfX (bs : List Mt) (x : Int) (s : Int × Int) : Prop := OkS bs s ∧ loS bs s ≤ x ∧ x ≤ hiS bs s
theorem ofX_show {bs : List Mt} (h : VB bs) (h4 : bs.length ≤ 4) {m x w : Int} (h0 : 0 ≤ m) (h1 : m < bs.length) (hx : -100000 ≤ x ∧ x ≤ 100000) (hst : (mt bs m).step ≤ 1000) : OfX bs x (m, (showR bs m x w).1) := by
  obtain ⟨smul, a, b, htr, ha, hb⟩ := showR_ok h h0 h1 (x := x) (w := w) (by omega)
  have sb := showR_bd h h0 h1 (x := x) (w := w) (B := 100000) hx
  have sb2 : bdB 100000 bs.length ≤ 16600000 := Int.le_trans (bdB_mono (by decide) h4) (by decide)
  have ho : OkS bs (m, (showR bs m x w).1) := ⟨⟨h0, h1⟩, by dsimp only; omega, smul, a, b, htr⟩
  have e := ho.eq
  rw [htr] at e
  simp only [Option.some.injEq, Prod.mk.injEq] at e
  exact ⟨ho, by omega, by omega⟩

set_option maxHeartbeats 8000000 in
set_option maxRecDepth 10000 in
theorem agrees_law (zs : List Int) (hl : zs.length ≤ 9223372036854775807) (a1 : Int) : Ans Tryd.prog n_law07_GaugeAgrees [.view (zs.map (.int .i64)), .int .i64 a1] [] (.bool true) [] := by
  have m1 := mod_in a1 200001 (by omega)
  have e1 := mod_pos a1 200001 (by omega)
  obtain ⟨s, hs⟩ : ∃ s, a1 % 200001 = s := ⟨_, rfl⟩
  rw [hs] at m1 e1
  refine spec_run e_law07_GaugeAgrees fun G => ?_
  simp only [go_sem]
  refine callN1 (newdice_ok zs hl) (by simp only [go_sem]) (dr_bel _ _) (by simp) (by simp) ?_
  generalize seedW zs = w
  simp only [go_sem]
  refine callDN (bk4 w) rfl (by simp only [go_sem]) (dr_bel _ _) (fun a ha => ⟨by simp [go_sem], dr_bel _ _, bk_bel _ _ _⟩) (by simp) (by simp) ?_
  rintro ⟨bs, w2⟩ ⟨hb, hb1, hb2⟩
  dsimp only at hb hb1 hb2 ⊢
  have hv := hb.vb (by omega)
  obtain ⟨x, hx⟩ : ∃ x, s - 100000 = x := ⟨_, rfl⟩
  have hxb : -100000 ≤ x ∧ x ≤ 100000 := by omega
  have w2' : IntKind.i64.wrap x = x := w64 (by omega)
  simp only [go_sem, ren, rens]
  refine cP e1 ?_
  simp only [go_sem, hx, w2']
  have bi := btw_in (w := w2) (lo := 1) (hi := 5) (by decide)
  refine cD (between_ok _ 1 5 (by decide) (by decide) (by decide)) ?_
  obtain ⟨i0, hi0⟩ : ∃ i0, btw w2 1 5 = i0 := ⟨_, rfl⟩
  obtain ⟨w3, hw3⟩ : ∃ w3, dstep w2 = w3 := ⟨_, rfl⟩
  rw [hi0] at bi ⊢
  rw [hw3]
  have c1 : 0 < i0 := by omega
  simp only [go_sem]
  refine loop_body 400 k_law07_GaugeAgrees_r11.eq_1 ?_
  have u1 := upto_in (w := w3) (n := bs.length) (by omega)
  simp only [go_sem, c1]
  refine cD (upto_ok w3 bs.length (by omega)) ?_
  obtain ⟨m, hm⟩ : ∃ m, upto w3 bs.length = m := ⟨_, rfl⟩
  rw [hm] at u1 ⊢
  have hst := (hb.all _ (mt_mem u1.1 u1.2)).2
  have sh := Showing_run hv u1.1 u1.2 (x := x) (by omega) (dstep w3) true
  have hof := ofX_show hv hb2 u1.1 u1.2 (w := dstep w3) hxb hst
  obtain ⟨p, hp⟩ : ∃ p, showR bs m x (dstep w3) = p := ⟨_, rfl⟩
  rw [hp] at sh hof
  simp only [go_sem]
  refine cS2 sh (j0 := 0) (j1 := 1) rfl (by simp [go_sem]) rfl rfl (dr_bel _ _) (bk_bel _ _ _) (dr_bel _ _) (bk_bel _ _ _) (by decide) (.int _ _) (by simp) (by simp) ?_
  have w5 : IntKind.i64.wrap (i0 - 1) = i0 - 1 := w64 (by omega)
  simp only [go_sem, w5]
  refine ⟨by decide, by decide, ?_⟩
  refine loop_ind k_law07_GaugeAgrees_r11.eq_1 (fun a : List (Int × Int) × Int × Int × Nat × Heap => (∀ s ∈ a.1, OfX bs x s) ∧ (1 ≤ a.1.length ∧ (a.1.length : Int) + a.2.2.1 ≤ 5) ∧ 0 ≤ a.2.2.1 ∧ a.2.2.2.2[2]? = some (some (.cells true 2 (a.1.map Sv))) ∧ a.2.2.2.2[a.2.2.2.1]? = some (some (.cells true 2 (a.1.reverse.map Sv))) ∧ 2 ≠ a.2.2.2.1) (fun a => a.2.2.1.toNat)
    (fun a => (tsets 117 [(5, .ptr 0 0 0 1), (6, .sl 1 0 bs.length), (7, .int .i64 x), (8, .sl 4 0 a.1.length), (9, .sl (a.2.2.2.1 + 2) 0 a.1.length), (10, .int .i64 a.2.2.1)],
      some (Dr a.2.1) :: some (.cells true 7 (bs.map Mv)) :: a.2.2.2.2))
    ([(m, p.1)], p.2, i0 - 1, 3, [some (Row.cells false 2 [AVal.agg [AVal.int IntKind.i64 m, AVal.int IntKind.i64 p.1]]), some (Row.cells false 2 [AVal.agg [AVal.int IntKind.i64 m, AVal.int IntKind.i64 p.1]]), some (Row.cells true 2 [AVal.agg [AVal.int IntKind.i64 m, AVal.int IntKind.i64 p.1]]), some (Row.cells true 2 [AVal.agg [AVal.int IntKind.i64 m, AVal.int IntKind.i64 p.1]])])
    ⟨fun s hs => by simp only [List.mem_singleton] at hs; subst hs; exact hof, by simp; omega, by dsimp only; omega, rfl, rfl, (show 2 ≠ 3 by decide)⟩ (by simp [go_sem]) rfl ?_
  clear hof sh hst hm u1 hp
  clear p m w5 c1
  rintro ⟨L, wi, i, qb, X⟩ ⟨hof, hL, hi, hX, hB, hqb⟩ ih
  dsimp only at hof hL hi hX hB hqb ih ⊢
  have lt2 : 2 < X.length := (List.getElem?_eq_some_iff.1 hX).1
  have ltb : qb < X.length := (List.getElem?_eq_some_iff.1 hB).1
  have cX := fun Y => cells_more (cells_at hX) Y
  have pX := fun Y x => put_more (H := X) lt2 Y x
  by_cases c1 : 0 < i
  · have cB := fun Y => cells_more (cells_at hB) Y
    have cB2 := fun v Y => cells_more (H := X.set 2 v) (cells_at (H := X.set 2 v) (j := qb) (by rw [List.getElem?_set_ne hqb]; exact hB)) Y
    have u1 := upto_in (w := wi) (n := bs.length) (by omega)
    have w5 : IntKind.i64.wrap (i - 1) = i - 1 := w64 (by omega)
    have hq : (L.length + 1) * 16 ≤ 2 ^ 44 := by omega
    have hq' : (1 + L.length) * 16 ≤ 2 ^ 44 := by omega
    simp only [go_sem, c1]
    refine cD (upto_ok wi bs.length (by omega)) ?_
    obtain ⟨m, hm⟩ : ∃ m, upto wi bs.length = m := ⟨_, rfl⟩
    rw [hm] at u1 ⊢
    have hst := (hb.all _ (mt_mem u1.1 u1.2)).2
    have sh := Showing_run hv u1.1 u1.2 (x := x) (by omega) (dstep wi) true
    have hof2 := ofX_show hv hb2 u1.1 u1.2 (w := dstep wi) hxb hst
    obtain ⟨p, hp⟩ : ∃ p, showR bs m x (dstep wi) = p := ⟨_, rfl⟩
    rw [hp] at sh hof2
    simp only [go_sem]
    refine cS2 sh (j0 := 0) (j1 := 1) rfl (by simp [go_sem]) rfl rfl (dr_bel _ _) (bk_bel _ _ _) (dr_bel _ _) (bk_bel _ _ _) (by decide) (.int _ _) (by simp) (by simp) ?_
    have cT := fun v g sz es Y => cells_at (H := X.set 2 v ++ some (.cells g sz es) :: Y) (j := X.length) (g := g) (sz := sz) (es := es) (by rw [List.getElem?_append_right (by simp), List.length_set, Nat.sub_self]; rfl)
    simp only [go_sem, w5, cells_end, get_end, put_at_end, cX, pX, cB, cB2, cT, hq, hq', List.length_map, List.length_reverse]
    have ez : L.map Sv ++ [AVal.agg [.int .i64 m, .int .i64 p.1]] = (L ++ [(m, p.1)]).map Sv := by rw [List.map_append]; rfl
    have etk : List.take L.length (L.reverse.map Sv) = L.reverse.map Sv := List.take_of_length_le (by simp)
    have er : AVal.agg [.int .i64 m, .int .i64 p.1] :: L.reverse.map Sv = (L ++ [(m, p.1)]).reverse.map Sv := by
      rw [List.reverse_append]; rfl
    have hsz : sizedAll 2 (L.reverse.map Sv) = true := by
      unfold sizedAll
      rw [List.all_eq_true]
      intro v hv
      obtain ⟨z, _, rfl⟩ := List.mem_map.1 hv
      rfl
    have el : L.length + 1 = (L ++ [(m, p.1)]).length := by simp
    rw [ez]
    simp only [etk, er, hsz, List.length_map, List.length_reverse, List.length_set]
    rw [Nat.add_comm 1 L.length, el]
    refine ⟨by simp <;> omega, by simp; rintro rfl; simp at lt2, by decide, by rw [← el]; exact hq, ?_⟩
    refine ih (L ++ [(m, p.1)], _, i - 1, X.length + 2, _) (by dsimp only; omega) ⟨fun s hs => ?_, by dsimp only; rw [← el]; omega, by dsimp only; omega, ?_, ?_, by dsimp only; omega⟩ _ (by simp [go_sem])
    · rcases List.mem_append.1 hs with h | h
      · exact hof s h
      · simp only [List.mem_singleton] at h; subst h; exact hof2
    · dsimp only
      rw [List.getElem?_append_left (by rw [List.length_set]; exact lt2)]
      exact List.getElem?_set_self lt2
    · dsimp only
      rw [List.getElem?_append_right (by rw [List.length_set]; omega), List.length_set, show X.length + 2 - X.length = 2 by omega]; rfl
  · have L1 : 1 ≤ L.length ∧ L.length ≤ 10 := by omega
    have hok : ∀ s ∈ L, OkS bs s := fun s hs => (hof s hs).1
    have lox : togLo bs L ≤ x := togLo_le.2 ⟨by omega, fun s hs => (hof s hs).2.1⟩
    have hix : x ≤ togHi bs L := le_togHi.2 ⟨by omega, fun s hs => (hof s hs).2.2⟩
    have k1 := Together_run hv L1 hok (by omega)
    have k2 := Together_run hv (l := L.reverse) (by simpa using L1) (fun s hs => hok s (List.mem_reverse.1 hs)) (by rw [(tog_rev bs L).1, (tog_rev bs L).2]; omega)
    rw [(tog_rev bs L).1, (tog_rev bs L).2] at k2
    have wl : ∀ s ∈ L, loS bs s ≤ togLo bs L ∧ togHi bs L ≤ hiS bs s := fun s hs => ⟨(togLo_le.1 (Int.le_refl (togLo bs L))).2 s hs, (le_togHi.1 (Int.le_refl (togHi bs L))).2 s hs⟩
    obtain ⟨A, hA⟩ : ∃ A, togLo bs L = A := ⟨_, rfl⟩
    obtain ⟨B, hB'⟩ : ∃ B, togHi bs L = B := ⟨_, rfl⟩
    rw [hA, hB'] at k1 k2 wl
    rw [hA] at lox
    rw [hB'] at hix
    have d1 : ¬ x < A := by omega
    have d2 : ¬ B < x := by omega
    simp only [go_sem, c1]
    have f1 : (some (Dr wi) :: some (Row.cells true 7 (bs.map Mv)) :: X : Heap)[4]? = some (some (.cells true 2 (L.map Sv))) := hX
    refine cF k1 6 ⟨.inl (bs_frz (g := true) rfl rfl), .inl (ss_frz f1 rfl), trivial⟩ ?_
    simp only [go_sem, cells_end, get_end, put_at_end]
    have f2 : (some (Dr wi) :: some (Row.cells true 7 (bs.map Mv)) :: (X ++ [some (Row.cells false 2 [AVal.agg [.int .i64 A, .int .i64 B]])]) : Heap)[qb + 2]? = some (some (.cells true 2 (L.reverse.map Sv))) := by
      show (X ++ _)[qb]? = _
      rw [List.getElem?_append_left ltb]; exact hB
    refine cF k2 6 ⟨.inl (bs_frz (g := true) rfl rfl), .inl (ss_frz f2 (by simp)), trivial⟩ ?_
    have q1 := fun g sz es Y => cells_at (H := X ++ some (.cells g sz es) :: Y) (j := X.length) (g := g) (sz := sz) (es := es) (by rw [List.getElem?_append_right (by omega), Nat.sub_self]; rfl)
    have q2 := fun a g sz es Y => cells_at (H := X ++ a :: some (.cells g sz es) :: Y) (j := X.length + 1) (g := g) (sz := sz) (es := es) (by rw [List.getElem?_append_right (by omega), show X.length + 1 - X.length = 1 by omega]; rfl)
    simp only [go_sem, cells_end, get_end, put_at_end, q1, q2, d1, d2]
    refine loop_ind k_law07_GaugeAgrees_r22.eq_1 (fun a : Nat × Heap => a.1 ≤ L.length) (fun a => L.length - a.1)
      (fun a => (tsets 117 [(6, .sl 1 0 bs.length), (8, .sl 4 0 L.length), (13, .ptr (X.length + 2) 0 0 1), (17, .int .i64 a.1)],
        some (Dr wi) :: some (.cells true 7 (bs.map Mv)) :: (X ++ (some (Row.cells false 2 [AVal.agg [.int .i64 A, .int .i64 B]]) :: a.2)))) (0, [some (Row.cells false 2 [AVal.agg [.int .i64 A, .int .i64 B]])]) (Nat.zero_le _) (by simp [go_sem]) (by simp) ?_
    clear ih
    rintro ⟨k, Y⟩ hk ih
    dsimp only at hk ih ⊢
    by_cases c2 : k < L.length
    · have c3 : (k : Int) < L.length := by omega
      have nk : ¬ (k : Int) < 0 := by omega
      have w6 : IntKind.i64.wrap ((k : Int) + 1) = ((k + 1 : Nat) : Int) := by rw [w64 (by omega)]; rfl
      obtain ⟨s, hs⟩ : ∃ s, L[k]? = some s := ⟨_, List.getElem?_eq_getElem c2⟩
      have ho := hok s (List.mem_of_getElem? hs)
      have kt := True_run hv ho.m.1 ho.m.2 ho.n ho.mul
      rw [ho.eq] at kt
      simp only [truV] at kt
      have kw := Within_run A B (loS bs s) (hiS bs s)
      rw [decide_eq_true (wl s (List.mem_of_getElem? hs))] at kw
      simp only [r2] at kw
      simp only [go_sem, c3, nk, hs, Sv, cX, List.length_map]
      refine dF kt 6 [1] ⟨.inl (bs_frz (g := true) (onlyR_row rfl (by simp)) rfl), .inl rfl, .inl rfl, trivial⟩ ?_
      simp only [go_sem, cells_end, get_end, put_at_end, q1]
      refine ⟨by simp; omega, ?_⟩
      refine cP kw ?_
      simp only [go_sem, w6]
      exact ih (k + 1, _) (by dsimp only; omega) c2 _ (by simp [go_sem])
    · have c3 : ¬ (k : Int) < L.length := by omega
      simp only [go_sem, c3, cX, List.length_map]
      refine cP awake_ok ?_
      simp only [go_sem]
end Go.Proofs

namespace Go.Proofs
open Go Go.ChangeShapes Go.WideShapes Go.ChangeAt Go.RowKit

def laid1 : List (String × DataW Unit) := [("thermion/gauge.values", .agg [.lit (.int .i64 (-1000000000)), .lit (.int .i64 1000000000)])]
theorem gVal : Tryd.prog.globalNamed "thermion/gauge.values" = some 0 := by kernel_rfl
theorem tVal : (Tryd.prog.globals[0]?).map (·.type) = some 24 := by kernel_rfl
theorem nVal : Tryd.prog.globals.size = 1 := by kernel_rfl
theorem eVal : Go.Sx.gvOf Tryd.prog 0 = some (.agg [.int .i64 (-1000000000), .int .i64 1000000000]) := by kernel_rfl

set_option maxRecDepth 100000 in
theorem values_met {W : World} (h : laidMetH Tryd.prog laid1 W) : W.cell? ⟨0, 0, none⟩ = some (.int .i64 (-1000000000)) ∧ W.cell? ⟨0, 1, none⟩ = some (.int .i64 1000000000) := by
  rw [MakeChecks.laidMetH_plain _ _ _ (by kernel_rfl)] at h
  obtain ⟨ps, ⟨g0, t0, cs0, f0, p0, q0, hg0, ht0, hv0, hd0, _⟩, _, _⟩ := h
  obtain rfl := Option.some.inj (gVal.symm.trans hg0)
  obtain rfl := Option.some.inj (tVal.symm.trans ht0)
  obtain ⟨y0, y1, n, hx, hl, hy0, hy1⟩ := trod_struct2 Tryd.underlying24 hd0
  simp only [Prod.mk.injEq, DataW.agg.injEq, List.cons.injEq, and_true] at hx
  obtain ⟨⟨e0, e1⟩, _⟩ := hx
  have c24 : Tryd.prog.cellsOf 24 = 2 := by kernel_rfl
  have c3 : Tryd.prog.cellsOf 3 = 1 := by kernel_rfl
  rw [c24] at hl
  obtain ⟨l⟩ := cs0
  match l, hl with
  | [u, v], _ =>
    obtain ⟨k0, z0, z1, _⟩ := DataW.trod_int Tryd.underlying3 hy0
    obtain ⟨k1, z2, z3, _⟩ := DataW.trod_int Tryd.underlying3 hy1
    rw [z1] at e0
    rw [z3] at e1
    simp only [DataW.lit.injEq, Lit.int.injEq, true_and] at e0 e1
    simp [c3] at z0 z2
    subst z0 z2 e0 e1
    exact ⟨World.var?_cell hg0 hv0 0, World.var?_cell hg0 hv0 1⟩

theorem values_glob {W : World} (h : laidMetH Tryd.prog laid1 W) : Go.Sx.GlobOK Tryd.prog (Go.Sx.topG W) := by
  obtain ⟨h0, h1⟩ := values_met h
  have hb : 0 < W.heap.size := by
    simp only [World.cell?] at h0
    split at h0
    · rename_i c _ _ hh
      exact (Array.getElem?_eq_some_iff.1 hh).1
    · cases h0
  intro g e he
  match g, he with
  | 0, he =>
    rw [eVal] at he
    cases he
    refine ⟨hb, fun j hj => ?_⟩
    match j, hj with
    | 0, _ => exact ⟨_, h0, fun μ => .int _ _⟩
    | 1, _ => exact ⟨_, h1, fun μ => .int _ _⟩
    | j + 2, hj => simp [Go.Sx.acells] at hj; omega
  | g + 1, he =>
    have hg : Tryd.prog.globals[g + 1]? = none := Array.getElem?_eq_none (by rw [nVal]; omega)
    unfold Go.Sx.gvOf at he
    rw [hg] at he; cases he
end Go.Proofs

