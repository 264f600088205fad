/- A part of the proof. -/
import Derived.Test.YtnnbkoipalaanaaDoorPB
import Derived.ProofKit
import Derived.LaidMore
set_option linter.unusedSimpArgs false
set_option linter.unusedVariables false
namespace Go.Proofs
open Go Go.Sx Go.Gauge
attribute [local irreducible] Run

theorem beyond_run (n a b : Int) : Ans Tryd.prog n_ref07_beyond [.int .i64 n, .int .i64 a, .int .i64 b] [] (.bool (!decide (a ≤ n ∧ n ≤ b))) [] := by
  refine spec_run e_ref07_beyond fun G => ?_
  by_cases h1 : n < a
  · have h2 : ¬ (a ≤ n ∧ n ≤ b) := by omega
    simp only [go_sem, h1, decide_eq_false h2]
  · by_cases h2 : b < n
    · have h3 : ¬ (a ≤ n ∧ n ≤ b) := by omega
      simp only [go_sem, h1, h2, decide_eq_false h3]
    · have h3 : (a ≤ n ∧ n ≤ b) := by omega
      simp only [go_sem, h1, h2, decide_eq_true h3]
theorem rcheckRange_yes {a b c d : Int} (h : c ≤ a ∧ a ≤ b ∧ b ≤ d) : Ans Tryd.prog n_ref07_checkRange [r2 a b, .int .i64 c, .int .i64 d] [] (.int .i64 0) [] := by
  have k1 := beyond_run a c d
  have k2 := beyond_run b c d
  rw [decide_eq_true (by omega)] at k1 k2
  have c1 : ¬ b < a := by omega
  refine spec_run e_ref07_checkRange fun G => ?_
  simp only [go_sem, r2]
  refine cP k1 ?_
  simp only [go_sem]
  refine cP k2 ?_
  simp only [go_sem, c1]
theorem rcheckMaking_yes {m : Mt} (h : MtOK m) : Ans Tryd.prog n_ref07_checkMaking [Mv m] [] (.int .i64 0) [] := by
  have k1 := rcheckRange_yes (a := m.glo) (b := m.ghi) (c := 500000) (d := 2000000) (by have := h.g; omega)
  have k2 := rcheckRange_yes (a := m.olo) (b := m.ohi) (c := -1000000) (d := 1000000) (by have := h.o; omega)
  simp only [r2] at k1 k2
  refine spec_run e_ref07_checkMaking fun G => ?_
  simp only [go_sem, Mv, Mc]
  refine cP k1 ?_
  simp only [go_sem]
  refine cP k2 ?_
  simp only [go_sem]

set_option maxHeartbeats 4000000 in
set_option maxRecDepth 10000 in
theorem rchain_run {bs : List Mt} (h : VB bs) {m0 : Int} (h0 : 0 ≤ m0) (h1 : m0 < bs.length) :
    Ans Tryd.prog n_ref07_chain [.view (bs.map Mv), .int .i64 m0] [] (.tup [.sl 0 0 (ch bs m0).length, .bool true]) [some (.cells true 1 ((ch bs m0).map (.int .i64)))] := by
  have hlen := h.len
  have hc0 := ch_len h (show -1 ≤ m0 by omega) h1
  have hst0 := ch_step h h0 h1
  have hx0 := mt_get h0 h1
  have hcm0 := h.cmp _ (mt_mem h0 h1)
  have n0 : ¬ m0 < 0 := by omega
  have l0 : (0 : Int) ≤ bs.length := by omega
  obtain ⟨T, hT⟩ : ∃ T, ch bs m0 = T := ⟨_, rfl⟩
  rw [hT] at hc0 hst0 ⊢
  refine Ans.keep (run_fn e_ref07_chain fun G => ?_) (by simp) (by simp [go_sem]) ⟨by rw [row_bel_cells]; simp only [go_sem], trivial⟩
  simp only [go_sem]
  refine loop_body 400 k_ref07_chain_r5.eq_1 ?_
  simp only [go_sem, h0, l0, n0, hx0, h1, Mv, Mc]
  refine ⟨by decide, ?_⟩
  refine loop_ind k_ref07_chain_r5.eq_1 (fun a : Int × List Int × Heap => -1 ≤ a.1 ∧ a.1 < bs.length ∧ 1 ≤ a.2.1.length ∧ a.2.1 ++ ch bs a.1 = T) (fun a => T.length - a.2.1.length)
    (fun a => (tsets 28 [(0, .view (bs.map Mv)), (1, .int .i64 a.1), (6, .sl 1 0 a.2.1.length)], some (.cells false 1 [.int .i64 m0]) :: some (.cells true 1 (a.2.1.map (.int .i64))) :: a.2.2)) ((mt bs m0).cmp, [m0], []) ⟨hcm0.1, hcm0.2, by simp, hst0.symm⟩ (by simp [go_sem]) rfl ?_
  rintro ⟨m, l, X⟩ ⟨g1, g2, g3, g4⟩ ih
  dsimp only at g1 g2 g3 g4 ih ⊢
  have hTl : l.length + (ch bs m).length = T.length := by rw [← g4]; simp
  by_cases c1 : m = -1
  · have c2 : ¬ (0 : Int) ≤ m := by omega
    have c3 : m < 0 := by omega
    rw [c1, ch_end, List.append_nil] at g4
    subst g4
    simp only [go_sem, c2, c3]
    refine kept_one 1 (by simp [ren, rens]) (by rw [row_bel_cells]; simp only [go_sem]) rfl
  · have c2 : (0 : Int) ≤ m := by omega
    have c3 : (l.length : Int) ≤ bs.length := by omega
    have n1 : ¬ m < 0 := by omega
    have hst := ch_step h c2 g2
    have hx := mt_get c2 g2
    have hcm := h.cmp _ (mt_mem c2 g2)
    have hq : (l.length + 1) * 8 ≤ 2 ^ 44 := by omega
    have ez : l.map (AVal.int .i64) ++ [.int .i64 m] = (l ++ [m]).map (.int .i64) := by simp
    have el : l.length + 1 = (l ++ [m]).length := by simp
    have hl2 : (ch bs m).length = (ch bs (mt bs m).cmp).length + 1 := by rw [hst]; rfl
    simp only [go_sem, c2, c3, n1, hx, g2, hq, Mv, Mc, List.length_map]
    rw [ez, el]
    exact ih ((mt bs m).cmp, l ++ [m], _) (by simp; omega) ⟨hcm.1, hcm.2, by simp, by rw [← g4, hst]; simp⟩ _ (by simp [go_sem])

set_option maxHeartbeats 4000000 in
set_option maxRecDepth 10000 in
theorem rCheck_yes {bs : List Mt} (h : VB bs) : Ans Tryd.prog n_ref07_Check [.view (bs.map Mv)] [] (.int .i64 0) [] := by
  have hlen := h.len
  have c0 : ¬ (12 : Int) < bs.length := by omega
  refine spec_run e_ref07_Check fun G => ?_
  simp only [go_sem, c0, List.length_map]
  refine loop_ind k_ref07_Check_r12.eq_1 (fun a : Nat × Heap => a.1 ≤ bs.length) (fun a => bs.length - a.1)
    (fun a => (tsets 57 [(0, .view (bs.map Mv)), (3, .int .i64 a.1)], a.2)) (0, []) (Nat.zero_le _) (by simp [go_sem]) rfl ?_
  rintro ⟨i, H⟩ hi ih
  dsimp only at hi ih ⊢
  by_cases c1 : i < bs.length
  · have c2 : (i : Int) < bs.length := by omega
    have n0 : ¬ (i : Int) < 0 := by omega
    have w1 : IntKind.i64.wrap ((i : Int) + 1) = ((i + 1 : Nat) : Int) := by rw [w64 (by omega)]; rfl
    have w2 : IntKind.i64.wrap ((bs.length : Int) - 1) = (bs.length : Int) - 1 := w64 (by omega)
    obtain ⟨z, hz⟩ : ∃ z, bs[i]? = some z := ⟨_, List.getElem?_eq_getElem c1⟩
    have hm := List.mem_of_getElem? hz
    have hs := (h.all z hm).s
    have hd := (h.all z hm).d
    have hc := h.cmp z hm
    have k := rcheckMaking_yes (h.all z hm)
    have k1 := beyond_run z.step 1 1000000
    have k2 := beyond_run z.due 0 1000000000
    have k3 := beyond_run z.cmp (-1) ((bs.length : Int) - 1)
    rw [decide_eq_true (by omega)] at k1 k2 k3
    simp only [Mv, Mc] at k
    simp only [go_sem, c2, n0, hz, Mv, Mc, cells_end, get_end, put_at_end, List.length_map]
    refine cP k ?_
    simp only [go_sem, cells_end, get_end]
    refine cP k1 ?_
    simp only [go_sem, cells_end, get_end]
    refine cP k2 ?_
    simp only [go_sem, cells_end, get_end, w2, List.length_map]
    refine cP k3 ?_
    simp only [go_sem, w1]
    exact ih (i + 1, _) (by dsimp only; omega) c1 _ (by simp [go_sem])
  · have c2 : ¬ (i : Int) < bs.length := by omega
    simp only [go_sem, c2, List.length_map]
    refine loop_ind k_ref07_Check_r19.eq_1 (fun a : Nat × Heap => a.1 ≤ bs.length) (fun a => bs.length - a.1)
      (fun a => (tsets 57 [(0, .view (bs.map Mv)), (6, .int .i64 a.1)], a.2)) (0, H) (Nat.zero_le _) (by simp [go_sem]) rfl ?_
    clear ih
    rintro ⟨i, H⟩ hi ih
    dsimp only at hi ih ⊢
    by_cases c1 : i < bs.length
    · have c2 : (i : Int) < bs.length := by omega
      have w1 : IntKind.i64.wrap ((i : Int) + 1) = ((i + 1 : Nat) : Int) := by rw [w64 (by omega)]; rfl
      have k := rchain_run h (m0 := i) (by omega) c2
      simp only [go_sem, c2, List.length_map]
      refine cN1 k ?_
      simp only [go_sem, ren, rens, w1]
      exact ih (i + 1, _) (by dsimp only; omega) c1 _ (by simp [go_sem])
    · have c2 : ¬ (i : Int) < bs.length := by omega
      simp only [go_sem, c2, List.length_map]
theorem rChain_run {bs : List Mt} (h : VB bs) {m0 : Int} (h0 : 0 ≤ m0) (h1 : m0 < bs.length) :
    Ans Tryd.prog n_ref07_Chain [.view (bs.map Mv), .int .i64 m0] [] (.sl 0 0 (ch bs m0).length) [some (.cells true 1 ((ch bs m0).map (.int .i64)))] := by
  have hlen := h.len
  have w2 : IntKind.i64.wrap ((bs.length : Int) - 1) = (bs.length : Int) - 1 := w64 (by omega)
  have k1 := beyond_run m0 0 ((bs.length : Int) - 1)
  rw [decide_eq_true (by omega)] at k1
  refine spec_run e_ref07_Chain fun G => ?_
  simp only [go_sem]
  refine cP (rCheck_yes h) ?_
  simp only [go_sem, w2, List.length_map]
  refine cP k1 ?_
  simp only [go_sem]
  refine cN1 (rchain_run h h0 h1) ?_
  simp only [go_sem, ren, rens]
  exact ⟨_, rfl⟩
end Go.Proofs

namespace Go.Proofs
open Go Go.Sx Go.Gauge
attribute [local irreducible] Run

def sel3 (t a b c : Int) : Int := if t = 0 then a else if t = 1 then b else c
theorem sel3_get (t a b c : Int) (ht : 0 ≤ t ∧ t < 3) : [AVal.int .i64 a, .int .i64 b, .int .i64 c][t.toNat]? = some (.int .i64 (sel3 t a b c)) := by
  obtain rfl | rfl | rfl : t = 0 ∨ t = 1 ∨ t = 2 := by omega
  · rfl
  · rfl
  · rfl
def shw (bs : List Mt) (t : Int) : List Int → Int → Int → Int × Int
  | [], x, w => (x, w)
  | m :: ms, x, w => (sel3 t (mkLo (mt bs m) (shw bs t ms x w).1) (mkHi (mt bs m) (shw bs t ms x w).1) (btw (shw bs t ms x w).2 (mkLo (mt bs m) (shw bs t ms x w).1) (mkHi (mt bs m) (shw bs t ms x w).1)), dstep (shw bs t ms x w).2)
theorem shw_rd {bs : List Mt} {t : Int} : ∀ {l : List Int} {x w : Int}, (∀ m ∈ l, MtOK (mt bs m)) → Rd bs l x (shw bs t l x w).1
  | [], _, _, _ => rfl
  | m :: ms, x, w, h => by
    have hm := h m List.mem_cons_self
    have hle := mk_le hm (shw bs t ms x w).1
    have hb := btw_in (w := (shw bs t ms x w).2) hle
    refine ⟨(shw bs t ms x w).1, shw_rd fun k hk => h k (List.mem_cons_of_mem _ hk), ?_⟩
    simp only [shw, sel3]
    split
    · omega
    · split <;> omega
def shN (m : Mt) (v w : Int) : Int × Int :=
  if m.step < 2 * (v - v / m.step * m.step) then (v / m.step * m.step + m.step, w)
  else if 2 * (v - v / m.step * m.step) = m.step then (if upto w 2 = 0 then v / m.step * m.step + m.step else v / m.step * m.step, dstep w) else (v / m.step * m.step, w)
def showR (bs : List Mt) (m x w : Int) : Int × Int := shN (mt bs m) (shw bs (upto w 3) (ch bs m) x (dstep w)).1 (shw bs (upto w 3) (ch bs m) x (dstep w)).2
theorem low_in {v s : Int} (h : 1 ≤ s) : v - s < v / s * s ∧ v / s * s ≤ v := by
  have e := Int.emod_add_mul_ediv v s
  have h1 := Int.emod_nonneg v (show s ≠ 0 by omega)
  have h2 := Int.emod_lt_of_pos v (show 0 < s by omega)
  have e2 : s * (v / s) = v / s * s := Int.mul_comm _ _
  omega
theorem shN_near (m : Mt) (v w : Int) (h : 1 ≤ m.step) : 2 * ((shN m v w).1 - v) ≤ m.step ∧ 2 * (v - (shN m v w).1) ≤ m.step := by
  have h1 := low_in (v := v) h
  unfold shN
  split
  · dsimp only; omega
  · split
    · dsimp only; split <;> omega
    · dsimp only; omega
theorem shN_mul (m : Mt) (v w : Int) : (shN m v w).1 % m.step = 0 := by
  have h1 : v / m.step * m.step % m.step = 0 := Int.mul_emod_left _ _
  have h2 : (v / m.step * m.step + m.step) % m.step = 0 := by rw [Int.add_emod_right]; exact h1
  unfold shN
  split
  · exact h2
  · split
    · dsimp only
      split
      · exact h2
      · exact h1
    · exact h1

theorem mv_frz (ms : List Mt) (d : Nat) (H : Heap) : (ms.map Mv).map (frz (d + 2) H) = ms.map Mv := by rw [List.map_map]; rfl
theorem bs_frz {bs : List Mt} {H : Heap} {j n : Nat} {g : Bool} (h : H[j]? = some (some (.cells g 7 (bs.map Mv)))) (hn : n = bs.length) : frz 6 H (.sl j 0 n) = .view (bs.map Mv) := by
  rw [frz_sl (d := 5) h (by simpa using hn), mv_frz]

set_option maxHeartbeats 8000000 in
set_option maxRecDepth 10000 in
theorem Showing_run {bs : List Mt} (h : VB bs) {m x : Int} (h0 : 0 ≤ m) (h1 : m < bs.length) (hx : -1000000000 ≤ x ∧ x ≤ 1000000000) (w : Int) (g : Bool) :
    Ans Tryd.prog n_kit_Showing [.ptr 0 0 0 1, .sl 1 0 bs.length, .int .i64 m, .int .i64 x] [some (Dr w), some (.cells g 7 (bs.map Mv))] (.int .i64 (showR bs m x w).1) [some (Dr (showR bs m x w).2), some (.cells g 7 (bs.map Mv))] := by
  have hlen := h.len
  have hcl := ch_len h (show -1 ≤ m by omega) h1
  have hmem := ch_mem h _ m rfl (by omega) h1
  have hall : ∀ k ∈ ch bs m, MtOK (mt bs k) := fun k hk => h.all _ (mt_mem (hmem k hk).1 (hmem k hk).2)
  have ht := upto_in (w := w) (n := 3) (by decide)
  have hxm := mt_get h0 h1
  have hsm := (h.all _ (mt_mem h0 h1)).s
  have nm0 : ¬ m < 0 := by omega
  have gl : g = false ∨ True := .inr trivial
  unfold showR
  obtain ⟨t, htt⟩ : ∃ t, upto w 3 = t := ⟨_, rfl⟩
  obtain ⟨w0, hw0⟩ : ∃ w0, dstep w = w0 := ⟨_, rfl⟩
  obtain ⟨l, hl⟩ : ∃ l, ch bs m = l := ⟨_, rfl⟩
  have kc := rChain_run h h0 h1
  rw [hl] at hcl hmem hall kc
  rw [htt] at ht
  rw [htt, hw0, hl]
  have w1 : IntKind.i64.wrap ((l.length : Int) - 1) = (l.length : Int) - 1 := w64 (by omega)
  refine spec_run e_kit_Showing fun G => ?_
  simp only [go_sem]
  refine cFN kc 6 ⟨.inl (bs_frz (g := g) rfl rfl), .inl rfl, trivial⟩ ?_ (hx := by rw [row_bel_cells]; simp only [go_sem]) (hxn := row_nv_cells _ _ (nvs_ints _ _ ▸ trivial))
  simp only [go_sem, ren, rens]
  refine cD (upto_ok w 3 (by decide)) ?_
  simp only [go_sem, htt, hw0, w1]
  refine loop_ind k_kit_Showing_r8.eq_1 (fun a : Nat × Heap => a.1 ≤ l.length) (fun a => a.1)
    (fun a => (tsets 78 [(0, .ptr 0 0 0 1), (1, .sl 1 0 bs.length), (2, .int .i64 m), (3, .int .i64 (shw bs t (l.drop a.1) x w0).1), (9, .sl 2 0 l.length), (10, .int .i64 t), (11, .int .i64 ((a.1 : Int) - 1))],
      some (Dr (shw bs t (l.drop a.1) x w0).2) :: some (.cells g 7 (bs.map Mv)) :: some (.cells true 1 (l.map (.int .i64))) :: a.2)) (l.length, []) (Nat.le_refl _) (by simp [go_sem, shw]) (by simp [shw]) ?_
  rintro ⟨k, X⟩ hk ih
  dsimp only at hk ih ⊢
  have hrd : Rd bs (l.drop k) x (shw bs t (l.drop k) x w0).1 := shw_rd fun j hj => hall j (List.mem_of_mem_drop hj)
  have hbd := hrd.bd (fun j hj => hall j (List.mem_of_mem_drop hj)) hx
  have hb2 := bnd_rch (n := (l.drop k).length) (by rw [List.length_drop]; omega)
  rcases k with _ | k
  · have c1 : ¬ (0 : Int) ≤ ((0 : Nat) : Int) - 1 := by omega
    rw [List.drop_zero] at *
    obtain ⟨v, hv⟩ : ∃ v, (shw bs t l x w0).1 = v := ⟨_, rfl⟩
    obtain ⟨w2, hw2⟩ : ∃ w2, (shw bs t l x w0).2 = w2 := ⟨_, rfl⟩
    rw [hv] at hbd ⊢
    rw [hw2]
    have lo := low_in (v := v) hsm.1
    obtain ⟨q, hq⟩ : ∃ q, v / (mt bs m).step = q := ⟨_, rfl⟩
    have kd := refDown_run v (mt bs m).step (by omega) (by omega)
    have e1 : shN (mt bs m) v w2 = if (mt bs m).step < 2 * (v - q * (mt bs m).step) then (q * (mt bs m).step + (mt bs m).step, w2)
      else if 2 * (v - q * (mt bs m).step) = (mt bs m).step then (if upto w2 2 = 0 then q * (mt bs m).step + (mt bs m).step else q * (mt bs m).step, dstep w2) else (q * (mt bs m).step, w2) := by rw [← hq]; rfl
    rw [e1]
    rw [hq] at lo kd
    have u1 : IntKind.i64.wrap (q * (mt bs m).step) = q * (mt bs m).step := w64 (by omega)
    have u2 : IntKind.i64.wrap (v - q * (mt bs m).step) = v - q * (mt bs m).step := w64 (by omega)
    have u3 : IntKind.i64.wrap (2 * (v - q * (mt bs m).step)) = 2 * (v - q * (mt bs m).step) := w64 (by omega)
    have u4 : IntKind.i64.wrap (q * (mt bs m).step + (mt bs m).step) = q * (mt bs m).step + (mt bs m).step := w64 (by omega)
    obtain ⟨p, hp⟩ : ∃ p, q * (mt bs m).step = p := ⟨_, rfl⟩
    rw [hp] at lo u1 u2 u3 u4 ⊢
    simp only [go_sem, c1, nm0, hxm, h1, Mv, Mc, List.length_map]
    refine cP kd ?_
    by_cases d1 : (mt bs m).step < 2 * (v - p)
    · simp only [go_sem, hp, u1, u2, u3, d1, u4]
      exact ⟨_, rfl⟩
    · by_cases d2 : 2 * (v - p) = (mt bs m).step
      · have d3 : (2 * (v - p) == (mt bs m).step) = true := beq_iff_eq.2 d2
        simp only [go_sem, hp, u1, u2, u3, d1, d3]
        refine cD (one_ok _ 2 (by decide)) ?_
        by_cases d4 : upto w2 2 = 0
        · have d5 : (upto w2 2 == 0) = true := by rw [d4]; rfl
          simp only [go_sem, d4, d5, u4, if_pos d2]
          exact ⟨_, rfl⟩
        · have d5 : (upto w2 2 == 0) = false := beq_eq_false_iff_ne.2 d4
          simp only [go_sem, d4, d5, if_pos d2]
          exact ⟨_, rfl⟩
      · have d3 : (2 * (v - p) == (mt bs m).step) = false := beq_eq_false_iff_ne.2 d2
        simp only [go_sem, hp, u1, u2, u3, d1, d3, if_neg d2]
        exact ⟨_, rfl⟩
  · have hk' : k < l.length := by omega
    have ei : ((k + 1 : Nat) : Int) - 1 = k := by omega
    have c1 : (0 : Int) ≤ (k : Int) := by omega
    have nk : ¬ (k : Int) < 0 := by omega
    obtain ⟨mk, hmk⟩ : ∃ mk, l[k]? = some mk := ⟨_, List.getElem?_eq_getElem hk'⟩
    have hml := List.mem_of_getElem? hmk
    obtain ⟨m1, m2⟩ := hmem mk hml
    have nmk : ¬ mk < 0 := by omega
    have hxk := mt_get m1 m2
    have hdr : l.drop k = mk :: l.drop (k + 1) := by
      rw [List.drop_eq_getElem_cons hk']
      have := List.getElem?_eq_getElem hk'
      rw [hmk] at this; cases this; rfl
    have ihk := ih (k, X)
    rw [ei]
    have hsh : shw bs t (l.drop k) x w0 = (sel3 t (mkLo (mt bs mk) (shw bs t (l.drop (k + 1)) x w0).1) (mkHi (mt bs mk) (shw bs t (l.drop (k + 1)) x w0).1) (btw (shw bs t (l.drop (k + 1)) x w0).2 (mkLo (mt bs mk) (shw bs t (l.drop (k + 1)) x w0).1) (mkHi (mt bs mk) (shw bs t (l.drop (k + 1)) x w0).1)), dstep (shw bs t (l.drop (k + 1)) x w0).2) := by
      rw [hdr]; rfl
    have ihk := fun X' => ih (k, X') (by dsimp only; omega) (by dsimp only; omega)
    dsimp only at ihk
    rw [hsh] at ihk
    clear ih hsh
    obtain ⟨u, hu⟩ : ∃ u, (shw bs t (l.drop (k + 1)) x w0).1 = u := ⟨_, rfl⟩
    obtain ⟨wu, hwu⟩ : ∃ wu, (shw bs t (l.drop (k + 1)) x w0).2 = wu := ⟨_, rfl⟩
    rw [hu] at hbd ihk ⊢
    rw [hwu] at ihk ⊢
    have km := Made_run (hall mk hml) (x := u) (by simp only [rch]; omega)
    have hb3 := mk_bd (hall mk hml) hbd
    have hb4 := mk_le (hall mk hml) u
    obtain ⟨lo, hlo⟩ : ∃ lo, mkLo (mt bs mk) u = lo := ⟨_, rfl⟩
    obtain ⟨hi, hhi⟩ : ∃ hi, mkHi (mt bs mk) u = hi := ⟨_, rfl⟩
    rw [hlo, hhi] at km hb3 hb4 ihk
    have ki := in_run wu lo hi (by omega) hb4 (by omega)
    simp only [Mv, Mc, r2] at km ki
    have w5 : IntKind.i64.wrap ((k : Int) - 1) = (k : Int) - 1 := w64 (by omega)
    have s3 := sel3_get t lo hi (btw wu lo hi) ht
    have nt : ¬ t < 0 := by omega
    simp only [go_sem, c1, nk, hmk, nmk, hxk, m2, Mv, Mc, List.length_map]
    refine ⟨by omega, ?_⟩
    refine cP km ?_
    simp only [go_sem, cells_end, get_end, put_at_end]
    refine dD ki ?_
    simp only [go_sem, nt, s3, w5, cells_end, get_end]
    exact ⟨ht.2, ihk _ _ (by simp [go_sem])⟩
end Go.Proofs

namespace Go.Proofs
open Go Go.Sx
def pchk : Option (AVal × Heap) → Bool
  | some (.tup [.agg [.int .i64 3, .int .i64 0], .int .i64 0], _) => true
  | _ => false
theorem pchk_eq {o : Option (AVal × Heap)} (h : pchk o = true) : ∃ H', o = some (.tup [.agg [.int .i64 3, .int .i64 0], .int .i64 0], H') := by
  unfold pchk at h
  split at h
  · exact ⟨_, rfl⟩
  · cases h
theorem plan_ex : pchk (exFn tab 3000 40 n_gauge_Plan [.int .i64 10, .int .i64 0, .int .i64 5, .int .i64 10, .int .i64 10] []) = true := by kernel_rfl
theorem plan_run : Ans Tryd.prog n_gauge_Plan [.int .i64 10, .int .i64 0, .int .i64 5, .int .i64 10, .int .i64 10] [] (.tup [.agg [.int .i64 3, .int .i64 0], .int .i64 0]) [] := by
  obtain ⟨H', h1⟩ := pchk_eq plan_ex
  exact (spec_ex mixed tab_ok h1).mono fun v H'' hv => ⟨hv.1, H'', rfl⟩
end Go.Proofs

namespace Go.Proofs
open Go Go.Sx
def kchk : Option (AVal × Heap) → Bool
  | some (.tup [.agg [.int .i64 5000, .int .i64 1000000], .int .i64 0], _) => true
  | _ => false
theorem kchk_eq {o : Option (AVal × Heap)} (h : kchk o = true) : ∃ H', o = some (.tup [.agg [.int .i64 5000, .int .i64 1000000], .int .i64 0], H') := by
  unfold kchk at h
  split at h
  · exact ⟨_, rfl⟩
  · cases h
theorem keeps_ex : kchk (exFn tab 3000 40 n_gauge_Keeps [.agg [.int .i64 10, .int .i64 20], .agg [.int .i64 0, .int .i64 1], .agg [.int .i64 0, .int .i64 25]] []) = true := by kernel_rfl
theorem keeps_run : Ans Tryd.prog n_gauge_Keeps [.agg [.int .i64 10, .int .i64 20], .agg [.int .i64 0, .int .i64 1], .agg [.int .i64 0, .int .i64 25]] [] (.tup [.agg [.int .i64 5000, .int .i64 1000000], .int .i64 0]) [] := by
  obtain ⟨H', h1⟩ := kchk_eq keeps_ex
  exact (spec_ex mixed tab_ok h1).mono fun v H'' hv => ⟨hv.1, H'', rfl⟩
end Go.Proofs

namespace Go.Proofs
open Go Go.Sx Go.Gauge
attribute [local irreducible] Run

def vrd (a b c d : Int) : Int := if b < a ∨ d < c then 0 else if c ≤ a ∧ b ≤ d then 1 else if min b d < max a c then 2 else 3
theorem Verdict_run (a b c d : Int) : Ans Tryd.prog n_gauge_Verdict [r2 a b, r2 c d] [] (.int .i64 (vrd a b c d)) [] := by
  have k1 := isEmpty_run a b
  have k2 := isEmpty_run c d
  have k3 := common_run a b c d
  have k4 := isEmpty_run (max a c) (min b d)
  simp only [r2] at k1 k2 k3 k4
  refine spec_run e_gauge_Verdict fun G => ?_
  simp only [go_sem, r2]
  refine cP k1 ?_
  by_cases c1 : b < a
  · have e : vrd a b c d = 0 := if_pos (.inl c1)
    simp only [go_sem, c1, e]
  · simp only [go_sem, c1]
    refine cP k2 ?_
    by_cases c2 : d < c
    · have e : vrd a b c d = 0 := if_pos (.inr c2)
      simp only [go_sem, c2, e]
    · have e1 : vrd a b c d = if c ≤ a ∧ b ≤ d then 1 else if min b d < max a c then 2 else 3 := if_neg (by omega)
      rw [e1]
      have fin : ¬ (c ≤ a ∧ b ≤ d) → ∀ P : Prop, (min b d < max a c → P) → (¬ min b d < max a c → P) → P := fun _ P h1 h2 => by
        by_cases h : min b d < max a c
        · exact h1 h
        · exact h2 h
      by_cases c3 : c ≤ a
      · by_cases c4 : b ≤ d
        · simp only [go_sem, c2, c3, c4]
        · by_cases c5 : min b d < max a c
          · simp only [go_sem, c2, c3, c4]
            refine cP k3 ?_
            simp only [go_sem]
            refine cP k4 ?_
            simp only [go_sem, c5]
          · simp only [go_sem, c2, c3, c4]
            refine cP k3 ?_
            simp only [go_sem]
            refine cP k4 ?_
            simp only [go_sem, c5]
      · by_cases c5 : min b d < max a c
        · simp only [go_sem, c2, c3]
          refine cP k3 ?_
          simp only [go_sem]
          refine cP k4 ?_
          simp only [go_sem, c5]
        · simp only [go_sem, c2, c3]
          refine cP k3 ?_
          simp only [go_sem]
          refine cP k4 ?_
          simp only [go_sem, c5]
theorem span_run (a b : Int) : Ans Tryd.prog n_law07_span [.int .i64 a, .int .i64 b] [] (.agg [.int .i64 a, .int .i64 b]) [] := by
  refine spec_run e_law07_span fun G => ?_
  simp only [go_sem]

def exB : List Mt := [⟨1000000, 1000000, 0, 0, 10, -1, 100⟩, ⟨990000, 1010000, -5, 5, 1, 0, 50⟩]
theorem exB_ok : VB exB := by
  refine VB.made (by decide) (fun x hx => ?_) fun i x hx => ?_
  · simp only [exB, List.mem_cons, List.not_mem_nil, or_false] at hx
    rcases hx with rfl | rfl
    · exact ⟨by decide, by decide, by decide, by decide⟩
    · exact ⟨by decide, by decide, by decide, by decide⟩
  · match i, hx with
    | 0, hx => simp [exB] at hx; subst hx; decide
    | 1, hx => simp [exB] at hx; subst hx; decide
    | i + 2, hx => simp [exB] at hx
theorem lf_val {m : Mt} (h : MtOK m) {y L : Int} (hL : -rch < L ∧ L ≤ rch) (h1 : y ≤ mkHi m L) (h2 : mkHi m (L - 1) < y) : lf m y = L := by
  have a1 := (lf_iff h (y := y) (x := L) (by omega) hL.2).1 h1
  have a2 : ¬ lf m y ≤ L - 1 := fun e => by
    have := (lf_iff h (y := y) (x := L - 1) (by omega) (by omega)).2 e
    omega
  omega
theorem mf_val {m : Mt} (h : MtOK m) {y L : Int} (hL : -rch ≤ L ∧ L < rch) (h1 : mkLo m L ≤ y) (h2 : y < mkLo m (L + 1)) : mf m y = L := by
  have a1 := (mf_iff h (y := y) (x := L) hL.1 (by omega)).1 h1
  have a2 : ¬ L + 1 ≤ mf m y := fun e => by
    have := (mf_iff h (y := y) (x := L + 1) (by omega) (by omega)).2 e
    omega
  omega
theorem exB_true : tru exB 1 1000 = some (985, 1016) := by
  have h1 : MtOK (mt exB 1) := exB_ok.all _ (mt_mem (by decide) (by decide))
  have h0 : MtOK (mt exB 0) := exB_ok.all _ (mt_mem (by decide) (by decide))
  have hc : ch exB 1 = [1, 0] := by decide
  have hs : (mt exB 1).step = 1 := rfl
  unfold tru
  rw [hc, hs]
  have e1 : lf (mt exB 1) 1000 = 985 := lf_val h1 (by decide) (by decide) (by decide)
  have e2 : mf (mt exB 1) 1000 = 1016 := mf_val h1 (by decide) (by decide) (by decide)
  have e3 : lf (mt exB 0) 985 = 985 := lf_val h0 (by decide) (by decide) (by decide)
  have e4 : mf (mt exB 0) 1016 = 1016 := mf_val h0 (by decide) (by decide) (by decide)
  have w1 : (1000 : Int) - 1 / 2 = 1000 := by decide
  have w2 : (1000 : Int) + 1 / 2 = 1000 := by decide
  rw [w1, w2]
  simp only [tfr, e1, e2, e3, e4]
  decide
theorem bench_ex : Ans Tryd.prog n_law07_bench [] [] (.sl 0 0 2) [some (.cells false 7 (exB.map Mv))] := by
  refine spec_run e_law07_bench fun G => ?_
  simp only [go_sem]
  refine cP (span_run 1000000 1000000) ?_
  simp only [go_sem]
  refine cP (span_run 990000 1010000) ?_
  simp only [go_sem]
  refine cP (span_run (-5) 5) ?_
  simp only [go_sem]
  exact ⟨_, rfl⟩

theorem zs_frz (H : Heap) (h : H[4]? = some (some (.cells false 7 (List.replicate 13 (.agg [.int .i64 0, .int .i64 0, .int .i64 0, .int .i64 0, .int .i64 0, .int .i64 0, .int .i64 0]))))) :
    frz 6 H (.sl 4 0 13) = .view (List.replicate 13 (.agg [.int .i64 0, .int .i64 0, .int .i64 0, .int .i64 0, .int .i64 0, .int .i64 0, .int .i64 0])) := by
  rw [frz_sl (d := 5) h (by simp), List.map_replicate]; rfl

set_option maxHeartbeats 4000000 in
set_option maxRecDepth 10000 in
theorem awake_ok : Ans Tryd.prog n_law07_awake [] [] (.bool true) [] := by
  have kt := True_run exB_ok (m0 := 1) (n := 1000) (by decide) (by decide) (by decide) (by decide)
  rw [exB_true] at kt
  simp only [truV] at kt
  have kv := Verdict_run 95 105 106 200
  simp only [r2] at kv
  have ev : vrd 95 105 106 200 = 2 := by decide
  rw [ev] at kv
  refine spec_run e_law07_awake fun G => ?_
  simp only [go_sem]
  refine cN1 bench_ex ?_
  simp only [go_sem, ren, rens]
  refine cF kt 6 ⟨.inl (bs_frz (g := false) rfl rfl), .inl rfl, .inl rfl, trivial⟩ ?_
  simp only [go_sem]
  refine cP plan_run ?_
  simp only [go_sem]
  refine cP (span_run 10 20) ?_
  simp only [go_sem]
  refine cP (span_run 0 1) ?_
  simp only [go_sem]
  refine cP (span_run 0 25) ?_
  simp only [go_sem]
  refine cP keeps_run ?_
  simp only [go_sem]
  refine dP (span_run 985 1016) ?_
  simp only [go_sem]
  refine dP (span_run 5000 1000000) ?_
  simp only [go_sem]
  refine cP (span_run 95 105) ?_
  simp only [go_sem]
  refine cP (span_run 106 200) ?_
  simp only [go_sem]
  refine cP kv ?_
  simp only [go_sem]
  refine ⟨by decide, ?_⟩
  refine cF (Check_full (es := List.replicate 13 (.agg [.int .i64 0, .int .i64 0, .int .i64 0, .int .i64 0, .int .i64 0, .int .i64 0, .int .i64 0])) (by simp) (by simp only [go_sem])) 6 ⟨.inl (zs_frz _ rfl), trivial⟩ ?_
  simp only [go_sem]
end Go.Proofs

namespace Go.Proofs
open Go Go.Sx Go.Gauge
attribute [local irreducible] Run

theorem mod_in (a b : Int) (hb : 1 ≤ b) : 0 ≤ a % b ∧ a % b < b := ⟨Int.emod_nonneg _ (by omega), Int.emod_lt_of_pos _ (by omega)⟩
theorem bk_bel (bs : List Mt) (g : Bool) (S : Nat → Prop) : (Row.cells g 7 (bs.map Mv)).bel S := by rw [row_bel_cells]; simp only [go_sem]
theorem bk5 (w : Int) : AnsE Tryd.prog n_kit_BenchOf [.ptr 0 0 0 1, .int .i64 5] [some (Dr w)] (fun a : List Mt × Int => BkOK a.1 ∧ 1 ≤ a.1.length ∧ a.1.length ≤ 5) (fun a => .sl 1 0 a.1.length) (fun a => [some (Dr a.2), some (.cells true 7 (a.1.map Mv))]) := benchOf_run w (N := 5) (by decide)
theorem showR_ok {bs : List Mt} (h : VB bs) {m x w : Int} (h0 : 0 ≤ m) (h1 : m < bs.length) (hx : -1000000000 ≤ x ∧ x ≤ 1000000000) :
    (showR bs m x w).1 % (mt bs m).step = 0 ∧ ∃ a b, tru bs m (showR bs m x w).1 = some (a, b) ∧ a ≤ x ∧ x ≤ b := by
  have hs := (h.all _ (mt_mem h0 h1)).s
  refine ⟨shN_mul _ _ _, ?_⟩
  have hm := ch_mem h _ m rfl (by omega) h1
  exact tru_has h h0 h1 hx (shw_rd (t := upto w 3) (w := dstep w) fun k hk => h.all _ (mt_mem (hm k hk).1 (hm k hk).2)) (shN_near _ _ _ hs.1)

set_option maxHeartbeats 4000000 in
set_option maxRecDepth 10000 in
theorem shows_law (zs : List Int) (hl : zs.length ≤ 9223372036854775807) (a1 : Int) : Ans Tryd.prog n_law07_GaugeShows [.view (zs.map (.int .i64)), .int .i64 a1] [] (.bool true) [] := by
  have m1 := mod_in a1 2000000001 (by omega)
  have e1 := mod_pos a1 2000000001 (by omega)
  obtain ⟨s, hs⟩ : ∃ s, a1 % 2000000001 = s := ⟨_, rfl⟩
  rw [hs] at m1 e1
  have w1 : IntKind.i64.wrap (s - 1000000000) = s - 1000000000 := w64 (by omega)
  refine spec_run e_law07_GaugeShows fun G => ?_
  simp only [go_sem]
  refine callN1 (newdice_ok zs hl) (by simp only [go_sem]) (dr_bel _ _) (by simp) (by simp) ?_
  generalize seedW zs = w
  simp only [go_sem]
  refine callDN (bk5 w) rfl (by simp only [go_sem]) (dr_bel _ _) (fun a ha => ⟨by simp [go_sem], dr_bel _ _, bk_bel _ _ _⟩) (by simp) (by simp) ?_
  rintro ⟨bs, w2⟩ ⟨hb, hb1, hb5⟩
  dsimp only at hb hb1 hb5 ⊢
  have hv := hb.vb (by omega)
  have u1 := upto_in (w := w2) (n := bs.length) (by omega)
  simp only [go_sem, ren, rens]
  refine cD (upto_ok w2 bs.length (by omega)) ?_
  obtain ⟨m, hm⟩ : ∃ m, upto w2 bs.length = m := ⟨_, rfl⟩
  rw [hm] at u1 ⊢
  simp only [go_sem]
  refine cP e1 ?_
  simp only [go_sem, w1]
  refine cD (one_ok _ 2 (by decide)) ?_
  have t1 := Int.tmod_lt_of_pos (s - 1000000000) (show (0 : Int) < 10000 by decide)
  have t2 := Int.lt_tmod_of_pos (s - 1000000000) (show (0 : Int) < 10000 by decide)
  by_cases c1 : upto (dstep w2) 2 = 0
  · have c2 : (upto (dstep w2) 2 == 0) = true := by rw [c1]; rfl
    simp only [go_sem, c2]
    obtain ⟨x, hx⟩ : ∃ x, (s - 1000000000).tmod 10000 = x := ⟨_, rfl⟩
    rw [hx] at t1 t2 ⊢
    have sh := Showing_run hv u1.1 u1.2 (x := x) (by omega) (dstep (dstep w2)) true
    obtain ⟨ok1, a, b, ok2, ok3, ok4⟩ := showR_ok hv u1.1 u1.2 (x := x) (w := dstep (dstep w2)) (by omega)
    obtain ⟨p, hp⟩ : ∃ p, showR bs m (x) (dstep (dstep w2)) = p := ⟨_, rfl⟩
    rw [hp] at sh ok1 ok2
    refine cS2 sh (j0 := 0) (j1 := 1) rfl (by simp [go_sem]) rfl rfl (dr_bel _ _) (bk_bel _ _ _) (dr_bel _ _) (bk_bel _ _ _) (by decide) (.int _ _) (by simp) (by simp) ?_
    by_cases d1 : p.1 < -1000000000
    · simp only [go_sem, d1]
      refine cP awake_ok ?_
      simp only [go_sem]
    · by_cases d2 : 1000000000 < p.1
      · simp only [go_sem, d1, d2]
        refine cP awake_ok ?_
        simp only [go_sem]
      · have kt := True_run hv u1.1 u1.2 (n := p.1) ⟨by omega, by omega⟩ ok1
        rw [ok2] at kt
        simp only [truV] at kt
        simp only [go_sem, d1, d2]
        refine cF kt 6 ⟨.inl (bs_frz (g := true) rfl rfl), .inl rfl, .inl rfl, trivial⟩ ?_
        simp only [go_sem, ok3, ok4]
        refine cP awake_ok ?_
        simp only [go_sem]
  · have c2 : (upto (dstep w2) 2 == 0) = false := beq_eq_false_iff_ne.2 c1
    simp only [go_sem, c2]
    obtain ⟨x, hx⟩ : ∃ x, s - 1000000000 = x := ⟨_, rfl⟩
    rw [hx]
    have sh := Showing_run hv u1.1 u1.2 (x := x) (by omega) (dstep (dstep w2)) true
    obtain ⟨ok1, a, b, ok2, ok3, ok4⟩ := showR_ok hv u1.1 u1.2 (x := x) (w := dstep (dstep w2)) (by omega)
    obtain ⟨p, hp⟩ : ∃ p, showR bs m (x) (dstep (dstep w2)) = p := ⟨_, rfl⟩
    rw [hp] at sh ok1 ok2
    refine cS2 sh (j0 := 0) (j1 := 1) rfl (by simp [go_sem]) rfl rfl (dr_bel _ _) (bk_bel _ _ _) (dr_bel _ _) (bk_bel _ _ _) (by decide) (.int _ _) (by simp) (by simp) ?_
    by_cases d1 : p.1 < -1000000000
    · simp only [go_sem, d1]
      refine cP awake_ok ?_
      simp only [go_sem]
    · by_cases d2 : 1000000000 < p.1
      · simp only [go_sem, d1, d2]
        refine cP awake_ok ?_
        simp only [go_sem]
      · have kt := True_run hv u1.1 u1.2 (n := p.1) ⟨by omega, by omega⟩ ok1
        rw [ok2] at kt
        simp only [truV] at kt
        simp only [go_sem, d1, d2]
        refine cF kt 6 ⟨.inl (bs_frz (g := true) rfl rfl), .inl rfl, .inl rfl, trivial⟩ ?_
        simp only [go_sem, ok3, ok4]
        refine cP awake_ok ?_
        simp only [go_sem]
end Go.Proofs

namespace Go.Proofs
open Go Go.ChangeShapes Go.WideShapes Go.ChangeAt Go.RowKit

def laid1 : List (String × DataW Unit) := [("thermion/gauge.values", .agg [.lit (.int .i64 (-1000000000)), .lit (.int .i64 1000000000)])]
theorem gVal : Tryd.prog.globalNamed "thermion/gauge.values" = some 0 := by kernel_rfl
theorem tVal : (Tryd.prog.globals[0]?).map (·.type) = some 24 := by kernel_rfl
theorem nVal : Tryd.prog.globals.size = 1 := by kernel_rfl
theorem eVal : Go.Sx.gvOf Tryd.prog 0 = some (.agg [.int .i64 (-1000000000), .int .i64 1000000000]) := by kernel_rfl

set_option maxRecDepth 100000 in
theorem values_met {W : World} (h : laidMetH Tryd.prog laid1 W) : W.cell? ⟨0, 0, none⟩ = some (.int .i64 (-1000000000)) ∧ W.cell? ⟨0, 1, none⟩ = some (.int .i64 1000000000) := by
  rw [MakeChecks.laidMetH_plain _ _ _ (by kernel_rfl)] at h
  obtain ⟨ps, ⟨g0, t0, cs0, f0, p0, q0, hg0, ht0, hv0, hd0, _⟩, _, _⟩ := h
  obtain rfl := Option.some.inj (gVal.symm.trans hg0)
  obtain rfl := Option.some.inj (tVal.symm.trans ht0)
  obtain ⟨y0, y1, n, hx, hl, hy0, hy1⟩ := trod_struct2 Tryd.underlying24 hd0
  simp only [Prod.mk.injEq, DataW.agg.injEq, List.cons.injEq, and_true] at hx
  obtain ⟨⟨e0, e1⟩, _⟩ := hx
  have c24 : Tryd.prog.cellsOf 24 = 2 := by kernel_rfl
  have c3 : Tryd.prog.cellsOf 3 = 1 := by kernel_rfl
  rw [c24] at hl
  obtain ⟨l⟩ := cs0
  match l, hl with
  | [u, v], _ =>
    obtain ⟨k0, z0, z1, _⟩ := DataW.trod_int Tryd.underlying3 hy0
    obtain ⟨k1, z2, z3, _⟩ := DataW.trod_int Tryd.underlying3 hy1
    rw [z1] at e0
    rw [z3] at e1
    simp only [DataW.lit.injEq, Lit.int.injEq, true_and] at e0 e1
    simp [c3] at z0 z2
    subst z0 z2 e0 e1
    exact ⟨World.var?_cell hg0 hv0 0, World.var?_cell hg0 hv0 1⟩

theorem values_glob {W : World} (h : laidMetH Tryd.prog laid1 W) : Go.Sx.GlobOK Tryd.prog (Go.Sx.topG W) := by
  obtain ⟨h0, h1⟩ := values_met h
  have hb : 0 < W.heap.size := by
    simp only [World.cell?] at h0
    split at h0
    · rename_i c _ _ hh
      exact (Array.getElem?_eq_some_iff.1 hh).1
    · cases h0
  intro g e he
  match g, he with
  | 0, he =>
    rw [eVal] at he
    cases he
    refine ⟨hb, fun j hj => ?_⟩
    match j, hj with
    | 0, _ => exact ⟨_, h0, fun μ => .int _ _⟩
    | 1, _ => exact ⟨_, h1, fun μ => .int _ _⟩
    | j + 2, hj => simp [Go.Sx.acells] at hj; omega
  | g + 1, he =>
    have hg : Tryd.prog.globals[g + 1]? = none := Array.getElem?_eq_none (by rw [nVal]; omega)
    unfold Go.Sx.gvOf at he
    rw [hg] at he; cases he
end Go.Proofs

