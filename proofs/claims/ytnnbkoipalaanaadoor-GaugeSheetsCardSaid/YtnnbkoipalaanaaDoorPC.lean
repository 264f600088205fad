/- A part of the proof. -/
import Derived.Test.YtnnbkoipalaanaaDoorPB
set_option linter.unusedSimpArgs false
set_option linter.unusedVariables false
namespace Go.Proofs
open Go Go.Sx Go.Gauge
attribute [local irreducible] Run

theorem beyond_run (n a b : Int) : Ans Tryd.prog n_ref07_beyond [.int .i64 n, .int .i64 a, .int .i64 b] [] (.bool (!decide (a ≤ n ∧ n ≤ b))) [] := by
  refine spec_run e_ref07_beyond fun G => ?_
  by_cases h1 : n < a
  · have h2 : ¬ (a ≤ n ∧ n ≤ b) := by omega
    simp only [go_sem, h1, decide_eq_false h2]
  · by_cases h2 : b < n
    · have h3 : ¬ (a ≤ n ∧ n ≤ b) := by omega
      simp only [go_sem, h1, h2, decide_eq_false h3]
    · have h3 : (a ≤ n ∧ n ≤ b) := by omega
      simp only [go_sem, h1, h2, decide_eq_true h3]
theorem rcheckRange_yes {a b c d : Int} (h : c ≤ a ∧ a ≤ b ∧ b ≤ d) : Ans Tryd.prog n_ref07_checkRange [r2 a b, .int .i64 c, .int .i64 d] [] (.int .i64 0) [] := by
  have k1 := beyond_run a c d
  have k2 := beyond_run b c d
  rw [decide_eq_true (by omega)] at k1 k2
  have c1 : ¬ b < a := by omega
  refine spec_run e_ref07_checkRange fun G => ?_
  simp only [go_sem, r2]
  refine cP k1 ?_
  simp only [go_sem]
  refine cP k2 ?_
  simp only [go_sem, c1]
theorem rcheckMaking_yes {m : Mt} (h : MtOK m) : Ans Tryd.prog n_ref07_checkMaking [Mv m] [] (.int .i64 0) [] := by
  have k1 := rcheckRange_yes (a := m.glo) (b := m.ghi) (c := 500000) (d := 2000000) (by have := h.g; omega)
  have k2 := rcheckRange_yes (a := m.olo) (b := m.ohi) (c := -1000000) (d := 1000000) (by have := h.o; omega)
  simp only [r2] at k1 k2
  refine spec_run e_ref07_checkMaking fun G => ?_
  simp only [go_sem, Mv, Mc]
  refine cP k1 ?_
  simp only [go_sem]
  refine cP k2 ?_
  simp only [go_sem]

set_option maxHeartbeats 4000000 in
set_option maxRecDepth 10000 in
theorem rchain_run {bs : List Mt} (h : VB bs) {m0 : Int} (h0 : 0 ≤ m0) (h1 : m0 < bs.length) :
    Ans Tryd.prog n_ref07_chain [.view (bs.map Mv), .int .i64 m0] [] (.tup [.sl 0 0 (ch bs m0).length, .bool true]) [some (.cells true 1 ((ch bs m0).map (.int .i64)))] := by
  have hlen := h.len
  have hc0 := ch_len h (show -1 ≤ m0 by omega) h1
  have hst0 := ch_step h h0 h1
  have hx0 := mt_get h0 h1
  have hcm0 := h.cmp _ (mt_mem h0 h1)
  have n0 : ¬ m0 < 0 := by omega
  have l0 : (0 : Int) ≤ bs.length := by omega
  obtain ⟨T, hT⟩ : ∃ T, ch bs m0 = T := ⟨_, rfl⟩
  rw [hT] at hc0 hst0 ⊢
  refine Ans.keep (run_fn e_ref07_chain fun G => ?_) (by simp) (by simp [go_sem]) ⟨by rw [row_bel_cells]; simp only [go_sem], trivial⟩
  simp only [go_sem]
  refine loop_body 400 k_ref07_chain_r5.eq_1 ?_
  simp only [go_sem, h0, l0, n0, hx0, h1, Mv, Mc]
  refine ⟨by decide, ?_⟩
  refine loop_ind k_ref07_chain_r5.eq_1 (fun a : Int × List Int × Heap => -1 ≤ a.1 ∧ a.1 < bs.length ∧ 1 ≤ a.2.1.length ∧ a.2.1 ++ ch bs a.1 = T) (fun a => T.length - a.2.1.length)
    (fun a => (tsets 28 [(0, .view (bs.map Mv)), (1, .int .i64 a.1), (6, .sl 1 0 a.2.1.length)], some (.cells false 1 [.int .i64 m0]) :: some (.cells true 1 (a.2.1.map (.int .i64))) :: a.2.2)) ((mt bs m0).cmp, [m0], []) ⟨hcm0.1, hcm0.2, by simp, hst0.symm⟩ (by simp [go_sem]) rfl ?_
  rintro ⟨m, l, X⟩ ⟨g1, g2, g3, g4⟩ ih
  dsimp only at g1 g2 g3 g4 ih ⊢
  have hTl : l.length + (ch bs m).length = T.length := by rw [← g4]; simp
  by_cases c1 : m = -1
  · have c2 : ¬ (0 : Int) ≤ m := by omega
    have c3 : m < 0 := by omega
    rw [c1, ch_end, List.append_nil] at g4
    subst g4
    simp only [go_sem, c2, c3]
    refine kept_one 1 (by simp [ren, rens]) (by rw [row_bel_cells]; simp only [go_sem]) rfl
  · have c2 : (0 : Int) ≤ m := by omega
    have c3 : (l.length : Int) ≤ bs.length := by omega
    have n1 : ¬ m < 0 := by omega
    have hst := ch_step h c2 g2
    have hx := mt_get c2 g2
    have hcm := h.cmp _ (mt_mem c2 g2)
    have hq : (l.length + 1) * 8 ≤ 2 ^ 44 := by omega
    have ez : l.map (AVal.int .i64) ++ [.int .i64 m] = (l ++ [m]).map (.int .i64) := by simp
    have el : l.length + 1 = (l ++ [m]).length := by simp
    have hl2 : (ch bs m).length = (ch bs (mt bs m).cmp).length + 1 := by rw [hst]; rfl
    simp only [go_sem, c2, c3, n1, hx, g2, hq, Mv, Mc, List.length_map]
    rw [ez, el]
    exact ih ((mt bs m).cmp, l ++ [m], _) (by simp; omega) ⟨hcm.1, hcm.2, by simp, by rw [← g4, hst]; simp⟩ _ (by simp [go_sem])

set_option maxHeartbeats 4000000 in
set_option maxRecDepth 10000 in
theorem rCheck_yes {bs : List Mt} (h : VB bs) : Ans Tryd.prog n_ref07_Check [.view (bs.map Mv)] [] (.int .i64 0) [] := by
  have hlen := h.len
  have c0 : ¬ (12 : Int) < bs.length := by omega
  refine spec_run e_ref07_Check fun G => ?_
  simp only [go_sem, c0, List.length_map]
  refine loop_ind k_ref07_Check_r12.eq_1 (fun a : Nat × Heap => a.1 ≤ bs.length) (fun a => bs.length - a.1)
    (fun a => (tsets 57 [(0, .view (bs.map Mv)), (3, .int .i64 a.1)], a.2)) (0, []) (Nat.zero_le _) (by simp [go_sem]) rfl ?_
  rintro ⟨i, H⟩ hi ih
  dsimp only at hi ih ⊢
  by_cases c1 : i < bs.length
  · have c2 : (i : Int) < bs.length := by omega
    have n0 : ¬ (i : Int) < 0 := by omega
    have w1 : IntKind.i64.wrap ((i : Int) + 1) = ((i + 1 : Nat) : Int) := by rw [w64 (by omega)]; rfl
    have w2 : IntKind.i64.wrap ((bs.length : Int) - 1) = (bs.length : Int) - 1 := w64 (by omega)
    obtain ⟨z, hz⟩ : ∃ z, bs[i]? = some z := ⟨_, List.getElem?_eq_getElem c1⟩
    have hm := List.mem_of_getElem? hz
    have hs := (h.all z hm).s
    have hd := (h.all z hm).d
    have hc := h.cmp z hm
    have k := rcheckMaking_yes (h.all z hm)
    have k1 := beyond_run z.step 1 1000000
    have k2 := beyond_run z.due 0 1000000000
    have k3 := beyond_run z.cmp (-1) ((bs.length : Int) - 1)
    rw [decide_eq_true (by omega)] at k1 k2 k3
    simp only [Mv, Mc] at k
    simp only [go_sem, c2, n0, hz, Mv, Mc, cells_end, get_end, put_at_end, List.length_map]
    refine cP k ?_
    simp only [go_sem, cells_end, get_end]
    refine cP k1 ?_
    simp only [go_sem, cells_end, get_end]
    refine cP k2 ?_
    simp only [go_sem, cells_end, get_end, w2, List.length_map]
    refine cP k3 ?_
    simp only [go_sem, w1]
    exact ih (i + 1, _) (by dsimp only; omega) c1 _ (by simp [go_sem])
  · have c2 : ¬ (i : Int) < bs.length := by omega
    simp only [go_sem, c2, List.length_map]
    refine loop_ind k_ref07_Check_r19.eq_1 (fun a : Nat × Heap => a.1 ≤ bs.length) (fun a => bs.length - a.1)
      (fun a => (tsets 57 [(0, .view (bs.map Mv)), (6, .int .i64 a.1)], a.2)) (0, H) (Nat.zero_le _) (by simp [go_sem]) rfl ?_
    clear ih
    rintro ⟨i, H⟩ hi ih
    dsimp only at hi ih ⊢
    by_cases c1 : i < bs.length
    · have c2 : (i : Int) < bs.length := by omega
      have w1 : IntKind.i64.wrap ((i : Int) + 1) = ((i + 1 : Nat) : Int) := by rw [w64 (by omega)]; rfl
      have k := rchain_run h (m0 := i) (by omega) c2
      simp only [go_sem, c2, List.length_map]
      refine cN1 k ?_
      simp only [go_sem, ren, rens, w1]
      exact ih (i + 1, _) (by dsimp only; omega) c1 _ (by simp [go_sem])
    · have c2 : ¬ (i : Int) < bs.length := by omega
      simp only [go_sem, c2, List.length_map]
theorem rChain_run {bs : List Mt} (h : VB bs) {m0 : Int} (h0 : 0 ≤ m0) (h1 : m0 < bs.length) :
    Ans Tryd.prog n_ref07_Chain [.view (bs.map Mv), .int .i64 m0] [] (.sl 0 0 (ch bs m0).length) [some (.cells true 1 ((ch bs m0).map (.int .i64)))] := by
  have hlen := h.len
  have w2 : IntKind.i64.wrap ((bs.length : Int) - 1) = (bs.length : Int) - 1 := w64 (by omega)
  have k1 := beyond_run m0 0 ((bs.length : Int) - 1)
  rw [decide_eq_true (by omega)] at k1
  refine spec_run e_ref07_Chain fun G => ?_
  simp only [go_sem]
  refine cP (rCheck_yes h) ?_
  simp only [go_sem, w2, List.length_map]
  refine cP k1 ?_
  simp only [go_sem]
  refine cN1 (rchain_run h h0 h1) ?_
  simp only [go_sem, ren, rens]
  exact ⟨_, rfl⟩
end Go.Proofs

namespace Go.Proofs
open Go Go.Sx Go.Gauge
attribute [local irreducible] Run

def sel3 (t a b c : Int) : Int := if t = 0 then a else if t = 1 then b else c
theorem sel3_get (t a b c : Int) (ht : 0 ≤ t ∧ t < 3) : [AVal.int .i64 a, .int .i64 b, .int .i64 c][t.toNat]? = some (.int .i64 (sel3 t a b c)) := by
  obtain rfl | rfl | rfl : t = 0 ∨ t = 1 ∨ t = 2 := by omega
  · rfl
  · rfl
  · rfl
def shw (bs : List Mt) (t : Int) : List Int → Int → Int → Int × Int
  | [], x, w => (x, w)
  | m :: ms, x, w => (sel3 t (mkLo (mt bs m) (shw bs t ms x w).1) (mkHi (mt bs m) (shw bs t ms x w).1) (btw (shw bs t ms x w).2 (mkLo (mt bs m) (shw bs t ms x w).1) (mkHi (mt bs m) (shw bs t ms x w).1)), dstep (shw bs t ms x w).2)
theorem shw_rd {bs : List Mt} {t : Int} : ∀ {l : List Int} {x w : Int}, (∀ m ∈ l, MtOK (mt bs m)) → Rd bs l x (shw bs t l x w).1
  | [], _, _, _ => rfl
  | m :: ms, x, w, h => by
    have hm := h m List.mem_cons_self
    have hle := mk_le hm (shw bs t ms x w).1
    have hb := btw_in (w := (shw bs t ms x w).2) hle
    refine ⟨(shw bs t ms x w).1, shw_rd fun k hk => h k (List.mem_cons_of_mem _ hk), ?_⟩
    simp only [shw, sel3]
    split
    · omega
    · split <;> omega
def shN (m : Mt) (v w : Int) : Int × Int :=
  if m.step < 2 * (v - v / m.step * m.step) then (v / m.step * m.step + m.step, w)
  else if 2 * (v - v / m.step * m.step) = m.step then (if upto w 2 = 0 then v / m.step * m.step + m.step else v / m.step * m.step, dstep w) else (v / m.step * m.step, w)
def showR (bs : List Mt) (m x w : Int) : Int × Int := shN (mt bs m) (shw bs (upto w 3) (ch bs m) x (dstep w)).1 (shw bs (upto w 3) (ch bs m) x (dstep w)).2
theorem low_in {v s : Int} (h : 1 ≤ s) : v - s < v / s * s ∧ v / s * s ≤ v := by
  have e := Int.emod_add_mul_ediv v s
  have h1 := Int.emod_nonneg v (show s ≠ 0 by omega)
  have h2 := Int.emod_lt_of_pos v (show 0 < s by omega)
  have e2 : s * (v / s) = v / s * s := Int.mul_comm _ _
  omega
theorem mv_frz (ms : List Mt) (d : Nat) (H : Heap) : (ms.map Mv).map (frz (d + 2) H) = ms.map Mv := by rw [List.map_map]; rfl
theorem bs_frz {bs : List Mt} {H : Heap} {j n : Nat} {g : Bool} (h : H[j]? = some (some (.cells g 7 (bs.map Mv)))) (hn : n = bs.length) : frz 6 H (.sl j 0 n) = .view (bs.map Mv) := by
  rw [frz_sl (d := 5) h (by simpa using hn), mv_frz]

set_option maxHeartbeats 8000000 in
set_option maxRecDepth 10000 in
theorem Showing_run {bs : List Mt} (h : VB bs) {m x : Int} (h0 : 0 ≤ m) (h1 : m < bs.length) (hx : -1000000000 ≤ x ∧ x ≤ 1000000000) (w : Int) (g : Bool) :
    Ans Tryd.prog n_kit_Showing [.ptr 0 0 0 1, .sl 1 0 bs.length, .int .i64 m, .int .i64 x] [some (Dr w), some (.cells g 7 (bs.map Mv))] (.int .i64 (showR bs m x w).1) [some (Dr (showR bs m x w).2), some (.cells g 7 (bs.map Mv))] := by
  have hlen := h.len
  have hcl := ch_len h (show -1 ≤ m by omega) h1
  have hmem := ch_mem h _ m rfl (by omega) h1
  have hall : ∀ k ∈ ch bs m, MtOK (mt bs k) := fun k hk => h.all _ (mt_mem (hmem k hk).1 (hmem k hk).2)
  have ht := upto_in (w := w) (n := 3) (by decide)
  have hxm := mt_get h0 h1
  have hsm := (h.all _ (mt_mem h0 h1)).s
  have nm0 : ¬ m < 0 := by omega
  have gl : g = false ∨ True := .inr trivial
  unfold showR
  obtain ⟨t, htt⟩ : ∃ t, upto w 3 = t := ⟨_, rfl⟩
  obtain ⟨w0, hw0⟩ : ∃ w0, dstep w = w0 := ⟨_, rfl⟩
  obtain ⟨l, hl⟩ : ∃ l, ch bs m = l := ⟨_, rfl⟩
  have kc := rChain_run h h0 h1
  rw [hl] at hcl hmem hall kc
  rw [htt] at ht
  rw [htt, hw0, hl]
  have w1 : IntKind.i64.wrap ((l.length : Int) - 1) = (l.length : Int) - 1 := w64 (by omega)
  refine spec_run e_kit_Showing fun G => ?_
  simp only [go_sem]
  refine cFN kc 6 ⟨.inl (bs_frz (g := g) rfl rfl), .inl rfl, trivial⟩ ?_ (hx := by rw [row_bel_cells]; simp only [go_sem]) (hxn := row_nv_cells _ _ (nvs_ints _ _ ▸ trivial))
  simp only [go_sem, ren, rens]
  refine cD (upto_ok w 3 (by decide)) ?_
  simp only [go_sem, htt, hw0, w1]
  refine loop_ind k_kit_Showing_r8.eq_1 (fun a : Nat × Heap => a.1 ≤ l.length) (fun a => a.1)
    (fun a => (tsets 78 [(0, .ptr 0 0 0 1), (1, .sl 1 0 bs.length), (2, .int .i64 m), (3, .int .i64 (shw bs t (l.drop a.1) x w0).1), (9, .sl 2 0 l.length), (10, .int .i64 t), (11, .int .i64 ((a.1 : Int) - 1))],
      some (Dr (shw bs t (l.drop a.1) x w0).2) :: some (.cells g 7 (bs.map Mv)) :: some (.cells true 1 (l.map (.int .i64))) :: a.2)) (l.length, []) (Nat.le_refl _) (by simp [go_sem, shw]) (by simp [shw]) ?_
  rintro ⟨k, X⟩ hk ih
  dsimp only at hk ih ⊢
  have hrd : Rd bs (l.drop k) x (shw bs t (l.drop k) x w0).1 := shw_rd fun j hj => hall j (List.mem_of_mem_drop hj)
  have hbd := hrd.bd (fun j hj => hall j (List.mem_of_mem_drop hj)) hx
  have hb2 := bnd_rch (n := (l.drop k).length) (by rw [List.length_drop]; omega)
  rcases k with _ | k
  · have c1 : ¬ (0 : Int) ≤ ((0 : Nat) : Int) - 1 := by omega
    rw [List.drop_zero] at *
    obtain ⟨v, hv⟩ : ∃ v, (shw bs t l x w0).1 = v := ⟨_, rfl⟩
    obtain ⟨w2, hw2⟩ : ∃ w2, (shw bs t l x w0).2 = w2 := ⟨_, rfl⟩
    rw [hv] at hbd ⊢
    rw [hw2]
    have lo := low_in (v := v) hsm.1
    obtain ⟨q, hq⟩ : ∃ q, v / (mt bs m).step = q := ⟨_, rfl⟩
    have kd := refDown_run v (mt bs m).step (by omega) (by omega)
    have e1 : shN (mt bs m) v w2 = if (mt bs m).step < 2 * (v - q * (mt bs m).step) then (q * (mt bs m).step + (mt bs m).step, w2)
      else if 2 * (v - q * (mt bs m).step) = (mt bs m).step then (if upto w2 2 = 0 then q * (mt bs m).step + (mt bs m).step else q * (mt bs m).step, dstep w2) else (q * (mt bs m).step, w2) := by rw [← hq]; rfl
    rw [e1]
    rw [hq] at lo kd
    have u1 : IntKind.i64.wrap (q * (mt bs m).step) = q * (mt bs m).step := w64 (by omega)
    have u2 : IntKind.i64.wrap (v - q * (mt bs m).step) = v - q * (mt bs m).step := w64 (by omega)
    have u3 : IntKind.i64.wrap (2 * (v - q * (mt bs m).step)) = 2 * (v - q * (mt bs m).step) := w64 (by omega)
    have u4 : IntKind.i64.wrap (q * (mt bs m).step + (mt bs m).step) = q * (mt bs m).step + (mt bs m).step := w64 (by omega)
    obtain ⟨p, hp⟩ : ∃ p, q * (mt bs m).step = p := ⟨_, rfl⟩
    rw [hp] at lo u1 u2 u3 u4 ⊢
    simp only [go_sem, c1, nm0, hxm, h1, Mv, Mc, List.length_map]
    refine cP kd ?_
    by_cases d1 : (mt bs m).step < 2 * (v - p)
    · simp only [go_sem, hp, u1, u2, u3, d1, u4]
      exact ⟨_, rfl⟩
    · by_cases d2 : 2 * (v - p) = (mt bs m).step
      · have d3 : (2 * (v - p) == (mt bs m).step) = true := beq_iff_eq.2 d2
        simp only [go_sem, hp, u1, u2, u3, d1, d3]
        refine cD (one_ok _ 2 (by decide)) ?_
        by_cases d4 : upto w2 2 = 0
        · have d5 : (upto w2 2 == 0) = true := by rw [d4]; rfl
          simp only [go_sem, d4, d5, u4, if_pos d2]
          exact ⟨_, rfl⟩
        · have d5 : (upto w2 2 == 0) = false := beq_eq_false_iff_ne.2 d4
          simp only [go_sem, d4, d5, if_pos d2]
          exact ⟨_, rfl⟩
      · have d3 : (2 * (v - p) == (mt bs m).step) = false := beq_eq_false_iff_ne.2 d2
        simp only [go_sem, hp, u1, u2, u3, d1, d3, if_neg d2]
        exact ⟨_, rfl⟩
  · have hk' : k < l.length := by omega
    have ei : ((k + 1 : Nat) : Int) - 1 = k := by omega
    have c1 : (0 : Int) ≤ (k : Int) := by omega
    have nk : ¬ (k : Int) < 0 := by omega
    obtain ⟨mk, hmk⟩ : ∃ mk, l[k]? = some mk := ⟨_, List.getElem?_eq_getElem hk'⟩
    have hml := List.mem_of_getElem? hmk
    obtain ⟨m1, m2⟩ := hmem mk hml
    have nmk : ¬ mk < 0 := by omega
    have hxk := mt_get m1 m2
    have hdr : l.drop k = mk :: l.drop (k + 1) := by
      rw [List.drop_eq_getElem_cons hk']
      have := List.getElem?_eq_getElem hk'
      rw [hmk] at this; cases this; rfl
    have ihk := ih (k, X)
    rw [ei]
    have hsh : shw bs t (l.drop k) x w0 = (sel3 t (mkLo (mt bs mk) (shw bs t (l.drop (k + 1)) x w0).1) (mkHi (mt bs mk) (shw bs t (l.drop (k + 1)) x w0).1) (btw (shw bs t (l.drop (k + 1)) x w0).2 (mkLo (mt bs mk) (shw bs t (l.drop (k + 1)) x w0).1) (mkHi (mt bs mk) (shw bs t (l.drop (k + 1)) x w0).1)), dstep (shw bs t (l.drop (k + 1)) x w0).2) := by
      rw [hdr]; rfl
    have ihk := fun X' => ih (k, X') (by dsimp only; omega) (by dsimp only; omega)
    dsimp only at ihk
    rw [hsh] at ihk
    clear ih hsh
    obtain ⟨u, hu⟩ : ∃ u, (shw bs t (l.drop (k + 1)) x w0).1 = u := ⟨_, rfl⟩
    obtain ⟨wu, hwu⟩ : ∃ wu, (shw bs t (l.drop (k + 1)) x w0).2 = wu := ⟨_, rfl⟩
    rw [hu] at hbd ihk ⊢
    rw [hwu] at ihk ⊢
    have km := Made_run (hall mk hml) (x := u) (by simp only [rch]; omega)
    have hb3 := mk_bd (hall mk hml) hbd
    have hb4 := mk_le (hall mk hml) u
    obtain ⟨lo, hlo⟩ : ∃ lo, mkLo (mt bs mk) u = lo := ⟨_, rfl⟩
    obtain ⟨hi, hhi⟩ : ∃ hi, mkHi (mt bs mk) u = hi := ⟨_, rfl⟩
    rw [hlo, hhi] at km hb3 hb4 ihk
    have ki := in_run wu lo hi (by omega) hb4 (by omega)
    simp only [Mv, Mc, r2] at km ki
    have w5 : IntKind.i64.wrap ((k : Int) - 1) = (k : Int) - 1 := w64 (by omega)
    have s3 := sel3_get t lo hi (btw wu lo hi) ht
    have nt : ¬ t < 0 := by omega
    simp only [go_sem, c1, nk, hmk, nmk, hxk, m2, Mv, Mc, List.length_map]
    refine ⟨by omega, ?_⟩
    refine cP km ?_
    simp only [go_sem, cells_end, get_end, put_at_end]
    refine dD ki ?_
    simp only [go_sem, nt, s3, w5, cells_end, get_end]
    exact ⟨ht.2, ihk _ _ (by simp [go_sem])⟩
end Go.Proofs

namespace Go.Proofs
open Go Go.Sx
def pchk : Option (AVal × Heap) → Bool
  | some (.tup [.agg [.int .i64 3, .int .i64 0], .int .i64 0], _) => true
  | _ => false
theorem pchk_eq {o : Option (AVal × Heap)} (h : pchk o = true) : ∃ H', o = some (.tup [.agg [.int .i64 3, .int .i64 0], .int .i64 0], H') := by
  unfold pchk at h
  split at h
  · exact ⟨_, rfl⟩
  · cases h
theorem plan_ex : pchk (exFn tab 3000 40 n_gauge_Plan [.int .i64 10, .int .i64 0, .int .i64 5, .int .i64 10, .int .i64 10] []) = true := by kernel_rfl
theorem plan_run : Ans Tryd.prog n_gauge_Plan [.int .i64 10, .int .i64 0, .int .i64 5, .int .i64 10, .int .i64 10] [] (.tup [.agg [.int .i64 3, .int .i64 0], .int .i64 0]) [] := by
  obtain ⟨H', h1⟩ := pchk_eq plan_ex
  exact (spec_ex mixed tab_ok h1).mono fun v H'' hv => ⟨hv.1, H'', rfl⟩
end Go.Proofs

namespace Go.Proofs
open Go Go.Sx
def kchk : Option (AVal × Heap) → Bool
  | some (.tup [.agg [.int .i64 5000, .int .i64 1000000], .int .i64 0], _) => true
  | _ => false
theorem kchk_eq {o : Option (AVal × Heap)} (h : kchk o = true) : ∃ H', o = some (.tup [.agg [.int .i64 5000, .int .i64 1000000], .int .i64 0], H') := by
  unfold kchk at h
  split at h
  · exact ⟨_, rfl⟩
  · cases h
theorem keeps_ex : kchk (exFn tab 3000 40 n_gauge_Keeps [.agg [.int .i64 10, .int .i64 20], .agg [.int .i64 0, .int .i64 1], .agg [.int .i64 0, .int .i64 25]] []) = true := by kernel_rfl
theorem keeps_run : Ans Tryd.prog n_gauge_Keeps [.agg [.int .i64 10, .int .i64 20], .agg [.int .i64 0, .int .i64 1], .agg [.int .i64 0, .int .i64 25]] [] (.tup [.agg [.int .i64 5000, .int .i64 1000000], .int .i64 0]) [] := by
  obtain ⟨H', h1⟩ := kchk_eq keeps_ex
  exact (spec_ex mixed tab_ok h1).mono fun v H'' hv => ⟨hv.1, H'', rfl⟩
end Go.Proofs

namespace Go.Proofs
open Go Go.Sx Go.Gauge
attribute [local irreducible] Run

def vrd (a b c d : Int) : Int := if b < a ∨ d < c then 0 else if c ≤ a ∧ b ≤ d then 1 else if min b d < max a c then 2 else 3
theorem Verdict_run (a b c d : Int) : Ans Tryd.prog n_gauge_Verdict [r2 a b, r2 c d] [] (.int .i64 (vrd a b c d)) [] := by
  have k1 := isEmpty_run a b
  have k2 := isEmpty_run c d
  have k3 := common_run a b c d
  have k4 := isEmpty_run (max a c) (min b d)
  simp only [r2] at k1 k2 k3 k4
  refine spec_run e_gauge_Verdict fun G => ?_
  simp only [go_sem, r2]
  refine cP k1 ?_
  by_cases c1 : b < a
  · have e : vrd a b c d = 0 := if_pos (.inl c1)
    simp only [go_sem, c1, e]
  · simp only [go_sem, c1]
    refine cP k2 ?_
    by_cases c2 : d < c
    · have e : vrd a b c d = 0 := if_pos (.inr c2)
      simp only [go_sem, c2, e]
    · have e1 : vrd a b c d = if c ≤ a ∧ b ≤ d then 1 else if min b d < max a c then 2 else 3 := if_neg (by omega)
      rw [e1]
      have fin : ¬ (c ≤ a ∧ b ≤ d) → ∀ P : Prop, (min b d < max a c → P) → (¬ min b d < max a c → P) → P := fun _ P h1 h2 => by
        by_cases h : min b d < max a c
        · exact h1 h
        · exact h2 h
      by_cases c3 : c ≤ a
      · by_cases c4 : b ≤ d
        · simp only [go_sem, c2, c3, c4]
        · by_cases c5 : min b d < max a c
          · simp only [go_sem, c2, c3, c4]
            refine cP k3 ?_
            simp only [go_sem]
            refine cP k4 ?_
            simp only [go_sem, c5]
          · simp only [go_sem, c2, c3, c4]
            refine cP k3 ?_
            simp only [go_sem]
            refine cP k4 ?_
            simp only [go_sem, c5]
      · by_cases c5 : min b d < max a c
        · simp only [go_sem, c2, c3]
          refine cP k3 ?_
          simp only [go_sem]
          refine cP k4 ?_
          simp only [go_sem, c5]
        · simp only [go_sem, c2, c3]
          refine cP k3 ?_
          simp only [go_sem]
          refine cP k4 ?_
          simp only [go_sem, c5]
theorem span_run (a b : Int) : Ans Tryd.prog n_law07_span [.int .i64 a, .int .i64 b] [] (.agg [.int .i64 a, .int .i64 b]) [] := by
  refine spec_run e_law07_span fun G => ?_
  simp only [go_sem]

def exB : List Mt := [⟨1000000, 1000000, 0, 0, 10, -1, 100⟩, ⟨990000, 1010000, -5, 5, 1, 0, 50⟩]
theorem exB_ok : VB exB := by
  refine VB.made (by decide) (fun x hx => ?_) fun i x hx => ?_
  · simp only [exB, List.mem_cons, List.not_mem_nil, or_false] at hx
    rcases hx with rfl | rfl
    · exact ⟨by decide, by decide, by decide, by decide⟩
    · exact ⟨by decide, by decide, by decide, by decide⟩
  · match i, hx with
    | 0, hx => simp [exB] at hx; subst hx; decide
    | 1, hx => simp [exB] at hx; subst hx; decide
    | i + 2, hx => simp [exB] at hx
theorem lf_val {m : Mt} (h : MtOK m) {y L : Int} (hL : -rch < L ∧ L ≤ rch) (h1 : y ≤ mkHi m L) (h2 : mkHi m (L - 1) < y) : lf m y = L := by
  have a1 := (lf_iff h (y := y) (x := L) (by omega) hL.2).1 h1
  have a2 : ¬ lf m y ≤ L - 1 := fun e => by
    have := (lf_iff h (y := y) (x := L - 1) (by omega) (by omega)).2 e
    omega
  omega
theorem mf_val {m : Mt} (h : MtOK m) {y L : Int} (hL : -rch ≤ L ∧ L < rch) (h1 : mkLo m L ≤ y) (h2 : y < mkLo m (L + 1)) : mf m y = L := by
  have a1 := (mf_iff h (y := y) (x := L) hL.1 (by omega)).1 h1
  have a2 : ¬ L + 1 ≤ mf m y := fun e => by
    have := (mf_iff h (y := y) (x := L + 1) (by omega) (by omega)).2 e
    omega
  omega
theorem exB_true : tru exB 1 1000 = some (985, 1016) := by
  have h1 : MtOK (mt exB 1) := exB_ok.all _ (mt_mem (by decide) (by decide))
  have h0 : MtOK (mt exB 0) := exB_ok.all _ (mt_mem (by decide) (by decide))
  have hc : ch exB 1 = [1, 0] := by decide
  have hs : (mt exB 1).step = 1 := rfl
  unfold tru
  rw [hc, hs]
  have e1 : lf (mt exB 1) 1000 = 985 := lf_val h1 (by decide) (by decide) (by decide)
  have e2 : mf (mt exB 1) 1000 = 1016 := mf_val h1 (by decide) (by decide) (by decide)
  have e3 : lf (mt exB 0) 985 = 985 := lf_val h0 (by decide) (by decide) (by decide)
  have e4 : mf (mt exB 0) 1016 = 1016 := mf_val h0 (by decide) (by decide) (by decide)
  have w1 : (1000 : Int) - 1 / 2 = 1000 := by decide
  have w2 : (1000 : Int) + 1 / 2 = 1000 := by decide
  rw [w1, w2]
  simp only [tfr, e1, e2, e3, e4]
  decide
theorem bench_ex : Ans Tryd.prog n_law07_bench [] [] (.sl 0 0 2) [some (.cells false 7 (exB.map Mv))] := by
  refine spec_run e_law07_bench fun G => ?_
  simp only [go_sem]
  refine cP (span_run 1000000 1000000) ?_
  simp only [go_sem]
  refine cP (span_run 990000 1010000) ?_
  simp only [go_sem]
  refine cP (span_run (-5) 5) ?_
  simp only [go_sem]
  exact ⟨_, rfl⟩

theorem zs_frz (H : Heap) (h : H[4]? = some (some (.cells false 7 (List.replicate 13 (.agg [.int .i64 0, .int .i64 0, .int .i64 0, .int .i64 0, .int .i64 0, .int .i64 0, .int .i64 0]))))) :
    frz 6 H (.sl 4 0 13) = .view (List.replicate 13 (.agg [.int .i64 0, .int .i64 0, .int .i64 0, .int .i64 0, .int .i64 0, .int .i64 0, .int .i64 0])) := by
  rw [frz_sl (d := 5) h (by simp), List.map_replicate]; rfl

set_option maxHeartbeats 4000000 in
set_option maxRecDepth 10000 in
theorem awake_ok : Ans Tryd.prog n_law07_awake [] [] (.bool true) [] := by
  have kt := True_run exB_ok (m0 := 1) (n := 1000) (by decide) (by decide) (by decide) (by decide)
  rw [exB_true] at kt
  simp only [truV] at kt
  have kv := Verdict_run 95 105 106 200
  simp only [r2] at kv
  have ev : vrd 95 105 106 200 = 2 := by decide
  rw [ev] at kv
  refine spec_run e_law07_awake fun G => ?_
  simp only [go_sem]
  refine cN1 bench_ex ?_
  simp only [go_sem, ren, rens]
  refine cF kt 6 ⟨.inl (bs_frz (g := false) rfl rfl), .inl rfl, .inl rfl, trivial⟩ ?_
  simp only [go_sem]
  refine cP plan_run ?_
  simp only [go_sem]
  refine cP (span_run 10 20) ?_
  simp only [go_sem]
  refine cP (span_run 0 1) ?_
  simp only [go_sem]
  refine cP (span_run 0 25) ?_
  simp only [go_sem]
  refine cP keeps_run ?_
  simp only [go_sem]
  refine dP (span_run 985 1016) ?_
  simp only [go_sem]
  refine dP (span_run 5000 1000000) ?_
  simp only [go_sem]
  refine cP (span_run 95 105) ?_
  simp only [go_sem]
  refine cP (span_run 106 200) ?_
  simp only [go_sem]
  refine cP kv ?_
  simp only [go_sem]
  refine ⟨by decide, ?_⟩
  refine cF (Check_full (es := List.replicate 13 (.agg [.int .i64 0, .int .i64 0, .int .i64 0, .int .i64 0, .int .i64 0, .int .i64 0, .int .i64 0])) (by simp) (by simp only [go_sem])) 6 ⟨.inl (zs_frz _ rfl), trivial⟩ ?_
  simp only [go_sem]
end Go.Proofs

namespace Go.Proofs
open Go Go.Sx Go.Gauge
attribute [local irreducible] Run

theorem mod_in (a b : Int) (hb : 1 ≤ b) : 0 ≤ a % b ∧ a % b < b := ⟨Int.emod_nonneg _ (by omega), Int.emod_lt_of_pos _ (by omega)⟩
theorem bk_bel (bs : List Mt) (g : Bool) (S : Nat → Prop) : (Row.cells g 7 (bs.map Mv)).bel S := by rw [row_bel_cells]; simp only [go_sem]
end Go.Proofs

namespace Go.Proofs
open Go Go.Sx

def k_gauge_Together_r0 : List AOper := [
  ⟨(some (4)), .box (.const (.agg [.int .i64 0, .int .i64 0])), none, []⟩, 
  ⟨(some (5)), .move (.const (.int .i64 0)), none, []⟩]
def k_gauge_Together_r1 : List AOper := [
  ⟨(some (12)), .move (.tmp 0), none, []⟩, 
  ⟨(some (13)), .call (.const (.fn (.func 23) [] [])) [.tmp 12], none, []⟩, 
  ⟨(some (6)), .move (.tmp 13), none, []⟩]
def k_gauge_Together_r2 : List AOper := [
  ⟨(some (14)), .move (.tmp 6), none, []⟩, 
  ⟨(some (15)), .bin .plain .neq (.tmp 14) (.const (.int .i64 0)), none, []⟩]
def k_gauge_Together_r3 : List AOper := [
  ⟨(some (16)), .build [.int .i64 0, .int .i64 0] [], none, []⟩, 
  ⟨(some (17)), .move (.tmp 6), none, []⟩, 
  ⟨none, .store 2 (.tmp 4) (.tmp 16), none, []⟩, 
  ⟨(some (5)), .move (.tmp 17), none, []⟩]
def k_gauge_Together_r4 : List AOper := [
  ⟨(some (18)), .move (.tmp 1), none, []⟩, 
  ⟨(some (19)), .len false (.tmp 18), none, []⟩, 
  ⟨(some (20)), .bin .plain .eql (.tmp 19) (.const (.int .i64 0)), none, []⟩]
def k_gauge_Together_r5 : List AOper := [
  ⟨(some (21)), .build [.int .i64 0, .int .i64 0] [], none, []⟩, 
  ⟨none, .store 2 (.tmp 4) (.tmp 21), none, []⟩, 
  ⟨(some (5)), .move (.const (.int .i64 6)), none, []⟩]
def k_gauge_Together_r6 : List AOper := [
  ⟨(some (22)), .move (.tmp 1), none, []⟩, 
  ⟨(some (23)), .len false (.tmp 22), none, []⟩, 
  ⟨(some (24)), .bin .plain .gtr (.tmp 23) (.const (.int .i64 10)), none, []⟩]
def k_gauge_Together_r7 : List AOper := [
  ⟨(some (25)), .build [.int .i64 0, .int .i64 0] [], none, []⟩, 
  ⟨none, .store 2 (.tmp 4) (.tmp 25), none, []⟩, 
  ⟨(some (5)), .move (.const (.int .i64 8)), none, []⟩]
def k_gauge_Together_r8 : List AOper := [
  ⟨(some (26)), .load (some (2)) (.const (.rptr (.agg [.int .i64 (-1000000000), .int .i64 1000000000]) 0)), none, []⟩, 
  ⟨(some (7)), .box (.const (.agg [.int .i64 0, .int .i64 0])), none, []⟩, 
  ⟨none, .store 2 (.tmp 7) (.tmp 26), none, []⟩]
def k_gauge_Together_r9 : List AOper := [
  ⟨(some (27)), .move (.tmp 1), none, []⟩, 
  ⟨(some (28)), .len false (.tmp 27), none, []⟩, 
  ⟨(some (29)), .move (.const (.int .i64 0)), none, []⟩]
def k_gauge_Together_r10 : List AOper := [
  ⟨(some (30)), .bin .plain .lss (.tmp 29) (.tmp 28), none, []⟩]
def k_gauge_Together_r11 : List AOper := [
  ⟨(some (31)), .indexAddr 2 (.tmp 27) (.tmp 29), none, []⟩, 
  ⟨(some (32)), .load (some (2)) (.tmp 31), none, []⟩, 
  ⟨(some (9)), .box (.const (.agg [.int .i64 0, .int .i64 0])), none, []⟩, 
  ⟨none, .store 2 (.tmp 9) (.tmp 32), none, []⟩]
def k_gauge_Together_r12 : List AOper := [
  ⟨(some (34)), .move (.tmp 0), none, []⟩, 
  ⟨(some (35)), .fieldAddr 0 (.tmp 9), none, []⟩, 
  ⟨(some (36)), .load none (.tmp 35), none, []⟩, 
  ⟨(some (37)), .fieldAddr 1 (.tmp 9), none, []⟩, 
  ⟨(some (38)), .load none (.tmp 37), none, []⟩, 
  ⟨(some (39)), .call (.const (.fn (.func 32) [] [])) [.tmp 34, .tmp 36, .tmp 38], none, []⟩, 
  ⟨(some (33)), .move (.tmp 39), none, []⟩, 
  ⟨(some (40)), .extract (.tmp 33) 0, none, []⟩, 
  ⟨(some (41)), .extract (.tmp 33) 1, none, []⟩, 
  ⟨(some (10)), .box (.const (.agg [.int .i64 0, .int .i64 0])), none, []⟩, 
  ⟨none, .store 2 (.tmp 10) (.tmp 40), none, []⟩, 
  ⟨(some (11)), .move (.tmp 41), none, []⟩]
def k_gauge_Together_r13 : List AOper := [
  ⟨(some (42)), .move (.tmp 11), none, []⟩, 
  ⟨(some (43)), .bin .plain .neq (.tmp 42) (.const (.int .i64 0)), none, []⟩]
def k_gauge_Together_r14 : List AOper := [
  ⟨(some (44)), .build [.int .i64 0, .int .i64 0] [], none, []⟩, 
  ⟨(some (45)), .move (.tmp 11), none, []⟩, 
  ⟨none, .store 2 (.tmp 4) (.tmp 44), none, []⟩, 
  ⟨(some (5)), .move (.tmp 45), none, []⟩]
def k_gauge_Together_r15 : List AOper := [
  ⟨(some (46)), .load (some (2)) (.tmp 7), none, []⟩, 
  ⟨(some (47)), .load (some (2)) (.tmp 10), none, []⟩, 
  ⟨(some (48)), .call (.const (.fn (.func 71) [] [])) [.tmp 46, .tmp 47], none, []⟩, 
  ⟨none, .store 2 (.tmp 7) (.tmp 48), none, []⟩]
def k_gauge_Together_r16 : List AOper := [
  ⟨(some (49)), .bin .plain .add (.tmp 29) (.const (.int .i64 1)), none, []⟩, 
  ⟨(some (29)), .move (.tmp 49), none, []⟩]
def k_gauge_Together_r17 : ACode := (.seq (.reg k_gauge_Together_r10 false) (.seq (.cond (.tmp 30) .skip (.exit 0)) (.seq (.block 1 (.seq (.reg k_gauge_Together_r11 false) (.seq (.reg k_gauge_Together_r12 false) (.seq (.seq (.reg k_gauge_Together_r13 false) (.cond (.tmp 43) (.seq (.reg k_gauge_Together_r14 false) .ret) .skip)) (.reg k_gauge_Together_r15 false))))) (.reg k_gauge_Together_r16 false))))
def k_gauge_Together_r18 : List AOper := [
  ⟨(some (50)), .load (some (2)) (.tmp 7), none, []⟩, 
  ⟨(some (51)), .call (.const (.fn (.func 70) [] [])) [.tmp 50], none, []⟩]
def k_gauge_Together_r19 : List AOper := [
  ⟨(some (52)), .build [.int .i64 0, .int .i64 0] [], none, []⟩, 
  ⟨none, .store 2 (.tmp 4) (.tmp 52), none, []⟩, 
  ⟨(some (5)), .move (.const (.int .i64 12)), none, []⟩]
def k_gauge_Together_r20 : List AOper := [
  ⟨(some (53)), .load (some (2)) (.tmp 7), none, []⟩, 
  ⟨none, .store 2 (.tmp 4) (.tmp 53), none, []⟩, 
  ⟨(some (5)), .move (.const (.int .i64 0)), none, []⟩]
def k_gauge_Together : AFun := { params := 2, ntmps := 54, body := (.seq (.reg k_gauge_Together_r0 false) (.seq (.seq (.reg k_gauge_Together_r1 false) (.seq (.reg k_gauge_Together_r2 false) (.cond (.tmp 15) (.seq (.reg k_gauge_Together_r3 false) .ret) .skip))) (.seq (.seq (.reg k_gauge_Together_r4 false) (.cond (.tmp 20) (.seq (.reg k_gauge_Together_r5 false) .ret) .skip)) (.seq (.seq (.reg k_gauge_Together_r6 false) (.cond (.tmp 24) (.seq (.reg k_gauge_Together_r7 false) .ret) .skip)) (.seq (.reg k_gauge_Together_r8 false) (.seq (.seq (.reg k_gauge_Together_r9 false) (.block 0 (.loop k_gauge_Together_r17))) (.seq (.seq (.reg k_gauge_Together_r18 false) (.cond (.tmp 51) (.seq (.reg k_gauge_Together_r19 false) .ret) .skip)) (.seq (.reg k_gauge_Together_r20 false) .ret)))))))), res := [.cell 4 (some ((some (2)))), .tmp 5] }
theorem k_gauge_Together_ok : cfun Tryd.prog Tryd.f39 = k_gauge_Together := by kernel_rfl

abbrev n_gauge_Together : Nat := 39
theorem e_gauge_Together : EntryOK Tryd.prog n_gauge_Together k_gauge_Together := ⟨Tryd.f39, Tryd.func39, k_gauge_Together_ok, by kernel_rfl⟩
attribute [go_sem] k_gauge_Together_r0 k_gauge_Together_r1 k_gauge_Together_r2 k_gauge_Together_r3 k_gauge_Together_r4 k_gauge_Together_r5 k_gauge_Together_r6 k_gauge_Together_r7 k_gauge_Together_r8 k_gauge_Together_r9 k_gauge_Together_r10 k_gauge_Together_r11
attribute [go_sem] k_gauge_Together_r12 k_gauge_Together_r13 k_gauge_Together_r14 k_gauge_Together_r15 k_gauge_Together_r16 k_gauge_Together_r18 k_gauge_Together_r19 k_gauge_Together_r20 k_gauge_Together
end Go.Proofs

namespace Go.Proofs
open Go Go.Sx

def k_ref07_Verdict_r0 : List AOper := [
  ⟨(some (2)), .box (.tmp 0), none, []⟩, 
  ⟨(some (3)), .box (.tmp 1), none, []⟩, 
  ⟨(some (4)), .move (.const (.int .i64 0)), none, []⟩]
def k_ref07_Verdict_r1 : List AOper := [
  ⟨(some (6)), .fieldAddr 0 (.tmp 2), none, []⟩, 
  ⟨(some (7)), .load none (.tmp 6), none, []⟩, 
  ⟨(some (8)), .fieldAddr 1 (.tmp 2), none, []⟩, 
  ⟨(some (9)), .load none (.tmp 8), none, []⟩, 
  ⟨(some (10)), .bin .plain .gtr (.tmp 7) (.tmp 9), none, []⟩, 
  ⟨(some (11)), .move (.tmp 10), none, []⟩, 
  ⟨(some (12)), .fieldAddr 0 (.tmp 3), (some (11, false)), []⟩, 
  ⟨(some (13)), .load none (.tmp 12), (some (11, false)), []⟩, 
  ⟨(some (14)), .fieldAddr 1 (.tmp 3), (some (11, false)), []⟩, 
  ⟨(some (15)), .load none (.tmp 14), (some (11, false)), []⟩, 
  ⟨(some (16)), .bin .plain .gtr (.tmp 13) (.tmp 15), (some (11, false)), []⟩, 
  ⟨(some (17)), .pick (.tmp 11) (.const (.bool true)) (.tmp 16), none, []⟩, 
  ⟨(some (5)), .move (.tmp 17), none, []⟩]
def k_ref07_Verdict_r2 : List AOper := [
  ⟨(some (4)), .move (.const (.int .i64 0)), none, []⟩]
def k_ref07_Verdict_r3 : List AOper := [
  ⟨(some (19)), .fieldAddr 0 (.tmp 2), none, []⟩, 
  ⟨(some (20)), .load none (.tmp 19), none, []⟩, 
  ⟨(some (21)), .fieldAddr 0 (.tmp 3), none, []⟩, 
  ⟨(some (22)), .load none (.tmp 21), none, []⟩, 
  ⟨(some (23)), .bin .plain .geq (.tmp 20) (.tmp 22), none, []⟩, 
  ⟨(some (24)), .move (.tmp 23), none, []⟩, 
  ⟨(some (25)), .fieldAddr 1 (.tmp 2), (some (24, true)), []⟩, 
  ⟨(some (26)), .load none (.tmp 25), (some (24, true)), []⟩, 
  ⟨(some (27)), .fieldAddr 1 (.tmp 3), (some (24, true)), []⟩, 
  ⟨(some (28)), .load none (.tmp 27), (some (24, true)), []⟩, 
  ⟨(some (29)), .bin .plain .leq (.tmp 26) (.tmp 28), (some (24, true)), []⟩, 
  ⟨(some (30)), .pick (.tmp 24) (.tmp 29) (.const (.bool false)), none, []⟩, 
  ⟨(some (18)), .move (.tmp 30), none, []⟩]
def k_ref07_Verdict_r4 : List AOper := [
  ⟨(some (4)), .move (.const (.int .i64 1)), none, []⟩]
def k_ref07_Verdict_r5 : List AOper := [
  ⟨(some (32)), .fieldAddr 1 (.tmp 2), none, []⟩, 
  ⟨(some (33)), .load none (.tmp 32), none, []⟩, 
  ⟨(some (34)), .fieldAddr 0 (.tmp 3), none, []⟩, 
  ⟨(some (35)), .load none (.tmp 34), none, []⟩, 
  ⟨(some (36)), .bin .plain .lss (.tmp 33) (.tmp 35), none, []⟩, 
  ⟨(some (37)), .move (.tmp 36), none, []⟩, 
  ⟨(some (38)), .fieldAddr 0 (.tmp 2), (some (37, false)), []⟩, 
  ⟨(some (39)), .load none (.tmp 38), (some (37, false)), []⟩, 
  ⟨(some (40)), .fieldAddr 1 (.tmp 3), (some (37, false)), []⟩, 
  ⟨(some (41)), .load none (.tmp 40), (some (37, false)), []⟩, 
  ⟨(some (42)), .bin .plain .gtr (.tmp 39) (.tmp 41), (some (37, false)), []⟩, 
  ⟨(some (43)), .pick (.tmp 37) (.const (.bool true)) (.tmp 42), none, []⟩, 
  ⟨(some (31)), .move (.tmp 43), none, []⟩]
def k_ref07_Verdict_r6 : List AOper := [
  ⟨(some (4)), .move (.const (.int .i64 2)), none, []⟩]
def k_ref07_Verdict_r7 : List AOper := [
  ⟨(some (4)), .move (.const (.int .i64 3)), none, []⟩]
def k_ref07_Verdict : AFun := { params := 2, ntmps := 44, body := (.seq (.reg k_ref07_Verdict_r0 false) (.seq (.block 0 (.seq (.reg k_ref07_Verdict_r1 false) (.cond (.tmp 5) (.seq (.reg k_ref07_Verdict_r2 false) .ret) (.seq (.reg k_ref07_Verdict_r3 false) (.cond (.tmp 18) (.seq (.reg k_ref07_Verdict_r4 false) .ret) (.seq (.reg k_ref07_Verdict_r5 false) (.cond (.tmp 31) (.seq (.reg k_ref07_Verdict_r6 false) .ret) .skip))))))) (.seq (.reg k_ref07_Verdict_r7 false) .ret))), res := [.tmp 4] }
theorem k_ref07_Verdict_ok : cfun Tryd.prog Tryd.f35 = k_ref07_Verdict := by kernel_rfl

abbrev n_ref07_Verdict : Nat := 35
theorem e_ref07_Verdict : EntryOK Tryd.prog n_ref07_Verdict k_ref07_Verdict := ⟨Tryd.f35, Tryd.func35, k_ref07_Verdict_ok, by kernel_rfl⟩
attribute [go_sem] k_ref07_Verdict_r0 k_ref07_Verdict_r1 k_ref07_Verdict_r2 k_ref07_Verdict_r3 k_ref07_Verdict_r4 k_ref07_Verdict_r5 k_ref07_Verdict_r6
attribute [go_sem] k_ref07_Verdict_r7
attribute [go_sem] k_ref07_Verdict
end Go.Proofs

namespace Go.Gauge

end Go.Gauge

namespace Go.Proofs
open Go Go.Sx Go.Gauge
attribute [local irreducible] Run

def crE (a b lo hi : Int) : Int := if ¬((lo ≤ a ∧ a ≤ hi) ∧ (lo ≤ b ∧ b ≤ hi)) then 2 else if b < a then 11 else 0
theorem checkRange_run (a b lo hi : Int) : Ans Tryd.prog n_gauge_checkRange [r2 a b, .int .i64 lo, .int .i64 hi] [] (.int .i64 (crE a b lo hi)) [] := by
  have k1 := bothWithin_run a b lo hi
  have k2 := isEmpty_run a b
  simp only [r2] at k1 k2
  refine spec_run e_gauge_checkRange fun G => ?_
  simp only [go_sem, r2]
  refine cP k1 ?_
  unfold crE
  by_cases c1 : ((lo ≤ a ∧ a ≤ hi) ∧ (lo ≤ b ∧ b ≤ hi))
  · rw [if_neg (not_not_intro c1)]
    simp only [go_sem, decide_eq_true c1]
    refine cP k2 ?_
    by_cases c2 : b < a
    · simp only [go_sem, c2]
    · simp only [go_sem, c2]
  · rw [if_pos c1]
    simp only [go_sem, decide_eq_false c1]
theorem rcheckRange_run (a b lo hi : Int) : Ans Tryd.prog n_ref07_checkRange [r2 a b, .int .i64 lo, .int .i64 hi] [] (.int .i64 (crE a b lo hi)) [] := by
  have k1 := beyond_run a lo hi
  have k2 := beyond_run b lo hi
  refine spec_run e_ref07_checkRange fun G => ?_
  simp only [go_sem, r2]
  refine cP k1 ?_
  unfold crE
  by_cases c1 : lo ≤ a ∧ a ≤ hi
  · simp only [go_sem, decide_eq_true c1]
    refine cP k2 ?_
    by_cases c2 : lo ≤ b ∧ b ≤ hi
    · rw [if_neg (not_not_intro ⟨c1, c2⟩)]
      by_cases c3 : b < a
      · simp only [go_sem, decide_eq_true c2, c3]
      · simp only [go_sem, decide_eq_true c2, c3]
    · rw [if_pos fun h => c2 h.2]
      simp only [go_sem, decide_eq_false c2]
  · rw [if_pos fun h => c1 h.1]
    simp only [go_sem, decide_eq_false c1]
theorem rVerdict_run (a b c d : Int) : Ans Tryd.prog n_ref07_Verdict [r2 a b, r2 c d] [] (.int .i64 (vrd a b c d)) [] := by
  refine spec_run e_ref07_Verdict fun G => ?_
  unfold vrd
  by_cases c1 : b < a
  · rw [if_pos (.inl c1)]
    simp only [go_sem, r2, c1]
  · by_cases c2 : d < c
    · rw [if_pos (.inr c2)]
      simp only [go_sem, r2, c1, c2]
    · rw [if_neg (by omega)]
      by_cases c3 : c ≤ a
      · by_cases c4 : b ≤ d
        · rw [if_pos ⟨c3, c4⟩]
          simp only [go_sem, r2, c1, c2, c3, c4]
        · rw [if_neg (fun h => c4 h.2)]
          have c5 : ¬ b < c := by omega
          by_cases c6 : d < a
          · rw [if_pos (by omega)]
            simp only [go_sem, r2, c1, c2, c3, c4, c5, c6]
          · rw [if_neg (by omega)]
            simp only [go_sem, r2, c1, c2, c3, c4, c5, c6]
      · rw [if_neg (fun h => c3 h.1)]
        by_cases c5 : b < c
        · rw [if_pos (by omega)]
          simp only [go_sem, r2, c1, c2, c3, c5]
        · by_cases c6 : d < a
          · rw [if_pos (by omega)]
            simp only [go_sem, r2, c1, c2, c3, c5, c6]
          · rw [if_neg (by omega)]
            simp only [go_sem, r2, c1, c2, c3, c5, c6]

end Go.Proofs

namespace Go.Gauge

theorem pigeon : ∀ (n : Nat) (f : Nat → Nat), (∀ i, i ≤ n → f i < n) → ∃ i j, i < j ∧ j ≤ n ∧ f i = f j
  | 0, f, h => absurd (h 0 (Nat.le_refl _)) (Nat.not_lt_zero _)
  | n + 1, f, h => by
    by_cases c : ∃ i, i ≤ n ∧ f i = f (n + 1)
    · obtain ⟨i, h1, h2⟩ := c
      exact ⟨i, n + 1, by omega, Nat.le_refl _, h2⟩
    · have hl := h (n + 1) (Nat.le_refl _)
      obtain ⟨i, j, h1, h2, h3⟩ := pigeon n (fun i => if f i = n then f (n + 1) else f i) fun i hi => by
        have := h i (by omega)
        have hne : f i ≠ f (n + 1) := fun e => c ⟨i, hi, e⟩
        try dsimp only
        split <;> omega
      try dsimp only at h3
      have ci : f i ≠ f (n + 1) := fun e => c ⟨i, by omega, e⟩
      have cj : f j ≠ f (n + 1) := fun e => c ⟨j, h2, e⟩
      refine ⟨i, j, h1, by omega, ?_⟩
      by_cases a : f i = n
      · by_cases b : f j = n
        · omega
        · rw [if_pos a, if_neg b] at h3; omega
      · by_cases b : f j = n
        · rw [if_neg a, if_pos b] at h3; omega
        · rw [if_neg a, if_neg b] at h3; exact h3

def it (bs : List Mt) (m : Int) : Nat → Int
  | 0 => m
  | k + 1 => if it bs m k = -1 then -1 else (mt bs (it bs m k)).cmp
def CmpOK (bs : List Mt) : Prop := ∀ x ∈ bs, -1 ≤ x.cmp ∧ x.cmp < bs.length
theorem it_succ (bs : List Mt) (m : Int) (k : Nat) : it bs m (k + 1) = if it bs m k = -1 then -1 else (mt bs (it bs m k)).cmp := rfl
theorem it_in {bs : List Mt} (hc : CmpOK bs) {m : Int} (h0 : -1 ≤ m) (h1 : m < bs.length) : ∀ k, -1 ≤ it bs m k ∧ it bs m k < bs.length
  | 0 => ⟨h0, h1⟩
  | k + 1 => by
    have ih := it_in hc h0 h1 k
    rw [it_succ]; split
    · omega
    · exact hc _ (mt_mem (by omega) ih.2)
theorem it_add (bs : List Mt) (m : Int) (i : Nat) : ∀ k, it bs m (i + k) = it bs (it bs m i) k
  | 0 => rfl
  | k + 1 => by
    show it bs m (i + k + 1) = _
    rw [it_succ, it_succ, it_add bs m i k]
theorem it_long {bs : List Mt} (hc : CmpOK bs) {m : Int} (h0 : -1 ≤ m) (h1 : m < bs.length) (h : ∀ i, i ≤ bs.length → it bs m i ≠ -1) : it bs m (bs.length + 1) ≠ -1 := fun he => by
  obtain ⟨i, j, h2, h3, h4⟩ := pigeon bs.length (fun i => (it bs m i).toNat) fun i hi => by
    have := it_in hc h0 h1 i
    have := h i hi
    omega
  try dsimp only at h4
  have a1 := it_in hc h0 h1 i
  have a2 := it_in hc h0 h1 j
  have b1 := h i (by omega)
  have b2 := h j h3
  have e : it bs m i = it bs m j := by omega
  have e1 : it bs m (j + (bs.length + 1 - j)) = -1 := by rw [show j + (bs.length + 1 - j) = bs.length + 1 by omega]; exact he
  have e2 := it_add bs m j (bs.length + 1 - j)
  have e3 := it_add bs m i (bs.length + 1 - j)
  rw [e] at e3
  exact h (i + (bs.length + 1 - j)) (by omega) (e3.trans (e2.symm.trans e1))

def isLse (bs : List Mt) (m : Int) : Bool := decide (bs.length < (chL bs (bs.length + 1) m).length)
theorem chL_cons (bs : List Mt) (n : Nat) {m : Int} (h : 0 ≤ m) : chL bs (n + 1) m = m :: chL bs n (mt bs m).cmp := by
  rw [chL, if_neg (by omega)]
end Go.Gauge

namespace Go.Proofs
open Go Go.Sx Go.Gauge
attribute [local irreducible] Run

theorem crE_yes {a b lo hi : Int} (h : crE a b lo hi = 0) : lo ≤ a ∧ a ≤ b ∧ b ≤ hi := by
  unfold crE at h
  split at h
  · cases h
  · split at h
    · cases h
    · omega
def mkE (m : Mt) : Int := if crE m.glo m.ghi 500000 2000000 ≠ 0 then crE m.glo m.ghi 500000 2000000 else crE m.olo m.ohi (-1000000) 1000000
def mE (n : Int) (m : Mt) : Int := if mkE m ≠ 0 then mkE m else if ¬((1 ≤ m.step ∧ m.step ≤ 1000000) ∧ (0 ≤ m.due ∧ m.due ≤ 1000000000) ∧ (-1 ≤ m.cmp ∧ m.cmp ≤ n - 1)) then 2 else 0
def fE (n : Int) : List Mt → Int
  | [] => 0
  | x :: l => if mE n x ≠ 0 then mE n x else fE n l
def lsE (bs : List Mt) : Nat → Int
  | 0 => 0
  | k + 1 => if isLse bs ((bs.length : Int) - ((k + 1 : Nat) : Int)) = true then 13 else lsE bs k
def chkE (bs : List Mt) : Int := if 12 < bs.length then 8 else if fE bs.length bs ≠ 0 then fE bs.length bs else lsE bs bs.length

theorem mE_yes {n : Int} {m : Mt} (h : mE n m = 0) : MtOK m ∧ -1 ≤ m.cmp ∧ m.cmp < n := by
  unfold mE at h
  split at h
  · rename_i c; exact absurd h c
  · rename_i c
    split at h
    · cases h
    · rename_i d
      have d := Classical.not_not.1 d
      have c : mkE m = 0 := Classical.not_not.1 c
      unfold mkE at c
      split at c
      · rename_i e; exact absurd c e
      · rename_i e
        have e := Classical.not_not.1 e
        exact ⟨⟨crE_yes e, crE_yes c, d.1, d.2.1⟩, by omega, by omega⟩
theorem fE_yes {n : Int} : ∀ {l : List Mt}, fE n l = 0 → ∀ x ∈ l, mE n x = 0
  | [], _, x, hx => by simp at hx
  | y :: l, h, x, hx => by
    unfold fE at h
    split at h
    · rename_i c; exact absurd h c
    · rename_i c
      rcases List.mem_cons.1 hx with rfl | hx
      · exact Classical.not_not.1 c
      · exact fE_yes h x hx
theorem lsE_yes {bs : List Mt} : ∀ {k : Nat}, lsE bs k = 0 → ∀ j : Nat, 1 ≤ j → j ≤ k → isLse bs ((bs.length : Int) - (j : Int)) = false
  | 0, _, j, h1, h2 => by omega
  | k + 1, h, j, h1, h2 => by
    unfold lsE at h
    split at h
    · cases h
    · rename_i c
      by_cases e : j = k + 1
      · subst e; simpa using c
      · exact lsE_yes h j h1 (by omega)
theorem chkE_vb {bs : List Mt} (h : chkE bs = 0) : VB bs := by
  unfold chkE at h
  split at h
  · cases h
  · rename_i c1
    split at h
    · rename_i c; exact absurd h c
    · rename_i c
      have c := Classical.not_not.1 c
      refine ⟨by omega, fun x hx => (mE_yes (fE_yes c x hx)).1, fun x hx => (mE_yes (fE_yes c x hx)).2, fun m h0 h1 => ?_⟩
      have := lsE_yes h (bs.length - m.toNat) (by omega) (by omega)
      rw [show (bs.length : Int) - ((bs.length - m.toNat : Nat) : Int) = m by omega] at this
      have := of_decide_eq_false this
      omega
theorem checkMaking_raw (m : Mt) : Ans Tryd.prog n_gauge_checkMaking [Mv m] [] (.int .i64 (mkE m)) [] := by
  have k1 := checkRange_run m.glo m.ghi 500000 2000000
  have k2 := checkRange_run m.olo m.ohi (-1000000) 1000000
  simp only [r2] at k1 k2
  unfold mkE
  obtain ⟨e, he⟩ : ∃ e, crE m.glo m.ghi 500000 2000000 = e := ⟨_, rfl⟩
  rw [he] at k1 ⊢
  refine spec_run e_gauge_checkMaking fun G => ?_
  by_cases c : e = 0
  · have c2 : (e == 0) = true := beq_iff_eq.2 c
    rw [if_neg (not_not_intro c)]
    simp only [go_sem, Mv, Mc]
    refine cP k1 ?_
    simp only [go_sem, c, c2]
    refine cP k2 ?_
    simp only [go_sem]
  · have c2 : (e == 0) = false := beq_eq_false_iff_ne.2 c
    rw [if_pos c]
    simp only [go_sem, Mv, Mc]
    refine cP k1 ?_
    simp only [go_sem, c, c2]
theorem checkMeter_raw (m : Mt) {n : Int} (hn : 0 ≤ n ∧ n ≤ 1000000) : Ans Tryd.prog n_gauge_checkMeter [Mv m, .int .i64 n] [] (.int .i64 (mE n m)) [] := by
  have k := checkMaking_raw m
  simp only [Mv, Mc] at k
  have w1 : IntKind.i64.wrap (n - 1) = n - 1 := w64 (by omega)
  have c1 := within_run m.step 1 1000000
  have c2 := within_run m.due 0 1000000000
  have c3 := within_run m.cmp (-1) (n - 1)
  unfold mE
  obtain ⟨e, he⟩ : ∃ e, mkE m = e := ⟨_, rfl⟩
  rw [he] at k ⊢
  refine spec_run e_gauge_checkMeter fun G => ?_
  by_cases c : e = 0
  · have c5 : (e == 0) = true := beq_iff_eq.2 c
    rw [if_neg (not_not_intro c)]
    by_cases d1 : 1 ≤ m.step ∧ m.step ≤ 1000000
    · rw [decide_eq_true d1] at c1
      by_cases d2 : 0 ≤ m.due ∧ m.due ≤ 1000000000
      · rw [decide_eq_true d2] at c2
        by_cases d3 : -1 ≤ m.cmp ∧ m.cmp ≤ n - 1
        · rw [decide_eq_true d3] at c3
          rw [if_neg (not_not_intro ⟨d1, d2, d3⟩)]
          simp only [go_sem, Mv, Mc]
          refine cP k ?_
          simp only [go_sem, c, c5]
          refine cP c1 ?_
          simp only [go_sem]
          refine cP c2 ?_
          simp only [go_sem, w1]
          refine cP c3 ?_
          simp only [go_sem]
        · rw [decide_eq_false d3] at c3
          rw [if_pos (fun h => d3 h.2.2)]
          simp only [go_sem, Mv, Mc]
          refine cP k ?_
          simp only [go_sem, c, c5]
          refine cP c1 ?_
          simp only [go_sem]
          refine cP c2 ?_
          simp only [go_sem, w1]
          refine cP c3 ?_
          simp only [go_sem]
      · rw [decide_eq_false d2] at c2
        rw [if_pos (fun h => d2 h.2.1)]
        simp only [go_sem, Mv, Mc]
        refine cP k ?_
        simp only [go_sem, c, c5]
        refine cP c1 ?_
        simp only [go_sem]
        refine cP c2 ?_
        simp only [go_sem]
    · rw [decide_eq_false d1] at c1
      rw [if_pos (fun h => d1 h.1)]
      simp only [go_sem, Mv, Mc]
      refine cP k ?_
      simp only [go_sem, c, c5]
      refine cP c1 ?_
      simp only [go_sem]
  · have c5 : (e == 0) = false := beq_eq_false_iff_ne.2 c
    rw [if_pos c]
    simp only [go_sem, Mv, Mc]
    refine cP k ?_
    simp only [go_sem, c, c5]
theorem rcheckMaking_raw (m : Mt) : Ans Tryd.prog n_ref07_checkMaking [Mv m] [] (.int .i64 (mkE m)) [] := by
  have k1 := rcheckRange_run m.glo m.ghi 500000 2000000
  have k2 := rcheckRange_run m.olo m.ohi (-1000000) 1000000
  simp only [r2] at k1 k2
  unfold mkE
  obtain ⟨e, he⟩ : ∃ e, crE m.glo m.ghi 500000 2000000 = e := ⟨_, rfl⟩
  rw [he] at k1 ⊢
  refine spec_run e_ref07_checkMaking fun G => ?_
  by_cases c : e = 0
  · have c2 : (e == 0) = true := beq_iff_eq.2 c
    rw [if_neg (not_not_intro c)]
    simp only [go_sem, Mv, Mc]
    refine cP k1 ?_
    simp only [go_sem, c, c2]
    refine cP k2 ?_
    simp only [go_sem]
  · have c2 : (e == 0) = false := beq_eq_false_iff_ne.2 c
    rw [if_pos c]
    simp only [go_sem, Mv, Mc]
    refine cP k1 ?_
    simp only [go_sem, c, c2]
end Go.Proofs

namespace Go.Proofs
open Go Go.Sx Go.Gauge
attribute [local irreducible] Run

def lqH (bs : List Mt) (b : Bool) (k v : Int) (x : Row) (X : Heap) : Heap := [some (.cells false 1 [.view (bs.map Mv)]), some (.cells false 1 [.bool b]), some (.cells false 1 [.int .i64 k]), some (.cells false 1 [.view (bs.map Mv)]), some (.cells false 1 [.int .i64 v]), some .dfr, some x] ++ X

set_option maxHeartbeats 4000000 in
set_option maxRecDepth 10000 in
theorem isLoose_raw {bs : List Mt} (hlen : bs.length ≤ 1000000) (hc : CmpOK bs) {m0 : Int} (h0 : 0 ≤ m0) (h1 : m0 < bs.length) : Ans Tryd.prog n_gauge_isLoose [.view (bs.map Mv), .int .i64 m0] [] (.bool (isLse bs m0)) [] := by
  obtain ⟨T, hT⟩ : ∃ T, (chL bs (bs.length + 1) m0).length = T := ⟨_, rfl⟩
  have hTl := chL_len bs (bs.length + 1) m0
  have hlo : isLse bs m0 = decide (bs.length < T) := by unfold isLse; rw [hT]
  rw [hT] at hTl
  rw [hlo]
  refine spec_run e_gauge_isLoose fun G => ?_
  simp only [go_sem]
  refine cN2 (chain_run bs m0) ?_
  simp only [go_sem, ren, rens]
  have hit := fun G H0 => chain_iter (G := G) (H0 := H0) (r := 6) (jm := 4) (jb := 3) (K := bs.length) (bs := bs) (m0 := m0)
    (Pre := fun k m H => (∃ v X, H = lqH bs false k v (loL .ready none) X) ∧ k ≤ bs.length ∧ k + (chL bs (bs.length + 1 - k) m).length = T ∧ -1 ≤ m ∧ m < bs.length) (Stop := fun H => bs.length < T ∧ ∃ k v X, H = lqH bs true k v (loL .done (some .ret)) X)
  refine rangeF 2000 (ρ := tsets 17 loT) (by simp [go_sem, loT]) (by simp only [go_sem, loT]; rfl)
    (hit _ _ ⟨?_, ?_, ?_⟩ ⟨⟨m0, [], rfl⟩, by omega, by simpa using hT, by omega, h1⟩ rfl) (by simp) ?_
  · rintro k m H ⟨⟨v, X, rfl⟩, hk, hk2, q1, q2⟩
    exact ⟨by omega, q1, q2, rfl⟩
  · rintro k m H u ⟨⟨v, X, rfl⟩, hk, hk2, q1, q2⟩
    exact ⟨⟨u, X, rfl⟩, hk, hk2, q1, q2⟩
  · rintro k m H hm ⟨⟨v, X, rfl⟩, hk, hk2, q1, q2⟩ hv
    have hv' : v = m := by simpa [lqH, iR] using hv
    subst hv'
    have hcm := hc _ (mt_mem (show 0 ≤ v by omega) q2)
    have hl2 : (chL bs (bs.length + 1 - k) v).length = (chL bs (bs.length - k) (mt bs v).cmp).length + 1 := by
      rw [show bs.length + 1 - k = (bs.length - k) + 1 by omega, chL_cons bs _ (show 0 ≤ v by omega)]; rfl
    have w1 : IntKind.i64.wrap ((k : Int) + 1) = (k : Int) + 1 := w64 (by omega)
    refine RoundW.mono (R := fun w H' => (k < bs.length ∧ w = .bool true ∧ H' = lqH bs false ((k : Int) + 1) v (loL .ready none) X) ∨ (bs.length ≤ k ∧ w = .bool false ∧ H' = lqH bs true ((k : Int) + 1) v (loL .done (some .ret)) X)) ?_ ?_
    rotate_left
    · rintro w H' (⟨g, rfl, rfl⟩ | ⟨g, rfl, rfl⟩)
      · exact ⟨⟨by simp [lqH], rfl⟩, .inl ⟨rfl, g, ⟨v, X, by push_cast; rfl⟩, by omega, by rw [show bs.length + 1 - (k + 1) = bs.length - k by omega]; omega, hcm.1, hcm.2⟩⟩
      · exact ⟨⟨by simp [lqH], rfl⟩, .inr ⟨rfl, by omega, _, _, _, rfl⟩⟩
    generalize hR : (fun (w : AVal) (H' : Heap) => (k < bs.length ∧ w = .bool true ∧ H' = lqH bs false ((k : Int) + 1) v (loL .ready none) X) ∨ (bs.length ≤ k ∧ w = .bool false ∧ H' = lqH bs true ((k : Int) + 1) v (loL .done (some .ret)) X)) = R
    have hf1 : k < bs.length → R (.bool true) (lqH bs false ((k : Int) + 1) v (loL .ready none) X) := fun g => by rw [← hR]; exact .inl ⟨g, rfl, rfl⟩
    have hf2 : bs.length ≤ k → R (.bool false) (lqH bs true ((k : Int) + 1) v (loL .done (some .ret)) X) := fun g => by rw [← hR]; exact .inr ⟨g, rfl, rfl⟩
    clear hR
    refine roundW_run 500 k_gauge_isLoose_r6.eq_1 rfl rfl (ρ' := tsets 17 (loT ++ [(9, .int .i64 v), (10, Mv (mt bs v))])) rfl ?_
    simp only [go_sem, loT, lqH]
    refine roundMid_run 500 k_gauge_isLoose_r7.eq_1 rfl rfl ?_
    by_cases g : k < bs.length
    · have c1 : ¬ (bs.length : Int) < (k : Int) + 1 := by omega
      have hfin := hf1 g
      clear hf1 hf2
      simp only [go_sem, w1, c1, List.length_map]
      refine roundEnd_on rfl ?_
      simp only [go_sem]
      simp only [lqH, loL, loT] at hfin
      exact hfin
    · have c1 : (bs.length : Int) < (k : Int) + 1 := by omega
      have hfin := hf2 (by omega)
      clear hf1 hf2
      simp only [go_sem, w1, c1, List.length_map]
      refine roundEnd_ret rfl ?_
      simp only [go_sem]
      simp only [lqH, loL, loT] at hfin
      exact hfin
  · rintro v H' ⟨rfl, ⟨k, ⟨u, X, rfl⟩, hk, hk2, _⟩ | ⟨hn, k, u, X, rfl⟩⟩
    · rw [chL_end] at hk2
      simp only [List.length_nil] at hk2
      refine ⟨fun q hq => by simp at hq; subst hq; rfl, _, _, _, _, _, _, _, rfl, by decide, ?_⟩
      rw [decide_eq_false (show ¬ bs.length < T by omega)]
      simp only [go_sem, lqH, loT]
      simp
    · refine ⟨fun q hq => by simp at hq; subst hq; rfl, _, _, _, _, _, _, _, rfl, by decide, ?_⟩
      rw [decide_eq_true hn]
      simp only [go_sem, lqH, loT]
      simp
end Go.Proofs

namespace Go.Proofs
open Go Go.Sx Go.Gauge
attribute [local irreducible] Run

theorem drop_cons {α : Type} {l : List α} {i : Nat} {z : α} (h : l[i]? = some z) : l.drop i = z :: l.drop (i + 1) := by
  have hi := (List.getElem?_eq_some_iff.1 h).1
  rw [List.drop_eq_getElem_cons hi]
  rw [List.getElem?_eq_getElem hi] at h; cases h; rfl

set_option maxHeartbeats 4000000 in
set_option maxRecDepth 10000 in
theorem Check_raw (bs : List Mt) (hl : bs.length ≤ 1000000) : Ans Tryd.prog n_gauge_Check [.view (bs.map Mv)] [] (.int .i64 (chkE bs)) [] := by
  by_cases hlen : 12 < bs.length
  · have := Check_full (es := bs.map Mv) (by simpa using hlen) (by simp only [go_sem])
    unfold chkE
    rw [if_pos hlen]
    exact this
  have c0 : ¬ (12 : Int) < bs.length := by omega
  have hck : chkE bs = if fE bs.length bs ≠ 0 then fE bs.length bs else lsE bs bs.length := by unfold chkE; rw [if_neg hlen]
  rw [hck]
  refine spec_run e_gauge_Check fun G => ?_
  simp only [go_sem, c0, List.length_map]
  refine loop_ind k_gauge_Check_r10.eq_1 (fun a : Nat × Heap => a.1 ≤ bs.length ∧ fE bs.length bs = fE bs.length (bs.drop a.1)) (fun a => bs.length - a.1)
    (fun a => (tsets 33 [(0, .view (bs.map Mv)), (10, .view (bs.map Mv)), (11, .int .i64 bs.length), (12, .int .i64 a.1)], a.2)) (0, []) ⟨Nat.zero_le _, rfl⟩ (by simp [go_sem]) rfl ?_
  rintro ⟨i, H⟩ ⟨hi, hf⟩ ih
  dsimp only at hi hf ih ⊢
  by_cases c1 : i < bs.length
  · have c2 : (i : Int) < bs.length := by omega
    have n0 : ¬ (i : Int) < 0 := by omega
    have w1 : IntKind.i64.wrap ((i : Int) + 1) = ((i + 1 : Nat) : Int) := by rw [w64 (by omega)]; rfl
    obtain ⟨z, hz⟩ : ∃ z, bs[i]? = some z := ⟨_, List.getElem?_eq_getElem c1⟩
    rw [drop_cons hz, fE] at hf
    have k := checkMeter_raw z (n := bs.length) (by omega)
    simp only [Mv, Mc] at k
    obtain ⟨e, he⟩ : ∃ e, mE bs.length z = e := ⟨_, rfl⟩
    rw [he] at hf k
    by_cases d : e = 0
    · have d2 : (e == 0) = true := beq_iff_eq.2 d
      rw [if_neg (not_not_intro d)] at hf
      simp only [go_sem, c2, n0, hz, Mv, Mc, cells_end, get_end, put_at_end]
      refine cP k ?_
      simp only [go_sem, w1, d, d2]
      exact ih (i + 1, _) (by dsimp only; omega) ⟨c1, hf⟩ _ (by simp [go_sem])
    · have d2 : (e == 0) = false := beq_eq_false_iff_ne.2 d
      rw [if_pos d] at hf
      clear ih
      rw [hf, if_pos d]
      simp only [go_sem, c2, n0, hz, Mv, Mc, cells_end, get_end, put_at_end]
      refine cP k ?_
      simp only [go_sem, w1, d, d2]
  · have c2 : ¬ (i : Int) < bs.length := by omega
    clear ih
    rw [List.drop_eq_nil_of_le (by omega), fE] at hf
    have hcm : CmpOK bs := fun x hx => by
      have := (mE_yes (fE_yes hf x hx)).2
      exact this
    rw [hf, if_neg (not_not_intro rfl)]
    simp only [go_sem, c2, List.length_map]
    refine loop_ind k_gauge_Check_r17.eq_1 (fun a : Nat × Heap => a.1 ≤ bs.length ∧ lsE bs bs.length = lsE bs (bs.length - a.1)) (fun a => bs.length - a.1)
      (fun a => (tsets 33 [(0, .view (bs.map Mv)), (25, .int .i64 bs.length), (26, .int .i64 a.1)], a.2)) (0, H) ⟨Nat.zero_le _, rfl⟩ (by simp [go_sem]) rfl ?_
    rintro ⟨i, H⟩ ⟨hi, hf2⟩ ih
    dsimp only at hi hf2 ih ⊢
    by_cases c1 : i < bs.length
    · have c2 : (i : Int) < bs.length := by omega
      have w1 : IntKind.i64.wrap ((i : Int) + 1) = ((i + 1 : Nat) : Int) := by rw [w64 (by omega)]; rfl
      have k := isLoose_raw hl hcm (m0 := i) (by omega) c2
      rw [show bs.length - i = (bs.length - (i + 1)) + 1 by omega, lsE, show (bs.length : Int) - ((bs.length - (i + 1) + 1 : Nat) : Int) = i by omega] at hf2
      obtain ⟨b, hb⟩ : ∃ b, isLse bs i = b := ⟨_, rfl⟩
      rw [hb] at k hf2
      cases b
      · rw [if_neg (by simp)] at hf2
        simp only [go_sem, c2, List.length_map]
        refine cP k ?_
        simp only [go_sem, w1]
        exact ih (i + 1, _) (by dsimp only; omega) ⟨c1, hf2⟩ _ (by simp [go_sem])
      · rw [if_pos rfl] at hf2
        rw [hf2]
        clear ih
        simp only [go_sem, c2, List.length_map]
        refine cP k ?_
        simp only [go_sem]
    · have c2 : ¬ (i : Int) < bs.length := by omega
      rw [show bs.length - i = 0 by omega, lsE] at hf2
      rw [hf2]
      clear ih
      simp only [go_sem, c2, List.length_map]

set_option maxHeartbeats 4000000 in
set_option maxRecDepth 10000 in
theorem rchain_raw {bs : List Mt} (hlen : bs.length ≤ 1000) (hcm : CmpOK bs) {m0 : Int} (h0 : 0 ≤ m0) (h1 : m0 < bs.length) :
    ∃ T : List Int, Ans Tryd.prog n_ref07_chain [.view (bs.map Mv), .int .i64 m0] [] (.tup [.sl 0 0 T.length, .bool (!isLse bs m0)]) [some (.cells true 1 (T.map (.int .i64)))] := by
  have l0 : (0 : Int) ≤ bs.length := by omega
  have n0 : ¬ m0 < 0 := by omega
  have hx0 := mt_get h0 h1
  have hcm0 := hcm _ (mt_mem h0 h1)
  obtain ⟨T, hT⟩ : ∃ T, chL bs (bs.length + 1) m0 = T := ⟨_, rfl⟩
  have hb : isLse bs m0 = decide (bs.length < T.length) := by unfold isLse; rw [hT]
  have hTl := chL_len bs (bs.length + 1) m0
  rw [hT] at hTl
  refine ⟨T, ?_⟩
  rw [hb]
  refine Ans.keep (run_fn e_ref07_chain fun G => ?_) (by simp) (by simp [go_sem]) ⟨by rw [row_bel_cells]; simp only [go_sem], trivial⟩
  simp only [go_sem]
  refine loop_body 400 k_ref07_chain_r5.eq_1 ?_
  simp only [go_sem, h0, l0, n0, hx0, h1, Mv, Mc]
  refine ⟨by decide, ?_⟩
  rw [chL_cons bs _ h0] at hT
  refine loop_ind k_ref07_chain_r5.eq_1 (fun a : Int × List Int × Heap => -1 ≤ a.1 ∧ a.1 < bs.length ∧ 1 ≤ a.2.1.length ∧ a.2.1.length ≤ bs.length + 1 ∧ a.2.1 ++ chL bs (bs.length + 1 - a.2.1.length) a.1 = T ∧ a.1 = it bs m0 a.2.1.length ∧ ∀ i, i < a.2.1.length → it bs m0 i ≠ -1) (fun a => bs.length + 1 - a.2.1.length)
    (fun a => (tsets 28 [(0, .view (bs.map Mv)), (1, .int .i64 a.1), (6, .sl 1 0 a.2.1.length)], some (.cells false 1 [.int .i64 m0]) :: some (.cells true 1 (a.2.1.map (.int .i64))) :: a.2.2)) ((mt bs m0).cmp, [m0], []) ⟨hcm0.1, hcm0.2, by simp, by simp, by simpa using hT, by simp [it]; omega, fun i hi => by
      have : i = 0 := by simpa using hi
      subst this; simp [it]; omega⟩ (by simp [go_sem]) rfl ?_
  rintro ⟨m, l, X⟩ ⟨g1, g2, g3, g5, g4, g6, g7⟩ ih
  dsimp only at g1 g2 g3 g4 g5 g6 g7 ih ⊢
  by_cases c1 : m = -1
  · have c2 : ¬ (0 : Int) ≤ m := by omega
    have c3 : m < 0 := by omega
    have hll : l.length ≤ bs.length := by
      by_cases e : l.length = bs.length + 1
      · have := it_long hcm (m := m0) (by omega) h1 (fun i hi => g7 i (by omega))
        rw [← e, ← g6] at this
        exact absurd c1 this
      · omega
    rw [c1, chL_end, List.append_nil] at g4
    subst g4
    rw [decide_eq_false (show ¬ bs.length < l.length by omega)]
    simp only [go_sem, c2, c3]
    refine kept_one 1 (by simp [ren, rens]) (by rw [row_bel_cells]; simp only [go_sem]) rfl
  · have c2 : (0 : Int) ≤ m := by omega
    have n1 : ¬ m < 0 := by omega
    by_cases c4 : l.length = bs.length + 1
    · have c3 : ¬ (l.length : Int) ≤ bs.length := by omega
      rw [c4, show bs.length + 1 - (bs.length + 1) = 0 by omega, chL, List.append_nil] at g4
      subst g4
      rw [decide_eq_true (show bs.length < l.length by omega)]
      simp only [go_sem, c2, c3, n1]
      refine kept_one 1 (by simp [ren, rens]) (by rw [row_bel_cells]; simp only [go_sem]) rfl
    · have c3 : (l.length : Int) ≤ bs.length := by omega
      have hx := mt_get c2 g2
      have hcm1 := hcm _ (mt_mem c2 g2)
      have hq : (l.length + 1) * 8 ≤ 2 ^ 44 := by omega
      have ez : l.map (AVal.int .i64) ++ [.int .i64 m] = (l ++ [m]).map (.int .i64) := by simp
      have el : l.length + 1 = (l ++ [m]).length := by simp
      have e6 : (mt bs m).cmp = it bs m0 (l.length + 1) := by rw [it_succ, ← g6, if_neg c1]
      have e4 : l ++ [m] ++ chL bs (bs.length - l.length) (mt bs m).cmp = T := by
        rw [← g4, show bs.length + 1 - l.length = (bs.length - l.length) + 1 by omega, chL_cons bs _ c2]; simp
      simp only [go_sem, c2, c3, n1, hx, g2, hq, Mv, Mc, List.length_map]
      rw [ez, el]
      exact ih ((mt bs m).cmp, l ++ [m], _) (by simp; omega) ⟨hcm1.1, hcm1.2, by simp, by simp; omega, by simpa using e4, by simpa using e6, fun i hi => by
        by_cases e : i = l.length
        · subst e; rw [← g6]; exact c1
        · exact g7 i (by simp at hi; omega)⟩ _ (by simp [go_sem])
end Go.Proofs

namespace Go.Proofs
open Go Go.Sx Go.Gauge
attribute [local irreducible] Run

set_option maxHeartbeats 4000000 in
set_option maxRecDepth 10000 in
theorem rCheck_raw (bs : List Mt) (hl : bs.length ≤ 1000) : Ans Tryd.prog n_ref07_Check [.view (bs.map Mv)] [] (.int .i64 (chkE bs)) [] := by
  by_cases hlen : 12 < bs.length
  · have c0 : (12 : Int) < bs.length := by omega
    unfold chkE
    rw [if_pos hlen]
    refine spec_run e_ref07_Check fun G => ?_
    simp only [go_sem, c0, List.length_map]
  have c0 : ¬ (12 : Int) < bs.length := by omega
  have hck : chkE bs = if fE bs.length bs ≠ 0 then fE bs.length bs else lsE bs bs.length := by unfold chkE; rw [if_neg hlen]
  rw [hck]
  refine spec_run e_ref07_Check fun G => ?_
  simp only [go_sem, c0, List.length_map]
  refine loop_ind k_ref07_Check_r12.eq_1 (fun a : Nat × Heap => a.1 ≤ bs.length ∧ fE bs.length bs = fE bs.length (bs.drop a.1)) (fun a => bs.length - a.1)
    (fun a => (tsets 57 [(0, .view (bs.map Mv)), (3, .int .i64 a.1)], a.2)) (0, []) ⟨Nat.zero_le _, rfl⟩ (by simp [go_sem]) rfl ?_
  rintro ⟨i, H⟩ ⟨hi, hf⟩ ih
  dsimp only at hi hf ih ⊢
  by_cases c1 : i < bs.length
  · have c2 : (i : Int) < bs.length := by omega
    have n0 : ¬ (i : Int) < 0 := by omega
    have w1 : IntKind.i64.wrap ((i : Int) + 1) = ((i + 1 : Nat) : Int) := by rw [w64 (by omega)]; rfl
    have w2 : IntKind.i64.wrap ((bs.length : Int) - 1) = (bs.length : Int) - 1 := w64 (by omega)
    obtain ⟨z, hz⟩ : ∃ z, bs[i]? = some z := ⟨_, List.getElem?_eq_getElem c1⟩
    rw [drop_cons hz, fE] at hf
    have k := rcheckMaking_raw z
    have k1 := beyond_run z.step 1 1000000
    have k2 := beyond_run z.due 0 1000000000
    have k3 := beyond_run z.cmp (-1) ((bs.length : Int) - 1)
    simp only [Mv, Mc] at k
    have hm : mE bs.length z = if mkE z ≠ 0 then mkE z else if ¬((1 ≤ z.step ∧ z.step ≤ 1000000) ∧ (0 ≤ z.due ∧ z.due ≤ 1000000000) ∧ (-1 ≤ z.cmp ∧ z.cmp ≤ (bs.length : Int) - 1)) then 2 else 0 := rfl
    obtain ⟨e, he⟩ : ∃ e, mkE z = e := ⟨_, rfl⟩
    rw [he] at hm k
    by_cases d : e = 0
    · have d2 : (e == 0) = true := beq_iff_eq.2 d
      rw [if_neg (not_not_intro d)] at hm
      by_cases d3 : 1 ≤ z.step ∧ z.step ≤ 1000000
      · rw [decide_eq_true d3] at k1
        by_cases d4 : 0 ≤ z.due ∧ z.due ≤ 1000000000
        · rw [decide_eq_true d4] at k2
          by_cases d5 : -1 ≤ z.cmp ∧ z.cmp ≤ (bs.length : Int) - 1
          · rw [decide_eq_true d5] at k3
            rw [if_neg (not_not_intro ⟨d3, d4, d5⟩)] at hm
            rw [hm, if_neg (not_not_intro rfl)] at hf
            simp only [go_sem, c2, n0, hz, Mv, Mc, cells_end, get_end, put_at_end, List.length_map]
            refine cP k ?_
            simp only [go_sem, d, d2, cells_end, get_end]
            refine cP k1 ?_
            simp only [go_sem, cells_end, get_end]
            refine cP k2 ?_
            simp only [go_sem, cells_end, get_end, w2, List.length_map]
            refine cP k3 ?_
            simp only [go_sem, w1]
            exact ih (i + 1, _) (by dsimp only; omega) ⟨c1, hf⟩ _ (by simp [go_sem])
          · rw [decide_eq_false d5] at k3
            rw [if_pos (fun h => d5 h.2.2)] at hm
            rw [hm, if_pos (by decide)] at hf
            clear ih
            rw [hf, if_pos (by decide)]
            simp only [go_sem, c2, n0, hz, Mv, Mc, cells_end, get_end, put_at_end, List.length_map]
            refine cP k ?_
            simp only [go_sem, d, d2, cells_end, get_end]
            refine cP k1 ?_
            simp only [go_sem, cells_end, get_end]
            refine cP k2 ?_
            simp only [go_sem, cells_end, get_end, w2, List.length_map]
            refine cP k3 ?_
            simp only [go_sem]
        · rw [decide_eq_false d4] at k2
          rw [if_pos (fun h => d4 h.2.1)] at hm
          rw [hm, if_pos (by decide)] at hf
          clear ih
          rw [hf, if_pos (by decide)]
          simp only [go_sem, c2, n0, hz, Mv, Mc, cells_end, get_end, put_at_end, List.length_map]
          refine cP k ?_
          simp only [go_sem, d, d2, cells_end, get_end]
          refine cP k1 ?_
          simp only [go_sem, cells_end, get_end]
          refine cP k2 ?_
          simp only [go_sem]
      · rw [decide_eq_false d3] at k1
        rw [if_pos (fun h => d3 h.1)] at hm
        rw [hm, if_pos (by decide)] at hf
        clear ih
        rw [hf, if_pos (by decide)]
        simp only [go_sem, c2, n0, hz, Mv, Mc, cells_end, get_end, put_at_end, List.length_map]
        refine cP k ?_
        simp only [go_sem, d, d2, cells_end, get_end]
        refine cP k1 ?_
        simp only [go_sem]
    · have d2 : (e == 0) = false := beq_eq_false_iff_ne.2 d
      rw [if_pos d] at hm
      rw [hm, if_pos d] at hf
      clear ih
      rw [hf, if_pos d]
      simp only [go_sem, c2, n0, hz, Mv, Mc, cells_end, get_end, put_at_end, List.length_map]
      refine cP k ?_
      simp only [go_sem, d, d2]
  · have c2 : ¬ (i : Int) < bs.length := by omega
    clear ih
    rw [List.drop_eq_nil_of_le (by omega), fE] at hf
    have hcm : CmpOK bs := fun x hx => (mE_yes (fE_yes hf x hx)).2
    rw [hf, if_neg (not_not_intro rfl)]
    simp only [go_sem, c2, List.length_map]
    refine loop_ind k_ref07_Check_r19.eq_1 (fun a : Nat × Heap => a.1 ≤ bs.length ∧ lsE bs bs.length = lsE bs (bs.length - a.1)) (fun a => bs.length - a.1)
      (fun a => (tsets 57 [(0, .view (bs.map Mv)), (6, .int .i64 a.1)], a.2)) (0, H) ⟨Nat.zero_le _, rfl⟩ (by simp [go_sem]) rfl ?_
    rintro ⟨i, H⟩ ⟨hi, hf2⟩ ih
    dsimp only at hi hf2 ih ⊢
    by_cases c1 : i < bs.length
    · have c2 : (i : Int) < bs.length := by omega
      have w1 : IntKind.i64.wrap ((i : Int) + 1) = ((i + 1 : Nat) : Int) := by rw [w64 (by omega)]; rfl
      obtain ⟨T, k⟩ := rchain_raw hl hcm (m0 := i) (by omega) c2
      rw [show bs.length - i = (bs.length - (i + 1)) + 1 by omega, lsE, show (bs.length : Int) - ((bs.length - (i + 1) + 1 : Nat) : Int) = i by omega] at hf2
      obtain ⟨b, hb⟩ : ∃ b, isLse bs i = b := ⟨_, rfl⟩
      rw [hb] at k hf2
      cases b
      · rw [if_neg (by simp)] at hf2
        simp only [go_sem, c2, List.length_map]
        refine cN1 k ?_
        simp only [go_sem, ren, rens, w1]
        exact ih (i + 1, _) (by dsimp only; omega) ⟨c1, hf2⟩ _ (by simp [go_sem])
      · rw [if_pos rfl] at hf2
        rw [hf2]
        clear ih
        simp only [go_sem, c2, List.length_map]
        refine cN1 k ?_
        simp only [go_sem, ren, rens]
    · have c2 : ¬ (i : Int) < bs.length := by omega
      rw [show bs.length - i = 0 by omega, lsE] at hf2
      rw [hf2]
      clear ih
      simp only [go_sem, c2, List.length_map]
end Go.Proofs

