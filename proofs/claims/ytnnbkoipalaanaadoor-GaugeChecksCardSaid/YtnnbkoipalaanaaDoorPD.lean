/- A part of the proof. -/
import Derived.Test.YtnnbkoipalaanaaDoorPC
import Derived.ProofKit
import Derived.LaidMore
set_option linter.unusedSimpArgs false
set_option linter.unusedVariables false
namespace Go.Proofs
open Go Go.Sx Go.Gauge
attribute [local irreducible] Run

theorem mkE_ok {m : Mt} (h : mkE m = 0) : (500000 ≤ m.glo ∧ m.glo ≤ m.ghi ∧ m.ghi ≤ 2000000) ∧ -1000000 ≤ m.olo ∧ m.olo ≤ m.ohi ∧ m.ohi ≤ 1000000 := by
  unfold mkE at h
  split at h
  · rename_i c; exact absurd h c
  · rename_i c
    exact ⟨crE_yes (Classical.not_not.1 c), crE_yes h⟩
def sane (m : Mt) : Mt := { m with step := 1, due := 0 }
theorem sane_ok {m : Mt} (h : mkE m = 0) : MtOK (sane m) := by
  obtain ⟨h1, h2⟩ := mkE_ok h
  exact ⟨h1, h2, ⟨by simp [sane], by simp [sane]⟩, ⟨by simp [sane], by simp [sane]⟩⟩
theorem makes_raw {m : Mt} (h0 : mkE m = 0) {x : Int} (hx : -rch ≤ x ∧ x ≤ rch) : Ans Tryd.prog n_gauge_makes [Mv m, .int .i64 x] [] (r2 (mkLo m x) (mkHi m x)) [] := by
  have h := sane_ok h0
  have hg := (mkE_ok h0).1
  have ho := (mkE_ok h0).2
  have b1 := pl_bd (a := m.ghi) (b := m.glo) (x := x) (B := rch) (by omega) (by omega) hx
  have b2 := pl_bd (a := m.glo) (b := m.ghi) (x := x) (B := rch) (by omega) (by omega) hx
  have b3 : -(2 * rch + 1000000) ≤ mkLo m x ∧ mkHi m x ≤ 2 * rch + 1000000 := mk_bd h hx
  have b4 : mkLo m x ≤ mkHi m x := mk_le h x
  simp only [rch] at hx b1 b2 b3
  refine spec_run e_gauge_makes fun G => ?_
  simp only [go_sem, Mv, Mc]
  unfold mkLo mkHi at *
  by_cases c : x < 0
  · simp only [pl, if_pos c] at b1 b2 b3 b4 ⊢
    have w1 : IntKind.i64.wrap (x * m.ghi) = x * m.ghi := w64 (by omega)
    have w2 : IntKind.i64.wrap (x * m.glo) = x * m.glo := w64 (by omega)
    have w3 : IntKind.i64.wrap (x * m.ghi / 1000000 + m.olo) = x * m.ghi / 1000000 + m.olo := w64 (by omega)
    have w4 : IntKind.i64.wrap (-(-(x * m.glo) / 1000000) + m.ohi) = -(-(x * m.glo) / 1000000) + m.ohi := w64 (by omega)
    simp only [go_sem, c, w1, w2]
    refine dP (roundDown_run (x * m.ghi) 1000000 (by omega) (by omega)) ?_
    simp only [go_sem, w2, w3]
    refine dP (roundUp_run (x * m.glo) 1000000 (by omega) (by omega)) ?_
    simp only [go_sem, w4, r2]
  · simp only [pl, if_neg c] at b1 b2 b3 b4 ⊢
    have w1 : IntKind.i64.wrap (x * m.glo) = x * m.glo := w64 (by omega)
    have w2 : IntKind.i64.wrap (x * m.ghi) = x * m.ghi := w64 (by omega)
    have w3 : IntKind.i64.wrap (x * m.glo / 1000000 + m.olo) = x * m.glo / 1000000 + m.olo := w64 (by omega)
    have w4 : IntKind.i64.wrap (-(-(x * m.ghi) / 1000000) + m.ohi) = -(-(x * m.ghi) / 1000000) + m.ohi := w64 (by omega)
    simp only [go_sem, c, w1, w2]
    refine dP (roundDown_run (x * m.glo) 1000000 (by omega) (by omega)) ?_
    simp only [go_sem, w2, w3]
    refine dP (roundUp_run (x * m.ghi) 1000000 (by omega) (by omega)) ?_
    simp only [go_sem, w4, r2]
theorem Made_raw {m : Mt} (h0 : mkE m = 0) {x : Int} (hx : -rch ≤ x ∧ x ≤ rch) : Ans Tryd.prog n_ref07_Made [Mv m, .int .i64 x] [] (r2 (mkLo m x) (mkHi m x)) [] := by
  have h := sane_ok h0
  have hg := (mkE_ok h0).1
  have ho := (mkE_ok h0).2
  have b1 := pl_bd (a := m.ghi) (b := m.glo) (x := x) (B := rch) (by omega) (by omega) hx
  have b2 := pl_bd (a := m.glo) (b := m.ghi) (x := x) (B := rch) (by omega) (by omega) hx
  have b3 : -(2 * rch + 1000000) ≤ mkLo m x ∧ mkHi m x ≤ 2 * rch + 1000000 := mk_bd h hx
  have b4 : mkLo m x ≤ mkHi m x := mk_le h x
  simp only [rch] at hx b1 b2 b3
  refine spec_run e_ref07_Made fun G => ?_
  simp only [go_sem, Mv, Mc]
  unfold mkLo mkHi at *
  by_cases c : x < 0
  · simp only [pl, if_pos c] at b1 b2 b3 b4 ⊢
    have w1 : IntKind.i64.wrap (x * m.ghi) = x * m.ghi := w64 (by omega)
    have w2 : IntKind.i64.wrap (x * m.glo) = x * m.glo := w64 (by omega)
    have w3 : IntKind.i64.wrap (x * m.ghi / 1000000 + m.olo) = x * m.ghi / 1000000 + m.olo := w64 (by omega)
    have w4 : IntKind.i64.wrap (-(-(x * m.glo) / 1000000) + m.ohi) = -(-(x * m.glo) / 1000000) + m.ohi := w64 (by omega)
    simp only [go_sem, c, w1, w2]
    refine dP (refDown_run (x * m.ghi) 1000000 (by omega) (by omega)) ?_
    simp only [go_sem, w2, w3]
    refine dP (refUp_run (x * m.glo) 1000000 (by omega) (by omega)) ?_
    simp only [go_sem, w4, r2]
  · simp only [pl, if_neg c] at b1 b2 b3 b4 ⊢
    have w1 : IntKind.i64.wrap (x * m.glo) = x * m.glo := w64 (by omega)
    have w2 : IntKind.i64.wrap (x * m.ghi) = x * m.ghi := w64 (by omega)
    have w3 : IntKind.i64.wrap (x * m.glo / 1000000 + m.olo) = x * m.glo / 1000000 + m.olo := w64 (by omega)
    have w4 : IntKind.i64.wrap (-(-(x * m.ghi) / 1000000) + m.ohi) = -(-(x * m.ghi) / 1000000) + m.ohi := w64 (by omega)
    simp only [go_sem, c, w1, w2]
    refine dP (refDown_run (x * m.glo) 1000000 (by omega) (by omega)) ?_
    simp only [go_sem, w2, w3]
    refine dP (refUp_run (x * m.ghi) 1000000 (by omega) (by omega)) ?_
    simp only [go_sem, w4, r2]

def mksR (m : Mt) (x : Int) : Int × Int := if mkE m ≠ 0 then (0, 0) else if -1000000000 ≤ x ∧ x ≤ 1000000000 then (mkLo m x, mkHi m x) else (0, 0)
theorem Makes_run (m : Mt) (x : Int) : Ans Tryd.prog n_gauge_Makes [Mv m, .int .i64 x] [] (r2 (mksR m x).1 (mksR m x).2) [] := by
  have k1 := checkMaking_raw m
  have k2 := isIn_run x (-1000000000) 1000000000
  simp only [Mv, Mc] at k1
  simp only [r2] at k2
  unfold mksR
  by_cases c : mkE m = 0
  · rw [if_neg (not_not_intro c)]
    rw [c] at k1
    by_cases d : -1000000000 ≤ x ∧ x ≤ 1000000000
    · have k3 := makes_raw c (x := x) (by simp only [rch]; omega)
      simp only [Mv, Mc, r2] at k3
      rw [if_pos d]
      rw [decide_eq_true d] at k2
      refine spec_run e_gauge_Makes fun G => ?_
      simp only [go_sem, Mv, Mc]
      refine cP k1 ?_
      simp only [go_sem]
      refine cP k2 ?_
      simp only [go_sem]
      refine cP k3 ?_
      simp only [go_sem, r2]
    · rw [if_neg d]
      rw [decide_eq_false d] at k2
      refine spec_run e_gauge_Makes fun G => ?_
      simp only [go_sem, Mv, Mc]
      refine cP k1 ?_
      simp only [go_sem]
      refine cP k2 ?_
      simp only [go_sem, r2]
  · rw [if_pos c]
    obtain ⟨e, he⟩ : ∃ e, mkE m = e := ⟨_, rfl⟩
    rw [he] at c k1
    have c2 : (e == 0) = false := beq_eq_false_iff_ne.2 c
    refine spec_run e_gauge_Makes fun G => ?_
    simp only [go_sem, Mv, Mc]
    refine cP k1 ?_
    simp only [go_sem, c, c2, r2]
theorem rMakes_run (m : Mt) (x : Int) : Ans Tryd.prog n_ref07_Makes [Mv m, .int .i64 x] [] (r2 (mksR m x).1 (mksR m x).2) [] := by
  have k1 := rcheckMaking_raw m
  have k2 := beyond_run x (-1000000000) 1000000000
  simp only [Mv, Mc] at k1
  unfold mksR
  by_cases c : mkE m = 0
  · rw [if_neg (not_not_intro c)]
    rw [c] at k1
    by_cases d : -1000000000 ≤ x ∧ x ≤ 1000000000
    · have k3 := Made_raw c (x := x) (by simp only [rch]; omega)
      simp only [Mv, Mc, r2] at k3
      rw [if_pos d]
      rw [decide_eq_true d] at k2
      refine spec_run e_ref07_Makes fun G => ?_
      simp only [go_sem, Mv, Mc]
      refine cP k1 ?_
      simp only [go_sem]
      refine cP k2 ?_
      simp only [go_sem]
      refine cP k3 ?_
      simp only [go_sem, r2]
    · rw [if_neg d]
      rw [decide_eq_false d] at k2
      refine spec_run e_ref07_Makes fun G => ?_
      simp only [go_sem, Mv, Mc]
      refine cP k1 ?_
      simp only [go_sem]
      refine cP k2 ?_
      simp only [go_sem, r2]
  · rw [if_pos c]
    obtain ⟨e, he⟩ : ∃ e, mkE m = e := ⟨_, rfl⟩
    rw [he] at c k1
    have c2 : (e == 0) = false := beq_eq_false_iff_ne.2 c
    refine spec_run e_ref07_Makes fun G => ?_
    simp only [go_sem, Mv, Mc]
    refine cP k1 ?_
    simp only [go_sem, c, c2, r2]

theorem mv_sized (l : List Mt) : sizedAll 7 (l.map Mv) = true := by
  unfold sizedAll
  rw [List.all_map, List.all_eq_true]
  exact fun x _ => rfl
theorem OwnBench_run (bs : List Mt) (h : bs.length ≤ 1000) : Ans Tryd.prog n_kit_OwnBench [.view (bs.map Mv)] [] (.sl 0 0 bs.length) [some (.cells true 7 (bs.map Mv))] := by
  have hsz := mv_sized bs
  have hlb : bs.length * 56 ≤ 2 ^ 44 := by omega
  refine spec_run e_kit_OwnBench fun G => ?_
  simp only [go_sem, hsz, hlb, List.length_map]
  exact ⟨_, rfl⟩
theorem Same_view (l : List Int) (h : l.length ≤ 1000000) : Ans Tryd.prog n_kit_Same [.view (l.map (.int .i64)), .view (l.map (.int .i64))] [] (.bool true) [] := by
  refine spec_run e_kit_Same fun G => ?_
  simp only [go_sem, List.length_map]
  refine loop_ind k_kit_Same_r8.eq_1 (fun i : Nat => i ≤ l.length) (fun i => l.length - i)
    (fun i => (tsets 26 [(0, .view (l.map (.int .i64))), (1, .view (l.map (.int .i64))), (5, .int .i64 i)], [])) 0 (Nat.zero_le _) (by simp [go_sem]) rfl ?_
  intro i hi ih
  dsimp only at hi ih ⊢
  by_cases i1 : i < l.length
  · have i2 : (i : Int) < l.length := by omega
    have ni : ¬ (i : Int) < 0 := by omega
    have w5 : IntKind.i64.wrap ((i : Int) + 1) = ((i + 1 : Nat) : Int) := by rw [w64 (by omega)]; rfl
    obtain ⟨z, hz⟩ : ∃ z, l[i]? = some z := ⟨_, List.getElem?_eq_getElem i1⟩
    have ihk := ih (i + 1) (by omega) (by omega)
    clear ih
    simp only [go_sem, i2, ni, hz, w5, List.length_map]
    exact ihk _ (by simp [go_sem])
  · have i2 : ¬ (i : Int) < l.length := by omega
    clear ih
    simp only [go_sem, i2, List.length_map]
theorem SameBenches_view (l : List Mt) (h : l.length ≤ 1000000) : Ans Tryd.prog n_kit_SameBenches [.view (l.map Mv), .view (l.map Mv)] [] (.bool true) [] := by
  refine spec_run e_kit_SameBenches fun G => ?_
  simp only [go_sem, List.length_map]
  refine loop_ind k_kit_SameBenches_r8.eq_1 (fun i : Nat => i ≤ l.length) (fun i => l.length - i)
    (fun i => (tsets 26 [(0, .view (l.map Mv)), (1, .view (l.map Mv)), (5, .int .i64 i)], [])) 0 (Nat.zero_le _) (by simp [go_sem]) rfl ?_
  intro i hi ih
  dsimp only at hi ih ⊢
  by_cases i1 : i < l.length
  · have i2 : (i : Int) < l.length := by omega
    have ni : ¬ (i : Int) < 0 := by omega
    have w5 : IntKind.i64.wrap ((i : Int) + 1) = ((i + 1 : Nat) : Int) := by rw [w64 (by omega)]; rfl
    obtain ⟨z, hz⟩ : ∃ z, l[i]? = some z := ⟨_, List.getElem?_eq_getElem i1⟩
    have ihk := ih (i + 1) (by omega) (by omega)
    clear ih
    simp only [go_sem, i2, ni, hz, Mv, Mc, w5, List.length_map]
    exact ihk _ (by simp [go_sem])
  · have i2 : ¬ (i : Int) < l.length := by omega
    clear ih
    simp only [go_sem, i2, List.length_map]
end Go.Proofs

namespace Go.Proofs
open Go Go.Sx Go.Gauge
attribute [local irreducible] Run

def cwT : List (Nat × AVal) := [(5, .ptr 0 0 0 1), (13, .fn (.func n_gauge_chain_1) [] [.ptr 2 0 0 1, .ptr 1 0 0 1])]
def cwL (st : LoopState) (pe : Option ACode) : Row := .loop (tsets 21 cwT) [14, 15] k_gauge_Chain_r7 k_gauge_Chain_r8 3 st pe
def cwH (bs : List Mt) (s : AVal) (v : Int) (x : Row) (X : Heap) : Heap := [some (.cells false 1 [s]), some (.cells false 1 [.view (bs.map Mv)]), some (.cells false 1 [.int .i64 v]), some .dfr, some x] ++ X
def cwS (T : List Int) (k : Nat) (s : AVal) (X : Heap) : Prop := (k = 0 ∧ s = .nilsl) ∨ (1 ≤ k ∧ ∃ q, s = .sl (q + 5) 0 k ∧ X[q]? = some (some (.cells true 1 ((T.take k).map (.int .i64)))))

set_option maxHeartbeats 8000000 in
set_option maxRecDepth 10000 in
theorem Chain_run {bs : List Mt} (h : VB bs) {m0 : Int} (h0 : 0 ≤ m0) (h1 : m0 < bs.length) :
    Ans Tryd.prog n_gauge_Chain [.view (bs.map Mv), .int .i64 m0] [] (.sl 0 0 (ch bs m0).length) [some (.cells true 1 ((ch bs m0).map (.int .i64)))] := by
  have hlen := h.len
  have hc0 := ch_len h (show -1 ≤ m0 by omega) h1
  have hst0 := ch_step h h0 h1
  obtain ⟨T, hT⟩ : ∃ T, ch bs m0 = T := ⟨_, rfl⟩
  have hT1 : 1 ≤ T.length := by rw [← hT, hst0]; simp
  rw [hT] at hc0 ⊢
  refine Ans.keep (run_fn e_gauge_Chain fun G => ?_) (by simp) (by simp [go_sem]) ⟨by rw [row_bel_cells]; simp only [go_sem], trivial⟩
  simp only [go_sem]
  refine cP (checkOne_yes h h0 h1) ?_
  simp only [go_sem]
  refine cN2 (chain_run bs m0) ?_
  simp only [go_sem, ren, rens]
  have hit := fun G H0 => chain_iter (G := G) (H0 := H0) (r := 4) (jm := 2) (jb := 1) (K := bs.length) (bs := bs) (m0 := m0)
    (Pre := fun k m H => (∃ s v X, H = cwH bs s v (cwL .ready none) X ∧ cwS T k s X) ∧ k ≤ T.length ∧ T.drop k = ch bs m ∧ -1 ≤ m ∧ m < bs.length) (Stop := fun _ => False)
  refine rangeF 2000 (ρ := tsets 21 cwT) (by simp [go_sem, cwT]) (by simp only [go_sem, cwT]; rfl)
    (hit _ _ ⟨?_, ?_, ?_⟩ ⟨⟨.nilsl, m0, [], rfl, .inl ⟨rfl, rfl⟩⟩, by omega, hT.symm, by omega, h1⟩ rfl) (by simp) ?_
  · rintro k m H ⟨⟨s, v, X, rfl, hs⟩, hk, hk2, q1, q2⟩
    exact ⟨by omega, q1, q2, rfl⟩
  · rintro k m H u ⟨⟨s, v, X, rfl, hs⟩, hk, hk2, q1, q2⟩
    exact ⟨⟨s, u, X, rfl, hs⟩, hk, hk2, q1, q2⟩
  · rintro k m H hm ⟨⟨s, v, X, rfl, hs⟩, hk, hk2, q1, q2⟩ hv
    have hv' : v = m := by simpa [cwH, iR] using hv
    subst hv'
    have hst := ch_step h (show 0 ≤ v by omega) q2
    have hcm := h.cmp _ (mt_mem (show 0 ≤ v by omega) q2)
    have hkT : k < T.length := by
      have e : (T.drop k).length = (ch bs (mt bs v).cmp).length + 1 := by rw [hk2, hst]; rfl
      rw [List.length_drop] at e; omega
    have hTk : T.drop k = T[k] :: T.drop (k + 1) := List.drop_eq_getElem_cons hkT
    rw [hk2, hst] at hTk
    obtain ⟨e1, e2⟩ := List.cons.inj hTk
    have htake : T.take (k + 1) = T.take k ++ [v] := by rw [List.take_add_one, List.getElem?_eq_getElem hkT, ← e1]; rfl
    refine RoundW.mono (R := fun w H' => w = .bool true ∧ ∃ s' X', H' = cwH bs s' v (cwL .ready none) X' ∧ X.length ≤ X'.length ∧ cwS T (k + 1) s' X') ?_ ?_
    rotate_left
    · rintro w H' ⟨rfl, s', X', rfl, hX, hs'⟩
      exact ⟨⟨by simp [cwH]; omega, rfl⟩, .inl ⟨rfl, by omega, ⟨s', v, X', rfl, hs'⟩, hkT, e2.symm, hcm.1, hcm.2⟩⟩
    generalize hR : (fun (w : AVal) (H' : Heap) => w = .bool true ∧ ∃ s' X', H' = cwH bs s' v (cwL .ready none) X' ∧ X.length ≤ X'.length ∧ cwS T (k + 1) s' X') = R
    have hfin : ∀ s' X', X.length ≤ X'.length → cwS T (k + 1) s' X' → R (.bool true) (cwH bs s' v (cwL .ready none) X') := fun s' X' a b => by rw [← hR]; exact ⟨rfl, s', X', rfl, a, b⟩
    clear hR
    refine roundW_run 500 k_gauge_Chain_r7.eq_1 rfl rfl (ρ' := tsets 21 (cwT ++ [(14, .int .i64 v), (15, Mv (mt bs v))])) rfl ?_
    simp only [go_sem, cwT, cwH]
    refine roundMid_run 500 k_gauge_Chain_r8.eq_1 rfl rfl ?_
    rcases hs with ⟨rfl, rfl⟩ | ⟨hk1, q, rfl, hX⟩
    · simp only [go_sem]
      refine ⟨by decide, ?_⟩
      refine roundEnd_on rfl ?_
      simp only [go_sem]
      have := hfin (.sl (X.length + 1 + 5) 0 1) (X ++ [some (.cells false 1 [.int .i64 v]), some (.cells true 1 [.int .i64 v])]) (by simp) (.inr ⟨by omega, X.length + 1, rfl, by rw [htake]; simp⟩)
      simp only [cwH, cwL] at this
      exact this
    · have hlt : q < X.length := (List.getElem?_eq_some_iff.1 hX).1
      have cX := fun Y => cells_more (cells_at hX) Y
      have pX := fun Y x => put_more (H := X) hlt Y x
      have hq : (k + 1) * 8 ≤ 2 ^ 44 := by omega
      have hlk : (T.take k).length = k := by rw [List.length_take]; omega
      simp only [go_sem, cX, pX, hq, hlk, List.length_map]
      refine roundEnd_on rfl ?_
      simp only [go_sem]
      have := hfin (.sl (q + 5) 0 (k + 1)) (X.set q (some (.cells true 1 ((T.take k).map (.int .i64) ++ [.int .i64 v]))) ++ [some (.cells false 1 [.int .i64 v])]) (by simp) (.inr ⟨by omega, q, rfl, by
        rw [List.getElem?_append_left (by rw [List.length_set]; exact hlt), List.getElem?_set_self hlt, htake, List.map_append]; rfl⟩)
      simp only [cwH, cwL] at this
      exact this
  · rintro v H' ⟨rfl, ⟨k, ⟨s, u, X, rfl, hs⟩, hk, hk2, _⟩ | h⟩
    · rw [ch_end] at hk2
      have hkT : k = T.length := by
        have := congrArg List.length hk2
        rw [List.length_drop] at this; simp at this; omega
      rcases hs with ⟨hk0, rfl⟩ | ⟨hk1, q, rfl, hX⟩
      · omega
      · refine ⟨fun q hq => by simp at hq; subst hq; rfl, _, _, _, _, _, _, _, rfl, by decide, ?_⟩
        simp only [go_sem, cwH, cwT]
        rw [List.take_of_length_le (by omega)] at hX
        refine ⟨by simp, kept_one (q + 5) (by simp [ren, hkT]) (by rw [row_bel_cells]; simp only [go_sem]) ?_⟩
        simpa using hX
    · exact h.elim
end Go.Proofs

namespace Go.Proofs
open Go Go.Sx Go.Gauge

theorem at_struct {P : Program} {n : Nat} {t : TypeId} {fs : Array Field} (hu : P.underlying t = some (.struct fs)) {vs : List AVal} (h : AT P (n + 1) t vs) : ATs (AT P n) fs.toList vs := by
  unfold AT at h; rw [hu] at h; exact h
theorem at_int {P : Program} {n : Nat} {t : TypeId} {k : IntKind} (hu : P.underlying t = some (.int k)) {vs : List AVal} (h : AT P (n + 1) t vs) : ∃ m, vs = [.int k m] ∧ (Lit.int k m).wf = true := by
  unfold AT at h; rw [hu] at h; exact h
theorem at_slice {P : Program} {n : Nat} {t e : TypeId} (hu : P.underlying t = some (.slice e)) {vs : List AVal} (h : AT P (n + 1) t vs) : ∃ es, vs = [.view es] ∧ es.length ≤ maxLen ∧ ∀ x ∈ es, if aggT P e = true then ∃ ws, x = .agg ws ∧ AT P n e ws else AT P n e [x] := by
  unfold AT at h; rw [hu] at h; exact h
theorem list_map {α β : Type} {f : α → β} {Q : α → Prop} : ∀ l : List β, (∀ x ∈ l, ∃ a, x = f a ∧ Q a) → ∃ l' : List α, l = l'.map f ∧ ∀ a ∈ l', Q a
  | [], _ => ⟨[], rfl, fun a ha => by simp at ha⟩
  | x :: l, h => by
    obtain ⟨a, rfl, ha⟩ := h x (by simp)
    obtain ⟨l', rfl, h'⟩ := list_map l fun y hy => h y (by simp [hy])
    exact ⟨a :: l', rfl, fun b hb => by
      rcases List.mem_cons.1 hb with rfl | hb
      · exact ha
      · exact h' b hb⟩

attribute [local irreducible] AT
set_option maxRecDepth 100000
theorem atn_int {n : Nat} {vs : List AVal} (h : AT Tryd.prog (n + 1) 3 vs) : ∃ m, vs = [.int .i64 m] ∧ (Lit.int .i64 m).wf = true := at_int Tryd.underlying3 h
theorem at_ints {n : Nat} {x : AVal} (h : AT Tryd.prog (n + 2) 27 [x]) : ∃ l : List Int, x = .view (l.map (.int .i64)) ∧ l.length ≤ 9223372036854775807 := by
  obtain ⟨es, h1, hl, he⟩ := at_slice Tryd.underlying27 h
  obtain rfl : x = .view es := by simpa using h1
  have hg : ¬ aggT Tryd.prog 3 = true := by unfold aggT; rw [Tryd.underlying3]; decide
  obtain ⟨l, rfl, -⟩ := list_map (f := AVal.int .i64) (Q := fun _ => True) es fun x hx => by
    have := he x hx
    rw [if_neg hg] at this
    obtain ⟨m, hm, -⟩ := atn_int this
    exact ⟨m, by simpa using hm, trivial⟩
  have hm : maxLen = 9223372036854775807 := rfl
  rw [hm] at hl
  exact ⟨l, rfl, by simpa using hl⟩
theorem at_rng {n : Nat} {ws : List AVal} (h : AT Tryd.prog (n + 2) 24 ws) : ∃ a b : Int, ws = [.int .i64 a, .int .i64 b] := by
  obtain ⟨a, _, rfl, ha, b, _, rfl, hb, rfl⟩ := at_struct Tryd.underlying24 h
  obtain ⟨x, rfl, hx⟩ := atn_int ha
  obtain ⟨y, rfl, hy⟩ := atn_int hb
  exact ⟨x, y, rfl⟩
theorem at_meter {n : Nat} {ws : List AVal} (h : AT Tryd.prog (n + 3) 26 ws) : ∃ m : Mt, ws = Mc m := by
  obtain ⟨a, _, rfl, ha, b, _, rfl, hb, c, _, rfl, hc, d, _, rfl, hd, e, _, rfl, he, rfl⟩ := at_struct Tryd.underlying26 h
  obtain ⟨x1, y1, rfl⟩ := at_rng ha
  obtain ⟨x2, y2, rfl⟩ := at_rng hb
  obtain ⟨x, rfl, -⟩ := atn_int hc
  obtain ⟨y, rfl, -⟩ := atn_int hd
  obtain ⟨z, rfl, -⟩ := atn_int he
  exact ⟨⟨x1, y1, x2, y2, x, y, z⟩, rfl⟩
theorem at_bench {n : Nat} {x : AVal} (h : AT Tryd.prog (n + 4) 22 [x]) : ∃ l : List Mt, x = .view (l.map Mv) ∧ l.length ≤ 9223372036854775807 := by
  obtain ⟨es, h1, hl, he⟩ := at_slice Tryd.underlying22 h
  obtain rfl : x = .view es := by simpa using h1
  have hg : aggT Tryd.prog 26 = true := by unfold aggT; rw [Tryd.underlying26]
  obtain ⟨l, rfl, -⟩ := list_map (f := Mv) (Q := fun _ => True) es fun x hx => by
    have := he x hx
    rw [if_pos hg] at this
    obtain ⟨ws, rfl, hw⟩ := this
    obtain ⟨m, rfl⟩ := at_meter hw
    exact ⟨m, rfl, trivial⟩
  have hm : maxLen = 9223372036854775807 := rfl
  rw [hm] at hl
  exact ⟨l, rfl, by simpa using hl⟩
end Go.Proofs

namespace Go.Proofs
open Go Go.Sx Go.Gauge
attribute [local irreducible] AT
set_option maxRecDepth 100000
end Go.Proofs

namespace Go.Proofs
open Go Go.Sx Go.Gauge
attribute [local irreducible] Run

theorem bkN (w : Int) (N : Nat) (h : 1 ≤ N ∧ N ≤ 12) (v : AVal) (hv : v = .int .i64 N) : AnsE Tryd.prog n_kit_BenchOf [.ptr 0 0 0 1, v] [some (Dr w)] (fun a : List Mt × Int => BkOK a.1 ∧ 1 ≤ a.1.length ∧ a.1.length ≤ N) (fun a => .sl 1 0 a.1.length) (fun a => [some (Dr a.2), some (.cells true 7 (a.1.map Mv))]) := by
  rw [hv]; exact benchOf_run w (N := N) h

end Go.Proofs

namespace Go.Proofs
open Go Go.Sx Go.Gauge
attribute [local irreducible] Run

theorem Chain_none {bs : List Mt} {m : Int} (hl : bs.length ≤ 1000) (h : ¬ (chkE bs = 0 ∧ 0 ≤ m ∧ m < bs.length)) : Ans Tryd.prog n_gauge_Chain [.view (bs.map Mv), .int .i64 m] [] .nilsl [] := by
  have k := checkOne_raw bs m hl
  obtain ⟨e, he⟩ : ∃ e, (if chkE bs ≠ 0 then chkE bs else if ¬(0 ≤ m ∧ m < (bs.length : Int)) then 7 else 0) = e := ⟨_, rfl⟩
  rw [he] at k
  have e0 : ¬ e = 0 := by
    rw [← he]
    by_cases c : chkE bs = 0
    · rw [if_neg (not_not_intro c), if_pos (fun d => h ⟨c, d⟩)]; decide
    · rw [if_pos c]; exact c
  have e1 : (e == 0) = false := beq_eq_false_iff_ne.2 e0
  refine spec_run e_gauge_Chain fun G => ?_
  simp only [go_sem]
  refine cP k ?_
  simp only [go_sem, e0, e1]
theorem rChain_none {bs : List Mt} {m : Int} (hl : bs.length ≤ 1000) (h : ¬ (chkE bs = 0 ∧ 0 ≤ m ∧ m < bs.length)) : Ans Tryd.prog n_ref07_Chain [.view (bs.map Mv), .int .i64 m] [] .nilsl [] := by
  have k1 := rCheck_raw bs hl
  have k2 := beyond_run m 0 ((bs.length : Int) - 1)
  have w1 : IntKind.i64.wrap ((bs.length : Int) - 1) = (bs.length : Int) - 1 := w64 (by omega)
  by_cases c : chkE bs = 0
  · rw [c] at k1
    rw [decide_eq_false (fun d => h ⟨c, d.1, by omega⟩)] at k2
    refine spec_run e_ref07_Chain fun G => ?_
    simp only [go_sem]
    refine cP k1 ?_
    simp only [go_sem, w1, List.length_map]
    refine cP k2 ?_
    simp only [go_sem]
  · obtain ⟨e, he⟩ : ∃ e, chkE bs = e := ⟨_, rfl⟩
    rw [he] at k1 c
    have e1 : (e == 0) = false := beq_eq_false_iff_ne.2 c
    refine spec_run e_ref07_Chain fun G => ?_
    simp only [go_sem]
    refine cP k1 ?_
    simp only [go_sem, c, e1]

theorem ints_frz {l : List Int} {H : Heap} {j n : Nat} {g : Bool} (h : H[j]? = some (some (.cells g 1 (l.map (.int .i64))))) (hn : n = l.length) : frz 6 H (.sl j 0 n) = .view (l.map (.int .i64)) := by
  rw [frz_sl (d := 5) h (by simpa using hn), List.map_map]; rfl
theorem nilchain_same : Ans Tryd.prog n_kit_Same [.view [], .view []] [] (.bool true) [] := Same_view [] (by simp)

end Go.Proofs

namespace Go.Proofs
open Go Go.Sx Go.Gauge
attribute [local irreducible] Run

theorem vw_frz (bs : List Mt) {H : Heap} : frz 6 H (.view (bs.map Mv)) = .view (bs.map Mv) := by
  have := mv_frz bs 3 H
  simp only [frz, List.map_map] at this ⊢
  first | (rw [this]; done) | exact congrArg AVal.view this
theorem mvrow_nv (g : Bool) (l : List Mt) : (Row.cells g 7 (l.map Mv)).nv := row_nv_cells _ _ (mvs_nv l ▸ trivial)

set_option maxHeartbeats 8000000 in
set_option maxRecDepth 10000 in
theorem checks_rest {G : Ctx} (rs ms : List Mt) (x : Mt) (m value w : Int) (hrs : rs.length ≤ 20) (h1 : 1 ≤ ms.length) (h2 : ms.length ≤ 12) :
    Sx.Loop Tryd.prog G 0 none k_law07_GaugeChecks_r19 [.blk 0, .seq (.seq (.reg k_law07_GaugeChecks_r20 false) (.seq (.reg k_law07_GaugeChecks_r21 true) .ret))]
      ⟨tsets 138 [(0, .view (rs.map Mv)), (2, .int .i64 m), (3, .int .i64 value), (6, .ptr 0 0 0 1), (12, .sl 2 0 ms.length), (13, .sl 3 0 2), (14, .int .i64 0)],
        [some (.cells false 7 [Mv x]), some (Dr w), some (.cells true 7 (ms.map Mv)), some (.cells false 1 [.view (rs.map Mv), .sl 2 0 ms.length])], []⟩ (RetPost [.tmp 10] fun v H'' => v = AVal.bool true) := by
  have q1 : IntKind.i64.wrap 1 = 1 := by decide
  have q2 : IntKind.i64.wrap 2 = 2 := by decide
  have kc := Check_raw rs (by omega)
  have rc := rCheck_raw rs (by omega)
  obtain ⟨E, hE⟩ : ∃ E, chkE rs = E := ⟨_, rfl⟩
  rw [hE] at kc rc
  refine loop_body 400 k_law07_GaugeChecks_r19.eq_1 ?_
  simp only [go_sem]
  refine cN1 (OwnBench_run rs (by omega)) ?_ (hx := bk_bel _ _ _)
  simp only [go_sem, ren, rens]
  refine dF kc 6 [4] ⟨.inl (bs_frz (g := true) (onlyR_row rfl (by simp)) rfl), trivial⟩ ?_
  simp only [go_sem]
  refine cP rc ?_
  simp only [go_sem]
  have sb := SameBenches_view rs (by omega)
  have kd := Check_raw ms (by omega)
  have rd := rCheck_raw ms (by omega)
  have sd := SameBenches_view ms (by omega)
  obtain ⟨z, hz⟩ : ∃ z, ms[0]? = some z := ⟨_, List.getElem?_eq_getElem (by omega)⟩
  have kd := Check_raw ms (by omega)
  have rd := rCheck_raw ms (by omega)
  have sd := SameBenches_view ms (by omega)
  obtain ⟨z, hz⟩ : ∃ z, ms[0]? = some z := ⟨_, List.getElem?_eq_getElem (by omega)⟩
  have kd := Check_raw ms (by omega)
  have rd := rCheck_raw ms (by omega)
  have sd := SameBenches_view ms (by omega)
  obtain ⟨z, hz⟩ : ∃ z, ms[0]? = some z := ⟨_, List.getElem?_eq_getElem (by omega)⟩
  have kd := Check_raw ms (by omega)
  have rd := rCheck_raw ms (by omega)
  have sd := SameBenches_view ms (by omega)
  have hml : (0 : Int) < ms.length := by omega
  obtain ⟨z, hz⟩ : ∃ z, ms[0]? = some z := ⟨_, List.getElem?_eq_getElem (by omega)⟩
  by_cases hc : chkE rs = 0 ∧ 0 ≤ m ∧ m < rs.length
  · have hv := chkE_vb hc.1
    have c1 := Chain_run hv hc.2.1 hc.2.2
    have c2 := rChain_run hv hc.2.1 hc.2.2
    have c3 := Same_view (ch rs m) (by have := chL_len rs (rs.length + 1) m; unfold ch; omega)
    obtain ⟨T, hT⟩ : ∃ T, ch rs m = T := ⟨_, rfl⟩
    rw [hT] at c1 c2 c3
    refine dFN c1 6 [4] ⟨.inl (bs_frz (g := true) (onlyR_row rfl (by simp)) rfl), .inl rfl, trivial⟩ ?_ (hx := by rw [row_bel_cells]; simp only [go_sem]) (hxn := row_nv_cells _ _ (nvs_ints _ _ ▸ trivial))
    simp only [go_sem, ren, rens]
    refine cN1 c2 ?_ (hx := by rw [row_bel_cells]; simp only [go_sem])
    simp only [go_sem, ren, rens]
    refine cF c3 6 ⟨.inl (ints_frz (g := true) rfl rfl), .inl (ints_frz (g := true) rfl rfl), trivial⟩ ?_
    simp only [go_sem]
    refine cF sb 6 ⟨.inl (bs_frz (g := true) rfl rfl), .inl (vw_frz rs), trivial⟩ ?_
    simp only [go_sem, q1]
    refine loop_body 400 k_law07_GaugeChecks_r19.eq_1 ?_
    simp only [go_sem, q1]
    refine cFN (OwnBench_run ms (by omega)) 6 ⟨.inl (bs_frz (g := true) rfl rfl), trivial⟩ ?_ (hx := bk_bel _ _ _) (hxn := mvrow_nv _ _)
    simp only [go_sem, ren, rens, q1]
    refine cP (mod_pos m ms.length (by omega)) ?_
    simp only [go_sem, q1]
    have n0 := Int.emod_nonneg m (show (ms.length : Int) ≠ 0 by omega)
    have n1 := Int.emod_lt_of_pos m (show (0 : Int) < ms.length by omega)
    obtain ⟨n, hn⟩ : ∃ n, m % (ms.length : Int) = n := ⟨_, rfl⟩
    rw [hn] at n0 n1 ⊢
    refine dF kd 6 [7] ⟨.inl (bs_frz (g := true) (onlyR_row rfl (by simp)) rfl), trivial⟩ ?_
    simp only [go_sem, q1]
    refine cF rd 6 ⟨.inl (bs_frz (g := true) rfl rfl), trivial⟩ ?_
    simp only [go_sem]
    by_cases hd : chkE ms = 0
    · have hw := chkE_vb hd
      have d1 := Chain_run hw n0 n1
      have d2 := rChain_run hw n0 n1
      have d3 := Same_view (ch ms n) (by have := chL_len ms (ms.length + 1) n; unfold ch; omega)
      obtain ⟨U, hU⟩ : ∃ U, ch ms n = U := ⟨_, rfl⟩
      rw [hU] at d1 d2 d3
      refine dFN d1 6 [7] ⟨.inl (bs_frz (g := true) (onlyR_row rfl (by simp)) rfl), .inl rfl, trivial⟩ ?_ (hx := by rw [row_bel_cells]; simp only [go_sem]) (hxn := row_nv_cells _ _ (nvs_ints _ _ ▸ trivial))
      simp only [go_sem, ren, rens, q1]
      refine cFN d2 6 ⟨.inl (bs_frz (g := true) rfl rfl), .inl rfl, trivial⟩ ?_ (hx := by rw [row_bel_cells]; simp only [go_sem]) (hxn := row_nv_cells _ _ (nvs_ints _ _ ▸ trivial))
      simp only [go_sem, ren, rens]
      refine cF d3 6 ⟨.inl (ints_frz (g := true) rfl rfl), .inl (ints_frz (g := true) rfl rfl), trivial⟩ ?_
      simp only [go_sem, q1]
      refine cF sd 6 ⟨.inl (bs_frz (g := true) rfl rfl), .inl (bs_frz (g := true) rfl rfl), trivial⟩ ?_
      simp only [go_sem, q2]
      refine loop_body 400 k_law07_GaugeChecks_r19.eq_1 ?_
      simp only [go_sem, q2]
      refine cP (mod_pos value 4001 (by decide)) ?_
      have v0 := mod_in value 4001 (by decide)
      obtain ⟨v, hv0⟩ : ∃ v, value % 4001 = v := ⟨_, rfl⟩
      rw [hv0] at v0 ⊢
      have w9 : IntKind.i64.wrap (v - 2000) = v - 2000 := w64 (by omega)
      simp only [go_sem, w9]
      have x1 := Makes_run x value
      have x2 := rMakes_run x value
      have y1 := Makes_run z value
      have y2 := rMakes_run z value
      have z1 := Makes_run z (v - 2000)
      have z2 := rMakes_run z (v - 2000)
      obtain ⟨X, hX⟩ : ∃ X, mksR x value = X := ⟨_, rfl⟩
      obtain ⟨Y, hY⟩ : ∃ Y, mksR z value = Y := ⟨_, rfl⟩
      obtain ⟨Z, hZ⟩ : ∃ Z, mksR z (v - 2000) = Z := ⟨_, rfl⟩
      rw [hX] at x1 x2
      rw [hY] at y1 y2
      rw [hZ] at z1 z2
      simp only [r2, Mv, Mc] at x1 x2 y1 y2 z1 z2
      simp only [go_sem, Mv, Mc]
      refine dP x1 ?_
      simp only [go_sem, Mv, Mc]
      refine cP x2 ?_
      simp only [go_sem, hz, hml, Mv, Mc, List.length_map]
      refine dP y1 ?_
      simp only [go_sem, hz, hml, Mv, Mc, List.length_map]
      refine cP y2 ?_
      simp only [go_sem, hz, hml, Mv, Mc, List.length_map]
      refine dP z1 ?_
      simp only [go_sem, hz, hml, Mv, Mc, List.length_map]
      refine cP z2 ?_
      simp only [go_sem]
      refine cP awake_ok ?_
      simp only [go_sem]
    · have d1 := Chain_none (bs := ms) (m := n) (by omega) (fun c => hd c.1)
      have d2 := rChain_none (bs := ms) (m := n) (by omega) (fun c => hd c.1)
      refine dF d1 6 [7] ⟨.inl (bs_frz (g := true) (onlyR_row rfl (by simp)) rfl), .inl rfl, trivial⟩ ?_
      simp only [go_sem, ren, rens, q1]
      refine cF d2 6 ⟨.inl (bs_frz (g := true) rfl rfl), .inl rfl, trivial⟩ ?_
      simp only [go_sem]
      refine cF nilchain_same 6 ⟨.inr ⟨rfl, rfl⟩, .inr ⟨rfl, rfl⟩, trivial⟩ ?_
      simp only [go_sem, q1]
      refine cF sd 6 ⟨.inl (bs_frz (g := true) rfl rfl), .inl (bs_frz (g := true) rfl rfl), trivial⟩ ?_
      simp only [go_sem, q2]
      refine loop_body 400 k_law07_GaugeChecks_r19.eq_1 ?_
      simp only [go_sem, q2]
      refine cP (mod_pos value 4001 (by decide)) ?_
      have v0 := mod_in value 4001 (by decide)
      obtain ⟨v, hv0⟩ : ∃ v, value % 4001 = v := ⟨_, rfl⟩
      rw [hv0] at v0 ⊢
      have w9 : IntKind.i64.wrap (v - 2000) = v - 2000 := w64 (by omega)
      simp only [go_sem, w9]
      have x1 := Makes_run x value
      have x2 := rMakes_run x value
      have y1 := Makes_run z value
      have y2 := rMakes_run z value
      have z1 := Makes_run z (v - 2000)
      have z2 := rMakes_run z (v - 2000)
      obtain ⟨X, hX⟩ : ∃ X, mksR x value = X := ⟨_, rfl⟩
      obtain ⟨Y, hY⟩ : ∃ Y, mksR z value = Y := ⟨_, rfl⟩
      obtain ⟨Z, hZ⟩ : ∃ Z, mksR z (v - 2000) = Z := ⟨_, rfl⟩
      rw [hX] at x1 x2
      rw [hY] at y1 y2
      rw [hZ] at z1 z2
      simp only [r2, Mv, Mc] at x1 x2 y1 y2 z1 z2
      simp only [go_sem, Mv, Mc]
      refine dP x1 ?_
      simp only [go_sem, Mv, Mc]
      refine cP x2 ?_
      simp only [go_sem, hz, hml, Mv, Mc, List.length_map]
      refine dP y1 ?_
      simp only [go_sem, hz, hml, Mv, Mc, List.length_map]
      refine cP y2 ?_
      simp only [go_sem, hz, hml, Mv, Mc, List.length_map]
      refine dP z1 ?_
      simp only [go_sem, hz, hml, Mv, Mc, List.length_map]
      refine cP z2 ?_
      simp only [go_sem]
      refine cP awake_ok ?_
      simp only [go_sem]
  · have c1 := Chain_none (by omega) hc
    have c2 := rChain_none (by omega) hc
    refine dF c1 6 [4] ⟨.inl (bs_frz (g := true) (onlyR_row rfl (by simp)) rfl), .inl rfl, trivial⟩ ?_
    simp only [go_sem, ren, rens]
    refine cP c2 ?_
    simp only [go_sem]
    refine cF nilchain_same 6 ⟨.inr ⟨rfl, rfl⟩, .inr ⟨rfl, rfl⟩, trivial⟩ ?_
    simp only [go_sem]
    refine cF sb 6 ⟨.inl (bs_frz (g := true) rfl rfl), .inl (vw_frz rs), trivial⟩ ?_
    simp only [go_sem, q1]
    refine loop_body 400 k_law07_GaugeChecks_r19.eq_1 ?_
    simp only [go_sem, q1]
    refine cFN (OwnBench_run ms (by omega)) 6 ⟨.inl (bs_frz (g := true) rfl rfl), trivial⟩ ?_ (hx := bk_bel _ _ _) (hxn := mvrow_nv _ _)
    simp only [go_sem, ren, rens, q1]
    refine cP (mod_pos m ms.length (by omega)) ?_
    simp only [go_sem, q1]
    have n0 := Int.emod_nonneg m (show (ms.length : Int) ≠ 0 by omega)
    have n1 := Int.emod_lt_of_pos m (show (0 : Int) < ms.length by omega)
    obtain ⟨n, hn⟩ : ∃ n, m % (ms.length : Int) = n := ⟨_, rfl⟩
    rw [hn] at n0 n1 ⊢
    refine dF kd 6 [5] ⟨.inl (bs_frz (g := true) (onlyR_row rfl (by simp)) rfl), trivial⟩ ?_
    simp only [go_sem, q1]
    refine cF rd 6 ⟨.inl (bs_frz (g := true) rfl rfl), trivial⟩ ?_
    simp only [go_sem]
    by_cases hd : chkE ms = 0
    · have hw := chkE_vb hd
      have d1 := Chain_run hw n0 n1
      have d2 := rChain_run hw n0 n1
      have d3 := Same_view (ch ms n) (by have := chL_len ms (ms.length + 1) n; unfold ch; omega)
      obtain ⟨U, hU⟩ : ∃ U, ch ms n = U := ⟨_, rfl⟩
      rw [hU] at d1 d2 d3
      refine dFN d1 6 [5] ⟨.inl (bs_frz (g := true) (onlyR_row rfl (by simp)) rfl), .inl rfl, trivial⟩ ?_ (hx := by rw [row_bel_cells]; simp only [go_sem]) (hxn := row_nv_cells _ _ (nvs_ints _ _ ▸ trivial))
      simp only [go_sem, ren, rens, q1]
      refine cFN d2 6 ⟨.inl (bs_frz (g := true) rfl rfl), .inl rfl, trivial⟩ ?_ (hx := by rw [row_bel_cells]; simp only [go_sem]) (hxn := row_nv_cells _ _ (nvs_ints _ _ ▸ trivial))
      simp only [go_sem, ren, rens]
      refine cF d3 6 ⟨.inl (ints_frz (g := true) rfl rfl), .inl (ints_frz (g := true) rfl rfl), trivial⟩ ?_
      simp only [go_sem, q1]
      refine cF sd 6 ⟨.inl (bs_frz (g := true) rfl rfl), .inl (bs_frz (g := true) rfl rfl), trivial⟩ ?_
      simp only [go_sem, q2]
      refine loop_body 400 k_law07_GaugeChecks_r19.eq_1 ?_
      simp only [go_sem, q2]
      refine cP (mod_pos value 4001 (by decide)) ?_
      have v0 := mod_in value 4001 (by decide)
      obtain ⟨v, hv0⟩ : ∃ v, value % 4001 = v := ⟨_, rfl⟩
      rw [hv0] at v0 ⊢
      have w9 : IntKind.i64.wrap (v - 2000) = v - 2000 := w64 (by omega)
      simp only [go_sem, w9]
      have x1 := Makes_run x value
      have x2 := rMakes_run x value
      have y1 := Makes_run z value
      have y2 := rMakes_run z value
      have z1 := Makes_run z (v - 2000)
      have z2 := rMakes_run z (v - 2000)
      obtain ⟨X, hX⟩ : ∃ X, mksR x value = X := ⟨_, rfl⟩
      obtain ⟨Y, hY⟩ : ∃ Y, mksR z value = Y := ⟨_, rfl⟩
      obtain ⟨Z, hZ⟩ : ∃ Z, mksR z (v - 2000) = Z := ⟨_, rfl⟩
      rw [hX] at x1 x2
      rw [hY] at y1 y2
      rw [hZ] at z1 z2
      simp only [r2, Mv, Mc] at x1 x2 y1 y2 z1 z2
      simp only [go_sem, Mv, Mc]
      refine dP x1 ?_
      simp only [go_sem, Mv, Mc]
      refine cP x2 ?_
      simp only [go_sem, hz, hml, Mv, Mc, List.length_map]
      refine dP y1 ?_
      simp only [go_sem, hz, hml, Mv, Mc, List.length_map]
      refine cP y2 ?_
      simp only [go_sem, hz, hml, Mv, Mc, List.length_map]
      refine dP z1 ?_
      simp only [go_sem, hz, hml, Mv, Mc, List.length_map]
      refine cP z2 ?_
      simp only [go_sem]
      refine cP awake_ok ?_
      simp only [go_sem]
    · have d1 := Chain_none (bs := ms) (m := n) (by omega) (fun c => hd c.1)
      have d2 := rChain_none (bs := ms) (m := n) (by omega) (fun c => hd c.1)
      refine dF d1 6 [5] ⟨.inl (bs_frz (g := true) (onlyR_row rfl (by simp)) rfl), .inl rfl, trivial⟩ ?_
      simp only [go_sem, ren, rens, q1]
      refine cF d2 6 ⟨.inl (bs_frz (g := true) rfl rfl), .inl rfl, trivial⟩ ?_
      simp only [go_sem]
      refine cF nilchain_same 6 ⟨.inr ⟨rfl, rfl⟩, .inr ⟨rfl, rfl⟩, trivial⟩ ?_
      simp only [go_sem, q1]
      refine cF sd 6 ⟨.inl (bs_frz (g := true) rfl rfl), .inl (bs_frz (g := true) rfl rfl), trivial⟩ ?_
      simp only [go_sem, q2]
      refine loop_body 400 k_law07_GaugeChecks_r19.eq_1 ?_
      simp only [go_sem, q2]
      refine cP (mod_pos value 4001 (by decide)) ?_
      have v0 := mod_in value 4001 (by decide)
      obtain ⟨v, hv0⟩ : ∃ v, value % 4001 = v := ⟨_, rfl⟩
      rw [hv0] at v0 ⊢
      have w9 : IntKind.i64.wrap (v - 2000) = v - 2000 := w64 (by omega)
      simp only [go_sem, w9]
      have x1 := Makes_run x value
      have x2 := rMakes_run x value
      have y1 := Makes_run z value
      have y2 := rMakes_run z value
      have z1 := Makes_run z (v - 2000)
      have z2 := rMakes_run z (v - 2000)
      obtain ⟨X, hX⟩ : ∃ X, mksR x value = X := ⟨_, rfl⟩
      obtain ⟨Y, hY⟩ : ∃ Y, mksR z value = Y := ⟨_, rfl⟩
      obtain ⟨Z, hZ⟩ : ∃ Z, mksR z (v - 2000) = Z := ⟨_, rfl⟩
      rw [hX] at x1 x2
      rw [hY] at y1 y2
      rw [hZ] at z1 z2
      simp only [r2, Mv, Mc] at x1 x2 y1 y2 z1 z2
      simp only [go_sem, Mv, Mc]
      refine dP x1 ?_
      simp only [go_sem, Mv, Mc]
      refine cP x2 ?_
      simp only [go_sem, hz, hml, Mv, Mc, List.length_map]
      refine dP y1 ?_
      simp only [go_sem, hz, hml, Mv, Mc, List.length_map]
      refine cP y2 ?_
      simp only [go_sem, hz, hml, Mv, Mc, List.length_map]
      refine dP z1 ?_
      simp only [go_sem, hz, hml, Mv, Mc, List.length_map]
      refine cP z2 ?_
      simp only [go_sem]
      refine cP awake_ok ?_
      simp only [go_sem]
end Go.Proofs

namespace Go.Proofs
open Go Go.Sx Go.Gauge
attribute [local irreducible] Run

set_option maxHeartbeats 8000000 in
set_option maxRecDepth 10000 in
theorem checks_law (rs : List Mt) (x : Mt) (m value : Int) (zs : List Int) (hl : zs.length ≤ 9223372036854775807) (hrs : rs.length ≤ 9223372036854775807) :
    Ans Tryd.prog n_law07_GaugeChecks [.view (rs.map Mv), Mv x, .int .i64 m, .int .i64 value, .view (zs.map (.int .i64))] [] (.bool true) [] := by
  by_cases r20 : 20 < rs.length
  · have r20' : (20 : Int) < rs.length := by omega
    refine spec_run e_law07_GaugeChecks fun G => ?_
    simp only [go_sem, r20', Mv, Mc, List.length_map]
    refine cP awake_ok ?_
    simp only [go_sem]
  have r20' : ¬ (20 : Int) < rs.length := by omega
  refine spec_run e_law07_GaugeChecks fun G => ?_
  simp only [go_sem, r20', Mv, Mc, List.length_map]
  refine callN1 (newdice_ok zs hl) (by simp only [go_sem]) (dr_bel _ _) (by simp) (by simp) ?_
  generalize seedW zs = w
  simp only [go_sem]
  refine callDN (bkN w 12 (by decide) _ rfl) rfl (by simp only [go_sem]) (dr_bel _ _) (fun a ha => ⟨by simp [go_sem], dr_bel _ _, bk_bel _ _ _⟩) (by simp) (by simp) ?_
  rintro ⟨bs, w2⟩ ⟨hb, hb1, hb5⟩
  dsimp only at hb hb1 hb5 ⊢
  simp only [go_sem, ren, rens]
  refine cD (one_ok _ 2 (by decide)) ?_
  obtain ⟨e1, he1⟩ : ∃ e1, (upto w2 2 == 0) = e1 := ⟨_, rfl⟩
  obtain ⟨w3, hw3⟩ : ∃ w3, dstep w2 = w3 := ⟨_, rfl⟩
  rw [he1, hw3]
  clear he1 hw3
  cases e1
  · simp only [go_sem]
    refine cD (one_ok _ 3 (by decide)) ?_
    obtain ⟨e2, he2⟩ : ∃ e2, (upto w3 3 == 0) = e2 := ⟨_, rfl⟩
    obtain ⟨v1, hv1⟩ : ∃ v1, dstep w3 = v1 := ⟨_, rfl⟩
    rw [he2, hv1]
    clear he2 hv1
    cases e2
    · simp only [go_sem]
      exact loop_wk (by simp [go_sem]) (checks_rest rs bs x m value v1 (by omega) hb1 hb5)
    · simp only [go_sem]
      have u2 := upto_in (w := v1) (n := bs.length) (by omega)
      refine cD (upto_ok v1 bs.length (by omega)) ?_
      obtain ⟨j, hj⟩ : ∃ j, upto v1 bs.length = j := ⟨_, rfl⟩
      obtain ⟨v2, hv2⟩ : ∃ v2, dstep v1 = v2 := ⟨_, rfl⟩
      rw [hj] at u2 ⊢
      rw [hv2]
      clear hj hv2
      have hxj := mt_get u2.1 u2.2
      have nj : ¬ j < 0 := by omega
      simp only [go_sem]
      refine cD (between_ok v2 (-1) bs.length (by decide) (by omega) (by omega)) ?_
      obtain ⟨y, hy⟩ : ∃ y, btw v2 (-1) bs.length = y := ⟨_, rfl⟩
      obtain ⟨v3, hv3⟩ : ∃ v3, dstep v2 = v3 := ⟨_, rfl⟩
      rw [hy, hv3]
      clear hy hv3
      simp only [go_sem, nj, u2.2, hxj, Mv, Mc, List.length_map]
      have es : (bs.map Mv).set j.toNat (AVal.agg [.int .i64 (mt bs j).glo, .int .i64 (mt bs j).ghi, .int .i64 (mt bs j).olo, .int .i64 (mt bs j).ohi, .int .i64 (mt bs j).step, .int .i64 y, .int .i64 (mt bs j).due]) = (bs.set j.toNat { mt bs j with cmp := y }).map Mv := by
        rw [List.map_set]; rfl
      obtain ⟨ns, hns⟩ : ∃ ns, bs.set j.toNat { mt bs j with cmp := y } = ns := ⟨_, rfl⟩
      have hnl : bs.length = ns.length := by rw [← hns, List.length_set]
      rw [es, hns, hnl]
      exact loop_wk (by simp [go_sem]) (checks_rest rs ns x m value v3 (by omega) (by omega) (by omega))
  · simp only [go_sem]
    have u1 := upto_in (w := w3) (n := bs.length) (by omega)
    refine dD (upto_ok w3 bs.length (by omega)) ?_
    obtain ⟨k, hk⟩ : ∃ k, upto w3 bs.length = k := ⟨_, rfl⟩
    obtain ⟨w4, hw4⟩ : ∃ w4, dstep w3 = w4 := ⟨_, rfl⟩
    rw [hk] at u1 ⊢
    rw [hw4]
    clear hk hw4
    have hxk := mt_get u1.1 u1.2
    have nk : ¬ k < 0 := by omega
    simp only [go_sem, nk, u1.2, hxk, Mv, Mc, List.length_map]
    have er : (bs.map Mv).set k.toNat (AVal.agg [.int .i64 x.glo, .int .i64 x.ghi, .int .i64 x.olo, .int .i64 x.ohi, .int .i64 x.step, .int .i64 x.cmp, .int .i64 x.due]) = (bs.set k.toNat x).map Mv := by
      rw [List.map_set]; rfl
    obtain ⟨cs, hcs⟩ : ∃ cs, bs.set k.toNat x = cs := ⟨_, rfl⟩
    have hcl : bs.length = cs.length := by rw [← hcs, List.length_set]
    rw [er, hcs, hcl]
    clear er hxk u1 nk
    rw [hcl] at hb1 hb5
    refine cD (one_ok _ 3 (by decide)) ?_
    obtain ⟨e2, he2⟩ : ∃ e2, (upto w4 3 == 0) = e2 := ⟨_, rfl⟩
    obtain ⟨v1, hv1⟩ : ∃ v1, dstep w4 = v1 := ⟨_, rfl⟩
    rw [he2, hv1]
    clear he2 hv1
    cases e2
    · simp only [go_sem]
      exact loop_wk (by simp [go_sem]) (checks_rest rs cs x m value v1 (by omega) hb1 hb5)
    · simp only [go_sem]
      have u2 := upto_in (w := v1) (n := cs.length) (by omega)
      refine cD (upto_ok v1 cs.length (by omega)) ?_
      obtain ⟨j, hj⟩ : ∃ j, upto v1 cs.length = j := ⟨_, rfl⟩
      obtain ⟨v2, hv2⟩ : ∃ v2, dstep v1 = v2 := ⟨_, rfl⟩
      rw [hj] at u2 ⊢
      rw [hv2]
      clear hj hv2
      have hxj := mt_get u2.1 u2.2
      have nj : ¬ j < 0 := by omega
      simp only [go_sem]
      refine cD (between_ok v2 (-1) cs.length (by decide) (by omega) (by omega)) ?_
      obtain ⟨y, hy⟩ : ∃ y, btw v2 (-1) cs.length = y := ⟨_, rfl⟩
      obtain ⟨v3, hv3⟩ : ∃ v3, dstep v2 = v3 := ⟨_, rfl⟩
      rw [hy, hv3]
      clear hy hv3
      simp only [go_sem, nj, u2.2, hxj, Mv, Mc, List.length_map]
      have es : (cs.map Mv).set j.toNat (AVal.agg [.int .i64 (mt cs j).glo, .int .i64 (mt cs j).ghi, .int .i64 (mt cs j).olo, .int .i64 (mt cs j).ohi, .int .i64 (mt cs j).step, .int .i64 y, .int .i64 (mt cs j).due]) = (cs.set j.toNat { mt cs j with cmp := y }).map Mv := by
        rw [List.map_set]; rfl
      obtain ⟨ns, hns⟩ : ∃ ns, cs.set j.toNat { mt cs j with cmp := y } = ns := ⟨_, rfl⟩
      have hnl : cs.length = ns.length := by rw [← hns, List.length_set]
      rw [es, hns, hnl]
      exact loop_wk (by simp [go_sem]) (checks_rest rs ns x m value v3 (by omega) (by omega) (by omega))
end Go.Proofs

namespace Go.Proofs
open Go Go.ChangeShapes Go.WideShapes Go.ChangeAt Go.RowKit

def laid1 : List (String × DataW Unit) := [("thermion/gauge.values", .agg [.lit (.int .i64 (-1000000000)), .lit (.int .i64 1000000000)])]
theorem gVal : Tryd.prog.globalNamed "thermion/gauge.values" = some 0 := by kernel_rfl
theorem tVal : (Tryd.prog.globals[0]?).map (·.type) = some 24 := by kernel_rfl
theorem nVal : Tryd.prog.globals.size = 1 := by kernel_rfl
theorem eVal : Go.Sx.gvOf Tryd.prog 0 = some (.agg [.int .i64 (-1000000000), .int .i64 1000000000]) := by kernel_rfl

set_option maxRecDepth 100000 in
theorem values_met {W : World} (h : laidMetH Tryd.prog laid1 W) : W.cell? ⟨0, 0, none⟩ = some (.int .i64 (-1000000000)) ∧ W.cell? ⟨0, 1, none⟩ = some (.int .i64 1000000000) := by
  rw [MakeChecks.laidMetH_plain _ _ _ (by kernel_rfl)] at h
  obtain ⟨ps, ⟨g0, t0, cs0, f0, p0, q0, hg0, ht0, hv0, hd0, _⟩, _, _⟩ := h
  obtain rfl := Option.some.inj (gVal.symm.trans hg0)
  obtain rfl := Option.some.inj (tVal.symm.trans ht0)
  obtain ⟨y0, y1, n, hx, hl, hy0, hy1⟩ := trod_struct2 Tryd.underlying24 hd0
  simp only [Prod.mk.injEq, DataW.agg.injEq, List.cons.injEq, and_true] at hx
  obtain ⟨⟨e0, e1⟩, _⟩ := hx
  have c24 : Tryd.prog.cellsOf 24 = 2 := by kernel_rfl
  have c3 : Tryd.prog.cellsOf 3 = 1 := by kernel_rfl
  rw [c24] at hl
  obtain ⟨l⟩ := cs0
  match l, hl with
  | [u, v], _ =>
    obtain ⟨k0, z0, z1, _⟩ := DataW.trod_int Tryd.underlying3 hy0
    obtain ⟨k1, z2, z3, _⟩ := DataW.trod_int Tryd.underlying3 hy1
    rw [z1] at e0
    rw [z3] at e1
    simp only [DataW.lit.injEq, Lit.int.injEq, true_and] at e0 e1
    simp [c3] at z0 z2
    subst z0 z2 e0 e1
    exact ⟨World.var?_cell hg0 hv0 0, World.var?_cell hg0 hv0 1⟩

theorem values_glob {W : World} (h : laidMetH Tryd.prog laid1 W) : Go.Sx.GlobOK Tryd.prog (Go.Sx.topG W) := by
  obtain ⟨h0, h1⟩ := values_met h
  have hb : 0 < W.heap.size := by
    simp only [World.cell?] at h0
    split at h0
    · rename_i c _ _ hh
      exact (Array.getElem?_eq_some_iff.1 hh).1
    · cases h0
  intro g e he
  match g, he with
  | 0, he =>
    rw [eVal] at he
    cases he
    refine ⟨hb, fun j hj => ?_⟩
    match j, hj with
    | 0, _ => exact ⟨_, h0, fun μ => .int _ _⟩
    | 1, _ => exact ⟨_, h1, fun μ => .int _ _⟩
    | j + 2, hj => simp [Go.Sx.acells] at hj; omega
  | g + 1, he =>
    have hg : Tryd.prog.globals[g + 1]? = none := Array.getElem?_eq_none (by rw [nVal]; omega)
    unfold Go.Sx.gvOf at he
    rw [hg] at he; cases he
end Go.Proofs

