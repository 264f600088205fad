/- A part of the proof. -/
import Derived.Test.YtnnbkoipalaanaaDoorPE
import Derived.ProofKit
import Derived.LaidMore
set_option linter.unusedSimpArgs false
set_option linter.unusedVariables false
namespace Go.Proofs
open Go Go.Sx Go.Gauge
attribute [local irreducible] Run

abbrev Tst := (Int × Int) × List (Int × Int)
def ixF (x : Int) : List Int → Nat → Int
  | [], _ => -1
  | y :: l, i => if y = x then i else ixF x l (i + 1)
def wsR (l : List Int) : Int × Int := if ixF 2 l 0 ≠ -1 then (2, ixF 2 l 0) else if ixF 3 l 0 ≠ -1 then (3, ixF 3 l 0) else (1, -1)
def wrF : List Int → Nat → Int → Int → Int × Int
  | [], _, v, p => (v, p)
  | x :: l, i, v, p => if x ≠ v ∧ (x = 2 ∨ v = 1) then wrF l (i + 1) x i else wrF l (i + 1) v p
theorem wrF_two : ∀ (l : List Int) (i : Nat) (p : Int), wrF l i 2 p = (2, p)
  | [], _, _ => rfl
  | x :: l, i, p => by
    unfold wrF
    rw [if_neg (fun h => h.2.elim h.1 (by decide))]
    exact wrF_two l _ _
theorem wrF_three : ∀ (l : List Int) (i : Nat) (p : Int), (∀ x ∈ l, x = 1 ∨ x = 2 ∨ x = 3) → wrF l i 3 p = if ixF 2 l i ≠ -1 then (2, ixF 2 l i) else (3, p)
  | [], _, _, _ => rfl
  | x :: l, i, p, h => by
    have ih := wrF_three l (i + 1) p fun y hy => h y (by simp [hy])
    unfold wrF ixF
    by_cases c : x = 2
    · subst c
      rw [if_pos ⟨by decide, .inl rfl⟩, if_pos rfl, if_pos (by omega)]
      exact wrF_two l _ _
    · rw [if_neg (fun h => h.2.elim c (by decide)), if_neg c]
      exact ih
theorem wrF_one : ∀ (l : List Int) (i : Nat) (p : Int), (∀ x ∈ l, x = 1 ∨ x = 2 ∨ x = 3) → wrF l i 1 p = if ixF 2 l i ≠ -1 then (2, ixF 2 l i) else if ixF 3 l i ≠ -1 then (3, ixF 3 l i) else (1, p)
  | [], _, _, _ => rfl
  | x :: l, i, p, h => by
    have ih := wrF_one l (i + 1) p fun y hy => h y (by simp [hy])
    have h3 := wrF_three l (i + 1) i fun y hy => h y (by simp [hy])
    unfold wrF ixF
    rcases h x (by simp) with rfl | rfl | rfl
    · rw [if_neg (fun h => h.1 rfl), if_neg (show ¬ (1 : Int) = 2 by decide), if_neg (show ¬ (1 : Int) = 3 by decide)]
      exact ih
    · rw [if_pos ⟨by decide, .inl rfl⟩, if_pos rfl, if_pos (by omega)]
      exact wrF_two l _ _
    · rw [if_pos ⟨by decide, .inr rfl⟩, if_neg (show ¬ (3 : Int) = 2 by decide), if_pos (show (3 : Int) = 3 from rfl), h3]
      by_cases c : ixF 2 l (i + 1) = -1
      · rw [if_neg (not_not_intro c), if_neg (not_not_intro c), if_pos (by omega)]
      · rw [if_pos c, if_pos c]
theorem wrF_ws (l : List Int) (h : ∀ x ∈ l, x = 1 ∨ x = 2 ∨ x = 3) : wrF l 0 1 (-1) = wsR l := wrF_one l 0 (-1) h

noncomputable def erF (bs : List Mt) (tick : Int) : List Tst → Int
  | [] => 0
  | t :: ts => if (jtR bs tick t).2 ≠ 0 then (jtR bs tick t).2 else erF bs tick ts
theorem jgF_er (bs : List Mt) (tick : Int) : ∀ (ts : List Tst) (i : Nat) (v p : Int),
    jgF bs tick ts i v p = if erF bs tick ts ≠ 0 then (0, 0, erF bs tick ts) else ((wrF (ts.map fun t => (jtR bs tick t).1) i v p).1, (wrF (ts.map fun t => (jtR bs tick t).1) i v p).2, 0)
  | [], i, v, p => rfl
  | t :: ts, i, v, p => by
    have h1 := fun v p => jgF_er bs tick ts (i + 1) v p
    unfold jgF erF
    rw [List.map_cons, wrF]
    by_cases c : (jtR bs tick t).2 = 0
    · rw [if_neg (not_not_intro c), if_neg (not_not_intro c)]
      by_cases d : (jtR bs tick t).1 ≠ v ∧ ((jtR bs tick t).1 = 2 ∨ v = 1)
      · rw [if_pos d, if_pos d, h1]
      · rw [if_neg d, if_neg d, h1]
    · rw [if_pos c, if_pos c, if_pos c]
theorem tgF_le (bs : List Mt) : ∀ (l : List (Int × Int)) (a b : Int), (tgF bs l a b).2.2 = 0 → (tgF bs l a b).1 ≤ (tgF bs l a b).2.1
  | [], a, b, h => by
    unfold tgF at h ⊢
    split at h
    · cases h
    · rename_i c; rw [if_neg c]; dsimp only; omega
  | s :: l, a, b, h => by
    unfold tgF at h ⊢
    split at h
    · rename_i c; exact absurd h c
    · rename_i c; rw [if_neg c]; exact tgF_le bs l _ _ h
theorem tgE_le {bs : List Mt} {l : List (Int × Int)} (h : (tgE bs l).2.2 = 0) : (tgE bs l).1 ≤ (tgE bs l).2.1 := by
  unfold tgE at h ⊢
  split at h
  · rename_i c; exact absurd h c
  · rename_i c
    rw [if_neg c]
    split at h
    · cases h
    · rename_i c1
      rw [if_neg c1]
      split at h
      · cases h
      · rename_i c2
        rw [if_neg c2]
        exact tgF_le bs l _ _ h
theorem jtR_in {bs : List Mt} {tick : Int} {t : Tst} (h : (jtR bs tick t).2 = 0) : (jtR bs tick t).1 = 1 ∨ (jtR bs tick t).1 = 2 ∨ (jtR bs tick t).1 = 3 := by
  unfold jtR at h ⊢
  split at h
  · cases h
  · rename_i c1
    rw [if_neg c1]
    split at h
    · cases h
    · rename_i c2
      rw [if_neg c2]
      split at h
      · rename_i c; exact absurd h c
      · rename_i c3
        rw [if_neg c3]
        split at h
        · rename_i c4; rw [if_pos c4]; exact .inr (.inr rfl)
        · rename_i c4
          rw [if_neg c4]
          split at h
          · rename_i c; exact absurd h c
          · rename_i c5
            rw [if_neg c5]
            have := tgE_le (Classical.not_not.1 c5)
            dsimp only
            unfold vrd
            rw [if_neg (by omega)]
            split
            · exact .inl rfl
            · split
              · exact .inr (.inl rfl)
              · exact .inr (.inr rfl)
theorem erF_in {bs : List Mt} {tick : Int} : ∀ {ts : List Tst}, erF bs tick ts = 0 → ∀ x ∈ ts.map (fun t => (jtR bs tick t).1), x = 1 ∨ x = 2 ∨ x = 3
  | [], _, x, hx => by simp at hx
  | t :: ts, h, x, hx => by
    unfold erF at h
    split at h
    · rename_i c; exact absurd h c
    · rename_i c
      rw [List.map_cons] at hx
      rcases List.mem_cons.1 hx with rfl | hx
      · exact jtR_in (Classical.not_not.1 c)
      · exact erF_in h x hx
theorem jg_ws (bs : List Mt) (tick : Int) (ts : List Tst) : jgF bs tick ts 0 1 (-1) = if erF bs tick ts ≠ 0 then (0, 0, erF bs tick ts) else ((wsR (ts.map fun t => (jtR bs tick t).1)).1, (wsR (ts.map fun t => (jtR bs tick t).1)).2, 0) := by
  rw [jgF_er]
  by_cases c : erF bs tick ts = 0
  · rw [if_neg (not_not_intro c), if_neg (not_not_intro c), wrF_ws _ (erF_in c)]
  · rw [if_pos c, if_pos c]

set_option maxHeartbeats 4000000 in
set_option maxRecDepth 10000 in
theorem worst_run (l : List Int) (h : l.length ≤ 1000000) : Ans Tryd.prog n_ref07_worst [.view (l.map (.int .i64))] [] (.tup [.int .i64 (wsR l).1, .int .i64 (wsR l).2]) [] := by
  have q1 : IntKind.i64.wrap 1 = 1 := by decide
  have q2 : IntKind.i64.wrap 2 = 2 := by decide
  obtain ⟨F, hF⟩ : ∃ F, ixF 2 l 0 = F := ⟨_, rfl⟩
  obtain ⟨E, hE⟩ : ∃ E, ixF 3 l 0 = E := ⟨_, rfl⟩
  have hw : wsR l = if F ≠ -1 then (2, F) else if E ≠ -1 then (3, E) else (1, -1) := by unfold wsR; rw [hF, hE]
  rw [hw]
  clear hw
  refine spec_run e_ref07_worst fun G => ?_
  simp only [go_sem]
  refine loop_body 400 k_ref07_worst_r11.eq_1 ?_
  simp only [go_sem]
  refine loop_ind k_ref07_worst_r9.eq_1 (fun i : Nat => i ≤ l.length ∧ ixF 2 (l.drop i) i = F) (fun i => l.length - i)
    (fun i => (tsets 34 [(0, .view (l.map (.int .i64))), (4, .sl 0 0 2), (5, .int .i64 0), (6, .int .i64 i)], [some (.cells false 1 [.int .i64 2, .int .i64 3])])) 0 ⟨Nat.zero_le _, hF⟩ (by simp [go_sem]) rfl ?_
  intro i hif ih
  obtain ⟨hi, hf⟩ := hif
  dsimp only at hi hf ih ⊢
  by_cases e1 : i < l.length
  · have e2 : (i : Int) < l.length := by omega
    have n0 : ¬ (i : Int) < 0 := by omega
    have w1 : IntKind.i64.wrap ((i : Int) + 1) = ((i + 1 : Nat) : Int) := by rw [w64 (by omega)]; rfl
    obtain ⟨x, hz⟩ : ∃ x, l[i]? = some x := ⟨_, List.getElem?_eq_getElem e1⟩
    rw [drop_cons hz, ixF] at hf
    by_cases c : x = 2
    · have d : (x == 2) = true := beq_iff_eq.2 c
      rw [if_pos c] at hf
      subst hf
      clear ih
      rw [if_pos (by omega)]
      simp only [go_sem, e2, n0, hz, c, d, List.length_map]
    · have d : (x == 2) = false := beq_eq_false_iff_ne.2 c
      rw [if_neg c] at hf
      have ihk := ih (i + 1) (by omega) ⟨e1, hf⟩
      clear ih
      simp only [go_sem, e2, n0, hz, c, d, w1, List.length_map]
      exact ihk _ (by simp [go_sem])
  · have e2 : ¬ (i : Int) < l.length := by omega
    rw [List.drop_eq_nil_of_le (by omega), ixF] at hf
    subst hf
    clear ih
    rw [if_neg (by decide)]
    simp only [go_sem, e2, q1, List.length_map]
    refine loop_body 400 k_ref07_worst_r11.eq_1 ?_
    simp only [go_sem, q1]
    refine loop_ind k_ref07_worst_r9.eq_1 (fun i : Nat => i ≤ l.length ∧ ixF 3 (l.drop i) i = E) (fun i => l.length - i)
      (fun i => (tsets 34 [(0, .view (l.map (.int .i64))), (4, .sl 0 0 2), (5, .int .i64 1), (6, .int .i64 i)], [some (.cells false 1 [.int .i64 2, .int .i64 3])])) 0 ⟨Nat.zero_le _, hE⟩ (by simp [go_sem]) rfl ?_
    intro i hif ih
    obtain ⟨hi, hf⟩ := hif
    dsimp only at hi hf ih ⊢
    by_cases e1 : i < l.length
    · have e2 : (i : Int) < l.length := by omega
      have n0 : ¬ (i : Int) < 0 := by omega
      have w1 : IntKind.i64.wrap ((i : Int) + 1) = ((i + 1 : Nat) : Int) := by rw [w64 (by omega)]; rfl
      obtain ⟨x, hz⟩ : ∃ x, l[i]? = some x := ⟨_, List.getElem?_eq_getElem e1⟩
      rw [drop_cons hz, ixF] at hf
      by_cases c : x = 3
      · have d : (x == 3) = true := beq_iff_eq.2 c
        rw [if_pos c] at hf
        subst hf
        clear ih
        rw [if_pos (by omega)]
        simp only [go_sem, e2, n0, hz, c, d, List.length_map]
      · have d : (x == 3) = false := beq_eq_false_iff_ne.2 c
        rw [if_neg c] at hf
        have ihk := ih (i + 1) (by omega) ⟨e1, hf⟩
        clear ih
        simp only [go_sem, e2, n0, hz, c, d, w1, List.length_map]
        exact ihk _ (by simp [go_sem])
    · have e2 : ¬ (i : Int) < l.length := by omega
      rw [List.drop_eq_nil_of_le (by omega), ixF] at hf
      subst hf
      clear ih
      rw [if_neg (by decide)]
      simp only [go_sem, e2, q2, List.length_map]
      refine loop_body 400 k_ref07_worst_r11.eq_1 ?_
      simp only [go_sem, q2]
end Go.Proofs

namespace Go.Proofs
open Go Go.Sx Go.Gauge
attribute [local irreducible] Run

set_option maxHeartbeats 4000000 in
set_option maxRecDepth 10000 in
theorem rSheet_raw (bs : List Mt) (tick : Int) (rg : List (Int × Int)) (ls : List (List (Int × Int))) (hl : bs.length ≤ 1000) (hn : ∀ l ∈ ls, l.length ≤ 1000000) (hr : rg.length ≤ 1000000) (hs : ls.length ≤ 1000000) :
    Ans Tryd.prog n_ref07_Sheet [.view (bs.map Mv), .int .i64 tick, .view (rg.map Sv), .view (ls.map Lv)] [] (.tup [.int .i64 (shE bs tick rg ls).1, .int .i64 (shE bs tick rg ls).2.1, .int .i64 (shE bs tick rg ls).2.2]) [] := by
  have kc := rCheck_raw bs (by omega)
  have kt := beyond_run tick 0 1000000000
  unfold shE
  by_cases c : chkE bs = 0
  · rw [c] at kc
    rw [if_neg (not_not_intro c)]
    by_cases c1 : 0 ≤ tick ∧ tick ≤ 1000000000
    · rw [if_neg (not_not_intro c1)]
      rw [decide_eq_true c1] at kt
      by_cases c2 : 20 < rg.length
      · have d2 : (20 : Int) < rg.length := by omega
        rw [if_pos c2]
        refine spec_run e_ref07_Sheet fun G => ?_
        simp only [go_sem]
        refine cP kc ?_
        simp only [go_sem]
        refine cP kt ?_
        simp only [go_sem, d2, List.length_map]
      · have d2 : ¬ (20 : Int) < rg.length := by omega
        rw [if_neg c2]
        by_cases c3 : ls.length = rg.length
        · have d3 : ((ls.length : Int) == rg.length) = true := beq_iff_eq.2 (by omega)
          have d4 : (ls.length : Int) = rg.length := by omega
          rw [if_neg (not_not_intro c3)]
          obtain ⟨ts, hts⟩ : ∃ ts, rg.zip ls = ts := ⟨_, rfl⟩
          have htl : ts.length = rg.length := by rw [← hts, List.length_zip]; omega
          have hin : ∀ t ∈ ts, t.2.length ≤ 1000000 := fun t ht => by
            rw [← hts] at ht
            exact hn _ (List.of_mem_zip ht).2
          rw [hts, jg_ws]
          obtain ⟨E, hE⟩ : ∃ E, erF bs tick ts = E := ⟨_, rfl⟩
          obtain ⟨vs, hvs⟩ : ∃ vs, ts.map (fun t => (jtR bs tick t).1) = vs := ⟨_, rfl⟩
          have hvl : vs.length = ts.length := by rw [← hvs]; simp
          have kw := worst_run vs (by omega)
          rw [hE, hvs]
          obtain ⟨W, hW⟩ : ∃ W, wsR vs = W := ⟨_, rfl⟩
          rw [hW] at kw ⊢
          refine spec_run e_ref07_Sheet fun G => ?_
          simp only [go_sem]
          refine cP kc ?_
          simp only [go_sem]
          refine cP kt ?_
          simp only [go_sem, d2, d3, d4, List.length_map]
          refine loop_ind k_ref07_Sheet_r18.eq_1 (fun a : Nat × AVal × Heap => a.1 ≤ ts.length ∧ erF bs tick (ts.drop a.1) = E ∧ ((a.1 = 0 ∧ a.2.1 = .nilsl) ∨ (1 ≤ a.1 ∧ ∃ q, a.2.1 = .sl q 0 a.1 ∧ a.2.2[q]? = some (some (.cells true 1 ((vs.take a.1).map (.int .i64))))))) (fun a => ts.length - a.1)
            (fun a => (tsets 67 [(0, .view (bs.map Mv)), (1, .int .i64 tick), (2, .view (rg.map Sv)), (3, .view (ls.map Lv)), (12, a.2.1), (13, .int .i64 a.1)], a.2.2)) (0, .nilsl, []) ⟨Nat.zero_le _, hE, .inl ⟨rfl, rfl⟩⟩ (by simp [go_sem]) rfl ?_
          rintro ⟨i, s, X⟩ ⟨hi, hf, hq⟩ ih
          dsimp only at hi hf hq ih ⊢
          by_cases e1 : i < ts.length
          · have e2 : (i : Int) < rg.length := by omega
            have e3 : (i : Int) < ls.length := by omega
            have n0 : ¬ (i : Int) < 0 := by omega
            have w1 : IntKind.i64.wrap ((i : Int) + 1) = ((i + 1 : Nat) : Int) := by rw [w64 (by omega)]; rfl
            obtain ⟨r, hz⟩ : ∃ r, rg[i]? = some r := ⟨_, List.getElem?_eq_getElem (by omega)⟩
            obtain ⟨l, hz2⟩ : ∃ l, ls[i]? = some l := ⟨_, List.getElem?_eq_getElem (by omega)⟩
            have hz3 : ts[i]? = some (r, l) := by rw [← hts, List.getElem?_zip_eq_some]; exact ⟨hz, hz2⟩
            have k := rtest_raw bs tick (r, l) hl (hin _ (List.mem_of_getElem? hz3))
            have hv : vs[i]? = some (jtR bs tick (r, l)).1 := by rw [← hvs, List.getElem?_map, hz3]; rfl
            rw [drop_cons hz3, erF] at hf
            obtain ⟨J, hJ⟩ : ∃ J, jtR bs tick (r, l) = J := ⟨_, rfl⟩
            rw [hJ] at k hf hv
            obtain ⟨x, e⟩ := J
            dsimp only at k hf hv
            have htk : vs.take (i + 1) = vs.take i ++ [x] := by rw [List.take_add_one, hv]; rfl
            simp only [r2] at k
            by_cases c5 : e = 0
            · have d5 : (e == 0) = true := beq_iff_eq.2 c5
              rw [if_neg (not_not_intro c5)] at hf
              rcases hq with ⟨rfl, rfl⟩ | ⟨hi1, q, rfl, hX⟩
              · have e20 : (0 : Int) < rg.length := by omega
                have e30 : (0 : Int) < ls.length := by omega
                have q1 : IntKind.i64.wrap 1 = 1 := by decide
                simp only [go_sem, e20, e30, hz, hz2, q1, Sv, Lv, cells_end, get_end, put_at_end, List.length_map]
                refine cP k ?_
                simp only [go_sem, c5, d5, q1, cells_end, get_end, put_at_end]
                refine ⟨by decide, ?_⟩
                refine ih (1, .sl (X.length + 1) 0 1, _) (by dsimp only; omega) ⟨by dsimp only; omega, hf, .inr ⟨Nat.le_refl _, X.length + 1, rfl, ?_⟩⟩ _ (by simp [go_sem])
                dsimp only
                rw [htk]
                simp
              · have hlt : q < X.length := (List.getElem?_eq_some_iff.1 hX).1
                have c0 := cells_at hX
                have cX := fun Y => cells_more (cells_at hX) Y
                have pX := fun Y x => put_more (H := X) hlt Y x
                have hqb : (i + 1) * 8 ≤ 2 ^ 44 := by omega
                have hlk : (vs.take i).length = i := by rw [List.length_take]; omega
                simp only [go_sem, e2, e3, n0, hz, hz2, w1, hqb, hlk, Sv, Lv, cells_end, get_end, put_at_end, List.length_map]
                refine cP k ?_
                simp only [go_sem, c5, d5, w1, cX, pX, hqb, hlk, cells_end, get_end, put_at_end, List.length_map]
                refine ih (i + 1, .sl q 0 (i + 1), _) (by dsimp only; omega) ⟨by dsimp only; omega, hf, .inr ⟨by dsimp only; omega, q, rfl, ?_⟩⟩ _ (by simp [go_sem])
                dsimp only
                rw [htk, List.map_append, List.getElem?_append_left (by rw [List.length_set]; exact hlt), List.getElem?_set_self hlt]
                rfl
            · have d5 : (e == 0) = false := beq_eq_false_iff_ne.2 c5
              rw [if_pos c5] at hf
              subst hf
              clear ih
              rw [if_pos c5]
              rcases hq with ⟨rfl, rfl⟩ | ⟨hi1, q, rfl, hX⟩
              · have e20 : (0 : Int) < rg.length := by omega
                have e30 : (0 : Int) < ls.length := by omega
                simp only [go_sem, e20, e30, hz, hz2, Sv, Lv, cells_end, get_end, put_at_end, List.length_map]
                refine cP k ?_
                simp only [go_sem, c5, d5]
              · simp only [go_sem, e2, e3, n0, hz, hz2, Sv, Lv, cells_end, get_end, put_at_end, List.length_map]
                refine cP k ?_
                simp only [go_sem, c5, d5]
          · have e2 : ¬ (i : Int) < ls.length := by omega
            rw [List.drop_eq_nil_of_le (by omega), erF] at hf
            clear ih
            rw [if_neg (not_not_intro hf.symm)]
            simp only [go_sem, e2, List.length_map]
            rcases hq with ⟨hi0, rfl⟩ | ⟨hi1, q, rfl, hX⟩
            · have hnil : vs = [] := List.length_eq_zero_iff.1 (by omega)
              rw [hnil] at kw
              refine cF kw 6 ⟨.inr ⟨rfl, rfl⟩, trivial⟩ ?_
              simp only [go_sem]
            · rw [List.take_of_length_le (by omega)] at hX
              refine cF kw 6 ⟨.inl (ints_frz (g := true) hX (by omega)), trivial⟩ ?_
              simp only [go_sem]
        · have d3 : ((ls.length : Int) == rg.length) = false := beq_eq_false_iff_ne.2 (by omega)
          have d4 : ¬ (ls.length : Int) = rg.length := by omega
          rw [if_pos c3]
          refine spec_run e_ref07_Sheet fun G => ?_
          simp only [go_sem]
          refine cP kc ?_
          simp only [go_sem]
          refine cP kt ?_
          simp only [go_sem, d2, d3, d4, List.length_map]
    · rw [if_pos c1]
      rw [decide_eq_false c1] at kt
      refine spec_run e_ref07_Sheet fun G => ?_
      simp only [go_sem]
      refine cP kc ?_
      simp only [go_sem]
      refine cP kt ?_
      simp only [go_sem]
  · rw [if_pos c]
    obtain ⟨e, he⟩ : ∃ e, chkE bs = e := ⟨_, rfl⟩
    rw [he] at c kc ⊢
    have c2 : (e == 0) = false := beq_eq_false_iff_ne.2 c
    refine spec_run e_ref07_Sheet fun G => ?_
    simp only [go_sem]
    refine cP kc ?_
    simp only [go_sem, c, c2]
end Go.Proofs

namespace Go.Proofs
open Go Go.Sx Go.Gauge
attribute [local irreducible] Run

def Nv (l : List (Int × Int)) : AVal := if l = [] then .nilsl else Lv l
theorem vr_lists {G : Ctx} {μ : Mu} (ls : List (List (Int × Int))) {c : Value} (h : VR G μ (.view (ls.map Nv)) c) : VR G μ (.view (ls.map Lv)) c := by
  have key : ∀ i, (i < ls.length) → ((acells ((ls.map Nv).getD i .any)).length = (acells ((ls.map Lv).getD i .any)).length ∧ ∀ j d, VR G μ ((acells ((ls.map Nv).getD i .any)).getD j .any) d → VR G μ ((acells ((ls.map Lv).getD i .any)).getD j .any) d) := fun i hi => by
    obtain ⟨l, hl⟩ : ∃ l, ls[i]? = some l := ⟨_, List.getElem?_eq_getElem hi⟩
    have e1 : (ls.map Nv).getD i .any = Nv l := by rw [List.getD_eq_getElem?_getD, List.getElem?_map, hl]; rfl
    have e2 : (ls.map Lv).getD i .any = Lv l := by rw [List.getD_eq_getElem?_getD, List.getElem?_map, hl]; rfl
    rw [e1, e2]
    by_cases c : l = []
    · subst c
      refine ⟨rfl, fun j d hd => ?_⟩
      rcases j with _ | j
      · show VR G μ (.view []) d
        have : VR G μ .nilsl d := hd
        cases this
        exact .viewnil _ _
      · show VR G μ (([] : List AVal).getD j .any) d
        rw [List.getD_nil]; exact .any _
    · have : Nv l = Lv l := if_neg c
      rw [this]
      exact ⟨rfl, fun _ _ h => h⟩
  generalize hes : ls.map Nv = es at h
  cases h with
  | view es b o sz cap f hb hcap hs hf hv =>
    subst hes
    have e : (ls.map Nv).length = (ls.map Lv).length := by simp
    rw [e]
    refine .view (ls.map Lv) b o sz cap f hb (by simpa using hcap) (fun i hi => ?_) (fun i j hi hj => hf i j (by simpa using hi) hj) fun i j hi hj => ?_
    · have hi' : i < ls.length := by simpa using hi
      rw [← (key i hi').1]; exact hs i (by simpa using hi)
    · have hi' : i < ls.length := by simpa using hi
      exact (key i hi').2 j _ (hv i j (by simpa using hi) hj)
  | viewnil a cap =>
    have : ls = [] := by simpa using hes
    subst this
    exact .viewnil _ _
theorem ans_lists {g : FuncId} {a b c : AVal} {ls : List (List (Int × Int))} {LH LH' : Heap} {r : AVal} (h : Ans Tryd.prog g [a, b, c, .view (ls.map Lv)] LH r LH') : Ans Tryd.prog g [a, b, c, .view (ls.map Nv)] LH r LH' :=
  h.weak rfl fun G μ i v hi hv => by
    match i, hi with
    | 0, _ => exact hv
    | 1, _ => exact hv
    | 2, _ => exact hv
    | 3, _ => exact vr_lists ls hv

def EV (X : Heap) (q1 q2 : Nat) (e : AVal) (l : List (Int × Int)) : Prop := (l = [] ∧ e = .nilsl) ∨ (l ≠ [] ∧ ∃ q, e = .sl (q + 2) 0 l.length ∧ q ≠ q1 ∧ q ≠ q2 ∧ X[q]? = some (some (.cells true 2 (l.map Sv))))
def All2 (X : Heap) (q1 q2 : Nat) : List AVal → List (List (Int × Int)) → Prop
  | [], [] => True
  | e :: es, l :: ls => EV X q1 q2 e l ∧ All2 X q1 q2 es ls
  | _, _ => False
theorem EV.mono {X Y : Heap} {q1 q2 : Nat} {e : AVal} {l : List (Int × Int)} (h : EV X q1 q2 e l) (hm : ∀ q r, q ≠ q1 → q ≠ q2 → X[q]? = some r → Y[q]? = some r) : EV Y q1 q2 e l := by
  rcases h with h | ⟨h1, q, h2, h3, h4, h5⟩
  · exact .inl h
  · exact .inr ⟨h1, q, h2, h3, h4, hm q _ h3 h4 h5⟩
theorem All2.mono {X Y : Heap} {q1 q2 : Nat} (hm : ∀ q r, q ≠ q1 → q ≠ q2 → X[q]? = some r → Y[q]? = some r) : ∀ {es : List AVal} {ls : List (List (Int × Int))}, All2 X q1 q2 es ls → All2 Y q1 q2 es ls
  | [], [], _ => trivial
  | _ :: _, _ :: _, h => ⟨h.1.mono hm, All2.mono hm h.2⟩
  | [], _ :: _, h => h.elim
  | _ :: _, [], h => h.elim
theorem All2.snoc {X : Heap} {q1 q2 : Nat} {e : AVal} {l : List (Int × Int)} (he : EV X q1 q2 e l) : ∀ {es : List AVal} {ls : List (List (Int × Int))}, All2 X q1 q2 es ls → All2 X q1 q2 (es ++ [e]) (ls ++ [l])
  | [], [], _ => ⟨he, trivial⟩
  | _ :: _, _ :: _, h => ⟨h.1, All2.snoc he h.2⟩
  | [], _ :: _, h => h.elim
  | _ :: _, [], h => h.elim
theorem All2.len {X : Heap} {q1 q2 : Nat} : ∀ {es : List AVal} {ls : List (List (Int × Int))}, All2 X q1 q2 es ls → es.length = ls.length
  | [], [], _ => rfl
  | _ :: _, _ :: _, h => by simp [All2.len h.2]
  | [], _ :: _, h => h.elim
  | _ :: _, [], h => h.elim
theorem EV.frz {X H : Heap} {q1 q2 : Nat} {e : AVal} {l : List (Int × Int)} (hH : ∀ q : Nat, H[q + 2]? = X[q]?) (h : EV X q1 q2 e l) : frz 5 H e = Nv l := by
  rcases h with ⟨rfl, rfl⟩ | ⟨h1, q, rfl, -, -, h5⟩
  · rfl
  · rw [frz_sl (d := 4) (g := true) ((hH q).trans h5) (by simp), sv_frz l 2 H]
    exact (if_neg h1).symm
theorem All2.frz {X H : Heap} {q1 q2 : Nat} (hH : ∀ q : Nat, H[q + 2]? = X[q]?) : ∀ {es : List AVal} {ls : List (List (Int × Int))}, All2 X q1 q2 es ls → es.map (Sx.frz 5 H) = ls.map Nv
  | [], [], _ => rfl
  | e :: es, l :: ls, h => by
    rw [List.map_cons, List.map_cons, h.1.frz hH, All2.frz hH h.2]
  | [], _ :: _, h => h.elim
  | _ :: _, [], h => h.elim
theorem lists_frz {X H : Heap} {q1 q2 j n : Nat} {es : List AVal} {ls : List (List (Int × Int))} (hH : ∀ q : Nat, H[q + 2]? = X[q]?) (h : All2 X q1 q2 es ls) (hj : H[j]? = some (some (.cells true 1 es))) (hn : n = es.length) : Sx.frz 6 H (.sl j 0 n) = .view (ls.map Nv) := by
  rw [frz_sl (d := 5) hj (by simpa using hn), h.frz hH]
end Go.Proofs

namespace Go.Proofs
open Go Go.Sx Go.Gauge
attribute [local irreducible] Run

set_option maxHeartbeats 8000000 in
set_option maxRecDepth 10000 in
theorem sheets_law (rs : List Mt) (tick : Int) (rg : List (Int × Int)) (ls : List (List (Int × Int))) (zs : List Int) (hl : zs.length ≤ 9223372036854775807) (hrs : rs.length ≤ 9223372036854775807) (hrg : rg.length ≤ 9223372036854775807) (hls : ls.length ≤ 9223372036854775807) (hin : ∀ l ∈ ls, l.length ≤ 9223372036854775807) :
    Ans Tryd.prog n_law07_GaugeSheets [.view (rs.map Mv), .int .i64 tick, .view (rg.map Sv), .view (ls.map Lv), .view (zs.map (.int .i64))] [] (.bool true) [] := by
  by_cases r20 : 20 < rs.length
  · have r20' : (20 : Int) < rs.length := by omega
    refine spec_run e_law07_GaugeSheets fun G => ?_
    simp only [go_sem, r20', List.length_map]
    refine cP awake_ok ?_
    simp only [go_sem]
  have r20' : ¬ (20 : Int) < rs.length := by omega
  by_cases g30 : 30 < rg.length
  · have g30' : (30 : Int) < rg.length := by omega
    refine spec_run e_law07_GaugeSheets fun G => ?_
    simp only [go_sem, r20', g30', List.length_map]
    refine cP awake_ok ?_
    simp only [go_sem]
  have g30' : ¬ (30 : Int) < rg.length := by omega
  by_cases l30 : 30 < ls.length
  · have l30' : (30 : Int) < ls.length := by omega
    refine spec_run e_law07_GaugeSheets fun G => ?_
    simp only [go_sem, r20', g30', l30', List.length_map]
    refine cP awake_ok ?_
    simp only [go_sem]
  have l30' : ¬ (30 : Int) < ls.length := by omega
  refine spec_run e_law07_GaugeSheets fun G => ?_
  simp only [go_sem, r20', g30', l30', List.length_map]
  refine loop_ind k_law07_GaugeSheets_r8.eq_1 (fun i : Nat => i ≤ ls.length ∧ ∀ l ∈ ls.take i, l.length ≤ 20) (fun i => ls.length - i)
    (fun i => (tsets 148 [(0, .view (rs.map Mv)), (1, .int .i64 tick), (2, .view (rg.map Sv)), (3, .view (ls.map Lv)), (4, .view (zs.map (.int .i64))), (11, .int .i64 i)], [])) 0 ⟨Nat.zero_le _, fun l h => by simp at h⟩ (by simp [go_sem]) rfl ?_
  intro i hif ih
  obtain ⟨hi, hall⟩ := hif
  dsimp only at hi ih ⊢
  by_cases e1 : i < ls.length
  · have e2 : (i : Int) < ls.length := by omega
    have n0 : ¬ (i : Int) < 0 := by omega
    have w1 : IntKind.i64.wrap ((i : Int) + 1) = ((i + 1 : Nat) : Int) := by rw [w64 (by omega)]; rfl
    obtain ⟨l, hz⟩ : ∃ l, ls[i]? = some l := ⟨_, List.getElem?_eq_getElem e1⟩
    by_cases c : 20 < l.length
    · have d : (20 : Int) < l.length := by omega
      clear ih
      simp only [go_sem, e2, n0, hz, d, Lv, List.length_map]
      refine cP awake_ok ?_
      simp only [go_sem]
    · have d : ¬ (20 : Int) < l.length := by omega
      have ihk := ih (i + 1) (by omega) ⟨e1, fun x hx => by
        rw [List.take_add_one, hz] at hx
        rcases List.mem_append.1 hx with h | h
        · exact hall x h
        · simp at h; subst h; omega⟩
      clear ih
      simp only [go_sem, e2, n0, hz, d, w1, Lv, List.length_map]
      exact ihk _ (by simp [go_sem, Lv])
  have e2 : ¬ (i : Int) < ls.length := by omega
  rw [List.take_of_length_le (by omega)] at hall
  clear ih
  simp only [go_sem, e2, List.length_map]
  refine callN1 (newdice_ok zs hl) (by simp only [go_sem]) (dr_bel _ _) (by simp) (by simp) ?_
  generalize seedW zs = w
  simp only [go_sem]
  refine callDN (bkN w 4 (by decide) _ rfl) rfl (by simp only [go_sem]) (dr_bel _ _) (fun a ha => ⟨by simp [go_sem], dr_bel _ _, bk_bel _ _ _⟩) (by simp) (by simp) ?_
  rintro ⟨bs, w2⟩ ⟨hb, hb1, hb5⟩
  dsimp only at hb hb1 hb5 ⊢
  have hv := hb.vb (by omega)
  simp only [go_sem, ren, rens]
  refine cD (upto_ok w2 7 (by decide)) ?_
  have u1 := upto_in (w := w2) (n := 7) (by decide)
  obtain ⟨n, hn⟩ : ∃ n, upto w2 7 = n := ⟨_, rfl⟩
  obtain ⟨w3, hw3⟩ : ∃ w3, dstep w2 = w3 := ⟨_, rfl⟩
  rw [hn] at u1 ⊢
  rw [hw3]
  clear hn hw3
  simp only [go_sem]
  -- BEGIN
  refine loop_ind k_law07_GaugeSheets_r19.eq_1 (fun a : Int × List (Int × Int) × List (List (Int × Int)) × AVal × AVal × Int × Heap => (0 ≤ a.1 ∧ (a.2.1.length : Int) + a.1 ≤ 6) ∧ a.2.1.length = a.2.2.1.length ∧ (∀ l ∈ a.2.2.1, l.length ≤ 1001) ∧
      ((a.2.1 = [] ∧ a.2.2.1 = [] ∧ a.2.2.2.1 = .nilsl ∧ a.2.2.2.2.1 = .nilsl) ∨ (1 ≤ a.2.1.length ∧ ∃ q1 q2 es, a.2.2.2.1 = .sl (q1 + 2) 0 a.2.1.length ∧ a.2.2.2.2.1 = .sl (q2 + 2) 0 a.2.1.length ∧ q1 ≠ q2 ∧ a.2.2.2.2.2.2[q1]? = some (some (.cells true 2 (a.2.1.map Sv))) ∧ a.2.2.2.2.2.2[q2]? = some (some (.cells true 1 es)) ∧ All2 a.2.2.2.2.2.2 q1 q2 es a.2.2.1)))
    (fun a => a.1.toNat)
    (fun a => (tsets 148 [(0, .view (rs.map Mv)), (1, .int .i64 tick), (2, .view (rg.map Sv)), (3, .view (ls.map Lv)), (12, .ptr 0 0 0 1), (13, .sl 1 0 bs.length), (14, a.2.2.2.1), (15, a.2.2.2.2.1), (16, .int .i64 a.1)],
      some (Dr a.2.2.2.2.2.1) :: some (.cells true 7 (bs.map Mv)) :: a.2.2.2.2.2.2)) (n, [], [], .nilsl, .nilsl, w3, []) ⟨⟨u1.1, by simp; omega⟩, rfl, fun l h => by simp at h, .inl ⟨rfl, rfl, rfl, rfl⟩⟩ (by simp [go_sem]) rfl ?_
  clear u1
  rintro ⟨i, rg2, ls2, s1, s2, w, X⟩ ⟨⟨i0, i6⟩, hlen, hsm, hst⟩ ih
  dsimp only at i0 i6 hlen hsm hst ih ⊢
  by_cases f1 : 0 < i
  · have w5 : IntKind.i64.wrap (i - 1) = i - 1 := w64 (by omega)
    simp only [go_sem, f1]
    refine cD (between_ok w (-5000) 5000 (by decide) (by decide) (by decide)) ?_
    have b1 := btw_in (w := w) (lo := -5000) (hi := 5000) (by decide)
    obtain ⟨x, hx⟩ : ∃ x, btw w (-5000) 5000 = x := ⟨_, rfl⟩
    obtain ⟨v1, hv1⟩ : ∃ v1, dstep w = v1 := ⟨_, rfl⟩
    rw [hx] at b1 ⊢
    rw [hv1]
    clear hx hv1
    have x1 : IntKind.i64.wrap (x - 200) = x - 200 := w64 (by omega)
    have x2 : IntKind.i64.wrap (x + 200) = x + 200 := w64 (by omega)
    have kr := range_run v1 (x - 200) (x + 200) (by omega) (by omega) (by omega)
    obtain ⟨R, hR⟩ : ∃ R, rngR v1 (x - 200) (x + 200) = R := ⟨_, rfl⟩
    obtain ⟨v2, hv2⟩ : ∃ v2, dstep (dstep v1) = v2 := ⟨_, rfl⟩
    rw [hR, hv2] at kr
    clear hR hv2
    simp only [Rg.v] at kr
    simp only [go_sem, x1, x2]
    refine cD kr ?_
    rcases hst with ⟨rfl, rfl, rfl, rfl⟩ | ⟨k1, q1, q2, es, rfl, rfl, hq, hX1, hX2, hA⟩
    · simp only [go_sem, cells_end, get_end, put_at_end]
      refine ⟨by decide, ?_⟩
      by_cases z0 : upto v2 (3 + 1) = 0
      · have sh := shown_nil (bs := bs) v2 x (most := 3) (by decide) true z0
        obtain ⟨v3, hv3⟩ : ∃ v3, dstep v2 = v3 := ⟨_, rfl⟩
        rw [hv3] at sh
        refine cS2 sh (j0 := 0) (j1 := 1) rfl (by simp [go_sem]) rfl rfl (dr_bel _ _) (bk_bel _ _ _) (dr_bel _ _) (bk_bel _ _ _) (by decide) (by simp [go_sem]) (by simp) (by simp) ?_
        simp only [go_sem, w5, cells_end, get_end, put_at_end]
        refine ⟨by decide, ?_⟩
        refine ih (i - 1, [(R.lo, R.hi)], [[]], .sl (X.length + 1 + 2) 0 1, .sl (X.length + 3 + 2) 0 1, v3, _) (by dsimp only; omega) ⟨⟨by dsimp only; omega, by simp at i6 ⊢; omega⟩, rfl, by simp, .inr ⟨Nat.le_refl _, X.length + 1, X.length + 3, [.nilsl], rfl, rfl, by omega, ?_, ?_, ⟨.inl ⟨rfl, rfl⟩, trivial⟩⟩⟩ _ (by simp [go_sem])
        · simp [Sv]
        · simp
      · refine callR1 (shown_some hv hb1 v2 x (most := 3) (by decide) (by omega) z0) (j0 := 0) (j1 := 1) rfl (by simp [go_sem]) rfl rfl (dr_bel _ _) (bk_bel _ _ _) (by decide) (fun a ha => ⟨by simp [go_sem], dr_bel _ _, by rw [row_bel_cells]; simp only [go_sem]⟩) (by simp) (by simp) ?_
        rintro ⟨l, v3⟩ ⟨l1, l2⟩
        dsimp only at l1 l2 ⊢
        simp only [go_sem, ren, rens, w5, cells_end, get_end, put_at_end]
        refine ⟨by decide, ?_⟩
        have hne : l ≠ [] := fun h => by rw [h] at l1; simp at l1
        refine ih (i - 1, [(R.lo, R.hi)], [l], .sl (X.length + 1 + 2) 0 1, .sl (X.length + 4 + 2) 0 1, v3, _) (by dsimp only; omega) ⟨⟨by dsimp only; omega, by simp at i6 ⊢; omega⟩, rfl, by simpa using l2, .inr ⟨Nat.le_refl _, X.length + 1, X.length + 4, [.sl (X.length + 2 + 2) 0 l.length], rfl, rfl, by omega, ?_, ?_, ⟨.inr ⟨hne, X.length + 2, rfl, by omega, by omega, ?_⟩, trivial⟩⟩⟩ _ (by simp [go_sem])
        · simp [Sv]
        · simp
        · simp
    · have hlt1 : q1 < X.length := (List.getElem?_eq_some_iff.1 hX1).1
      have hlt2 : q2 < X.length := (List.getElem?_eq_some_iff.1 hX2).1
      have cX := fun Y => cells_more (cells_at hX1) Y
      have pX := fun Y x => put_more (H := X) hlt1 Y x
      have hqb : (rg2.length + 1) * 16 ≤ 2 ^ 44 := by omega
      have hqc : (rg2.length + 1) * 24 ≤ 2 ^ 44 := by omega
      simp only [go_sem, cX, pX, hqb, cells_end, get_end, put_at_end, List.length_map]
      have hes : es.length = rg2.length := by rw [hA.len]; exact hlen.symm
      have ez : rg2.map Sv ++ [AVal.agg [.int .i64 R.lo, .int .i64 R.hi]] = (rg2 ++ [(R.lo, R.hi)]).map Sv := by rw [List.map_append]; rfl
      rw [ez]
      obtain ⟨Y, hY⟩ : ∃ Y, X.set q1 (some (.cells true 2 ((rg2 ++ [(R.lo, R.hi)]).map Sv))) ++ [some (.cells false 2 [.agg [.int .i64 R.lo, .int .i64 R.hi]])] = Y := ⟨_, rfl⟩
      have hYl : Y.length = X.length + 1 := by rw [← hY]; simp
      have hY1 : Y[q1]? = some (some (.cells true 2 ((rg2 ++ [(R.lo, R.hi)]).map Sv))) := by
        rw [← hY, List.getElem?_append_left (by rw [List.length_set]; exact hlt1), List.getElem?_set_self hlt1]
      have hY2 : Y[q2]? = some (some (.cells true 1 es)) := by
        rw [← hY, List.getElem?_append_left (by rw [List.length_set]; exact hlt2), List.getElem?_set_ne hq]; exact hX2
      have hAY : All2 Y q1 q2 es ls2 := hA.mono fun q r h1 h2 h3 => by
        have := (List.getElem?_eq_some_iff.1 h3).1
        rw [← hY, List.getElem?_append_left (by rw [List.length_set]; exact this), List.getElem?_set_ne (fun e => h1 e.symm)]; exact h3
      rw [hY]
      clear hY hA hX1 hX2 cX pX
      have cY := fun Z => cells_more (cells_at hY2) Z
      have cY0 := cells_at hY2
      have pY := fun Z x => put_more (H := Y) (show q2 < Y.length by omega) Z x
      have pY0 := fun x => put_lt (H := Y) (x := x) (show q2 < Y.length by omega)
      have hZ : ∀ (r : Row) (W : Heap) (q : Nat) (u : Option Row), q ≠ q1 → q ≠ q2 → Y[q]? = some u → (Y.set q2 (some r) ++ W)[q]? = some u := fun r W q u h1 h2 h3 => by
        have := (List.getElem?_eq_some_iff.1 h3).1
        rw [List.getElem?_append_left (by rw [List.length_set]; exact this), List.getElem?_set_ne (fun e => h2 e.symm)]; exact h3
      have hZ1 : ∀ (r : Row) (W : Heap), (Y.set q2 (some r) ++ W)[q1]? = some (some (.cells true 2 ((rg2 ++ [(R.lo, R.hi)]).map Sv))) := fun r W => by
        rw [List.getElem?_append_left (by rw [List.length_set]; omega), List.getElem?_set_ne (fun e => hq e.symm)]; exact hY1
      have hZ2 : ∀ (r : Row) (W : Heap), (Y.set q2 (some r) ++ W)[q2]? = some (some r) := fun r W => by
        rw [List.getElem?_append_left (by rw [List.length_set]; omega), List.getElem?_set_self (by omega)]
      have el : rg2.length + 1 = (rg2 ++ [(R.lo, R.hi)]).length := by simp
      by_cases z0 : upto v2 (3 + 1) = 0
      · have sh := shown_nil (bs := bs) v2 x (most := 3) (by decide) true z0
        obtain ⟨v3, hv3⟩ : ∃ v3, dstep v2 = v3 := ⟨_, rfl⟩
        rw [hv3] at sh
        refine cS2 sh (j0 := 0) (j1 := 1) rfl (by simp [go_sem]) rfl rfl (dr_bel _ _) (bk_bel _ _ _) (dr_bel _ _) (bk_bel _ _ _) (by decide) (by simp [go_sem]) (by simp) (by simp) ?_
        simp only [go_sem, w5, hes, cY, pY, hqc, cells_end, get_end, put_at_end]
        have hk := ih (i - 1, rg2 ++ [(R.lo, R.hi)], ls2 ++ [[]], .sl (q1 + 2) 0 (rg2.length + 1), .sl (q2 + 2) 0 (rg2.length + 1), v3, Y.set q2 (some (.cells true 1 (es ++ [.nilsl]))) ++ [some (.cells false 1 [.nilsl])]) (by dsimp only; omega) ⟨⟨by dsimp only; omega, by dsimp only; rw [← el]; omega⟩, by simp [hlen], fun l h => by
          rcases List.mem_append.1 h with h | h
          · exact hsm l h
          · simp at h; subst h; simp, .inr ⟨by simp, q1, q2, es ++ [.nilsl], by simp, by simp, hq, hZ1 _ _, hZ2 _ _, All2.snoc (.inl ⟨rfl, rfl⟩) (hAY.mono (hZ _ _))⟩⟩
        exact hk _ (by simp [go_sem])
      · refine callR1 (shown_some hv hb1 v2 x (most := 3) (by decide) (by omega) z0) (j0 := 0) (j1 := 1) rfl (by simp [go_sem]) rfl rfl (dr_bel _ _) (bk_bel _ _ _) (by decide) (fun a ha => ⟨by simp [go_sem], dr_bel _ _, by rw [row_bel_cells]; simp only [go_sem]⟩) (by simp) (by simp) ?_
        rintro ⟨l, v3⟩ ⟨l1, l2⟩
        dsimp only at l1 l2 ⊢
        have hne : l ≠ [] := fun h => by rw [h] at l1; simp at l1
        simp only [go_sem, ren, rens, w5, hes, cY, pY, hqc, cells_end, get_end, put_at_end]
        have hrow : (Y.set q2 (some (.cells true 1 (es ++ [.sl (Y.length + 2) 0 l.length]))) ++ [some (.cells true 2 (l.map Sv)), some (.cells false 1 [.sl (Y.length + 2) 0 l.length])])[Y.length]? = some (some (.cells true 2 (l.map Sv))) := by
          rw [List.getElem?_append_right (by simp)]
          simp
        have hk := ih (i - 1, rg2 ++ [(R.lo, R.hi)], ls2 ++ [l], .sl (q1 + 2) 0 (rg2.length + 1), .sl (q2 + 2) 0 (rg2.length + 1), v3, Y.set q2 (some (.cells true 1 (es ++ [.sl (Y.length + 2) 0 l.length]))) ++ [some (.cells true 2 (l.map Sv)), some (.cells false 1 [.sl (Y.length + 2) 0 l.length])]) (by dsimp only; omega) ⟨⟨by dsimp only; omega, by dsimp only; rw [← el]; omega⟩, by simp [hlen], fun k h => by
          rcases List.mem_append.1 h with h | h
          · exact hsm k h
          · simp at h; subst h; exact l2, .inr ⟨by simp, q1, q2, es ++ [.sl (Y.length + 2) 0 l.length], by simp, by simp, hq, hZ1 _ _, hZ2 _ _, All2.snoc (.inr ⟨hne, Y.length, rfl, by omega, by omega, hrow⟩) (hAY.mono (hZ _ _))⟩⟩
        exact hk _ (by simp [go_sem])
  · clear ih
    have m1 := mod_in tick 300 (by omega)
    have e1 := mod_pos tick 300 (by omega)
    obtain ⟨at0, hat⟩ : ∃ at0, tick % 300 = at0 := ⟨_, rfl⟩
    rw [hat] at m1 e1
    have w8 : IntKind.i64.wrap (900 + at0) = 900 + at0 := w64 (by omega)
    have A1 := Sheet_raw rs tick rg ls (by omega) (fun l h => by have := hall l h; omega) (by omega) (by omega)
    have A2 := rSheet_raw rs tick rg ls (by omega) (fun l h => by have := hall l h; omega) (by omega) (by omega)
    obtain ⟨A, hA⟩ : ∃ A, shE rs tick rg ls = A := ⟨_, rfl⟩
    rw [hA] at A1 A2
    have B1 := ans_lists (Sheet_raw bs (900 + at0) rg2 ls2 (by omega) (fun l h => by have := hsm l h; omega) (by omega) (by omega))
    have B2 := ans_lists (rSheet_raw bs (900 + at0) rg2 ls2 (by omega) (fun l h => by have := hsm l h; omega) (by omega) (by omega))
    obtain ⟨B, hB⟩ : ∃ B, shE bs (900 + at0) rg2 ls2 = B := ⟨_, rfl⟩
    rw [hB] at B1 B2
    simp only [go_sem, f1]
    refine cP e1 ?_
    simp only [go_sem, w8]
    refine cP A1 ?_
    simp only [go_sem]
    refine cP A2 ?_
    simp only [go_sem]
    rcases hst with ⟨rfl, rfl, rfl, rfl⟩ | ⟨k1, q1, q2, es, rfl, rfl, hq, hX1, hX2, hA2⟩
    · refine cF B1 6 ⟨.inl (bs_frz (g := true) rfl rfl), .inl rfl, .inr ⟨rfl, rfl⟩, .inr ⟨rfl, rfl⟩, trivial⟩ ?_
      simp only [go_sem]
      refine cF B2 6 ⟨.inl (bs_frz (g := true) rfl rfl), .inl rfl, .inr ⟨rfl, rfl⟩, .inr ⟨rfl, rfl⟩, trivial⟩ ?_
      simp only [go_sem]
      refine cP awake_ok ?_
      simp only [go_sem]
    · have hrw : rg2.length = es.length := by rw [hA2.len]; exact hlen
      refine cF B1 6 ⟨.inl (bs_frz (g := true) rfl rfl), .inl rfl, .inl (ss_frz (g := true) (by simpa using hX1) rfl), .inl (lists_frz (fun q => rfl) hA2 (by simpa using hX2) hrw), trivial⟩ ?_
      simp only [go_sem]
      refine cF B2 6 ⟨.inl (bs_frz (g := true) rfl rfl), .inl rfl, .inl (ss_frz (g := true) (by simpa using hX1) rfl), .inl (lists_frz (fun q => rfl) hA2 (by simpa using hX2) hrw), trivial⟩ ?_
      simp only [go_sem]
      refine cP awake_ok ?_
      simp only [go_sem]
end Go.Proofs

namespace Go.Proofs
open Go Go.Sx Go.Gauge
attribute [local irreducible] AT
set_option maxRecDepth 100000
theorem at_ranges {n : Nat} {x : AVal} (h : AT Tryd.prog (n + 3) 49 [x]) : ∃ l : List (Int × Int), x = .view (l.map Sv) ∧ l.length ≤ 9223372036854775807 := by
  obtain ⟨es, h1, hl, he⟩ := at_slice Tryd.underlying49 h
  obtain rfl : x = .view es := by simpa using h1
  have hg : aggT Tryd.prog 24 = true := by unfold aggT; rw [Tryd.underlying24]
  obtain ⟨l, rfl, -⟩ := list_map (f := Sv) (Q := fun _ => True) es fun x hx => by
    have := he x hx
    rw [if_pos hg] at this
    obtain ⟨ws, rfl, hw⟩ := this
    obtain ⟨a, b, rfl⟩ := at_rng hw
    exact ⟨(a, b), rfl, trivial⟩
  have hm : maxLen = 9223372036854775807 := rfl
  rw [hm] at hl
  exact ⟨l, rfl, by simpa using hl⟩
theorem at_lists {n : Nat} {x : AVal} (h : AT Tryd.prog (n + 4) 58 [x]) : ∃ ls : List (List (Int × Int)), x = .view (ls.map Lv) ∧ ls.length ≤ 9223372036854775807 ∧ ∀ l ∈ ls, l.length ≤ 9223372036854775807 := by
  obtain ⟨es, h1, hl, he⟩ := at_slice Tryd.underlying58 h
  obtain rfl : x = .view es := by simpa using h1
  have hg : ¬ aggT Tryd.prog 52 = true := by unfold aggT; rw [Tryd.underlying52]; decide
  obtain ⟨l, rfl, hq⟩ := list_map (f := Lv) (Q := fun l => l.length ≤ 9223372036854775807) es fun x hx => by
    have := he x hx
    rw [if_neg hg] at this
    obtain ⟨l, rfl, hl⟩ := at_shown this
    exact ⟨l, rfl, hl⟩
  have hm : maxLen = 9223372036854775807 := rfl
  rw [hm] at hl
  exact ⟨l, rfl, by simpa using hl, hq⟩
end Go.Proofs

namespace Go.Proofs
open Go Go.ChangeShapes Go.WideShapes Go.ChangeAt Go.RowKit

def laid1 : List (String × DataW Unit) := [("thermion/gauge.values", .agg [.lit (.int .i64 (-1000000000)), .lit (.int .i64 1000000000)])]
theorem gVal : Tryd.prog.globalNamed "thermion/gauge.values" = some 0 := by kernel_rfl
theorem tVal : (Tryd.prog.globals[0]?).map (·.type) = some 24 := by kernel_rfl
theorem nVal : Tryd.prog.globals.size = 1 := by kernel_rfl
theorem eVal : Go.Sx.gvOf Tryd.prog 0 = some (.agg [.int .i64 (-1000000000), .int .i64 1000000000]) := by kernel_rfl

set_option maxRecDepth 100000 in
theorem values_met {W : World} (h : laidMetH Tryd.prog laid1 W) : W.cell? ⟨0, 0, none⟩ = some (.int .i64 (-1000000000)) ∧ W.cell? ⟨0, 1, none⟩ = some (.int .i64 1000000000) := by
  rw [MakeChecks.laidMetH_plain _ _ _ (by kernel_rfl)] at h
  obtain ⟨ps, ⟨g0, t0, cs0, f0, p0, q0, hg0, ht0, hv0, hd0, _⟩, _, _⟩ := h
  obtain rfl := Option.some.inj (gVal.symm.trans hg0)
  obtain rfl := Option.some.inj (tVal.symm.trans ht0)
  obtain ⟨y0, y1, n, hx, hl, hy0, hy1⟩ := trod_struct2 Tryd.underlying24 hd0
  simp only [Prod.mk.injEq, DataW.agg.injEq, List.cons.injEq, and_true] at hx
  obtain ⟨⟨e0, e1⟩, _⟩ := hx
  have c24 : Tryd.prog.cellsOf 24 = 2 := by kernel_rfl
  have c3 : Tryd.prog.cellsOf 3 = 1 := by kernel_rfl
  rw [c24] at hl
  obtain ⟨l⟩ := cs0
  match l, hl with
  | [u, v], _ =>
    obtain ⟨k0, z0, z1, _⟩ := DataW.trod_int Tryd.underlying3 hy0
    obtain ⟨k1, z2, z3, _⟩ := DataW.trod_int Tryd.underlying3 hy1
    rw [z1] at e0
    rw [z3] at e1
    simp only [DataW.lit.injEq, Lit.int.injEq, true_and] at e0 e1
    simp [c3] at z0 z2
    subst z0 z2 e0 e1
    exact ⟨World.var?_cell hg0 hv0 0, World.var?_cell hg0 hv0 1⟩

theorem values_glob {W : World} (h : laidMetH Tryd.prog laid1 W) : Go.Sx.GlobOK Tryd.prog (Go.Sx.topG W) := by
  obtain ⟨h0, h1⟩ := values_met h
  have hb : 0 < W.heap.size := by
    simp only [World.cell?] at h0
    split at h0
    · rename_i c _ _ hh
      exact (Array.getElem?_eq_some_iff.1 hh).1
    · cases h0
  intro g e he
  match g, he with
  | 0, he =>
    rw [eVal] at he
    cases he
    refine ⟨hb, fun j hj => ?_⟩
    match j, hj with
    | 0, _ => exact ⟨_, h0, fun μ => .int _ _⟩
    | 1, _ => exact ⟨_, h1, fun μ => .int _ _⟩
    | j + 2, hj => simp [Go.Sx.acells] at hj; omega
  | g + 1, he =>
    have hg : Tryd.prog.globals[g + 1]? = none := Array.getElem?_eq_none (by rw [nVal]; omega)
    unfold Go.Sx.gvOf at he
    rw [hg] at he; cases he
end Go.Proofs

