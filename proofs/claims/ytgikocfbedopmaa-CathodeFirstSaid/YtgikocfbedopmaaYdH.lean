/- Verdicts on schedules. -/
import Derived.Test.YtgikocfbedopmaaYdG
import Derived.Test.YtgikocfbedopmaaYcW
namespace Go.Proofs
open Go Go.Sx
attribute [local irreducible] Run

/-- What is noted. -/
def noted (st : Int × Int) (s n : Int) : Int × Int := if s = 2 then (s, n) else if s = 3 ∧ st.1 = 1 then (s, n) else st
theorem note_run (s n v t : Int) : Ans Try.prog n_cathode_judge_1 [.int .i64 s, .int .i64 n, .ptr 0 0 0 1, .ptr 1 0 0 1] [some (.cells false 1 [.int .i64 v]), some (.cells false 1 [.int .i64 t])] (.bool (s == 2))
    [some (.cells false 1 [.int .i64 (noted (v, t) s n).1]), some (.cells false 1 [.int .i64 (noted (v, t) s n).2])] := by
  unfold noted
  refine spec_run e_cathode_judge_1 fun G => ?_
  by_cases h2 : s = 2
  · subst h2
    simp only [go_sem]
    exact ⟨_, rfl⟩
  · have b2 : (s == 2) = false := by simp [h2]
    by_cases h3 : s = 3
    · subst h3
      by_cases h1 : v = 1
      · subst h1
        simp only [go_sem]
        exact ⟨_, rfl⟩
      · have b1 : (v == 1) = false := by simp [h1]
        simp only [go_sem, b1, h1]
        exact ⟨_, rfl⟩
    · have b3 : (s == 3) = false := by simp [h3]
      simp only [go_sem, b2, b3, h2, h3]
      exact ⟨_, rfl⟩

/-- The verdict and its tick, of what is said after each tick, and at last. -/
def jgo (last : Int) : Nat → Int × Int → List Int → Int × Int
  | n, st, [] => noted st last n
  | n, st, e :: es => if e = 2 then noted st e ((n + 1 : Nat) : Int) else jgo last (n + 1) (noted st e ((n + 1 : Nat) : Int)) es
def saids (c : Ct) (d : Dm) (a : List Ht) : List Int := (List.range a.length).map fun p => eachV d (coatOf c (a.take (p + 1)))
def judgeV (c : Ct) (d : Dm) (l : List Ht) : Int × Int := jgo (lastV d (coatOf c (flat l))) 0 (1, 0) (saids c d (flat l))

theorem looksOf_run (d : Dm) : Ans Try.prog n_cathode_looksOf [d.v] [] (.tup [.sl 1 0 3, .sl 2 0 2]) [some (.cells false 5 [d.v]), some (.cells false 1 (eachF (.ptr 0 0 0 1))), some (.cells false 1 (lastF (.ptr 0 0 0 1)))] := by
  refine spec_run e_cathode_looksOf fun G => ?_
  simp only [go_sem, Dm.v, Dm.cs, eachF, lastF]
  exact ⟨_, rfl⟩


theorem saids_len (c : Ct) (d : Dm) (a : List Ht) : (saids c d a).length = a.length := by simp [saids]
theorem saids_drop {c : Ct} {d : Dm} {a : List Ht} {i : Nat} (hi : i < a.length) : (saids c d a).drop i = eachV d (coatOf c (a.take (i + 1))) :: (saids c d a).drop (i + 1) := by
  rw [List.drop_eq_getElem_cons (by rw [saids_len]; exact hi)]
  simp [saids]

def jT : List (Nat × AVal) := [(3, .ptr 0 0 0 1), (4, .ptr 1 0 0 1), (6, .ptr 2 0 0 1), (7, .ptr 3 0 0 1), (8, .ptr 7 0 0 1), (9, .sl 6 0 2), (10, .ptr 8 0 0 1), (11, .ptr 9 0 0 1), (12, .ptr 10 0 0 1), (24, .fn (.func n_cathode_ticks_1) [] [.ptr 11 0 0 1])]
def jL (st : LoopState) (pe : Option ACode) : Row := .loop (tsets 51 jT) [25, 26] k_cathode_judge_r11 k_cathode_judge_r12 12 st pe
def jH (c : Ct) (d : Dm) (l : List Ht) (v t : Int) (x : Cg) (n : Int) (lr : Row) (X : Heap) : Heap :=
  [some (.cells false 7 [c.v (.view (c.bands.map Bd.v))]), some (.cells false 5 [d.v]), some (.cells false 1 [.int .i64 v]), some (.cells false 1 [.int .i64 t]), some (.cells false 5 [d.v]), some (.cells false 1 (eachF (.ptr 4 0 0 1))), some (.cells false 1 (lastF (.ptr 4 0 0 1))), some (.cells false 1 [.sl 5 0 3]),
    some (.cells false 1 [.fn (.func n_cathode_judge_1) [] [.ptr 2 0 0 1, .ptr 3 0 0 1]]), some (.cells false 13 [x.v]), some (.cells false 1 [.int .i64 n]), some (.cells false 1 [.view (l.map Ht.v)]), some .dfr, some lr] ++ X

set_option maxHeartbeats 4000000 in
set_option maxRecDepth 4000 in
theorem judge_run (c : Ct) (hc : CtOK c) (d : Dm) (l : List Ht) (hl : LsOK l) : Ans Try.prog n_cathode_judge [c.v (.view (c.bands.map Bd.v)), d.v, .view (l.map Ht.v)] [] (.tup [.int .i64 (judgeV c d l).1, .int .i64 (judgeV c d l).2]) [] := by
  unfold judgeV
  have hlen := hl.len
  have hsum := hl.sum
  have hfl := flat_len hl.all
  have hlo := looksOf_run d
  generalize hRES : jgo (lastV d (coatOf c (flat l))) 0 (1, 0) (saids c d (flat l)) = RES
  refine spec_run e_cathode_judge fun G => ?_
  simp only [go_sem, Ct.v, Ct.cs, Dm.v, Dm.cs]
  refine callS hlo [] (by simp) trivial (by simp [Dm.v, Dm.cs, ren, rens]) (by simp only [go_sem]) trivial (by simp) (by simp [go_sem]) ⟨by rw [row_bel_cells]; simp only [go_sem], by rw [row_bel_cells]; simp [go_sem, eachF], by rw [row_bel_cells]; simp [go_sem, lastF], trivial⟩ (by simp) (by simp) (by simp) ?_
  simp only [go_sem, outΔ, outσ, ren, rens, Row.ren, eachF, lastF, Dm.v, Dm.cs]
  refine cP (fresh_run c) ?_ (hr := by simp only [go_sem, Cg.v, Cg.cs])
  simp only [go_sem, Cg.v, Cg.cs]
  refine cN1 (ticks_run l) ?_
  simp only [go_sem, ren, rens]
  refine rangeF 2000 (ρ := tsets 51 jT) (by simp [go_sem, jT]) (by simp only [go_sem, jT]; rfl)
    (ticks1_iter (r := 13) (j := 11) (N := 14) hl (Pre := fun i H => ∃ v t X, (v = 1 ∨ v = 3) ∧ jgo (lastV d (coatOf c (flat l))) i (v, t) ((saids c d (flat l)).drop i) = RES ∧ H = jH c d l v t (coatOf c ((flat l).take i)) i (jL .ready none) X)
      (Stop := fun H => ∃ x n X, H = jH c d l RES.1 RES.2 x n (jL .done (some .ret)) X)
      ⟨?_, ?_, ?_⟩ ⟨1, 0, [], .inl rfl, hRES, rfl⟩) (by simp) ?_
  · rintro i H ⟨v, t, X, hv, hj, rfl⟩
    exact ⟨by simp [jH], rfl⟩
  · rintro i H x ⟨v, t, X, hv, hj, rfl⟩
    exact ⟨v, t, X ++ [x], hv, hj, by simp [jH]⟩
  · rintro i z H hz ⟨v, t, X, hv, hj, rfl⟩
    have hil := (List.getElem?_eq_some_iff.1 hz).1
    have htk : (flat l).take (i + 1) = (flat l).take i ++ [z] := by rw [List.take_add_one, hz]; rfl
    have hzz := hl.all _ (flat_mem (List.mem_of_getElem? hz))
    have hall0 : ∀ y ∈ (flat l).take i, HtOK y := fun y hy => hl.all _ (flat_mem (List.mem_of_mem_take hy))
    have hg := coatOf_good hc hall0 (by simp; omega)
    have ha := after_run c hc _ (hg.ok.b hc.amount.2) z.heat z.cur hzz.heat hzz.cur
    rw [saids_drop hil] at hj
    rw [htk, coatOf_snoc] at hj ⊢
    generalize hcn : after c (coatOf c ((flat l).take i)) z.heat z.cur = y at *
    generalize coatOf c ((flat l).take i) = x at *
    have hE := each_run d y
    have hev : eachV d y = 1 ∨ eachV d y = 2 ∨ eachV d y = 3 := worst_in _ _ (by simp)
    generalize eachV d y = s at *
    have hN := note_run s ((i : Int) + 1) v t
    have hfz : frz 6 (Heap.onlyR (jH c d l v t y ((i : Int) + 1) (jL .busy none) (X ++ [some (.cells false 3 [z.v])])) [5, 4]) (.sl 5 0 3) = .view (eachF (.rptr d.v 0)) := by
      rfl
    generalize hnv : noted (v, t) s ((i : Int) + 1) = nt at *
    refine RoundW.mono (R := fun v' H' => ∃ Y, v' = .bool (!(s == 2)) ∧ H' = jH c d l nt.1 nt.2 y ((i : Int) + 1) (if s = 2 then jL .done (some .ret) else jL .ready none) (X ++ Y)) ?_ ?_
    rotate_left
    · rintro v' H' ⟨Y, rfl, rfl⟩
      refine ⟨tail_kept rfl rfl, ?_⟩
      by_cases hs : s = 2
      · right
        rw [hs] at hj hnv
        simp only [jgo, if_true] at hj
        rw [← hnv]
        refine ⟨by simp [hs], y, ((i : Int) + 1), X ++ Y, ?_⟩
        rw [← hj, if_pos hs]; rfl
      · left
        simp only [jgo, if_neg hs] at hj
        push_cast at hj
        rw [hnv] at hj
        refine ⟨by simp [hs], nt.1, nt.2, X ++ Y, ?_, hj, by rw [if_neg hs]; rfl⟩
        rw [← hnv]
        unfold noted
        rw [if_neg hs]
        split
        · rename_i h; right; exact h.1
        · exact hv
    generalize hR : (fun (v' : AVal) (H' : Heap) => ∃ Y, v' = .bool (!(s == 2)) ∧ H' = jH c d l nt.1 nt.2 y ((i : Int) + 1) (if s = 2 then jL .done (some .ret) else jL .ready none) (X ++ Y)) = R
    have hfin : ∀ Y, R (.bool (!(s == 2))) (jH c d l nt.1 nt.2 y ((i : Int) + 1) (if s = 2 then jL .done (some .ret) else jL .ready none) (X ++ Y)) := fun Y => by rw [← hR]; exact ⟨Y, rfl, rfl⟩
    clear hR hj
    refine roundW_run 500 k_cathode_judge_r11.eq_1 rfl rfl (ρ' := tsets 51 (jT ++ [(25, .int .i64 ((i : Int) + 1)), (26, z.v)])) rfl ?_
    simp only [go_sem, jT, jH, Ht.v, Ht.cs]
    refine roundMid_run 500 k_cathode_judge_r12.eq_1 rfl rfl ?_
    simp only [go_sem, Ct.v, Ct.cs, Cg.v, Cg.cs]
    refine cP ha ?_ (hr := by simp only [go_sem, Cg.v, Cg.cs])
    simp only [go_sem, Cg.v, Cg.cs]
    refine dF hE 6 [5, 4] ⟨.inl rfl, .inl rfl, trivial⟩ ?_
    simp only [go_sem]
    refine cS2 hN (j0 := 2) (j1 := 3) rfl ⟨.int _ _, .int _ _, by rw [bel_ptr]; decide, by rw [bel_ptr]; decide, trivial⟩ rfl rfl (by rw [row_bel_cells]; simp only [go_sem]) (by rw [row_bel_cells]; simp only [go_sem]) (by rw [row_bel_cells]; simp only [go_sem]) (by rw [row_bel_cells]; simp only [go_sem]) (by decide) (.bool _) (by simp) (by simp) ?_
    simp only [go_sem, hnv]
    refine ⟨fun hs => ?_, fun hs => ?_⟩
    · have b2 : (s == 2) = true := by simp [hs]
      have hfin' := fun Y => hfin Y
      simp only [b2, if_pos hs] at hfin'
      refine roundEnd_ret rfl ?_
      simp only [go_sem]
      exact hfin' [_]
    · have b2 : (s == 2) = false := by simp [hs]
      have hfin' := fun Y => hfin Y
      simp only [b2, if_neg hs] at hfin'
      refine roundEnd_on rfl ?_
      simp only [go_sem]
      exact hfin' [_]
  · rintro v' H' ⟨rfl, ⟨v, t, X, hv, hj, rfl⟩ | ⟨x, n, X, rfl⟩⟩
    · refine ⟨fun q hq => by simp at hq; subst hq; rfl, _, _, _, _, _, _, _, rfl, by decide, ?_⟩
      rw [List.drop_of_length_le (by rw [saids_len]; exact Nat.le_refl _)] at hj
      rw [List.take_length]
      generalize coatOf c (flat l) = x at *
      have hE := last_run d x
      generalize lastV d x = s at *
      have hN := note_run s (flat l).length v t
      simp only [jgo] at hj
      rw [hj] at hN
      simp only [go_sem, jH, jT, tsets, Cg.v, Cg.cs]
      refine dF hE 6 [6, 4] ⟨.inl rfl, .inl rfl, trivial⟩ ?_
      simp only [go_sem]
      refine cS2 hN (j0 := 2) (j1 := 3) rfl ⟨.int _ _, .int _ _, by rw [bel_ptr]; decide, by rw [bel_ptr]; decide, trivial⟩ rfl rfl (by rw [row_bel_cells]; simp only [go_sem]) (by rw [row_bel_cells]; simp only [go_sem]) (by rw [row_bel_cells]; simp only [go_sem]) (by rw [row_bel_cells]; simp only [go_sem]) (by decide) (.bool _) (by simp) (by simp) ?_
      simp only [go_sem]
      simp
    · refine ⟨fun q hq => by simp at hq; subst hq; rfl, _, _, _, _, _, _, _, rfl, by decide, ?_⟩
      simp only [go_sem, jH, jT, tsets]
      simp

theorem checkDemand_run (c : Ct) (hc : CtOK c) (d : Dm) (hd : DmOK d) : Ans Try.prog n_cathode_checkDemand [c.v (.view (c.bands.map Bd.v)), d.v] [] (.int .i64 0) [] := by
  have h1 := hd.gas; have h2 := hd.wear; have h3 := hd.lost; have h4 := hd.rest; have h5 := hd.ba
  have u1 : IntKind.i64.wrap 1 = 1 := rfl
  have u2 : IntKind.i64.wrap 2 = 2 := rfl
  have u3 : IntKind.i64.wrap 3 = 3 := rfl
  have u4 : IntKind.i64.wrap 4 = 4 := rfl
  have u5 : IntKind.i64.wrap 5 = 5 := rfl
  refine spec_run e_cathode_checkDemand fun G => ?_
  simp only [go_sem, Ct.v, Ct.cs, Dm.v, Dm.cs]
  refine cP (Check_run c hc) ?_
  simp only [go_sem]
  refine loop_body 200 k_cathode_checkDemand_r10.eq_1 ?_
  simp only [go_sem]
  refine cP (within_yes h1) ?_
  simp only [go_sem, u1]
  refine loop_body 200 k_cathode_checkDemand_r10.eq_1 ?_
  simp only [go_sem]
  refine cP (within_yes h2) ?_
  simp only [go_sem, u2]
  refine loop_body 200 k_cathode_checkDemand_r10.eq_1 ?_
  simp only [go_sem]
  refine cP (within_yes h3) ?_
  simp only [go_sem, u3]
  refine loop_body 200 k_cathode_checkDemand_r10.eq_1 ?_
  simp only [go_sem]
  refine cP (within_yes h4) ?_
  simp only [go_sem, u4]
  refine loop_body 200 k_cathode_checkDemand_r10.eq_1 ?_
  simp only [go_sem]
  refine cP (within_yes ⟨h5.1, by omega⟩) ?_
  simp only [go_sem, u5]
  refine loop_body 200 k_cathode_checkDemand_r10.eq_1 ?_
  simp only [go_sem]

theorem Judge_run (c : Ct) (hc : CtOK c) (d : Dm) (hd : DmOK d) (l : List Ht) (hl : LsOK l) : Ans Try.prog n_cathode_Judge [c.v (.view (c.bands.map Bd.v)), d.v, .view (l.map Ht.v)] [] (.tup [.int .i64 (judgeV c d l).1, .int .i64 (judgeV c d l).2, .int .i64 0]) [] := by
  have hj := judge_run c hc d l hl
  refine spec_run e_cathode_Judge fun G => ?_
  simp only [go_sem, Ct.v, Ct.cs, Dm.v, Dm.cs]
  refine cP (checkDemand_run c hc d hd) ?_
  simp only [go_sem]
  refine cP (CheckSchedule_run l hl) ?_
  simp only [go_sem, Ct.v, Ct.cs, Dm.v, Dm.cs]
  refine cP hj ?_
  simp only [go_sem]

/-! ### What verdicts say -/
theorem noted_1 (st : Int × Int) (n : Int) : noted st 1 n = st := by simp [noted]
theorem jgo_sure (last : Int) (hl : last = 1 ∨ last = 2 ∨ last = 3) : ∀ (es : List Int) (n : Nat) (st : Int × Int), (∀ e ∈ es, e = 1 ∨ e = 2 ∨ e = 3) → (st.1 = 1 ∨ st.1 = 3) →
    ((jgo last n st es).1 = 1 ↔ st.1 = 1 ∧ (∀ e ∈ es, e = 1) ∧ last = 1)
  | [], n, st, _, hst => by
    unfold jgo noted
    rcases hl with rfl | rfl | rfl
    · simp
    · simp
    · by_cases h : st.1 = 1 <;> simp [h]
  | e :: es, n, st, he, hst => by
    have h0 := he e (by simp)
    have ih := fun st => jgo_sure last hl es (n + 1) st fun e h => he e (by simp [h])
    unfold jgo
    by_cases h2 : e = 2
    · subst h2; simp [noted]
    · rw [if_neg h2]
      rcases h0 with rfl | h0 | rfl
      · rw [noted_1, ih st hst]; simp
      · exact absurd h0 h2
      · have hn : (noted st 3 ((n + 1 : Nat) : Int)).1 = 3 := by
          unfold noted
          rcases hst with h | h <;> simp [h]
        rw [ih _ (.inr hn), hn]; simp
theorem jgo_never (last : Int) : ∀ (es : List Int) (n : Nat) (st : Int × Int), (st.1 = 1 ∨ st.1 = 3) → ((jgo last n st es).1 = 2 ↔ (∃ e ∈ es, e = 2) ∨ last = 2)
  | [], n, st, hst => by
    unfold jgo noted
    by_cases h : last = 2
    · simp [h]
    · by_cases h3 : last = 3 ∧ st.1 = 1
      · simp [h, h3]
      · simp only [h, if_false, if_neg h3]
        simp; omega
  | e :: es, n, st, hst => by
    unfold jgo
    by_cases h2 : e = 2
    · subst h2; simp [noted]
    · rw [if_neg h2]
      have hn : (noted st e ((n + 1 : Nat) : Int)).1 = 1 ∨ (noted st e ((n + 1 : Nat) : Int)).1 = 3 := by
        unfold noted
        rw [if_neg h2]
        split
        · rename_i h; right; exact h.1
        · exact hst
      rw [jgo_never last es (n + 1) _ hn]
      constructor
      · rintro (⟨u, hu, h⟩ | h)
        · exact .inl ⟨u, by simp [hu], h⟩
        · exact .inr h
      · rintro (⟨u, hu, h⟩ | h)
        · rcases List.mem_cons.1 hu with rfl | hu
          · exact absurd h h2
          · exact .inl ⟨u, hu, h⟩
        · exact .inr h
theorem jgo_tick (last : Int) : ∀ (es : List Int) (n : Nat) (st : Int × Int), (st.1 = 1 → st.2 = 0) → (jgo last n st es).1 = 1 → (jgo last n st es).2 = 0
  | [], n, st, h0, h => by
    unfold jgo at h ⊢
    unfold noted at h ⊢
    by_cases h2 : last = 2
    · simp [h2] at h
    · by_cases h3 : last = 3 ∧ st.1 = 1
      · simp [h2, h3] at h
      · simp only [if_neg h2, if_neg h3] at h ⊢; exact h0 h
  | e :: es, n, st, h0, h => by
    unfold jgo at h ⊢
    by_cases h2 : e = 2
    · subst h2; simp [noted] at h
    · rw [if_neg h2] at h ⊢
      refine jgo_tick last es (n + 1) _ (fun h1 => ?_) h
      unfold noted at h1 ⊢
      rw [if_neg h2] at h1 ⊢
      split at h1
      · rename_i h3; dsimp only at h1; omega
      · rename_i h3; rw [if_neg h3]; exact h0 h1
theorem eachV_in (d : Dm) (x : Cg) : eachV d x = 1 ∨ eachV d x = 2 ∨ eachV d x = 3 := worst_in _ _ (.inl rfl)
theorem lastV_in (d : Dm) (x : Cg) : lastV d x = 1 ∨ lastV d x = 2 ∨ lastV d x = 3 := worst_in _ _ (.inl rfl)
theorem saids_mem {c : Ct} {d : Dm} {a : List Ht} {e : Int} : e ∈ saids c d a ↔ ∃ p, p < a.length ∧ eachV d (coatOf c (a.take (p + 1))) = e := by simp [saids]
theorem judge_sure {c : Ct} {d : Dm} {l : List Ht} : (judgeV c d l).1 = 1 ↔ (∀ p, p < (flat l).length → eachV d (coatOf c ((flat l).take (p + 1))) = 1) ∧ lastV d (coatOf c (flat l)) = 1 := by
  unfold judgeV
  rw [jgo_sure _ (lastV_in _ _) _ _ _ (fun e he => by obtain ⟨p, _, rfl⟩ := saids_mem.1 he; exact eachV_in _ _) (.inl rfl)]
  constructor
  · rintro ⟨_, h, h'⟩
    exact ⟨fun p hp => h _ (saids_mem.2 ⟨p, hp, rfl⟩), h'⟩
  · rintro ⟨h, h'⟩
    refine ⟨rfl, fun e he => ?_, h'⟩
    obtain ⟨p, hp, rfl⟩ := saids_mem.1 he
    exact h p hp
theorem judge_never {c : Ct} {d : Dm} {l : List Ht} : (judgeV c d l).1 = 2 ↔ (∃ p, p < (flat l).length ∧ eachV d (coatOf c ((flat l).take (p + 1))) = 2) ∨ lastV d (coatOf c (flat l)) = 2 := by
  unfold judgeV
  rw [jgo_never _ _ _ _ (.inl rfl)]
  constructor
  · rintro (⟨e, he, h2⟩ | h)
    · obtain ⟨p, hp, rfl⟩ := saids_mem.1 he
      exact .inl ⟨p, hp, h2⟩
    · exact .inr h
  · rintro (⟨p, hp, h⟩ | h)
    · exact .inl ⟨_, saids_mem.2 ⟨p, hp, rfl⟩, h⟩
    · exact .inr h
theorem judge_tick {c : Ct} {d : Dm} {l : List Ht} (h : (judgeV c d l).1 = 1) : (judgeV c d l).2 = 0 := jgo_tick _ _ _ _ (fun _ => rfl) h
theorem judge_in {c : Ct} {d : Dm} {l : List Ht} : (judgeV c d l).1 = 1 ∨ (judgeV c d l).1 = 2 ∨ (judgeV c d l).1 = 3 := by
  suffices h : ∀ (last : Int), (last = 1 ∨ last = 2 ∨ last = 3) → ∀ (es : List Int) (n : Nat) (st : Int × Int), (st.1 = 1 ∨ st.1 = 2 ∨ st.1 = 3) → (jgo last n st es).1 = 1 ∨ (jgo last n st es).1 = 2 ∨ (jgo last n st es).1 = 3 from h _ (lastV_in _ _) _ _ _ (.inl rfl)
  intro last hl es
  have hno : ∀ (st : Int × Int) (s n : Int), (st.1 = 1 ∨ st.1 = 2 ∨ st.1 = 3) → (noted st s n).1 = 1 ∨ (noted st s n).1 = 2 ∨ (noted st s n).1 = 3 := fun st s n h => by
    unfold noted
    split
    · rename_i h2; right; left; exact h2
    · split
      · rename_i h3; right; right; exact h3.1
      · exact h
  induction es with
  | nil => intro n st h; exact hno _ _ _ h
  | cons e es ih =>
    intro n st h
    unfold jgo
    split
    · exact hno _ _ _ h
    · exact ih _ _ (hno _ _ _ h)
theorem eachV_sure {d : Dm} {x : Cg} : eachV d x = 1 ↔ x.gas.hi ≤ d.gas ∧ x.wear.hi ≤ d.wear ∧ x.lost.hi ≤ d.lost := by
  unfold eachV
  rw [worst_sure _ _ (by simp only [List.mem_cons, List.not_mem_nil, or_false]; rintro v (rfl | rfl | rfl) <;> exact amV_in _ _)]
  simp [amV_sure]
theorem lastV_sure {d : Dm} {x : Cg} : lastV d x = 1 ↔ x.carb.hi ≤ d.rest ∧ d.ba ≤ x.ba.lo := by
  unfold lastV
  rw [worst_sure _ _ (by
    simp only [List.mem_cons, List.not_mem_nil, or_false]
    rintro v (rfl | rfl)
    · exact amV_in _ _
    · exact alV_in _ _)]
  simp [amV_sure, alV_sure]
theorem eachV_never {d : Dm} {c : Ct} {x : Cg} (hx : CgOK c x) : eachV d x = 2 ↔ d.gas < x.gas.lo ∨ d.wear < x.wear.lo ∨ d.lost < x.lost.lo := by
  unfold eachV
  rw [worst_never _ _ (by decide)]
  simp only [exists_eq_right, List.mem_cons, List.not_mem_nil, or_false, @eq_comm _ (2 : Int), amV_never hx.gas.le, amV_never hx.wear.le, amV_never hx.lost.le]
theorem lastV_never {d : Dm} {c : Ct} {x : Cg} (hx : CgOK c x) : lastV d x = 2 ↔ d.rest < x.carb.lo ∨ x.ba.hi < d.ba := by
  unfold lastV
  rw [worst_never _ _ (by decide)]
  simp only [exists_eq_right, List.mem_cons, List.not_mem_nil, or_false, @eq_comm _ (2 : Int), amV_never hx.carb.le, alV_never hx.ba.le]
end Go.Proofs
