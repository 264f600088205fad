/- Schedules made of numbers. -/
import Derived.Test.YtigaafcllfjniaaYcI
import Derived.Test.YtigaafcllfjniaaSxF
namespace Go.Proofs
open Go Go.Sx

@[go_sem] theorem ht_bel (x : Ht) (S : Nat → Prop) : Bel S x.v = True := by unfold Ht.v Ht.cs; simp only [go_sem]
theorem ht_snoc (xs : List Ht) (y : Ht) : List.map Ht.v xs ++ [.agg [.int .i64 y.ticks, .int .i64 y.heat, .int .i64 y.cur]] = List.map Ht.v (xs ++ [y]) := by
  rw [List.map_append]; rfl

theorem heating_run (w ticks : Int) (ht : 1 ≤ ticks ∧ ticks ≤ 2000) : ∃ (h : Ht), HtOK h ∧ h.ticks ≤ ticks ∧ h.ticks = btw w 1 ticks ∧
    [AVal.int .i64 (btw (dstep w) 0 800), .int .i64 (btw (dstep (dstep w)) 600 2000), .int .i64 300][(upto (dstep (dstep (dstep w))) 3).toNat]? = some (.int .i64 h.heat) ∧ 0 ≤ upto (dstep (dstep (dstep w))) 3 ∧ upto (dstep (dstep (dstep w))) 3 < 3 ∧
    [AVal.int .i64 0, .int .i64 (upto (dstep (dstep (dstep (dstep w)))) 50), .int .i64 (upto (dstep (dstep (dstep (dstep (dstep w))))) 1001)][(upto (dstep (dstep (dstep (dstep (dstep (dstep w)))))) 3).toNat]? = some (.int .i64 h.cur) ∧ 0 ≤ upto (dstep (dstep (dstep (dstep (dstep (dstep w)))))) 3 ∧ upto (dstep (dstep (dstep (dstep (dstep (dstep w)))))) 3 < 3 := by
  have a1 := btw_in (w := w) (lo := 1) (hi := ticks) ht.1
  have a2 := btw_in (w := (dstep w)) (lo := 0) (hi := 800) (by decide)
  have a3 := btw_in (w := (dstep (dstep w))) (lo := 600) (hi := 2000) (by decide)
  have q1 := upto_in (w := (dstep (dstep (dstep w)))) (n := 3) (by decide)
  have a4 := upto_in (w := (dstep (dstep (dstep (dstep w))))) (n := 50) (by decide)
  have a5 := upto_in (w := (dstep (dstep (dstep (dstep (dstep w)))))) (n := 1001) (by decide)
  have q2 := upto_in (w := (dstep (dstep (dstep (dstep (dstep (dstep w))))))) (n := 3) (by decide)
  obtain ⟨v1, hv1, s1⟩ := sel3 _ (btw (dstep w) 0 800) (btw (dstep (dstep w)) 600 2000) 300 q1
  obtain ⟨v2, hv2, s2⟩ := sel3 _ 0 (upto (dstep (dstep (dstep (dstep w)))) 50) (upto (dstep (dstep (dstep (dstep (dstep w))))) 1001) q2
  exact ⟨⟨btw w 1 ticks, v1, v2⟩, ⟨by dsimp only; omega, by dsimp only; omega, by dsimp only; omega⟩, a1.2, rfl, s1, q1.1, q1.2, s2, q2.1, q2.2⟩

set_option maxHeartbeats 2000000 in
theorem scheduleOf_run (w most ticks : Int) (hm : 0 ≤ most ∧ most ≤ 40) (ht : 1 ≤ ticks ∧ ticks ≤ 2000) :
    AnsE Try.prog n_kit_ScheduleOf [.ptr 0 0 0 1, .int .i64 most, .int .i64 ticks] [some (Dr w)] (fun a : List Ht × Int => Sch a.1 most ticks) (fun a => slv 1 (a.1.map Ht.v)) (fun a => some (Dr a.2) :: slr 3 (a.1.map Ht.v)) := by
  have hu := upto_ok w (most + 1) (by omega)
  have hq := upto_in (w := w) (n := most + 1) (by omega)
  have u0 : IntKind.i64.wrap (most + 1) = most + 1 := w64 (by omega)
  generalize upto w (most + 1) = n at *
  refine AnsE.keep (run_fn e_kit_ScheduleOf fun G => ?_) (fun a ha => ⟨by simp, ?_, by simp only [go_sem], ?_⟩)
  rotate_left
  · unfold slv slr slrG
    split
    · exact .nilsl
    · rw [bel_sl]; simp
  · unfold slr slrG
    split
    · trivial
    · exact ⟨by rw [row_bel_cells]; simp only [go_sem], trivial⟩
  obtain ⟨z, zok, zt, ze, zs1, zq1, zn2, zs2, zq3, zn4⟩ := heating_run (dstep w) ticks ht
  have zn1 : ¬ upto (dstep (dstep (dstep (dstep w)))) 3 < 0 := by omega
  have zn3 : ¬ upto (dstep (dstep (dstep (dstep (dstep (dstep (dstep w))))))) 3 < 0 := by omega
  have p44 : 24 ≤ 2 ^ 44 := by decide
  have u1 : IntKind.i64.wrap (n - 1) = n - 1 := w64 (by omega)
  by_cases hn : 0 < n
  · simp only [go_sem, u0]
    refine cD hu ?_
    simp only [go_sem]
    refine loop_body 200 k_kit_ScheduleOf_r6.eq_1 ?_
    simp only [go_sem, hn]
    refine dD (between_ok _ 1 ticks (by decide) ht.1 (by omega)) ?_
    simp only [go_sem]
    refine dD (between_ok _ 0 800 (by decide) (by decide) (by decide)) ?_
    simp only [go_sem]
    refine dD (between_ok _ 600 2000 (by decide) (by decide) (by decide)) ?_
    simp only [go_sem]
    refine dD (upto_ok _ 3 (by decide)) ?_
    simp only [go_sem, zn1, zn2, zs1]
    refine dD (upto_ok _ 50 (by decide)) ?_
    simp only [go_sem]
    refine dD (upto_ok _ 1001 (by decide)) ?_
    simp only [go_sem]
    refine dD (upto_ok _ 3 (by decide)) ?_
    simp only [go_sem, zn3, zn4, zs2, p44]
    simp only [u1]
    generalize some (Row.cells false 1 [.int .i64 (btw (dstep (dstep w)) 0 800), .int .i64 (btw (dstep (dstep (dstep w))) 600 2000), .int .i64 300]) = Y1
    generalize some (Row.cells false 1 [.int .i64 0, .int .i64 (upto (dstep (dstep (dstep (dstep (dstep w))))) 50), .int .i64 (upto (dstep (dstep (dstep (dstep (dstep (dstep w)))))) 1001)]) = Y2
    have e0 : [AVal.agg [.int .i64 (btw (dstep w) 1 ticks), .int .i64 z.heat, .int .i64 z.cur]] = List.map Ht.v [z] := by rw [← ze]; rfl
    rw [e0]
    refine loop_ind k_kit_ScheduleOf_r6.eq_1 (fun a : Int × Int × List Ht × Heap => 0 ≤ a.1 ∧ a.2.2.1.length + a.1 ≤ most ∧ 1 ≤ a.2.2.1.length ∧ Sch a.2.2.1 most ticks) (fun a => a.1.toNat)
      (fun a => (tsets 43 [(0, .ptr 0 0 0 1), (1, .int .i64 most), (2, .int .i64 ticks), (6, .nilsl), (7, .sl 4 0 a.2.2.1.length), (8, .int .i64 a.1)],
        some (Dr a.2.1) :: Y1 :: Y2 :: some (.cells false 3 (List.map Ht.v [z])) :: some (.cells true 3 (a.2.2.1.map Ht.v)) :: a.2.2.2))
      (n - 1, _, [z], []) ⟨by dsimp only; omega, by simp; omega, by simp, ⟨by simp; omega, fun x hx => by simp at hx; subst hx; exact ⟨zok, zt⟩⟩⟩ (by simp [go_sem]) rfl ?_
    rintro ⟨i, w', l, X⟩ ⟨hi0, hil, hl1, hl⟩ ih
    dsimp only at hi0 hil hl1 hl ih ⊢
    by_cases c1 : 0 < i
    · obtain ⟨y, yok, yt, ye, ys1, yq1, yn2, ys2, yq3, yn4⟩ := heating_run w' ticks ht
      have yn1 : ¬ upto (dstep (dstep (dstep w'))) 3 < 0 := by omega
      have yn3 : ¬ upto (dstep (dstep (dstep (dstep (dstep (dstep w')))))) 3 < 0 := by omega
      have v1 : IntKind.i64.wrap (i - 1) = i - 1 := w64 (by omega)
      have q44 : (l.length + 1) * 24 ≤ 2 ^ 44 := by omega
      have e1 : ∀ xs : List Ht, List.map Ht.v xs ++ [AVal.agg [.int .i64 (btw w' 1 ticks), .int .i64 y.heat, .int .i64 y.cur]] = List.map Ht.v (xs ++ [y]) := fun xs => by rw [← ye]; exact ht_snoc xs y
      simp only [go_sem, c1]
      refine dD (between_ok _ 1 ticks (by decide) ht.1 (by omega)) ?_
      simp only [go_sem]
      repeat refine ⟨by first | omega | (simp; done) | (simp; omega), ?_⟩
      refine dD (between_ok _ 0 800 (by decide) (by decide) (by decide)) ?_
      simp only [go_sem]
      repeat refine ⟨by first | omega | (simp; done) | (simp; omega), ?_⟩
      refine dD (between_ok _ 600 2000 (by decide) (by decide) (by decide)) ?_
      simp only [go_sem]
      repeat refine ⟨by first | omega | (simp; done) | (simp; omega), ?_⟩
      refine dD (upto_ok _ 3 (by decide)) ?_
      simp only [go_sem, yn1, yn2, ys1]
      repeat refine ⟨by first | omega | (simp; done) | (simp; omega), ?_⟩
      refine dD (upto_ok _ 50 (by decide)) ?_
      simp only [go_sem]
      repeat refine ⟨by first | omega | (simp; done) | (simp; omega), ?_⟩
      refine dD (upto_ok _ 1001 (by decide)) ?_
      simp only [go_sem]
      repeat refine ⟨by first | omega | (simp; done) | (simp; omega), ?_⟩
      refine dD (upto_ok _ 3 (by decide)) ?_
      simp only [go_sem, yn3, yn4, ys2, q44]
      repeat refine ⟨by first | omega | (simp; done) | (simp; omega), ?_⟩
      simp only [e1, v1]
      rw [show l.length + 1 = (l ++ [y]).length by simp]
      exact ih (i - 1, _, l ++ [y], _) (by dsimp only; omega) ⟨by dsimp only; omega, by simp; omega, by simp, hl.snoc ⟨yok, yt⟩ (by omega)⟩ _ (by simp [go_sem])
    · simp only [go_sem, c1]
      refine ⟨(l, w'), hl, ?_⟩
      have hne : List.map Ht.v l ≠ [] := fun h => by
        have : l.length = 0 := by simpa using congrArg List.length h
        omega
      simp only [slv, slr, slrG, hne, if_false]
      exact kept_two 4 (by decide) (by simp [ren]) (by simp only [go_sem]) (by rw [row_bel_cells]; simp only [go_sem]) rfl rfl
  · simp only [go_sem, u0]
    refine cD hu ?_
    simp only [go_sem]
    refine loop_body 200 k_kit_ScheduleOf_r6.eq_1 ?_
    simp only [go_sem, hn]
    exact ⟨([], dstep w), ⟨by simp; omega, fun x hx => by simp at hx⟩, fun i => i, ⟨fun i hi => rfl, fun i j _ _ h => h, rfl, fun i x hx => by
      match i, hx with
      | 0, hx => simp [slr, slrG] at hx; subst hx; rfl
      | i + 1, hx => simp [slr, slrG] at hx⟩⟩
/-- The same; the schedule's row stands still. -/
theorem scheduleOf_set (w most ticks : Int) (hm : 0 ≤ most ∧ most ≤ 40) (ht : 1 ≤ ticks ∧ ticks ≤ 2000) :
    AnsE Try.prog n_kit_ScheduleOf [.ptr 0 0 0 1, .int .i64 most, .int .i64 ticks] [some (Dr w)] (fun a : List Ht × Int => Sch a.1 most ticks) (fun a => slv 1 (a.1.map Ht.v)) (fun a => some (Dr a.2) :: slrG false 3 (a.1.map Ht.v)) := by
  have e : ∀ a : List Ht × Int, settleFrom 1 (some (Dr a.2) :: slr 3 (a.1.map Ht.v)) = some (Dr a.2) :: slrG false 3 (a.1.map Ht.v) := fun a => by
    unfold slr slrG
    split <;> rfl
  have h := (scheduleOf_run w most ticks hm ht).settle (fun a ha => ⟨by simp, ?_, by simp only [go_sem], ?_⟩) (fun a ha => ⟨?_, fun i x hx => ?_⟩)
  · intro G
    have := h G
    simp only [List.length_singleton, e] at this
    exact this
  · unfold slv slr slrG
    split
    · exact .nilsl
    · rw [bel_sl]; simp
  · unfold slr slrG
    split
    · trivial
    · exact ⟨by rw [row_bel_cells]; simp only [go_sem], trivial⟩
  · unfold slv slr slrG
    by_cases h0 : List.map Ht.v a.1 = []
    · simp only [h0, if_true]; exact .nilsl
    · simp only [h0, if_false]; exact .sl _ _ _ (by simp [lenIn, rowLen])
  · match i, hx with
    | 0, hx =>
      simp only [List.getElem?_cons_zero, Option.some.injEq] at hx
      subst hx
      show Fuls _ [AVal.agg [.int .u64 a.2]]
      exact ⟨by rw [ful_agg]; exact ⟨.int _ _, trivial⟩, trivial⟩
    | 1, hx =>
      unfold slr slrG at hx
      split at hx
      · simp at hx
      · simp only [List.getElem?_cons_succ, List.getElem?_cons_zero, Option.some.injEq] at hx
        subst hx
        exact fuls_map _ _ fun x => by unfold Ht.v; rw [ful_agg]; exact ⟨.int _ _, .int _ _, .int _ _, trivial⟩
    | i + 2, hx =>
      unfold slr slrG at hx
      split at hx <;> simp at hx
end Go.Proofs
