/- CathodePossible. -/
import Derived.Test.YtigaafcllfjniaaPG
set_option linter.unusedSimpArgs false
set_option linter.unusedVariables false
namespace Go.Proofs
open Go Go.Sx
attribute [local irreducible] Run

theorem crs_mix {c : Ct} (hc : CtOK c) {l : List Ht} (hl : LsOK l) {w : List Mx} {m : Mx} (hw : Crs c (flat l) w m) (p : Nat) (hp : p < w.length) : MxOK c w[p] := by
  have hfl := flat_len hl.all
  have hsum := hl.sum
  have hln := hw.len
  by_cases h : p < (flat l).length
  · obtain ⟨z, m1, m2, e1, e2, e3, e4, e5⟩ := hw.part p h
    have : w[p] = m1 := (List.getElem?_eq_some_iff.1 e3).2
    rw [this]
    exact e2.ok hc fun y hy => hl.all y (flat_mem (List.mem_of_mem_take hy))
  · have hpe : p = (flat l).length := by omega
    have e := hw.last
    have : w[p] = m := by
      have := List.getElem?_eq_some_iff.1 e
      subst hpe
      exact this.2
    rw [this]
    exact hw.ok hc fun y hy => hl.all y (flat_mem hy)
theorem i64_of {n : Int} (h : -9223372036854775808 ≤ n ∧ n ≤ 9223372036854775807) : I64 n := by
  have m1 : IntKind.i64.min = -9223372036854775808 := rfl
  have m2 : IntKind.i64.max = 9223372036854775807 := rfl
  show (decide (IntKind.i64.min ≤ n) && decide (n ≤ IntKind.i64.max)) = true
  simp only [Bool.and_eq_true, decide_eq_true_eq]
  omega
theorem mx_w {c : Ct} (hc : CtOK c) {m : Mx} (h : MxOK c m) : MxW m := by
  have := hc.amount
  obtain ⟨h1, h2, h3, h4, h5⟩ := h
  exact ⟨i64_of (by omega), i64_of (by omega), i64_of (by omega), i64_of (by omega)⟩
theorem mx_set (w : List Mx) (k : Nat) (y : Mx) : (w.map Mx.v).set k (.agg [.int .i64 y.carb, .int .i64 y.ox, .int .i64 y.ba, .int .i64 y.lost]) = (w.set k y).map Mx.v := by
  rw [List.map_set]; rfl
theorem way_frz' {l : List Mx} {H : Heap} {j n : Nat} (h : H[j]? = some (some (.cells false 4 (l.map Mx.v)))) (hn : n ≤ l.length) : frz 6 H (.sl j 0 n) = .view ((l.take n).map Mx.v) := by
  have : n ≤ (l.map Mx.v).length := by simpa using hn
  simp only [frz, Heap.cellsAt, h, Nat.zero_add, List.drop_zero]
  rw [if_pos ⟨by simp, this⟩, ← List.map_take, mxs_frz]
theorem poss_bool (P : Prop) : ∃ b : Bool, b = true ↔ P := by
  by_cases h : P
  · exact ⟨true, by simp [h]⟩
  · exact ⟨false, by simp [h]⟩

set_option maxRecDepth 20000 in
set_option maxHeartbeats 16000000 in
theorem possible_ok (c : Ct) (l : List Ht) (w : List Mx) (hww : ∀ m ∈ w, MxW m) (xs : List Int) (hxs : xs.length ≤ 9223372036854775807) (at' by' : Int) : Ans Try.prog n_law03_CathodePossible [c.v (.view (c.bands.map Bd.v)), .view (l.map Ht.v), .view (w.map Mx.v), .view (xs.map (.int .i64)), .int .i64 at', .int .i64 by'] [] (.bool true) [] := by
  have hd := newdice_ok xs hxs
  generalize seedW xs = w0 at *
  refine spec_run e_law03_CathodePossible fun G => ?_
  by_cases k1 : (30 : Int) < c.bands.length
  · simp only [go_sem, Ct.v, Ct.cs, List.length_map, k1]
    refine cP awake_ok ?_
    simp only [go_sem]
  by_cases k2 : (60 : Int) < l.length
  · simp only [go_sem, Ct.v, Ct.cs, List.length_map, k1, k2]
    refine cP awake_ok ?_
    simp only [go_sem]
  by_cases k3 : (60 : Int) < w.length
  · simp only [go_sem, Ct.v, Ct.cs, List.length_map, k1, k2, k3]
    refine cP awake_ok ?_
    simp only [go_sem]
  obtain ⟨b1, hb1⟩ := poss_bool (PossB c l w)
  have q1 := Possible_raw c (by omega) l (by omega) w (by omega) b1 hb1
  have p1 := rPossible_raw c (by omega) l (by omega) w (by omega) hww b1 hb1
  have z1 : ∀ a : Bool, (a == a) = true := fun a => by simp
  have v0 : ∀ (H : Heap), frz 6 H (c.v (.view (c.bands.map Bd.v))) = c.v (.view (c.bands.map Bd.v)) := fun H => by simp only [go_sem, frz, bds_frz, Ct.v, Ct.cs]
  have l0 : ∀ (H : Heap), frz 6 H (.view (l.map Ht.v)) = .view (l.map Ht.v) := fun H => by
    show AVal.view ((l.map Ht.v).map (frz 5 H)) = _
    rw [hts_frz]
  have m0 : ∀ (H : Heap), frz 6 H (.view (w.map Mx.v)) = .view (w.map Mx.v) := fun H => by
    show AVal.view ((w.map Mx.v).map (frz 5 H)) = _
    rw [mxs_frz]
  have y1 := mod_pos by' 5 (by decide)
  have y2 : 0 ≤ by' % 5 ∧ by' % 5 < 5 := ⟨Int.emod_nonneg _ (by decide), Int.emod_lt_of_pos _ (by decide)⟩
  generalize by' % 5 = s at *
  simp only [go_sem, Ct.v, Ct.cs, List.length_map, k1, k2, k3]
  refine callN1 hd ⟨by rw [bel_view]; exact bels_map _ _ fun _ => .int _ _, trivial⟩ (dr_bel _ _) (by simp) (by simp) ?_
  simp only [go_sem]
  refine callDN (coatOf_run w0) rfl trivial (dr_bel _ _) (fun a ha => ⟨by simp only [go_sem], by simp only [go_sem], by simp only [go_sem]⟩) (by simp) (by simp) ?_
  rintro ⟨m, w1⟩ hm
  dsimp only at hm
  simp only [go_sem, Ct.v, Ct.cs, ren, rens]
  refine callDS (scheduleOf_run w1 5 8 (by decide) (by decide)) rfl ⟨.int _ _, .int _ _, trivial⟩ (dr_bel _ _) (fun a ha => ⟨by simp only [go_sem], by simp only [go_sem]⟩) (by simp) (by simp) ?_
  rintro ⟨p, w2⟩ hp
  dsimp only at hp
  have hps := hp.ok (by decide) (by decide) (by decide)
  have hml := hm.len
  have hpl := hps.len
  have hpf := flat_len hps.all
  have hpsum := hps.sum
  by_cases hnil : p = []
  · have e1 : slv 3 (List.map Ht.v p) = .nilsl := by rw [hnil]; rfl
    have e2 : slrG true 3 (List.map Ht.v p) = [] := by rw [hnil]; rfl
    simp only [go_sem, e1, e2]
    refine callR1 ((courseOf_nil w2 m).toE (Φ := fun _ : Unit => True) (r := fun _ => .sl 2 0 1) (L' := fun _ => [some (Dr (dstep w2)), some (BdR m.bands), some (.cells false 4 ([start m].map Mx.v))]) (a := ()) trivial) (j0 := 1) (j1 := 2) (by simp only [go_sem, ren, rens, nth, Ct.v, Ct.cs]; rfl) ⟨by rw [bel_ptr]; decide, by rw [ct_bel, bel_sl]; decide, .nilsl, trivial⟩ rfl rfl (by simp only [go_sem]) (by simp only [go_sem]) (by decide)
      (fun a ha => ⟨by rw [bel_sl], by simp only [go_sem], by rw [row_bel_cells]; simp only [go_sem]⟩) (by simp) (by simp) ?_
    intro _ _
    have hway : Crs m (flat []) [start m] (start m) := Crs.nil
    rw [← hnil] at hway
    generalize hwy : [start m] = way at hway
    have hwl : way.length = 1 := by rw [← hwy]; rfl
    have hmx := fun q hq => crs_mix hm hps hway q hq
    have hk := mod_pos at' 1 (by decide)
    rw [Int.emod_one] at hk
    have g1 : (0 : Int) < way.length := by omega
    have hx : way[0]? = some way[0] := List.getElem?_eq_getElem (by omega)
    have hmk := hmx 0 (by omega)
    generalize hz : way[0] = z at *
    have hma := hm.amount
    obtain ⟨x1, x2, x3, x4, x5⟩ := hmk
    have u1 : IntKind.i64.wrap (z.ox + 1) = z.ox + 1 := w64 (by omega)
    have u2 : IntKind.i64.wrap (z.carb - 1) = z.carb - 1 := w64 (by omega)
    have u3 : IntKind.i64.wrap (z.lost + 1) = z.lost + 1 := w64 (by omega)
    have u4 : IntKind.i64.wrap (z.ba - 1) = z.ba - 1 := w64 (by omega)
    have u5 : IntKind.i64.wrap (z.ba + 1) = z.ba + 1 := w64 (by omega)
    have gs : ∀ e, ((List.map Mx.v way).set 0 e)[0]? = some e := fun e => List.getElem?_set_self (by first | omega | (simp; done) | (simp; omega))
    have hwW : ∀ m' ∈ way, MxW m' := fun m' hm' => by
      obtain ⟨q, hq, rfl⟩ := List.mem_iff_getElem.1 hm'
      exact mx_w hm (hmx q hq)
    simp only [go_sem, ren, List.length_map]
    refine cP hk ?_
    simp only [go_sem]
    refine cP y1 ?_
    obtain rfl | rfl | rfl | rfl | rfl : s = 0 ∨ s = 1 ∨ s = 2 ∨ s = 3 ∨ s = 4 := by omega
    · simp only [go_sem, Int.reduceBEq, hx, g1, u1, u2, u3, u4, u5, gs, List.set_set, List.length_map, Mx.v, Mx.cs]
      have hrow := mx_set way 0 ⟨z.carb - 1, z.ox + 1, z.ba, z.lost⟩
      dsimp only at hrow
      try simp only [go_sem, hrow, gs, List.set_set]
      obtain ⟨b2, hb2⟩ := poss_bool (PossB m [] (way.set 0 ⟨z.carb - 1, z.ox + 1, z.ba, z.lost⟩))
      have q2 := Possible_raw m (by omega) [] (by simp) (way.set 0 ⟨z.carb - 1, z.ox + 1, z.ba, z.lost⟩) (by first | omega | (simp; done) | (simp; omega)) b2 hb2
      have p2 := rPossible_raw m (by omega) [] (by simp) (way.set 0 ⟨z.carb - 1, z.ox + 1, z.ba, z.lost⟩) (by first | omega | (simp; done) | (simp; omega)) (fun m' hm' => by
        rcases List.mem_or_eq_of_mem_set hm' with h | rfl
        · exact hwW m' h
        · exact ⟨i64_of (by dsimp only; omega), i64_of (by dsimp only; omega), i64_of (by dsimp only; omega), i64_of (by dsimp only; omega)⟩) b2 hb2
      have ht : List.take 1 (way.set 0 ⟨z.carb - 1, z.ox + 1, z.ba, z.lost⟩) = (way.set 0 ⟨z.carb - 1, z.ox + 1, z.ba, z.lost⟩) := List.take_of_length_le (by first | omega | (simp; done) | (simp; omega))
      have hfz : ∀ H : Heap, H[4]? = some (some (.cells false 4 (List.map Mx.v (way.set 0 ⟨z.carb - 1, z.ox + 1, z.ba, z.lost⟩)))) → frz 6 H (.sl 4 0 1) = .view (List.map Mx.v (way.set 0 ⟨z.carb - 1, z.ox + 1, z.ba, z.lost⟩)) := fun H h => by
        have := way_frz' h (n := 1) (by first | omega | (simp; done) | (simp; omega))
        rw [ht] at this; exact this
      refine dF q1 6 [] ⟨.inl (v0 _), .inl (l0 _), .inl (m0 _), trivial⟩ ?_
      simp only [go_sem, Ct.v, Ct.cs]
      refine cF p1 6 ⟨.inl (v0 _), .inl (l0 _), .inl (m0 _), trivial⟩ ?_
      simp only [go_sem, Ct.v, Ct.cs, z1]
      refine dF q2 6 [2, 4] ⟨.inl (ct_frz (H := _) rfl), .inr ⟨rfl, rfl⟩, .inl (hfz _ rfl), trivial⟩ ?_
      simp only [go_sem, Ct.v, Ct.cs]
      refine cF p2 6 ⟨.inl (ct_frz (H := _) rfl), .inr ⟨rfl, rfl⟩, .inl (hfz _ rfl), trivial⟩ ?_
      simp only [go_sem, Ct.v, Ct.cs, z1]
      refine cP awake_ok ?_
      simp only [go_sem]
    · simp only [go_sem, Int.reduceBEq, hx, g1, u1, u2, u3, u4, u5, gs, List.set_set, List.length_map, Mx.v, Mx.cs]
      have hrow := mx_set way 0 ⟨z.carb, z.ox, z.ba - 1, z.lost + 1⟩
      dsimp only at hrow
      try simp only [go_sem, hrow, gs, List.set_set]
      obtain ⟨b2, hb2⟩ := poss_bool (PossB m [] (way.set 0 ⟨z.carb, z.ox, z.ba - 1, z.lost + 1⟩))
      have q2 := Possible_raw m (by omega) [] (by simp) (way.set 0 ⟨z.carb, z.ox, z.ba - 1, z.lost + 1⟩) (by first | omega | (simp; done) | (simp; omega)) b2 hb2
      have p2 := rPossible_raw m (by omega) [] (by simp) (way.set 0 ⟨z.carb, z.ox, z.ba - 1, z.lost + 1⟩) (by first | omega | (simp; done) | (simp; omega)) (fun m' hm' => by
        rcases List.mem_or_eq_of_mem_set hm' with h | rfl
        · exact hwW m' h
        · exact ⟨i64_of (by dsimp only; omega), i64_of (by dsimp only; omega), i64_of (by dsimp only; omega), i64_of (by dsimp only; omega)⟩) b2 hb2
      have ht : List.take 1 (way.set 0 ⟨z.carb, z.ox, z.ba - 1, z.lost + 1⟩) = (way.set 0 ⟨z.carb, z.ox, z.ba - 1, z.lost + 1⟩) := List.take_of_length_le (by first | omega | (simp; done) | (simp; omega))
      have hfz : ∀ H : Heap, H[4]? = some (some (.cells false 4 (List.map Mx.v (way.set 0 ⟨z.carb, z.ox, z.ba - 1, z.lost + 1⟩)))) → frz 6 H (.sl 4 0 1) = .view (List.map Mx.v (way.set 0 ⟨z.carb, z.ox, z.ba - 1, z.lost + 1⟩)) := fun H h => by
        have := way_frz' h (n := 1) (by first | omega | (simp; done) | (simp; omega))
        rw [ht] at this; exact this
      refine dF q1 6 [] ⟨.inl (v0 _), .inl (l0 _), .inl (m0 _), trivial⟩ ?_
      simp only [go_sem, Ct.v, Ct.cs]
      refine cF p1 6 ⟨.inl (v0 _), .inl (l0 _), .inl (m0 _), trivial⟩ ?_
      simp only [go_sem, Ct.v, Ct.cs, z1]
      refine dF q2 6 [2, 4] ⟨.inl (ct_frz (H := _) rfl), .inr ⟨rfl, rfl⟩, .inl (hfz _ rfl), trivial⟩ ?_
      simp only [go_sem, Ct.v, Ct.cs]
      refine cF p2 6 ⟨.inl (ct_frz (H := _) rfl), .inr ⟨rfl, rfl⟩, .inl (hfz _ rfl), trivial⟩ ?_
      simp only [go_sem, Ct.v, Ct.cs, z1]
      refine cP awake_ok ?_
      simp only [go_sem]
    · simp only [go_sem, Int.reduceBEq, hx, g1, u1, u2, u3, u4, u5, gs, List.set_set, List.length_map, Mx.v, Mx.cs]
      have hrow := mx_set way 0 ⟨z.carb, z.ox, z.ba + 1, z.lost⟩
      dsimp only at hrow
      try simp only [go_sem, hrow, gs, List.set_set]
      obtain ⟨b2, hb2⟩ := poss_bool (PossB m [] (way.set 0 ⟨z.carb, z.ox, z.ba + 1, z.lost⟩))
      have q2 := Possible_raw m (by omega) [] (by simp) (way.set 0 ⟨z.carb, z.ox, z.ba + 1, z.lost⟩) (by first | omega | (simp; done) | (simp; omega)) b2 hb2
      have p2 := rPossible_raw m (by omega) [] (by simp) (way.set 0 ⟨z.carb, z.ox, z.ba + 1, z.lost⟩) (by first | omega | (simp; done) | (simp; omega)) (fun m' hm' => by
        rcases List.mem_or_eq_of_mem_set hm' with h | rfl
        · exact hwW m' h
        · exact ⟨i64_of (by dsimp only; omega), i64_of (by dsimp only; omega), i64_of (by dsimp only; omega), i64_of (by dsimp only; omega)⟩) b2 hb2
      have ht : List.take 1 (way.set 0 ⟨z.carb, z.ox, z.ba + 1, z.lost⟩) = (way.set 0 ⟨z.carb, z.ox, z.ba + 1, z.lost⟩) := List.take_of_length_le (by first | omega | (simp; done) | (simp; omega))
      have hfz : ∀ H : Heap, H[4]? = some (some (.cells false 4 (List.map Mx.v (way.set 0 ⟨z.carb, z.ox, z.ba + 1, z.lost⟩)))) → frz 6 H (.sl 4 0 1) = .view (List.map Mx.v (way.set 0 ⟨z.carb, z.ox, z.ba + 1, z.lost⟩)) := fun H h => by
        have := way_frz' h (n := 1) (by first | omega | (simp; done) | (simp; omega))
        rw [ht] at this; exact this
      refine dF q1 6 [] ⟨.inl (v0 _), .inl (l0 _), .inl (m0 _), trivial⟩ ?_
      simp only [go_sem, Ct.v, Ct.cs]
      refine cF p1 6 ⟨.inl (v0 _), .inl (l0 _), .inl (m0 _), trivial⟩ ?_
      simp only [go_sem, Ct.v, Ct.cs, z1]
      refine dF q2 6 [2, 4] ⟨.inl (ct_frz (H := _) rfl), .inr ⟨rfl, rfl⟩, .inl (hfz _ rfl), trivial⟩ ?_
      simp only [go_sem, Ct.v, Ct.cs]
      refine cF p2 6 ⟨.inl (ct_frz (H := _) rfl), .inr ⟨rfl, rfl⟩, .inl (hfz _ rfl), trivial⟩ ?_
      simp only [go_sem, Ct.v, Ct.cs, z1]
      refine cP awake_ok ?_
      simp only [go_sem]
    · simp only [go_sem, Int.reduceBEq, hx, g1, List.length_map, Mx.v, Mx.cs]
      obtain ⟨b2, hb2⟩ := poss_bool (PossB m [] (way.take 0))
      have q2 := Possible_raw m (by omega) [] (by simp) (way.take 0) (by first | omega | (simp; done) | (simp; omega)) b2 hb2
      have p2 := rPossible_raw m (by omega) [] (by simp) (way.take 0) (by first | omega | (simp; done) | (simp; omega)) (fun m' hm' => hwW m' (List.mem_of_mem_take hm')) b2 hb2
      have hfz : ∀ H : Heap, H[4]? = some (some (.cells false 4 (List.map Mx.v way))) → frz 6 H (.view []) = .view (List.map Mx.v (way.take 0)) := fun H h => rfl
      refine dF q1 6 [] ⟨.inl (v0 _), .inl (l0 _), .inl (m0 _), trivial⟩ ?_
      simp only [go_sem, Ct.v, Ct.cs]
      refine cF p1 6 ⟨.inl (v0 _), .inl (l0 _), .inl (m0 _), trivial⟩ ?_
      simp only [go_sem, Ct.v, Ct.cs, z1]
      refine dF q2 6 [2, 4] ⟨.inl (ct_frz (H := _) rfl), .inr ⟨rfl, rfl⟩, .inl (hfz _ rfl), trivial⟩ ?_
      simp only [go_sem, Ct.v, Ct.cs]
      refine cF p2 6 ⟨.inl (ct_frz (H := _) rfl), .inr ⟨rfl, rfl⟩, .inl (hfz _ rfl), trivial⟩ ?_
      simp only [go_sem, Ct.v, Ct.cs, z1]
      refine cP awake_ok ?_
      simp only [go_sem]
    · simp only [go_sem, Int.reduceBEq, hx, g1, List.length_map, Mx.v, Mx.cs]
      obtain ⟨b2, hb2⟩ := poss_bool (PossB m [] way)
      have q2 := Possible_raw m (by omega) [] (by simp) way (by omega) b2 hb2
      have p2 := rPossible_raw m (by omega) [] (by simp) way (by omega) (hwW) b2 hb2
      have ht : List.take 1 way = way := List.take_of_length_le (by omega)
      have hfz : ∀ H : Heap, H[4]? = some (some (.cells false 4 (List.map Mx.v way))) → frz 6 H (.sl 4 0 1) = .view (List.map Mx.v way) := fun H h => by
        have := way_frz' h (n := 1) (by first | omega | (simp; done) | (simp; omega))
        rw [ht] at this; exact this
      refine dF q1 6 [] ⟨.inl (v0 _), .inl (l0 _), .inl (m0 _), trivial⟩ ?_
      simp only [go_sem, Ct.v, Ct.cs]
      refine cF p1 6 ⟨.inl (v0 _), .inl (l0 _), .inl (m0 _), trivial⟩ ?_
      simp only [go_sem, Ct.v, Ct.cs, z1]
      refine dF q2 6 [2, 4] ⟨.inl (ct_frz (H := _) rfl), .inr ⟨rfl, rfl⟩, .inl (hfz _ rfl), trivial⟩ ?_
      simp only [go_sem, Ct.v, Ct.cs]
      refine cF p2 6 ⟨.inl (ct_frz (H := _) rfl), .inr ⟨rfl, rfl⟩, .inl (hfz _ rfl), trivial⟩ ?_
      simp only [go_sem, Ct.v, Ct.cs, z1]
      refine cP awake_ok ?_
      simp only [go_sem]
  · have hne : List.map Ht.v p ≠ [] := by simpa using hnil
    have e1 : slv 3 (List.map Ht.v p) = .sl 3 0 p.length := by unfold slv; rw [if_neg hne, List.length_map]
    have e2 : slrG true 3 (List.map Ht.v p) = [some (.cells true 3 (List.map Ht.v p))] := by unfold slrG; rw [if_neg hne]
    simp only [go_sem, e1, e2]
    refine callR2 (courseOf_set w2 m hm p hps true hnil) (j0 := 1) (j1 := 2) (j2 := 3) (by simp only [go_sem, ren, rens, nth, Ct.v, Ct.cs]; rfl) ⟨by rw [bel_ptr]; decide, by rw [ct_bel, bel_sl]; decide, by rw [bel_sl]; decide, trivial⟩ rfl rfl rfl (by simp only [go_sem]) (by simp only [go_sem]) (by rw [row_bel_cells]; simp only [go_sem]) (by decide)
      (fun a ha => ⟨by rw [bel_sl], by simp only [go_sem], by rw [row_bel_cells]; simp only [go_sem]⟩) (by simp) (by simp) ?_
    rintro ⟨way, w3, wb⟩ ⟨mE, hway⟩
    dsimp only at hway
    have hwl := hway.len
    have hmx := fun q hq => crs_mix hm hps hway q hq
    have hk := mod_pos at' way.length (by omega)
    have hk0 : 0 ≤ at' % way.length ∧ at' % way.length < way.length := ⟨Int.emod_nonneg _ (by omega), Int.emod_lt_of_pos _ (by omega)⟩
    obtain ⟨k, hkk⟩ : ∃ k : Nat, at' % (way.length : Int) = k := ⟨(at' % (way.length : Int)).toNat, by omega⟩
    rw [hkk] at hk hk0
    have g1 : (k : Int) < way.length := by omega
    have g2 : ¬ (k : Int) < 0 := by omega
    have hx : way[k]? = some way[k] := List.getElem?_eq_getElem (by omega)
    have hmk := hmx k (by omega)
    generalize hz : way[k] = z at *
    have hma := hm.amount
    obtain ⟨x1, x2, x3, x4, x5⟩ := hmk
    have u1 : IntKind.i64.wrap (z.ox + 1) = z.ox + 1 := w64 (by omega)
    have u2 : IntKind.i64.wrap (z.carb - 1) = z.carb - 1 := w64 (by omega)
    have u3 : IntKind.i64.wrap (z.lost + 1) = z.lost + 1 := w64 (by omega)
    have u4 : IntKind.i64.wrap (z.ba - 1) = z.ba - 1 := w64 (by omega)
    have u5 : IntKind.i64.wrap (z.ba + 1) = z.ba + 1 := w64 (by omega)
    have gs : ∀ e, ((List.map Mx.v way).set k e)[k]? = some e := fun e => List.getElem?_set_self (by first | omega | (simp; done) | (simp; omega))
    have g3 : (k : Int) ≤ way.length := by omega
    have hwW : ∀ m' ∈ way, MxW m' := fun m' hm' => by
      obtain ⟨q, hq, rfl⟩ := List.mem_iff_getElem.1 hm'
      exact mx_w hm (hmx q hq)
    simp only [go_sem, ren, List.length_map]
    refine cP hk ?_
    simp only [go_sem]
    refine cP y1 ?_
    obtain rfl | rfl | rfl | rfl | rfl : s = 0 ∨ s = 1 ∨ s = 2 ∨ s = 3 ∨ s = 4 := by omega
    · simp only [go_sem, Int.reduceBEq, hx, g1, g2, u1, u2, u3, u4, u5, gs, List.set_set, List.length_map, Mx.v, Mx.cs]
      have hrow := mx_set way k ⟨z.carb - 1, z.ox + 1, z.ba, z.lost⟩
      dsimp only at hrow
      try simp only [go_sem, hrow, gs, List.set_set]
      obtain ⟨b2, hb2⟩ := poss_bool (PossB m p (way.set k ⟨z.carb - 1, z.ox + 1, z.ba, z.lost⟩))
      have q2 := Possible_raw m (by omega) p (by omega) (way.set k ⟨z.carb - 1, z.ox + 1, z.ba, z.lost⟩) (by first | omega | (simp; done) | (simp; omega)) b2 hb2
      have p2 := rPossible_raw m (by omega) p (by omega) (way.set k ⟨z.carb - 1, z.ox + 1, z.ba, z.lost⟩) (by first | omega | (simp; done) | (simp; omega)) (fun m' hm' => by
        rcases List.mem_or_eq_of_mem_set hm' with h | rfl
        · exact hwW m' h
        · exact ⟨i64_of (by dsimp only; omega), i64_of (by dsimp only; omega), i64_of (by dsimp only; omega), i64_of (by dsimp only; omega)⟩) b2 hb2
      have ht : List.take way.length (way.set k ⟨z.carb - 1, z.ox + 1, z.ba, z.lost⟩) = (way.set k ⟨z.carb - 1, z.ox + 1, z.ba, z.lost⟩) := List.take_of_length_le (by simp)
      have hfz : ∀ H : Heap, H[5]? = some (some (.cells false 4 (List.map Mx.v (way.set k ⟨z.carb - 1, z.ox + 1, z.ba, z.lost⟩)))) → frz 6 H (.sl 5 0 way.length) = .view (List.map Mx.v (way.set k ⟨z.carb - 1, z.ox + 1, z.ba, z.lost⟩)) := fun H h => by
        have := way_frz' h (n := way.length) (by simp)
        rw [ht] at this; exact this
      refine dF q1 6 [] ⟨.inl (v0 _), .inl (l0 _), .inl (m0 _), trivial⟩ ?_
      simp only [go_sem, Ct.v, Ct.cs]
      refine cF p1 6 ⟨.inl (v0 _), .inl (l0 _), .inl (m0 _), trivial⟩ ?_
      simp only [go_sem, Ct.v, Ct.cs, z1]
      refine dF q2 6 [2, 3, 5] ⟨.inl (ct_frz (H := _) rfl), .inl (sch_frz (H := _) rfl rfl), .inl (hfz _ rfl), trivial⟩ ?_
      simp only [go_sem, Ct.v, Ct.cs]
      refine cF p2 6 ⟨.inl (ct_frz (H := _) rfl), .inl (sch_frz (H := _) rfl rfl), .inl (hfz _ rfl), trivial⟩ ?_
      simp only [go_sem, Ct.v, Ct.cs, z1]
      refine cP awake_ok ?_
      simp only [go_sem]
    · simp only [go_sem, Int.reduceBEq, hx, g1, g2, u1, u2, u3, u4, u5, gs, List.set_set, List.length_map, Mx.v, Mx.cs]
      have hrow := mx_set way k ⟨z.carb, z.ox, z.ba - 1, z.lost + 1⟩
      dsimp only at hrow
      try simp only [go_sem, hrow, gs, List.set_set]
      obtain ⟨b2, hb2⟩ := poss_bool (PossB m p (way.set k ⟨z.carb, z.ox, z.ba - 1, z.lost + 1⟩))
      have q2 := Possible_raw m (by omega) p (by omega) (way.set k ⟨z.carb, z.ox, z.ba - 1, z.lost + 1⟩) (by first | omega | (simp; done) | (simp; omega)) b2 hb2
      have p2 := rPossible_raw m (by omega) p (by omega) (way.set k ⟨z.carb, z.ox, z.ba - 1, z.lost + 1⟩) (by first | omega | (simp; done) | (simp; omega)) (fun m' hm' => by
        rcases List.mem_or_eq_of_mem_set hm' with h | rfl
        · exact hwW m' h
        · exact ⟨i64_of (by dsimp only; omega), i64_of (by dsimp only; omega), i64_of (by dsimp only; omega), i64_of (by dsimp only; omega)⟩) b2 hb2
      have ht : List.take way.length (way.set k ⟨z.carb, z.ox, z.ba - 1, z.lost + 1⟩) = (way.set k ⟨z.carb, z.ox, z.ba - 1, z.lost + 1⟩) := List.take_of_length_le (by simp)
      have hfz : ∀ H : Heap, H[5]? = some (some (.cells false 4 (List.map Mx.v (way.set k ⟨z.carb, z.ox, z.ba - 1, z.lost + 1⟩)))) → frz 6 H (.sl 5 0 way.length) = .view (List.map Mx.v (way.set k ⟨z.carb, z.ox, z.ba - 1, z.lost + 1⟩)) := fun H h => by
        have := way_frz' h (n := way.length) (by simp)
        rw [ht] at this; exact this
      refine dF q1 6 [] ⟨.inl (v0 _), .inl (l0 _), .inl (m0 _), trivial⟩ ?_
      simp only [go_sem, Ct.v, Ct.cs]
      refine cF p1 6 ⟨.inl (v0 _), .inl (l0 _), .inl (m0 _), trivial⟩ ?_
      simp only [go_sem, Ct.v, Ct.cs, z1]
      refine dF q2 6 [2, 3, 5] ⟨.inl (ct_frz (H := _) rfl), .inl (sch_frz (H := _) rfl rfl), .inl (hfz _ rfl), trivial⟩ ?_
      simp only [go_sem, Ct.v, Ct.cs]
      refine cF p2 6 ⟨.inl (ct_frz (H := _) rfl), .inl (sch_frz (H := _) rfl rfl), .inl (hfz _ rfl), trivial⟩ ?_
      simp only [go_sem, Ct.v, Ct.cs, z1]
      refine cP awake_ok ?_
      simp only [go_sem]
    · simp only [go_sem, Int.reduceBEq, hx, g1, g2, u1, u2, u3, u4, u5, gs, List.set_set, List.length_map, Mx.v, Mx.cs]
      have hrow := mx_set way k ⟨z.carb, z.ox, z.ba + 1, z.lost⟩
      dsimp only at hrow
      try simp only [go_sem, hrow, gs, List.set_set]
      obtain ⟨b2, hb2⟩ := poss_bool (PossB m p (way.set k ⟨z.carb, z.ox, z.ba + 1, z.lost⟩))
      have q2 := Possible_raw m (by omega) p (by omega) (way.set k ⟨z.carb, z.ox, z.ba + 1, z.lost⟩) (by first | omega | (simp; done) | (simp; omega)) b2 hb2
      have p2 := rPossible_raw m (by omega) p (by omega) (way.set k ⟨z.carb, z.ox, z.ba + 1, z.lost⟩) (by first | omega | (simp; done) | (simp; omega)) (fun m' hm' => by
        rcases List.mem_or_eq_of_mem_set hm' with h | rfl
        · exact hwW m' h
        · exact ⟨i64_of (by dsimp only; omega), i64_of (by dsimp only; omega), i64_of (by dsimp only; omega), i64_of (by dsimp only; omega)⟩) b2 hb2
      have ht : List.take way.length (way.set k ⟨z.carb, z.ox, z.ba + 1, z.lost⟩) = (way.set k ⟨z.carb, z.ox, z.ba + 1, z.lost⟩) := List.take_of_length_le (by simp)
      have hfz : ∀ H : Heap, H[5]? = some (some (.cells false 4 (List.map Mx.v (way.set k ⟨z.carb, z.ox, z.ba + 1, z.lost⟩)))) → frz 6 H (.sl 5 0 way.length) = .view (List.map Mx.v (way.set k ⟨z.carb, z.ox, z.ba + 1, z.lost⟩)) := fun H h => by
        have := way_frz' h (n := way.length) (by simp)
        rw [ht] at this; exact this
      refine dF q1 6 [] ⟨.inl (v0 _), .inl (l0 _), .inl (m0 _), trivial⟩ ?_
      simp only [go_sem, Ct.v, Ct.cs]
      refine cF p1 6 ⟨.inl (v0 _), .inl (l0 _), .inl (m0 _), trivial⟩ ?_
      simp only [go_sem, Ct.v, Ct.cs, z1]
      refine dF q2 6 [2, 3, 5] ⟨.inl (ct_frz (H := _) rfl), .inl (sch_frz (H := _) rfl rfl), .inl (hfz _ rfl), trivial⟩ ?_
      simp only [go_sem, Ct.v, Ct.cs]
      refine cF p2 6 ⟨.inl (ct_frz (H := _) rfl), .inl (sch_frz (H := _) rfl rfl), .inl (hfz _ rfl), trivial⟩ ?_
      simp only [go_sem, Ct.v, Ct.cs, z1]
      refine cP awake_ok ?_
      simp only [go_sem]
    · simp only [go_sem, Int.reduceBEq, hx, g1, g2, g3, List.length_map, Mx.v, Mx.cs]
      obtain ⟨b2, hb2⟩ := poss_bool (PossB m p (way.take k))
      have q2 := Possible_raw m (by omega) p (by omega) (way.take k) (by first | omega | (simp; done) | (simp; omega)) b2 hb2
      have p2 := rPossible_raw m (by omega) p (by omega) (way.take k) (by first | omega | (simp; done) | (simp; omega)) (fun m' hm' => hwW m' (List.mem_of_mem_take hm')) b2 hb2
      have hfz : ∀ H : Heap, H[5]? = some (some (.cells false 4 (List.map Mx.v way))) → frz 6 H (if (0 : Int) = (k : Int) then .view [] else .sl 5 0 (k - 0)) = .view (List.map Mx.v (way.take k)) := fun H h => by
        by_cases h0 : k = 0
        · subst h0; rfl
        · rw [if_neg (by omega)]; exact way_frz' h (by omega)
      refine ⟨by omega, ?_⟩
      refine dF q1 6 [] ⟨.inl (v0 _), .inl (l0 _), .inl (m0 _), trivial⟩ ?_
      simp only [go_sem, Ct.v, Ct.cs]
      refine cF p1 6 ⟨.inl (v0 _), .inl (l0 _), .inl (m0 _), trivial⟩ ?_
      simp only [go_sem, Ct.v, Ct.cs, z1]
      refine dF q2 6 [2, 3, 5] ⟨.inl (ct_frz (H := _) rfl), .inl (sch_frz (H := _) rfl rfl), .inl (hfz _ rfl), trivial⟩ ?_
      simp only [go_sem, Ct.v, Ct.cs]
      refine cF p2 6 ⟨.inl (ct_frz (H := _) rfl), .inl (sch_frz (H := _) rfl rfl), .inl (hfz _ rfl), trivial⟩ ?_
      simp only [go_sem, Ct.v, Ct.cs, z1]
      refine cP awake_ok ?_
      simp only [go_sem]
    · simp only [go_sem, Int.reduceBEq, hx, g1, g2, List.length_map, Mx.v, Mx.cs]
      obtain ⟨b2, hb2⟩ := poss_bool (PossB m p way)
      have q2 := Possible_raw m (by omega) p (by omega) way (by omega) b2 hb2
      have p2 := rPossible_raw m (by omega) p (by omega) way (by omega) (hwW) b2 hb2
      have ht : List.take way.length way = way := List.take_of_length_le (Nat.le_refl _)
      have hfz : ∀ H : Heap, H[5]? = some (some (.cells false 4 (List.map Mx.v way))) → frz 6 H (.sl 5 0 way.length) = .view (List.map Mx.v way) := fun H h => by
        have := way_frz' h (n := way.length) (by simp)
        rw [ht] at this; exact this
      refine dF q1 6 [] ⟨.inl (v0 _), .inl (l0 _), .inl (m0 _), trivial⟩ ?_
      simp only [go_sem, Ct.v, Ct.cs]
      refine cF p1 6 ⟨.inl (v0 _), .inl (l0 _), .inl (m0 _), trivial⟩ ?_
      simp only [go_sem, Ct.v, Ct.cs, z1]
      refine dF q2 6 [2, 3, 5] ⟨.inl (ct_frz (H := _) rfl), .inl (sch_frz (H := _) rfl rfl), .inl (hfz _ rfl), trivial⟩ ?_
      simp only [go_sem, Ct.v, Ct.cs]
      refine cF p2 6 ⟨.inl (ct_frz (H := _) rfl), .inl (sch_frz (H := _) rfl rfl), .inl (hfz _ rfl), trivial⟩ ?_
      simp only [go_sem, Ct.v, Ct.cs, z1]
      refine cP awake_ok ?_
      simp only [go_sem]
end Go.Proofs
