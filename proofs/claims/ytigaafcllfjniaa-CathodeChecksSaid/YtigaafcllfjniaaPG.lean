/- A part of the proof. -/
import Derived.Test.YtigaafcllfjniaaPF
set_option linter.unusedSimpArgs false
set_option linter.unusedVariables false
namespace Go.Proofs
open Go Go.Sx
attribute [local irreducible] Run

theorem One_run (w n : Int) (hn : 1 ≤ n ∧ n ≤ 1000000) : Ans Try.prog n_kit_Dice_One [.ptr 0 0 0 1, .int .i64 n] [some (Dr w)] (.bool (upto w n == 0)) [some (Dr (dstep w))] := by
  refine spec_run e_kit_Dice_One fun G => ?_
  simp only [go_sem]
  refine cD (upto_ok w n (by omega)) ?_
  simp only [go_sem]
  exact ⟨_, rfl⟩

theorem cells_grow {H : Heap} {j : Nat} {r : Bool × Nat × List AVal} (h : H.cellsAt j = some r) (Y : Heap) : (H ++ Y).cellsAt j = some r := by
  unfold Heap.cellsAt at *
  rcases hj : H[j]? with _ | _ | x
  · rw [hj] at h; simp at h
  · rw [hj] at h; simp at h
  · rw [List.getElem?_append_left (List.getElem?_eq_some_iff.1 hj).1, hj]
    rw [hj] at h
    exact h

/-- What is compared in a round: the coat as it stands in a row, and as it is read. -/
structure Seen (H : Heap) (v : AVal) (c : Ct) : Prop where
  frz : ∀ Y, frz 6 (H ++ Y) v = c.v (.view (c.bands.map Bd.v))
  frzo : ∀ Y, Sx.frz 6 (Heap.onlyR (H ++ Y) [3]) v = c.v (.view (c.bands.map Bd.v))
  cells : ∃ s, v = c.v s
set_option maxRecDepth 20000 in
set_option maxHeartbeats 8000000 in
theorem tk_loop {G : Ctx} {R : AVal → Heap → Prop} (hR : ∀ X, R (.bool true) X) {H : Heap} {a b : Nat} {v0 v1 v2 : AVal} {c0 c1 c2 : Ct} {x0 x1 x2 : Cg} {heat cur : Int}
    (ha : H.cellsAt a = some (false, 7, [v0, v1, v2])) (hb : H.cellsAt b = some (false, 13, [x0.v, x1.v, x2.v])) (s0 : Seen H v0 c0) (s1 : Seen H v1 c1) (s2 : Seen H v2 c2)
    (hl0 : c0.bands.length ≤ 1000) (hl1 : c1.bands.length ≤ 1000) (hl2 : c2.bands.length ≤ 1000) (hla : a < H.length) (hlb : b < H.length) (hl3 : 3 < H.length) :
    Sx.Loop Try.prog G 0 none k_law03_CathodeTicks_r21 [.blk 0, .seq (.seq (.reg k_law03_CathodeTicks_r22 false) .ret)] ⟨tsets 134 [(2, .int .i64 heat), (3, .int .i64 cur), (10, .bool false), (16, .sl a 0 3), (17, .sl b 0 3), (18, .int .i64 0)], H, []⟩ (RetPost [.tmp 10] R) := by
  have b0 : ∀ x : Int, (x != x) = false := fun x => by simp
  obtain ⟨f0, o0, t0, rfl⟩ := s0
  have f0' := f0 []
  rw [List.append_nil] at f0'
  have g0 := Fresh_raw c0 hl0
  have r0 := rFresh_raw c0 hl0
  have u0 := Tick_raw c0 hl0 x0 heat cur
  have w0 := rTick_raw c0 hl0 x0 heat cur
  generalize freshV c0 = F0 at *
  generalize tickV c0 x0 heat cur = T0 at *
  obtain ⟨f1, o1, t1, rfl⟩ := s1
  have f1' := f1 []
  rw [List.append_nil] at f1'
  have g1 := Fresh_raw c1 hl1
  have r1 := rFresh_raw c1 hl1
  have u1 := Tick_raw c1 hl1 x1 heat cur
  have w1 := rTick_raw c1 hl1 x1 heat cur
  generalize freshV c1 = F1 at *
  generalize tickV c1 x1 heat cur = T1 at *
  obtain ⟨f2, o2, t2, rfl⟩ := s2
  have f2' := f2 []
  rw [List.append_nil] at f2'
  have g2 := Fresh_raw c2 hl2
  have r2 := rFresh_raw c2 hl2
  have u2 := Tick_raw c2 hl2 x2 heat cur
  have w2 := rTick_raw c2 hl2 x2 heat cur
  generalize freshV c2 = F2 at *
  generalize tickV c2 x2 heat cur = T2 at *
  have hHa := cells_grow ha
  have hHb := cells_grow hb
  have q1 : IntKind.i64.wrap 1 = 1 := rfl
  have q2 : IntKind.i64.wrap 2 = 2 := rfl
  have q3 : IntKind.i64.wrap 3 = 3 := rfl
  refine loop_body 3000 k_law03_CathodeTicks_r21.eq_1 ?_
  simp only [go_sem, tsets, ha, hb, hHa, hHb, Ct.v, Ct.cs, q1, q2, q3]
  refine cF g0 6 ⟨.inl (f0'), trivial⟩ ?_ (hr := by simp only [go_sem, Cg.v, Cg.cs]) (hnv := by simp only [go_sem, Cg.v, Cg.cs])
  simp only [go_sem, ha, hb, hHa, hHb, Ct.v, Ct.cs, Cg.v, Cg.cs]
  refine cF r0 6 ⟨.inl (f0 _), trivial⟩ ?_ (hr := by simp only [go_sem, Cg.v, Cg.cs]) (hnv := by simp only [go_sem, Cg.v, Cg.cs])
  simp only [go_sem, ha, hb, hHa, hHb, Ct.v, Ct.cs, Cg.v, Cg.cs]
  refine dF u0 6 [3] ⟨.inl (o0 _), .inl rfl, .inl rfl, .inl rfl, trivial⟩ ?_ (hr := by simp only [go_sem, Cg.v, Cg.cs]) (hnv := by simp only [go_sem, Cg.v, Cg.cs])
  simp only [go_sem, ha, hb, hHa, hHb, Ct.v, Ct.cs, Cg.v, Cg.cs]
  refine ⟨by simp <;> omega, ?_⟩
  refine dF w0 6 [3] ⟨.inl (o0 _), .inl rfl, .inl rfl, .inl rfl, trivial⟩ ?_ (hr := by simp only [go_sem, Cg.v, Cg.cs]) (hnv := by simp only [go_sem, Cg.v, Cg.cs])
  simp only [go_sem, ha, hb, hHa, hHb, Ct.v, Ct.cs, Cg.v, Cg.cs]
  refine ⟨by simp <;> omega, ?_⟩
  refine loop_body 3000 k_law03_CathodeTicks_r21.eq_1 ?_
  simp only [go_sem, tsets, ha, hb, hHa, hHb, Ct.v, Ct.cs, q1, q2, q3]
  refine cF g1 6 ⟨.inl (f1 _), trivial⟩ ?_ (hr := by simp only [go_sem, Cg.v, Cg.cs]) (hnv := by simp only [go_sem, Cg.v, Cg.cs])
  simp only [go_sem, ha, hb, hHa, hHb, Ct.v, Ct.cs, Cg.v, Cg.cs]
  refine cF r1 6 ⟨.inl (f1 _), trivial⟩ ?_ (hr := by simp only [go_sem, Cg.v, Cg.cs]) (hnv := by simp only [go_sem, Cg.v, Cg.cs])
  simp only [go_sem, ha, hb, hHa, hHb, Ct.v, Ct.cs, Cg.v, Cg.cs]
  refine dF u1 6 [3] ⟨.inl (o1 _), .inl rfl, .inl rfl, .inl rfl, trivial⟩ ?_ (hr := by simp only [go_sem, Cg.v, Cg.cs]) (hnv := by simp only [go_sem, Cg.v, Cg.cs])
  simp only [go_sem, ha, hb, hHa, hHb, Ct.v, Ct.cs, Cg.v, Cg.cs]
  refine ⟨by simp <;> omega, ?_⟩
  refine dF w1 6 [3] ⟨.inl (o1 _), .inl rfl, .inl rfl, .inl rfl, trivial⟩ ?_ (hr := by simp only [go_sem, Cg.v, Cg.cs]) (hnv := by simp only [go_sem, Cg.v, Cg.cs])
  simp only [go_sem, ha, hb, hHa, hHb, Ct.v, Ct.cs, Cg.v, Cg.cs]
  refine ⟨by simp <;> omega, ?_⟩
  refine loop_body 3000 k_law03_CathodeTicks_r21.eq_1 ?_
  simp only [go_sem, tsets, ha, hb, hHa, hHb, Ct.v, Ct.cs, q1, q2, q3]
  refine cF g2 6 ⟨.inl (f2 _), trivial⟩ ?_ (hr := by simp only [go_sem, Cg.v, Cg.cs]) (hnv := by simp only [go_sem, Cg.v, Cg.cs])
  simp only [go_sem, ha, hb, hHa, hHb, Ct.v, Ct.cs, Cg.v, Cg.cs]
  refine cF r2 6 ⟨.inl (f2 _), trivial⟩ ?_ (hr := by simp only [go_sem, Cg.v, Cg.cs]) (hnv := by simp only [go_sem, Cg.v, Cg.cs])
  simp only [go_sem, ha, hb, hHa, hHb, Ct.v, Ct.cs, Cg.v, Cg.cs]
  refine dF u2 6 [3] ⟨.inl (o2 _), .inl rfl, .inl rfl, .inl rfl, trivial⟩ ?_ (hr := by simp only [go_sem, Cg.v, Cg.cs]) (hnv := by simp only [go_sem, Cg.v, Cg.cs])
  simp only [go_sem, ha, hb, hHa, hHb, Ct.v, Ct.cs, Cg.v, Cg.cs]
  refine ⟨by simp <;> omega, ?_⟩
  refine dF w2 6 [3] ⟨.inl (o2 _), .inl rfl, .inl rfl, .inl rfl, trivial⟩ ?_ (hr := by simp only [go_sem, Cg.v, Cg.cs]) (hnv := by simp only [go_sem, Cg.v, Cg.cs])
  simp only [go_sem, ha, hb, hHa, hHb, Ct.v, Ct.cs, Cg.v, Cg.cs]
  refine ⟨by simp <;> omega, ?_⟩
  refine loop_body 3000 k_law03_CathodeTicks_r21.eq_1 ?_
  simp only [go_sem, tsets, ha, hb, hHa, hHb, Ct.v, Ct.cs, q1, q2, q3]
  refine cP awake_ok ?_
  simp only [go_sem]
  exact hR _
end Go.Proofs
namespace Go.Proofs
open Go Go.Sx
attribute [local irreducible] Run

set_option maxRecDepth 20000 in
set_option maxHeartbeats 8000000 in
theorem ticks_ok (c : Ct) (x : Cg) (heat cur : Int) (xs : List Int) (hl : xs.length ≤ 9223372036854775807) : Ans Try.prog n_law03_CathodeTicks [c.v (.view (c.bands.map Bd.v)), x.v, .int .i64 heat, .int .i64 cur, .view (xs.map (.int .i64))] [] (.bool true) [] := by
  have hd := newdice_ok xs hl
  generalize seedW xs = w at *
  refine spec_run e_law03_CathodeTicks fun G => ?_
  simp only [go_sem, Ct.v, Ct.cs, Cg.v, Cg.cs, List.length_map]
  refine ⟨fun hbig => ?_, fun hbig => ?_⟩
  · refine cP awake_ok ?_
    simp only [go_sem]
    try simp
  refine callN1 hd ⟨by rw [bel_view]; exact bels_map _ _ fun _ => .int _ _, trivial⟩ (dr_bel _ _) (by simp) (by simp) ?_
  simp only [go_sem]
  refine callDN (coatOf_run w) rfl trivial (dr_bel _ _) (fun a ha => ⟨by simp only [go_sem], by simp only [go_sem], by simp only [go_sem]⟩) (by simp) (by simp) ?_
  rintro ⟨m, w1⟩ hm
  dsimp only at hm
  have hsd := scheduleOf_det w1 6 9 (by decide) (by decide)
  have hsc := schedOf_sch w1 6 9 (by decide) (by decide)
  generalize schedOf w1 6 9 = S at *
  obtain ⟨l, w2⟩ := S
  dsimp only at hsd hsc
  have hls := hsc.ok (by decide) (by decide) (by decide)
  have hone := One_run w2 20 (by decide)
  generalize (upto w2 20 == 0) = ob at hone
  have c0 : c.bands.length ≤ 1000 := by omega
  have c1 : m.bands.length ≤ 1000 := by have := hm.len; omega
  have v0 : ∀ (H : Heap), frz 6 H (c.v (.view (c.bands.map Bd.v))) = c.v (.view (c.bands.map Bd.v)) := fun H => by simp only [go_sem, frz, bds_frz, Ct.v, Ct.cs]
  simp only [go_sem, Ct.v, Ct.cs, ren, rens]
  by_cases hnil : l = []
  · have e1 : slv 1 (List.map Ht.v l) = .nilsl := by rw [hnil]; rfl
    have e2 : slrG false 3 (List.map Ht.v l) = [] := by rw [hnil]; rfl
    rw [e1, e2] at hsd
    refine dD hsd ?_
    simp only [go_sem]
    refine cF (rFollow_nil m hm) 6 ⟨.inl (ct_frz (H := _) rfl), .inr ⟨rfl, rfl⟩, trivial⟩ ?_
    simp only [go_sem, Cg.v, Cg.cs]
    refine cD hone ?_
    cases ob
    · simp only [go_sem, Ct.v, Ct.cs, Cg.v, Cg.cs]
      refine loop_wk (ρ' := tsets 134 [(2, .int .i64 heat), (3, .int .i64 cur), (10, .bool false), (16, .sl 6 0 3), (17, .sl 7 0 3), (18, .int .i64 0)]) (by simp [go_sem]) ?_
      refine tk_loop (fun X => by simp) (a := 6) (b := 7) (v0 := c.v (.view (c.bands.map Bd.v))) (v1 := m.v (.sl 3 0 m.bands.length)) (v2 := m.v (.sl 3 0 m.bands.length)) (c0 := c) (c1 := m) (c2 := m) (x0 := x) (x1 := x) (x2 := x) ?_ ?_ ?_ ?_ ?_ c0 c1 c1 ?_ ?_ ?_
      · rfl
      · rfl
      · exact ⟨fun Y => v0 _, fun Y => v0 _, _, rfl⟩
      · exact ⟨fun Y => ct_frz rfl, fun Y => ct_frz rfl, _, rfl⟩
      · exact ⟨fun Y => ct_frz rfl, fun Y => ct_frz rfl, _, rfl⟩
      · simp
      · simp
      · simp
    · simp only [go_sem, Ct.v, Ct.cs, Cg.v, Cg.cs]
      refine loop_wk (ρ' := tsets 134 [(2, .int .i64 heat), (3, .int .i64 cur), (10, .bool false), (16, .sl 6 0 3), (17, .sl 7 0 3), (18, .int .i64 0)]) (by simp [go_sem]) ?_
      refine tk_loop (fun X => by simp) (a := 6) (b := 7) (v0 := c.v (.view (c.bands.map Bd.v))) (v1 := m.v (.sl 3 0 m.bands.length)) (v2 := m.v (.sl 3 0 m.bands.length)) (c0 := c) (c1 := m) (c2 := m) (x0 := x) (x1 := x) (x2 := { x with wear := ⟨x.wear.lo, 1099511627776⟩ }) ?_ ?_ ?_ ?_ ?_ c0 c1 c1 ?_ ?_ ?_
      · rfl
      · rfl
      · exact ⟨fun Y => v0 _, fun Y => v0 _, _, rfl⟩
      · exact ⟨fun Y => ct_frz rfl, fun Y => ct_frz rfl, _, rfl⟩
      · exact ⟨fun Y => ct_frz rfl, fun Y => ct_frz rfl, _, rfl⟩
      · simp
      · simp
      · simp
  have hne : List.map Ht.v l ≠ [] := by simpa using hnil
  refine dDs hsd hne rfl ⟨.int _ _, .int _ _, trivial⟩ (dr_bel _ _) (dr_bel _ _) (by simp only [go_sem]) (by simp) ?_ ?_
  · simp only [go_sem]
  simp only [go_sem, List.length_map]
  have hF := rFollow_run m hm l hls hnil
  have hfl : (follow m l).length = l.length := followX_len m _ _
  have hlp : 0 < l.length := List.length_pos_iff.2 hnil
  have hlen := hls.len
  have hy : (follow m l)[l.length - 1]? = some ((follow m l).getD (l.length - 1) default) := by
    rw [List.getD_eq_getElem?_getD, List.getElem?_eq_getElem (by rw [hfl]; omega)]; rfl
  generalize follow m l = F at *
  generalize F.getD (l.length - 1) default = y at *
  have g0 : (0 : Int) < l.length := by omega
  have g1 : IntKind.i64.wrap ((l.length : Int) - 1) = ((l.length - 1 : Nat) : Int) := by rw [w64 (by omega)]; omega
  have g2 : ¬ ((l.length - 1 : Nat) : Int) < 0 := by omega
  have g3 : ((l.length - 1 : Nat) : Int) < l.length := by omega
  refine cFN hF 6 ⟨.inl (ct_frz (H := _) rfl), .inl (sch_frz (H := _) rfl rfl), trivial⟩ ?_
  simp only [go_sem, ren, rens, CgR, List.length_map, hfl, g0, g1, g2, g3, hy, Cg.v, Cg.cs]
  refine cD hone ?_
  cases ob
  · simp only [go_sem, Ct.v, Ct.cs, Cg.v, Cg.cs]
    refine loop_wk (ρ' := tsets 134 [(2, .int .i64 heat), (3, .int .i64 cur), (10, .bool false), (16, .sl 8 0 3), (17, .sl 9 0 3), (18, .int .i64 0)]) (by simp [go_sem]) ?_
    refine tk_loop (fun X => by simp) (a := 8) (b := 9) (v0 := c.v (.view (c.bands.map Bd.v))) (v1 := m.v (.sl 3 0 m.bands.length)) (v2 := m.v (.sl 3 0 m.bands.length)) (c0 := c) (c1 := m) (c2 := m) (x0 := x) (x1 := x) (x2 := y) ?_ ?_ ?_ ?_ ?_ c0 c1 c1 ?_ ?_ ?_
    · rfl
    · rfl
    · exact ⟨fun Y => v0 _, fun Y => v0 _, _, rfl⟩
    · exact ⟨fun Y => ct_frz rfl, fun Y => ct_frz rfl, _, rfl⟩
    · exact ⟨fun Y => ct_frz rfl, fun Y => ct_frz rfl, _, rfl⟩
    · simp
    · simp
    · simp
  · simp only [go_sem, Ct.v, Ct.cs, Cg.v, Cg.cs]
    refine loop_wk (ρ' := tsets 134 [(2, .int .i64 heat), (3, .int .i64 cur), (10, .bool false), (16, .sl 8 0 3), (17, .sl 9 0 3), (18, .int .i64 0)]) (by simp [go_sem]) ?_
    refine tk_loop (fun X => by simp) (a := 8) (b := 9) (v0 := c.v (.view (c.bands.map Bd.v))) (v1 := m.v (.sl 3 0 m.bands.length)) (v2 := m.v (.sl 3 0 m.bands.length)) (c0 := c) (c1 := m) (c2 := m) (x0 := x) (x1 := x) (x2 := { y with wear := ⟨y.wear.lo, 1099511627776⟩ }) ?_ ?_ ?_ ?_ ?_ c0 c1 c1 ?_ ?_ ?_
    · rfl
    · rfl
    · exact ⟨fun Y => v0 _, fun Y => v0 _, _, rfl⟩
    · exact ⟨fun Y => ct_frz rfl, fun Y => ct_frz rfl, _, rfl⟩
    · exact ⟨fun Y => ct_frz rfl, fun Y => ct_frz rfl, _, rfl⟩
    · simp
    · simp
    · simp
end Go.Proofs
namespace Go.Proofs
open Go Go.Sx
attribute [local irreducible] Run

set_option maxHeartbeats 2000000 in
theorem scheduleOf_big (w most ticks : Int) (hm : 0 ≤ most ∧ most ≤ 60) (ht : 1 ≤ ticks ∧ ticks ≤ 2000) :
    AnsE Try.prog n_kit_ScheduleOf [.ptr 0 0 0 1, .int .i64 most, .int .i64 ticks] [some (Dr w)] (fun a : List Ht × Int => Sch a.1 most ticks) (fun a => slv 1 (a.1.map Ht.v)) (fun a => some (Dr a.2) :: slr 3 (a.1.map Ht.v)) := by
  have hu := upto_ok w (most + 1) (by omega)
  have hq := upto_in (w := w) (n := most + 1) (by omega)
  have u0 : IntKind.i64.wrap (most + 1) = most + 1 := w64 (by omega)
  generalize upto w (most + 1) = n at *
  refine AnsE.keep (run_fn e_kit_ScheduleOf fun G => ?_) (fun a ha => ⟨by simp, ?_, by simp only [go_sem], ?_⟩)
  rotate_left
  · unfold slv slr slrG
    split
    · exact .nilsl
    · rw [bel_sl]; simp
  · unfold slr slrG
    split
    · trivial
    · exact ⟨by rw [row_bel_cells]; simp only [go_sem], trivial⟩
  obtain ⟨z, zok, zt, ze, zs1, zq1, zn2, zs2, zq3, zn4⟩ := heating_run (dstep w) ticks ht
  have zn1 : ¬ upto (dstep (dstep (dstep (dstep w)))) 3 < 0 := by omega
  have zn3 : ¬ upto (dstep (dstep (dstep (dstep (dstep (dstep (dstep w))))))) 3 < 0 := by omega
  have p44 : 24 ≤ 2 ^ 44 := by decide
  have u1 : IntKind.i64.wrap (n - 1) = n - 1 := w64 (by omega)
  by_cases hn : 0 < n
  · simp only [go_sem, u0]
    refine cD hu ?_
    simp only [go_sem]
    refine loop_body 200 k_kit_ScheduleOf_r6.eq_1 ?_
    simp only [go_sem, hn]
    refine dD (between_ok _ 1 ticks (by decide) ht.1 (by omega)) ?_
    simp only [go_sem]
    refine dD (between_ok _ 0 800 (by decide) (by decide) (by decide)) ?_
    simp only [go_sem]
    refine dD (between_ok _ 600 2000 (by decide) (by decide) (by decide)) ?_
    simp only [go_sem]
    refine dD (upto_ok _ 3 (by decide)) ?_
    simp only [go_sem, zn1, zn2, zs1]
    refine dD (upto_ok _ 50 (by decide)) ?_
    simp only [go_sem]
    refine dD (upto_ok _ 1001 (by decide)) ?_
    simp only [go_sem]
    refine dD (upto_ok _ 3 (by decide)) ?_
    simp only [go_sem, zn3, zn4, zs2, p44]
    simp only [u1]
    generalize some (Row.cells false 1 [.int .i64 (btw (dstep (dstep w)) 0 800), .int .i64 (btw (dstep (dstep (dstep w))) 600 2000), .int .i64 300]) = Y1
    generalize some (Row.cells false 1 [.int .i64 0, .int .i64 (upto (dstep (dstep (dstep (dstep (dstep w))))) 50), .int .i64 (upto (dstep (dstep (dstep (dstep (dstep (dstep w)))))) 1001)]) = Y2
    have e0 : [AVal.agg [.int .i64 (btw (dstep w) 1 ticks), .int .i64 z.heat, .int .i64 z.cur]] = List.map Ht.v [z] := by rw [← ze]; rfl
    rw [e0]
    refine loop_ind k_kit_ScheduleOf_r6.eq_1 (fun a : Int × Int × List Ht × Heap => 0 ≤ a.1 ∧ a.2.2.1.length + a.1 ≤ most ∧ 1 ≤ a.2.2.1.length ∧ Sch a.2.2.1 most ticks) (fun a => a.1.toNat)
      (fun a => (tsets 43 [(0, .ptr 0 0 0 1), (1, .int .i64 most), (2, .int .i64 ticks), (6, .nilsl), (7, .sl 4 0 a.2.2.1.length), (8, .int .i64 a.1)],
        some (Dr a.2.1) :: Y1 :: Y2 :: some (.cells false 3 (List.map Ht.v [z])) :: some (.cells true 3 (a.2.2.1.map Ht.v)) :: a.2.2.2))
      (n - 1, _, [z], []) ⟨by dsimp only; omega, by simp; omega, by simp, ⟨by simp; omega, fun x hx => by simp at hx; subst hx; exact ⟨zok, zt⟩⟩⟩ (by simp [go_sem]) rfl ?_
    rintro ⟨i, w', l, X⟩ ⟨hi0, hil, hl1, hl⟩ ih
    dsimp only at hi0 hil hl1 hl ih ⊢
    by_cases c1 : 0 < i
    · obtain ⟨y, yok, yt, ye, ys1, yq1, yn2, ys2, yq3, yn4⟩ := heating_run w' ticks ht
      have yn1 : ¬ upto (dstep (dstep (dstep w'))) 3 < 0 := by omega
      have yn3 : ¬ upto (dstep (dstep (dstep (dstep (dstep (dstep w')))))) 3 < 0 := by omega
      have v1 : IntKind.i64.wrap (i - 1) = i - 1 := w64 (by omega)
      have q44 : (l.length + 1) * 24 ≤ 2 ^ 44 := by omega
      have e1 : ∀ xs : List Ht, List.map Ht.v xs ++ [AVal.agg [.int .i64 (btw w' 1 ticks), .int .i64 y.heat, .int .i64 y.cur]] = List.map Ht.v (xs ++ [y]) := fun xs => by rw [← ye]; exact ht_snoc xs y
      simp only [go_sem, c1]
      refine dD (between_ok _ 1 ticks (by decide) ht.1 (by omega)) ?_
      simp only [go_sem]
      repeat refine ⟨by first | omega | (simp; done) | (simp; omega), ?_⟩
      refine dD (between_ok _ 0 800 (by decide) (by decide) (by decide)) ?_
      simp only [go_sem]
      repeat refine ⟨by first | omega | (simp; done) | (simp; omega), ?_⟩
      refine dD (between_ok _ 600 2000 (by decide) (by decide) (by decide)) ?_
      simp only [go_sem]
      repeat refine ⟨by first | omega | (simp; done) | (simp; omega), ?_⟩
      refine dD (upto_ok _ 3 (by decide)) ?_
      simp only [go_sem, yn1, yn2, ys1]
      repeat refine ⟨by first | omega | (simp; done) | (simp; omega), ?_⟩
      refine dD (upto_ok _ 50 (by decide)) ?_
      simp only [go_sem]
      repeat refine ⟨by first | omega | (simp; done) | (simp; omega), ?_⟩
      refine dD (upto_ok _ 1001 (by decide)) ?_
      simp only [go_sem]
      repeat refine ⟨by first | omega | (simp; done) | (simp; omega), ?_⟩
      refine dD (upto_ok _ 3 (by decide)) ?_
      simp only [go_sem, yn3, yn4, ys2, q44]
      repeat refine ⟨by first | omega | (simp; done) | (simp; omega), ?_⟩
      simp only [e1, v1]
      rw [show l.length + 1 = (l ++ [y]).length by simp]
      exact ih (i - 1, _, l ++ [y], _) (by dsimp only; omega) ⟨by dsimp only; omega, by simp; omega, by simp, hl.snoc ⟨yok, yt⟩ (by omega)⟩ _ (by simp [go_sem])
    · simp only [go_sem, c1]
      refine ⟨(l, w'), hl, ?_⟩
      have hne : List.map Ht.v l ≠ [] := fun h => by
        have : l.length = 0 := by simpa using congrArg List.length h
        omega
      simp only [slv, slr, slrG, hne, if_false]
      exact kept_two 4 (by decide) (by simp [ren]) (by simp only [go_sem]) (by rw [row_bel_cells]; simp only [go_sem]) rfl rfl
  · simp only [go_sem, u0]
    refine cD hu ?_
    simp only [go_sem]
    refine loop_body 200 k_kit_ScheduleOf_r6.eq_1 ?_
    simp only [go_sem, hn]
    exact ⟨([], dstep w), ⟨by simp; omega, fun x hx => by simp at hx⟩, fun i => i, ⟨fun i hi => rfl, fun i j _ _ h => h, rfl, fun i x hx => by
      match i, hx with
      | 0, hx => simp [slr, slrG] at hx; subst hx; rfl
      | i + 1, hx => simp [slr, slrG] at hx⟩⟩

theorem bool_of (P : Prop) : ∃ b : Bool, b = true ↔ P := by
  by_cases h : P
  · exact ⟨true, by simp [h]⟩
  · exact ⟨false, by simp [h]⟩

set_option maxRecDepth 20000 in
set_option maxHeartbeats 16000000 in
theorem checks_ok (c o : Ct) (x : Cg) (l : List Ht) (xs : List Int) (h : Ht) (hxs : xs.length ≤ 9223372036854775807) : Ans Try.prog n_law03_CathodeChecks [c.v (.view (c.bands.map Bd.v)), o.v (.view (o.bands.map Bd.v)), x.v, .view (l.map Ht.v), .view (xs.map (.int .i64)), h.v] [] (.bool true) [] := by
  have hd := newdice_ok xs hxs
  generalize seedW xs = w at *
  refine spec_run e_law03_CathodeChecks fun G => ?_
  by_cases k1 : (30 : Int) < c.bands.length
  · simp only [go_sem, Ct.v, Ct.cs, Cg.v, Cg.cs, Ht.v, Ht.cs, List.length_map, k1]
    refine cP awake_ok ?_
    simp only [go_sem]
  by_cases k2 : (30 : Int) < o.bands.length
  · simp only [go_sem, Ct.v, Ct.cs, Cg.v, Cg.cs, Ht.v, Ht.cs, List.length_map, k1, k2]
    refine cP awake_ok ?_
    simp only [go_sem]
  by_cases k3 : (60 : Int) < l.length
  · simp only [go_sem, Ct.v, Ct.cs, Cg.v, Cg.cs, Ht.v, Ht.cs, List.length_map, k1, k2, k3]
    refine cP awake_ok ?_
    simp only [go_sem]
  have c0 : c.bands.length ≤ 1000 := by omega
  have o0 : o.bands.length ≤ 1000 := by omega
  have l0 : l.length ≤ 1000 := by omega
  simp only [go_sem, Ct.v, Ct.cs, Cg.v, Cg.cs, Ht.v, Ht.cs, List.length_map, k1, k2, k3]
  refine callN1 hd ⟨by rw [bel_view]; exact bels_map _ _ fun _ => .int _ _, trivial⟩ (dr_bel _ _) (by simp) (by simp) ?_
  simp only [go_sem]
  refine callDN (coatOf_run w) rfl trivial (dr_bel _ _) (fun a ha => ⟨by simp only [go_sem], by simp only [go_sem], by simp only [go_sem]⟩) (by simp) (by simp) ?_
  rintro ⟨m, w1⟩ hm
  dsimp only at hm
  have m0 : m.bands.length ≤ 1000 := by have := hm.len; omega
  simp only [go_sem, Ct.v, Ct.cs, ren, rens]
  refine callDS (scheduleOf_big w1 41 2000 (by decide) (by decide)) rfl ⟨.int _ _, .int _ _, trivial⟩ (dr_bel _ _) (fun a ha => ⟨by simp only [go_sem], by simp only [go_sem]⟩) (by simp) (by simp) ?_
  rintro ⟨p, w2⟩ hp
  dsimp only at hp
  have q1 : IntKind.i64.wrap 1 = 1 := rfl
  have q2 : IntKind.i64.wrap 2 = 2 := rfl
  have p0 : p.length ≤ 1000 := by have := hp.len; omega
  have z0 : ∀ a : Int, (a != a) = false := fun a => by simp
  have zb : ∀ a : Bool, (a == a) = true := fun a => by simp
  have v0 : ∀ (H : Heap), frz 6 H (c.v (.view (c.bands.map Bd.v))) = c.v (.view (c.bands.map Bd.v)) := fun H => by simp only [go_sem, frz, bds_frz, Ct.v, Ct.cs]
  have v1 : ∀ (H : Heap), frz 6 H (o.v (.view (o.bands.map Bd.v))) = o.v (.view (o.bands.map Bd.v)) := fun H => by simp only [go_sem, frz, bds_frz, Ct.v, Ct.cs]
  have v2 : ∀ (H : Heap), frz 6 H (.view (l.map Ht.v)) = .view (l.map Ht.v) := fun H => by
    show AVal.view ((l.map Ht.v).map (frz 5 H)) = _
    rw [hts_frz]
  by_cases hnil : p = []
  · have e1 : slv 6 (List.map Ht.v p) = .nilsl := by rw [hnil]; rfl
    have e2 : slrG true 3 (List.map Ht.v p) = [] := by rw [hnil]; rfl
    simp only [go_sem, e1, e2, Ct.v, Ct.cs]
    refine loop_body 3000 k_law03_CathodeChecks_r24.eq_1 ?_
    simp only [go_sem, Ct.v, Ct.cs, Cg.v, Cg.cs, z0, zb, q1, q2, ren, rens]
    refine cFN (rCopy_raw c c0) 6 ⟨.inl (v0 _), trivial⟩ ?_ (hr := by simp [go_sem, Ct.v, Ct.cs]) (hnv := by simp only [go_sem, Ct.v, Ct.cs])
    simp only [go_sem, Ct.v, Ct.cs, Cg.v, Cg.cs, z0, zb, q1, q2, ren, rens]
    refine dF (Check_raw c c0) 6 [9] ⟨.inl (ct_frz (H := _) rfl), trivial⟩ ?_
    simp only [go_sem, Ct.v, Ct.cs, Cg.v, Cg.cs, z0, zb, q1, q2, ren, rens]
    refine cF (rCheck_raw c c0) 6 ⟨.inl (v0 _), trivial⟩ ?_
    simp only [go_sem, Ct.v, Ct.cs, Cg.v, Cg.cs, z0, zb, q1, q2, ren, rens]
    refine dF (CheckCoating_raw c c0 x) 6 [9] ⟨.inl (ct_frz (H := _) rfl), .inl rfl, trivial⟩ ?_
    simp only [go_sem, Ct.v, Ct.cs, Cg.v, Cg.cs, z0, zb, q1, q2, ren, rens]
    refine cF (rCheckCoating_raw c c0 x) 6 ⟨.inl (v0 _), .inl rfl, trivial⟩ ?_
    simp only [go_sem, Ct.v, Ct.cs, Cg.v, Cg.cs, z0, zb, q1, q2, ren, rens]
    refine dF (CheckSchedule_raw l l0) 6 [] ⟨.inl (v2 _), trivial⟩ ?_
    simp only [go_sem, Ct.v, Ct.cs, Cg.v, Cg.cs, z0, zb, q1, q2, ren, rens]
    refine cF (rCheckSchedule_raw l l0) 6 ⟨.inl (v2 _), trivial⟩ ?_
    simp only [go_sem, Ct.v, Ct.cs, Cg.v, Cg.cs, z0, zb, q1, q2, ren, rens]
    obtain ⟨b0, hb0⟩ := bool_of (c = o)
    refine dF (Same_raw c o c0 b0 hb0) 6 [9] ⟨.inl (ct_frz (H := _) rfl), .inl (v1 _), trivial⟩ ?_
    simp only [go_sem, Ct.v, Ct.cs, Cg.v, Cg.cs, z0, zb, q1, q2, ren, rens]
    refine cF (rSame_raw c o c0 b0 hb0) 6 ⟨.inl (v0 _), .inl (v1 _), trivial⟩ ?_
    simp only [go_sem, Ct.v, Ct.cs, Cg.v, Cg.cs, z0, zb, q1, q2, ren, rens]
    refine callC (Copy_raw c c0) (j := 9) (by simp only [go_sem, ren, rens, nth, Ct.v, Ct.cs]; rfl) ⟨by rw [ct_bel, bel_sl]; decide, trivial⟩ rfl (by simp only [go_sem]) (by simp only [go_sem]) (by rw [ct_bel, bel_sl]) (by simp) (by simp) ?_
    simp only [go_sem, Ct.v, Ct.cs, Cg.v, Cg.cs, z0, zb, q1, q2, ren, rens]
    refine cF (rSame_raw c c c0 true ⟨fun _ => rfl, fun _ => rfl⟩) 6 ⟨.inl (ct_frz (H := _) rfl), .inl (v0 _), trivial⟩ ?_
    simp only [go_sem, Ct.v, Ct.cs, Cg.v, Cg.cs, z0, zb, q1, q2, ren, rens]
    refine cF (Same_raw c c c0 true ⟨fun _ => rfl, fun _ => rfl⟩) 6 ⟨.inl (ct_frz (H := _) rfl), .inl (ct_frz (H := _) rfl), trivial⟩ ?_
    simp only [go_sem, Ct.v, Ct.cs, Cg.v, Cg.cs, z0, zb, q1, q2, ren, rens]
    refine loop_ind k_law03_CathodeChecks_r20.eq_1 (fun a : Nat × List Bd => a.1 ≤ c.bands.length ∧ a.2.length = c.bands.length) (fun a => c.bands.length - a.1)
      (fun a => (tsets 160 [(7, .ptr 1 0 0 1), (8, .ptr 2 0 0 1), (16, .sl 7 0 2), (17, .sl 8 0 2), (18, .int .i64 0), (19, .ptr 10 0 0 1), (20, .ptr 12 0 0 1), (21, .int .i64 a.1)],
        [some (.cells false 7 [c.v (.view (c.bands.map Bd.v))]), some (.cells false 7 [o.v (.view (o.bands.map Bd.v))]), some (.cells false 13 [x.v]), some (.cells false 3 [h.v]), some (Dr w2), some (BdR m.bands), some (.cells false 7 [m.v (.sl 5 0 m.bands.length)]), some (.cells false 7 [c.v (.view (c.bands.map Bd.v)), m.v (.sl 5 0 m.bands.length)]), some (.cells false 1 [.view (l.map Ht.v), .nilsl]), some (BdR c.bands), some (.cells false 7 [c.v (.sl 9 0 c.bands.length)]), some (.cells true 9 (a.2.map Bd.v)), some (.cells false 7 [c.v (.sl 11 0 c.bands.length)])])) (0, c.bands) ⟨Nat.zero_le _, rfl⟩ (by simp [go_sem]) rfl ?_
    rintro ⟨k, zs⟩ ⟨hk, hz⟩ ih
    dsimp only at hk hz ih ⊢
    by_cases h1 : k < c.bands.length
    · have h2 : (k : Int) < c.bands.length := by omega
      have n0 : ¬ (k : Int) < 0 := by omega
      have hx : zs[k]? = some zs[k] := List.getElem?_eq_getElem (by omega)
      have h3 := idx_next h1 (by omega)
      generalize zs[k] = b at *
      have hs := bd_set zs k { b with frm := IntKind.i64.wrap (b.frm + 3) }
      dsimp only at hs
      simp only [go_sem, h2, n0, hx, h3, hz, List.length_map, Bd.v, Bd.cs, Ct.v, Ct.cs, hs]
      exact ih (k + 1, zs.set k { b with frm := IntKind.i64.wrap (b.frm + 3) }) (by dsimp only; omega) ⟨h1, by simpa using hz⟩ _ (by simp [go_sem])
    have h2 : ¬ (k : Int) < c.bands.length := by omega
    simp only [go_sem, h2, hz, List.length_map, Ct.v, Ct.cs]
    clear ih
    refine cF (rSame_raw c c c0 true ⟨fun _ => rfl, fun _ => rfl⟩) 6 ⟨.inl (ct_frz (H := _) rfl), .inl (v0 _), trivial⟩ ?_
    simp only [go_sem, Ct.v, Ct.cs, Cg.v, Cg.cs, z0, zb, q1, q2, ren, rens]
    refine loop_body 3000 k_law03_CathodeChecks_r24.eq_1 ?_
    simp only [go_sem, Ct.v, Ct.cs, Cg.v, Cg.cs, z0, zb, q1, q2, ren, rens]
    refine cFN (rCopy_raw m m0) 6 ⟨.inl (ct_frz (H := _) rfl), trivial⟩ ?_ (hr := by simp [go_sem, Ct.v, Ct.cs]) (hnv := by simp only [go_sem, Ct.v, Ct.cs])
    simp only [go_sem, Ct.v, Ct.cs, Cg.v, Cg.cs, z0, zb, q1, q2, ren, rens]
    refine dF (Check_raw m m0) 6 [13] ⟨.inl (ct_frz (H := _) rfl), trivial⟩ ?_
    simp only [go_sem, Ct.v, Ct.cs, Cg.v, Cg.cs, z0, zb, q1, q2, ren, rens]
    refine cF (rCheck_raw m m0) 6 ⟨.inl (ct_frz (H := _) rfl), trivial⟩ ?_
    simp only [go_sem, Ct.v, Ct.cs, Cg.v, Cg.cs, z0, zb, q1, q2, ren, rens]
    refine dF (CheckCoating_raw m m0 x) 6 [13] ⟨.inl (ct_frz (H := _) rfl), .inl rfl, trivial⟩ ?_
    simp only [go_sem, Ct.v, Ct.cs, Cg.v, Cg.cs, z0, zb, q1, q2, ren, rens]
    refine cF (rCheckCoating_raw m m0 x) 6 ⟨.inl (ct_frz (H := _) rfl), .inl rfl, trivial⟩ ?_
    simp only [go_sem, Ct.v, Ct.cs, Cg.v, Cg.cs, z0, zb, q1, q2, ren, rens]
    refine dF (CheckSchedule_raw [] (by simp)) 6 [] ⟨.inr ⟨rfl, rfl⟩, trivial⟩ ?_
    simp only [go_sem, Ct.v, Ct.cs, Cg.v, Cg.cs, z0, zb, q1, q2, ren, rens]
    refine cF (rCheckSchedule_raw [] (by simp)) 6 ⟨.inr ⟨rfl, rfl⟩, trivial⟩ ?_
    simp only [go_sem, Ct.v, Ct.cs, Cg.v, Cg.cs, z0, zb, q1, q2, ren, rens]
    obtain ⟨b1, hb1⟩ := bool_of (m = o)
    refine dF (Same_raw m o m0 b1 hb1) 6 [13] ⟨.inl (ct_frz (H := _) rfl), .inl (v1 _), trivial⟩ ?_
    simp only [go_sem, Ct.v, Ct.cs, Cg.v, Cg.cs, z0, zb, q1, q2, ren, rens]
    refine cF (rSame_raw m o m0 b1 hb1) 6 ⟨.inl (ct_frz (H := _) rfl), .inl (v1 _), trivial⟩ ?_
    simp only [go_sem, Ct.v, Ct.cs, Cg.v, Cg.cs, z0, zb, q1, q2, ren, rens]
    refine callC (Copy_raw m m0) (j := 13) (by simp only [go_sem, ren, rens, nth, Ct.v, Ct.cs]; rfl) ⟨by rw [ct_bel, bel_sl]; decide, trivial⟩ rfl (by simp only [go_sem]) (by simp only [go_sem]) (by rw [ct_bel, bel_sl]) (by simp) (by simp) ?_
    simp only [go_sem, Ct.v, Ct.cs, Cg.v, Cg.cs, z0, zb, q1, q2, ren, rens]
    refine cF (rSame_raw m m m0 true ⟨fun _ => rfl, fun _ => rfl⟩) 6 ⟨.inl (ct_frz (H := _) rfl), .inl (ct_frz (H := _) rfl), trivial⟩ ?_
    simp only [go_sem, Ct.v, Ct.cs, Cg.v, Cg.cs, z0, zb, q1, q2, ren, rens]
    refine cF (Same_raw m m m0 true ⟨fun _ => rfl, fun _ => rfl⟩) 6 ⟨.inl (ct_frz (H := _) rfl), .inl (ct_frz (H := _) rfl), trivial⟩ ?_
    simp only [go_sem, Ct.v, Ct.cs, Cg.v, Cg.cs, z0, zb, q1, q2, ren, rens]
    refine loop_ind k_law03_CathodeChecks_r20.eq_1 (fun a : Nat × List Bd => a.1 ≤ m.bands.length ∧ a.2.length = m.bands.length) (fun a => m.bands.length - a.1)
      (fun a => (tsets 160 [(7, .ptr 1 0 0 1), (8, .ptr 2 0 0 1), (16, .sl 7 0 2), (17, .sl 8 0 2), (18, .int .i64 1), (19, .ptr 14 0 0 1), (20, .ptr 16 0 0 1), (21, .int .i64 a.1)],
        [some (.cells false 7 [c.v (.view (c.bands.map Bd.v))]), some (.cells false 7 [o.v (.view (o.bands.map Bd.v))]), some (.cells false 13 [x.v]), some (.cells false 3 [h.v]), some (Dr w2), some (BdR m.bands), some (.cells false 7 [m.v (.sl 5 0 m.bands.length)]), some (.cells false 7 [c.v (.view (c.bands.map Bd.v)), m.v (.sl 5 0 m.bands.length)]), some (.cells false 1 [.view (l.map Ht.v), .nilsl]), some (BdR c.bands), some (.cells false 7 [c.v (.sl 9 0 c.bands.length)]), some (.cells true 9 (zs.map Bd.v)), some (.cells false 7 [c.v (.sl 11 0 c.bands.length)]), some (BdR m.bands), some (.cells false 7 [m.v (.sl 13 0 m.bands.length)]), some (.cells true 9 (a.2.map Bd.v)), some (.cells false 7 [m.v (.sl 15 0 m.bands.length)])])) (0, m.bands) ⟨Nat.zero_le _, rfl⟩ (by simp [go_sem]) rfl ?_
    rintro ⟨k, ys⟩ ⟨hk, hz⟩ ih
    dsimp only at hk hz ih ⊢
    by_cases h1 : k < m.bands.length
    · have h2 : (k : Int) < m.bands.length := by omega
      have n0 : ¬ (k : Int) < 0 := by omega
      have hx : ys[k]? = some ys[k] := List.getElem?_eq_getElem (by omega)
      have h3 := idx_next h1 (by omega)
      generalize ys[k] = b at *
      have hs := bd_set ys k { b with frm := IntKind.i64.wrap (b.frm + 3) }
      dsimp only at hs
      simp only [go_sem, h2, n0, hx, h3, hz, List.length_map, Bd.v, Bd.cs, Ct.v, Ct.cs, hs]
      exact ih (k + 1, ys.set k { b with frm := IntKind.i64.wrap (b.frm + 3) }) (by dsimp only; omega) ⟨h1, by simpa using hz⟩ _ (by simp [go_sem])
    have h2 : ¬ (k : Int) < m.bands.length := by omega
    simp only [go_sem, h2, hz, List.length_map, Ct.v, Ct.cs]
    clear ih
    refine cF (rSame_raw m m m0 true ⟨fun _ => rfl, fun _ => rfl⟩) 6 ⟨.inl (ct_frz (H := _) rfl), .inl (ct_frz (H := _) rfl), trivial⟩ ?_
    simp only [go_sem, Ct.v, Ct.cs, Cg.v, Cg.cs, z0, zb, q1, q2, ren, rens]
    refine loop_body 3000 k_law03_CathodeChecks_r24.eq_1 ?_
    simp only [go_sem, q1, q2]
    refine cP awake_ok ?_
    simp only [go_sem]
  · have hne : List.map Ht.v p ≠ [] := by simpa using hnil
    have e1 : slv 6 (List.map Ht.v p) = .sl 6 0 p.length := by unfold slv; rw [if_neg hne, List.length_map]
    have e2 : slrG true 3 (List.map Ht.v p) = [some (.cells true 3 (List.map Ht.v p))] := by unfold slrG; rw [if_neg hne]
    have hlp : 0 < p.length := List.length_pos_iff.2 hnil
    have g0 : (0 : Int) < p.length := by omega
    have hone := One_run w2 2 (by decide)
    generalize (upto w2 2 == 0) = ob at hone
    simp only [go_sem, e1, e2, Ct.v, Ct.cs, g0]
    refine cD hone ?_
    cases ob
    · simp only [go_sem, Ct.v, Ct.cs]
      refine loop_body 3000 k_law03_CathodeChecks_r24.eq_1 ?_
      simp only [go_sem, Ct.v, Ct.cs, Cg.v, Cg.cs, z0, zb, q1, q2, ren, rens]
      refine cFN (rCopy_raw c c0) 6 ⟨.inl (v0 _), trivial⟩ ?_ (hr := by simp [go_sem, Ct.v, Ct.cs]) (hnv := by simp only [go_sem, Ct.v, Ct.cs])
      simp only [go_sem, Ct.v, Ct.cs, Cg.v, Cg.cs, z0, zb, q1, q2, ren, rens]
      refine dF (Check_raw c c0) 6 [10] ⟨.inl (ct_frz (H := _) rfl), trivial⟩ ?_
      simp only [go_sem, Ct.v, Ct.cs, Cg.v, Cg.cs, z0, zb, q1, q2, ren, rens]
      refine cF (rCheck_raw c c0) 6 ⟨.inl (v0 _), trivial⟩ ?_
      simp only [go_sem, Ct.v, Ct.cs, Cg.v, Cg.cs, z0, zb, q1, q2, ren, rens]
      refine dF (CheckCoating_raw c c0 x) 6 [10] ⟨.inl (ct_frz (H := _) rfl), .inl rfl, trivial⟩ ?_
      simp only [go_sem, Ct.v, Ct.cs, Cg.v, Cg.cs, z0, zb, q1, q2, ren, rens]
      refine cF (rCheckCoating_raw c c0 x) 6 ⟨.inl (v0 _), .inl rfl, trivial⟩ ?_
      simp only [go_sem, Ct.v, Ct.cs, Cg.v, Cg.cs, z0, zb, q1, q2, ren, rens]
      refine dF (CheckSchedule_raw l l0) 6 [] ⟨.inl (v2 _), trivial⟩ ?_
      simp only [go_sem, Ct.v, Ct.cs, Cg.v, Cg.cs, z0, zb, q1, q2, ren, rens]
      refine cF (rCheckSchedule_raw l l0) 6 ⟨.inl (v2 _), trivial⟩ ?_
      simp only [go_sem, Ct.v, Ct.cs, Cg.v, Cg.cs, z0, zb, q1, q2, ren, rens]
      obtain ⟨b0, hb0⟩ := bool_of (c = o)
      refine dF (Same_raw c o c0 b0 hb0) 6 [10] ⟨.inl (ct_frz (H := _) rfl), .inl (v1 _), trivial⟩ ?_
      simp only [go_sem, Ct.v, Ct.cs, Cg.v, Cg.cs, z0, zb, q1, q2, ren, rens]
      refine cF (rSame_raw c o c0 b0 hb0) 6 ⟨.inl (v0 _), .inl (v1 _), trivial⟩ ?_
      simp only [go_sem, Ct.v, Ct.cs, Cg.v, Cg.cs, z0, zb, q1, q2, ren, rens]
      refine callC (Copy_raw c c0) (j := 10) (by simp only [go_sem, ren, rens, nth, Ct.v, Ct.cs]; rfl) ⟨by rw [ct_bel, bel_sl]; decide, trivial⟩ rfl (by simp only [go_sem]) (by simp only [go_sem]) (by rw [ct_bel, bel_sl]) (by simp) (by simp) ?_
      simp only [go_sem, Ct.v, Ct.cs, Cg.v, Cg.cs, z0, zb, q1, q2, ren, rens]
      refine cF (rSame_raw c c c0 true ⟨fun _ => rfl, fun _ => rfl⟩) 6 ⟨.inl (ct_frz (H := _) rfl), .inl (v0 _), trivial⟩ ?_
      simp only [go_sem, Ct.v, Ct.cs, Cg.v, Cg.cs, z0, zb, q1, q2, ren, rens]
      refine cF (Same_raw c c c0 true ⟨fun _ => rfl, fun _ => rfl⟩) 6 ⟨.inl (ct_frz (H := _) rfl), .inl (ct_frz (H := _) rfl), trivial⟩ ?_
      simp only [go_sem, Ct.v, Ct.cs, Cg.v, Cg.cs, z0, zb, q1, q2, ren, rens]
      refine loop_ind k_law03_CathodeChecks_r20.eq_1 (fun a : Nat × List Bd => a.1 ≤ c.bands.length ∧ a.2.length = c.bands.length) (fun a => c.bands.length - a.1)
        (fun a => (tsets 160 [(7, .ptr 1 0 0 1), (8, .ptr 2 0 0 1), (16, .sl 8 0 2), (17, .sl 9 0 2), (18, .int .i64 0), (19, .ptr 11 0 0 1), (20, .ptr 13 0 0 1), (21, .int .i64 a.1)],
          [some (.cells false 7 [c.v (.view (c.bands.map Bd.v))]), some (.cells false 7 [o.v (.view (o.bands.map Bd.v))]), some (.cells false 13 [x.v]), some (.cells false 3 [h.v]), some (Dr (dstep w2)), some (BdR m.bands), some (.cells true 3 (p.map Ht.v)), some (.cells false 7 [m.v (.sl 5 0 m.bands.length)]), some (.cells false 7 [c.v (.view (c.bands.map Bd.v)), m.v (.sl 5 0 m.bands.length)]), some (.cells false 1 [.view (l.map Ht.v), .sl 6 0 p.length]), some (BdR c.bands), some (.cells false 7 [c.v (.sl 10 0 c.bands.length)]), some (.cells true 9 (a.2.map Bd.v)), some (.cells false 7 [c.v (.sl 12 0 c.bands.length)])])) (0, c.bands) ⟨Nat.zero_le _, rfl⟩ (by simp [go_sem]) rfl ?_
      rintro ⟨k, zs⟩ ⟨hk, hz⟩ ih
      dsimp only at hk hz ih ⊢
      by_cases h1 : k < c.bands.length
      · have h2 : (k : Int) < c.bands.length := by omega
        have n0 : ¬ (k : Int) < 0 := by omega
        have hx : zs[k]? = some zs[k] := List.getElem?_eq_getElem (by omega)
        have h3 := idx_next h1 (by omega)
        generalize zs[k] = b at *
        have hs := bd_set zs k { b with frm := IntKind.i64.wrap (b.frm + 3) }
        dsimp only at hs
        simp only [go_sem, h2, n0, hx, h3, hz, List.length_map, Bd.v, Bd.cs, Ct.v, Ct.cs, hs]
        exact ih (k + 1, zs.set k { b with frm := IntKind.i64.wrap (b.frm + 3) }) (by dsimp only; omega) ⟨h1, by simpa using hz⟩ _ (by simp [go_sem])
      have h2 : ¬ (k : Int) < c.bands.length := by omega
      simp only [go_sem, h2, hz, List.length_map, Ct.v, Ct.cs]
      clear ih
      refine cF (rSame_raw c c c0 true ⟨fun _ => rfl, fun _ => rfl⟩) 6 ⟨.inl (ct_frz (H := _) rfl), .inl (v0 _), trivial⟩ ?_
      simp only [go_sem, Ct.v, Ct.cs, Cg.v, Cg.cs, z0, zb, q1, q2, ren, rens]
      refine loop_body 3000 k_law03_CathodeChecks_r24.eq_1 ?_
      simp only [go_sem, Ct.v, Ct.cs, Cg.v, Cg.cs, z0, zb, q1, q2, ren, rens]
      refine cFN (rCopy_raw m m0) 6 ⟨.inl (ct_frz (H := _) rfl), trivial⟩ ?_ (hr := by simp [go_sem, Ct.v, Ct.cs]) (hnv := by simp only [go_sem, Ct.v, Ct.cs])
      simp only [go_sem, Ct.v, Ct.cs, Cg.v, Cg.cs, z0, zb, q1, q2, ren, rens]
      refine dF (Check_raw m m0) 6 [14] ⟨.inl (ct_frz (H := _) rfl), trivial⟩ ?_
      simp only [go_sem, Ct.v, Ct.cs, Cg.v, Cg.cs, z0, zb, q1, q2, ren, rens]
      refine cF (rCheck_raw m m0) 6 ⟨.inl (ct_frz (H := _) rfl), trivial⟩ ?_
      simp only [go_sem, Ct.v, Ct.cs, Cg.v, Cg.cs, z0, zb, q1, q2, ren, rens]
      refine dF (CheckCoating_raw m m0 x) 6 [14] ⟨.inl (ct_frz (H := _) rfl), .inl rfl, trivial⟩ ?_
      simp only [go_sem, Ct.v, Ct.cs, Cg.v, Cg.cs, z0, zb, q1, q2, ren, rens]
      refine cF (rCheckCoating_raw m m0 x) 6 ⟨.inl (ct_frz (H := _) rfl), .inl rfl, trivial⟩ ?_
      simp only [go_sem, Ct.v, Ct.cs, Cg.v, Cg.cs, z0, zb, q1, q2, ren, rens]
      refine dF (CheckSchedule_raw p p0) 6 [6] ⟨.inl (sch_frz (H := _) rfl rfl), trivial⟩ ?_
      simp only [go_sem, Ct.v, Ct.cs, Cg.v, Cg.cs, z0, zb, q1, q2, ren, rens]
      refine cF (rCheckSchedule_raw p p0) 6 ⟨.inl (sch_frz (H := _) rfl rfl), trivial⟩ ?_
      simp only [go_sem, Ct.v, Ct.cs, Cg.v, Cg.cs, z0, zb, q1, q2, ren, rens]
      obtain ⟨b1, hb1⟩ := bool_of (m = o)
      refine dF (Same_raw m o m0 b1 hb1) 6 [14] ⟨.inl (ct_frz (H := _) rfl), .inl (v1 _), trivial⟩ ?_
      simp only [go_sem, Ct.v, Ct.cs, Cg.v, Cg.cs, z0, zb, q1, q2, ren, rens]
      refine cF (rSame_raw m o m0 b1 hb1) 6 ⟨.inl (ct_frz (H := _) rfl), .inl (v1 _), trivial⟩ ?_
      simp only [go_sem, Ct.v, Ct.cs, Cg.v, Cg.cs, z0, zb, q1, q2, ren, rens]
      refine callC (Copy_raw m m0) (j := 14) (by simp only [go_sem, ren, rens, nth, Ct.v, Ct.cs]; rfl) ⟨by rw [ct_bel, bel_sl]; decide, trivial⟩ rfl (by simp only [go_sem]) (by simp only [go_sem]) (by rw [ct_bel, bel_sl]) (by simp) (by simp) ?_
      simp only [go_sem, Ct.v, Ct.cs, Cg.v, Cg.cs, z0, zb, q1, q2, ren, rens]
      refine cF (rSame_raw m m m0 true ⟨fun _ => rfl, fun _ => rfl⟩) 6 ⟨.inl (ct_frz (H := _) rfl), .inl (ct_frz (H := _) rfl), trivial⟩ ?_
      simp only [go_sem, Ct.v, Ct.cs, Cg.v, Cg.cs, z0, zb, q1, q2, ren, rens]
      refine cF (Same_raw m m m0 true ⟨fun _ => rfl, fun _ => rfl⟩) 6 ⟨.inl (ct_frz (H := _) rfl), .inl (ct_frz (H := _) rfl), trivial⟩ ?_
      simp only [go_sem, Ct.v, Ct.cs, Cg.v, Cg.cs, z0, zb, q1, q2, ren, rens]
      refine loop_ind k_law03_CathodeChecks_r20.eq_1 (fun a : Nat × List Bd => a.1 ≤ m.bands.length ∧ a.2.length = m.bands.length) (fun a => m.bands.length - a.1)
        (fun a => (tsets 160 [(7, .ptr 1 0 0 1), (8, .ptr 2 0 0 1), (16, .sl 8 0 2), (17, .sl 9 0 2), (18, .int .i64 1), (19, .ptr 15 0 0 1), (20, .ptr 17 0 0 1), (21, .int .i64 a.1)],
          [some (.cells false 7 [c.v (.view (c.bands.map Bd.v))]), some (.cells false 7 [o.v (.view (o.bands.map Bd.v))]), some (.cells false 13 [x.v]), some (.cells false 3 [h.v]), some (Dr (dstep w2)), some (BdR m.bands), some (.cells true 3 (p.map Ht.v)), some (.cells false 7 [m.v (.sl 5 0 m.bands.length)]), some (.cells false 7 [c.v (.view (c.bands.map Bd.v)), m.v (.sl 5 0 m.bands.length)]), some (.cells false 1 [.view (l.map Ht.v), .sl 6 0 p.length]), some (BdR c.bands), some (.cells false 7 [c.v (.sl 10 0 c.bands.length)]), some (.cells true 9 (zs.map Bd.v)), some (.cells false 7 [c.v (.sl 12 0 c.bands.length)]), some (BdR m.bands), some (.cells false 7 [m.v (.sl 14 0 m.bands.length)]), some (.cells true 9 (a.2.map Bd.v)), some (.cells false 7 [m.v (.sl 16 0 m.bands.length)])])) (0, m.bands) ⟨Nat.zero_le _, rfl⟩ (by simp [go_sem]) rfl ?_
      rintro ⟨k, ys⟩ ⟨hk, hz⟩ ih
      dsimp only at hk hz ih ⊢
      by_cases h1 : k < m.bands.length
      · have h2 : (k : Int) < m.bands.length := by omega
        have n0 : ¬ (k : Int) < 0 := by omega
        have hx : ys[k]? = some ys[k] := List.getElem?_eq_getElem (by omega)
        have h3 := idx_next h1 (by omega)
        generalize ys[k] = b at *
        have hs := bd_set ys k { b with frm := IntKind.i64.wrap (b.frm + 3) }
        dsimp only at hs
        simp only [go_sem, h2, n0, hx, h3, hz, List.length_map, Bd.v, Bd.cs, Ct.v, Ct.cs, hs]
        exact ih (k + 1, ys.set k { b with frm := IntKind.i64.wrap (b.frm + 3) }) (by dsimp only; omega) ⟨h1, by simpa using hz⟩ _ (by simp [go_sem])
      have h2 : ¬ (k : Int) < m.bands.length := by omega
      simp only [go_sem, h2, hz, List.length_map, Ct.v, Ct.cs]
      clear ih
      refine cF (rSame_raw m m m0 true ⟨fun _ => rfl, fun _ => rfl⟩) 6 ⟨.inl (ct_frz (H := _) rfl), .inl (ct_frz (H := _) rfl), trivial⟩ ?_
      simp only [go_sem, Ct.v, Ct.cs, Cg.v, Cg.cs, z0, zb, q1, q2, ren, rens]
      refine loop_body 3000 k_law03_CathodeChecks_r24.eq_1 ?_
      simp only [go_sem, q1, q2]
      refine cP awake_ok ?_
      simp only [go_sem]
    · have hu := upto_ok (dstep w2) p.length (by omega)
      have hui := upto_in (w := dstep w2) (n := p.length) (by omega)
      obtain ⟨j, hj⟩ : ∃ j : Nat, upto (dstep w2) p.length = j := ⟨(upto (dstep w2) p.length).toNat, by omega⟩
      rw [hj] at hu hui
      have g1 : (j : Int) < p.length := by omega
      have g2 : ¬ (j : Int) < 0 := by omega
      have hx : p[j]? = some p[j] := List.getElem?_eq_getElem (by omega)
      generalize p[j] = y at *
      have hset : (List.map Ht.v p).set j (.agg [.int .i64 h.ticks, .int .i64 h.heat, .int .i64 h.cur]) = List.map Ht.v (p.set j h) := by rw [List.map_set]; rfl
      simp only [go_sem, Ct.v, Ct.cs]
      refine dD hu ?_
      simp only [go_sem, g1, g2, hx, hset, List.length_map, Ht.v, Ht.cs]
      refine loop_body 3000 k_law03_CathodeChecks_r24.eq_1 ?_
      simp only [go_sem, Ct.v, Ct.cs, Cg.v, Cg.cs, z0, zb, q1, q2, ren, rens]
      refine cFN (rCopy_raw c c0) 6 ⟨.inl (v0 _), trivial⟩ ?_ (hr := by simp [go_sem, Ct.v, Ct.cs]) (hnv := by simp only [go_sem, Ct.v, Ct.cs])
      simp only [go_sem, Ct.v, Ct.cs, Cg.v, Cg.cs, z0, zb, q1, q2, ren, rens]
      refine dF (Check_raw c c0) 6 [10] ⟨.inl (ct_frz (H := _) rfl), trivial⟩ ?_
      simp only [go_sem, Ct.v, Ct.cs, Cg.v, Cg.cs, z0, zb, q1, q2, ren, rens]
      refine cF (rCheck_raw c c0) 6 ⟨.inl (v0 _), trivial⟩ ?_
      simp only [go_sem, Ct.v, Ct.cs, Cg.v, Cg.cs, z0, zb, q1, q2, ren, rens]
      refine dF (CheckCoating_raw c c0 x) 6 [10] ⟨.inl (ct_frz (H := _) rfl), .inl rfl, trivial⟩ ?_
      simp only [go_sem, Ct.v, Ct.cs, Cg.v, Cg.cs, z0, zb, q1, q2, ren, rens]
      refine cF (rCheckCoating_raw c c0 x) 6 ⟨.inl (v0 _), .inl rfl, trivial⟩ ?_
      simp only [go_sem, Ct.v, Ct.cs, Cg.v, Cg.cs, z0, zb, q1, q2, ren, rens]
      refine dF (CheckSchedule_raw l l0) 6 [] ⟨.inl (v2 _), trivial⟩ ?_
      simp only [go_sem, Ct.v, Ct.cs, Cg.v, Cg.cs, z0, zb, q1, q2, ren, rens]
      refine cF (rCheckSchedule_raw l l0) 6 ⟨.inl (v2 _), trivial⟩ ?_
      simp only [go_sem, Ct.v, Ct.cs, Cg.v, Cg.cs, z0, zb, q1, q2, ren, rens]
      obtain ⟨b0, hb0⟩ := bool_of (c = o)
      refine dF (Same_raw c o c0 b0 hb0) 6 [10] ⟨.inl (ct_frz (H := _) rfl), .inl (v1 _), trivial⟩ ?_
      simp only [go_sem, Ct.v, Ct.cs, Cg.v, Cg.cs, z0, zb, q1, q2, ren, rens]
      refine cF (rSame_raw c o c0 b0 hb0) 6 ⟨.inl (v0 _), .inl (v1 _), trivial⟩ ?_
      simp only [go_sem, Ct.v, Ct.cs, Cg.v, Cg.cs, z0, zb, q1, q2, ren, rens]
      refine callC (Copy_raw c c0) (j := 10) (by simp only [go_sem, ren, rens, nth, Ct.v, Ct.cs]; rfl) ⟨by rw [ct_bel, bel_sl]; decide, trivial⟩ rfl (by simp only [go_sem]) (by simp only [go_sem]) (by rw [ct_bel, bel_sl]) (by simp) (by simp) ?_
      simp only [go_sem, Ct.v, Ct.cs, Cg.v, Cg.cs, z0, zb, q1, q2, ren, rens]
      refine cF (rSame_raw c c c0 true ⟨fun _ => rfl, fun _ => rfl⟩) 6 ⟨.inl (ct_frz (H := _) rfl), .inl (v0 _), trivial⟩ ?_
      simp only [go_sem, Ct.v, Ct.cs, Cg.v, Cg.cs, z0, zb, q1, q2, ren, rens]
      refine cF (Same_raw c c c0 true ⟨fun _ => rfl, fun _ => rfl⟩) 6 ⟨.inl (ct_frz (H := _) rfl), .inl (ct_frz (H := _) rfl), trivial⟩ ?_
      simp only [go_sem, Ct.v, Ct.cs, Cg.v, Cg.cs, z0, zb, q1, q2, ren, rens]
      refine loop_ind k_law03_CathodeChecks_r20.eq_1 (fun a : Nat × List Bd => a.1 ≤ c.bands.length ∧ a.2.length = c.bands.length) (fun a => c.bands.length - a.1)
        (fun a => (tsets 160 [(7, .ptr 1 0 0 1), (8, .ptr 2 0 0 1), (16, .sl 8 0 2), (17, .sl 9 0 2), (18, .int .i64 0), (19, .ptr 11 0 0 1), (20, .ptr 13 0 0 1), (21, .int .i64 a.1)],
          [some (.cells false 7 [c.v (.view (c.bands.map Bd.v))]), some (.cells false 7 [o.v (.view (o.bands.map Bd.v))]), some (.cells false 13 [x.v]), some (.cells false 3 [h.v]), some (Dr (dstep (dstep w2))), some (BdR m.bands), some (.cells true 3 ((p.set j h).map Ht.v)), some (.cells false 7 [m.v (.sl 5 0 m.bands.length)]), some (.cells false 7 [c.v (.view (c.bands.map Bd.v)), m.v (.sl 5 0 m.bands.length)]), some (.cells false 1 [.view (l.map Ht.v), .sl 6 0 p.length]), some (BdR c.bands), some (.cells false 7 [c.v (.sl 10 0 c.bands.length)]), some (.cells true 9 (a.2.map Bd.v)), some (.cells false 7 [c.v (.sl 12 0 c.bands.length)])])) (0, c.bands) ⟨Nat.zero_le _, rfl⟩ (by simp [go_sem]) rfl ?_
      rintro ⟨k, zs⟩ ⟨hk, hz⟩ ih
      dsimp only at hk hz ih ⊢
      by_cases h1 : k < c.bands.length
      · have h2 : (k : Int) < c.bands.length := by omega
        have n0 : ¬ (k : Int) < 0 := by omega
        have hx : zs[k]? = some zs[k] := List.getElem?_eq_getElem (by omega)
        have h3 := idx_next h1 (by omega)
        generalize zs[k] = b at *
        have hs := bd_set zs k { b with frm := IntKind.i64.wrap (b.frm + 3) }
        dsimp only at hs
        simp only [go_sem, h2, n0, hx, h3, hz, List.length_map, Bd.v, Bd.cs, Ct.v, Ct.cs, hs]
        exact ih (k + 1, zs.set k { b with frm := IntKind.i64.wrap (b.frm + 3) }) (by dsimp only; omega) ⟨h1, by simpa using hz⟩ _ (by simp [go_sem])
      have h2 : ¬ (k : Int) < c.bands.length := by omega
      simp only [go_sem, h2, hz, List.length_map, Ct.v, Ct.cs]
      clear ih
      refine cF (rSame_raw c c c0 true ⟨fun _ => rfl, fun _ => rfl⟩) 6 ⟨.inl (ct_frz (H := _) rfl), .inl (v0 _), trivial⟩ ?_
      simp only [go_sem, Ct.v, Ct.cs, Cg.v, Cg.cs, z0, zb, q1, q2, ren, rens]
      refine loop_body 3000 k_law03_CathodeChecks_r24.eq_1 ?_
      simp only [go_sem, Ct.v, Ct.cs, Cg.v, Cg.cs, z0, zb, q1, q2, ren, rens]
      refine cFN (rCopy_raw m m0) 6 ⟨.inl (ct_frz (H := _) rfl), trivial⟩ ?_ (hr := by simp [go_sem, Ct.v, Ct.cs]) (hnv := by simp only [go_sem, Ct.v, Ct.cs])
      simp only [go_sem, Ct.v, Ct.cs, Cg.v, Cg.cs, z0, zb, q1, q2, ren, rens]
      refine dF (Check_raw m m0) 6 [14] ⟨.inl (ct_frz (H := _) rfl), trivial⟩ ?_
      simp only [go_sem, Ct.v, Ct.cs, Cg.v, Cg.cs, z0, zb, q1, q2, ren, rens]
      refine cF (rCheck_raw m m0) 6 ⟨.inl (ct_frz (H := _) rfl), trivial⟩ ?_
      simp only [go_sem, Ct.v, Ct.cs, Cg.v, Cg.cs, z0, zb, q1, q2, ren, rens]
      refine dF (CheckCoating_raw m m0 x) 6 [14] ⟨.inl (ct_frz (H := _) rfl), .inl rfl, trivial⟩ ?_
      simp only [go_sem, Ct.v, Ct.cs, Cg.v, Cg.cs, z0, zb, q1, q2, ren, rens]
      refine cF (rCheckCoating_raw m m0 x) 6 ⟨.inl (ct_frz (H := _) rfl), .inl rfl, trivial⟩ ?_
      simp only [go_sem, Ct.v, Ct.cs, Cg.v, Cg.cs, z0, zb, q1, q2, ren, rens]
      refine dF (CheckSchedule_raw (p.set j h) (by simpa using p0)) 6 [6] ⟨.inl (sch_frz (H := _) rfl (by simp)), trivial⟩ ?_
      simp only [go_sem, Ct.v, Ct.cs, Cg.v, Cg.cs, z0, zb, q1, q2, ren, rens]
      refine cF (rCheckSchedule_raw (p.set j h) (by simpa using p0)) 6 ⟨.inl (sch_frz (H := _) rfl (by simp)), trivial⟩ ?_
      simp only [go_sem, Ct.v, Ct.cs, Cg.v, Cg.cs, z0, zb, q1, q2, ren, rens]
      obtain ⟨b1, hb1⟩ := bool_of (m = o)
      refine dF (Same_raw m o m0 b1 hb1) 6 [14] ⟨.inl (ct_frz (H := _) rfl), .inl (v1 _), trivial⟩ ?_
      simp only [go_sem, Ct.v, Ct.cs, Cg.v, Cg.cs, z0, zb, q1, q2, ren, rens]
      refine cF (rSame_raw m o m0 b1 hb1) 6 ⟨.inl (ct_frz (H := _) rfl), .inl (v1 _), trivial⟩ ?_
      simp only [go_sem, Ct.v, Ct.cs, Cg.v, Cg.cs, z0, zb, q1, q2, ren, rens]
      refine callC (Copy_raw m m0) (j := 14) (by simp only [go_sem, ren, rens, nth, Ct.v, Ct.cs]; rfl) ⟨by rw [ct_bel, bel_sl]; decide, trivial⟩ rfl (by simp only [go_sem]) (by simp only [go_sem]) (by rw [ct_bel, bel_sl]) (by simp) (by simp) ?_
      simp only [go_sem, Ct.v, Ct.cs, Cg.v, Cg.cs, z0, zb, q1, q2, ren, rens]
      refine cF (rSame_raw m m m0 true ⟨fun _ => rfl, fun _ => rfl⟩) 6 ⟨.inl (ct_frz (H := _) rfl), .inl (ct_frz (H := _) rfl), trivial⟩ ?_
      simp only [go_sem, Ct.v, Ct.cs, Cg.v, Cg.cs, z0, zb, q1, q2, ren, rens]
      refine cF (Same_raw m m m0 true ⟨fun _ => rfl, fun _ => rfl⟩) 6 ⟨.inl (ct_frz (H := _) rfl), .inl (ct_frz (H := _) rfl), trivial⟩ ?_
      simp only [go_sem, Ct.v, Ct.cs, Cg.v, Cg.cs, z0, zb, q1, q2, ren, rens]
      refine loop_ind k_law03_CathodeChecks_r20.eq_1 (fun a : Nat × List Bd => a.1 ≤ m.bands.length ∧ a.2.length = m.bands.length) (fun a => m.bands.length - a.1)
        (fun a => (tsets 160 [(7, .ptr 1 0 0 1), (8, .ptr 2 0 0 1), (16, .sl 8 0 2), (17, .sl 9 0 2), (18, .int .i64 1), (19, .ptr 15 0 0 1), (20, .ptr 17 0 0 1), (21, .int .i64 a.1)],
          [some (.cells false 7 [c.v (.view (c.bands.map Bd.v))]), some (.cells false 7 [o.v (.view (o.bands.map Bd.v))]), some (.cells false 13 [x.v]), some (.cells false 3 [h.v]), some (Dr (dstep (dstep w2))), some (BdR m.bands), some (.cells true 3 ((p.set j h).map Ht.v)), some (.cells false 7 [m.v (.sl 5 0 m.bands.length)]), some (.cells false 7 [c.v (.view (c.bands.map Bd.v)), m.v (.sl 5 0 m.bands.length)]), some (.cells false 1 [.view (l.map Ht.v), .sl 6 0 p.length]), some (BdR c.bands), some (.cells false 7 [c.v (.sl 10 0 c.bands.length)]), some (.cells true 9 (zs.map Bd.v)), some (.cells false 7 [c.v (.sl 12 0 c.bands.length)]), some (BdR m.bands), some (.cells false 7 [m.v (.sl 14 0 m.bands.length)]), some (.cells true 9 (a.2.map Bd.v)), some (.cells false 7 [m.v (.sl 16 0 m.bands.length)])])) (0, m.bands) ⟨Nat.zero_le _, rfl⟩ (by simp [go_sem]) rfl ?_
      rintro ⟨k, ys⟩ ⟨hk, hz⟩ ih
      dsimp only at hk hz ih ⊢
      by_cases h1 : k < m.bands.length
      · have h2 : (k : Int) < m.bands.length := by omega
        have n0 : ¬ (k : Int) < 0 := by omega
        have hx : ys[k]? = some ys[k] := List.getElem?_eq_getElem (by omega)
        have h3 := idx_next h1 (by omega)
        generalize ys[k] = b at *
        have hs := bd_set ys k { b with frm := IntKind.i64.wrap (b.frm + 3) }
        dsimp only at hs
        simp only [go_sem, h2, n0, hx, h3, hz, List.length_map, Bd.v, Bd.cs, Ct.v, Ct.cs, hs]
        exact ih (k + 1, ys.set k { b with frm := IntKind.i64.wrap (b.frm + 3) }) (by dsimp only; omega) ⟨h1, by simpa using hz⟩ _ (by simp [go_sem])
      have h2 : ¬ (k : Int) < m.bands.length := by omega
      simp only [go_sem, h2, hz, List.length_map, Ct.v, Ct.cs]
      clear ih
      refine cF (rSame_raw m m m0 true ⟨fun _ => rfl, fun _ => rfl⟩) 6 ⟨.inl (ct_frz (H := _) rfl), .inl (ct_frz (H := _) rfl), trivial⟩ ?_
      simp only [go_sem, Ct.v, Ct.cs, Cg.v, Cg.cs, z0, zb, q1, q2, ren, rens]
      refine loop_body 3000 k_law03_CathodeChecks_r24.eq_1 ?_
      simp only [go_sem, q1, q2]
      refine cP awake_ok ?_
      simp only [go_sem]
end Go.Proofs
