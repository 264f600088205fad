/- CathodeTicks. -/
import Derived.Test.YtigaafcllfjniaaYeH
import Derived.Test.YtigaafcllfjniaaYdTicks
namespace Go.Proofs
open Go Go.Sx
attribute [local irreducible] Run

theorem One_run (w n : Int) (hn : 1 ≤ n ∧ n ≤ 1000000) : Ans Try.prog n_kit_Dice_One [.ptr 0 0 0 1, .int .i64 n] [some (Dr w)] (.bool (upto w n == 0)) [some (Dr (dstep w))] := by
  refine spec_run e_kit_Dice_One fun G => ?_
  simp only [go_sem]
  refine cD (upto_ok w n (by omega)) ?_
  simp only [go_sem]
  exact ⟨_, rfl⟩

theorem cells_grow {H : Heap} {j : Nat} {r : Bool × Nat × List AVal} (h : H.cellsAt j = some r) (Y : Heap) : (H ++ Y).cellsAt j = some r := by
  unfold Heap.cellsAt at *
  rcases hj : H[j]? with _ | _ | x
  · rw [hj] at h; simp at h
  · rw [hj] at h; simp at h
  · rw [List.getElem?_append_left (List.getElem?_eq_some_iff.1 hj).1, hj]
    rw [hj] at h
    exact h

/-- What is compared in a round: the coat as it stands in a row, and as it is read. -/
structure Seen (H : Heap) (v : AVal) (c : Ct) : Prop where
  frz : ∀ Y, frz 6 (H ++ Y) v = c.v (.view (c.bands.map Bd.v))
  frzo : ∀ Y, Sx.frz 6 (Heap.onlyR (H ++ Y) [3]) v = c.v (.view (c.bands.map Bd.v))
  cells : ∃ s, v = c.v s
set_option maxRecDepth 20000 in
set_option maxHeartbeats 8000000 in
theorem tk_loop {G : Ctx} {R : AVal → Heap → Prop} (hR : ∀ X, R (.bool true) X) {H : Heap} {a b : Nat} {v0 v1 v2 : AVal} {c0 c1 c2 : Ct} {x0 x1 x2 : Cg} {heat cur : Int}
    (ha : H.cellsAt a = some (false, 7, [v0, v1, v2])) (hb : H.cellsAt b = some (false, 13, [x0.v, x1.v, x2.v])) (s0 : Seen H v0 c0) (s1 : Seen H v1 c1) (s2 : Seen H v2 c2)
    (hl0 : c0.bands.length ≤ 1000) (hl1 : c1.bands.length ≤ 1000) (hl2 : c2.bands.length ≤ 1000) (hla : a < H.length) (hlb : b < H.length) (hl3 : 3 < H.length) :
    Sx.Loop Try.prog G 0 none k_law03_CathodeTicks_r21 [.blk 0, .seq (.seq (.reg k_law03_CathodeTicks_r22 false) .ret)] ⟨tsets 134 [(2, .int .i64 heat), (3, .int .i64 cur), (10, .bool false), (16, .sl a 0 3), (17, .sl b 0 3), (18, .int .i64 0)], H, []⟩ (RetPost [.tmp 10] R) := by
  have b0 : ∀ x : Int, (x != x) = false := fun x => by simp
  obtain ⟨f0, o0, t0, rfl⟩ := s0
  have f0' := f0 []
  rw [List.append_nil] at f0'
  have g0 := Fresh_raw c0 hl0
  have r0 := rFresh_raw c0 hl0
  have u0 := Tick_raw c0 hl0 x0 heat cur
  have w0 := rTick_raw c0 hl0 x0 heat cur
  generalize freshV c0 = F0 at *
  generalize tickV c0 x0 heat cur = T0 at *
  obtain ⟨f1, o1, t1, rfl⟩ := s1
  have f1' := f1 []
  rw [List.append_nil] at f1'
  have g1 := Fresh_raw c1 hl1
  have r1 := rFresh_raw c1 hl1
  have u1 := Tick_raw c1 hl1 x1 heat cur
  have w1 := rTick_raw c1 hl1 x1 heat cur
  generalize freshV c1 = F1 at *
  generalize tickV c1 x1 heat cur = T1 at *
  obtain ⟨f2, o2, t2, rfl⟩ := s2
  have f2' := f2 []
  rw [List.append_nil] at f2'
  have g2 := Fresh_raw c2 hl2
  have r2 := rFresh_raw c2 hl2
  have u2 := Tick_raw c2 hl2 x2 heat cur
  have w2 := rTick_raw c2 hl2 x2 heat cur
  generalize freshV c2 = F2 at *
  generalize tickV c2 x2 heat cur = T2 at *
  have hHa := cells_grow ha
  have hHb := cells_grow hb
  have q1 : IntKind.i64.wrap 1 = 1 := rfl
  have q2 : IntKind.i64.wrap 2 = 2 := rfl
  have q3 : IntKind.i64.wrap 3 = 3 := rfl
  refine loop_body 3000 k_law03_CathodeTicks_r21.eq_1 ?_
  simp only [go_sem, tsets, ha, hb, hHa, hHb, Ct.v, Ct.cs, q1, q2, q3]
  refine cF g0 6 ⟨.inl (f0'), trivial⟩ ?_ (hr := by simp only [go_sem, Cg.v, Cg.cs]) (hnv := by simp only [go_sem, Cg.v, Cg.cs])
  simp only [go_sem, ha, hb, hHa, hHb, Ct.v, Ct.cs, Cg.v, Cg.cs]
  refine cF r0 6 ⟨.inl (f0 _), trivial⟩ ?_ (hr := by simp only [go_sem, Cg.v, Cg.cs]) (hnv := by simp only [go_sem, Cg.v, Cg.cs])
  simp only [go_sem, ha, hb, hHa, hHb, Ct.v, Ct.cs, Cg.v, Cg.cs]
  refine dF u0 6 [3] ⟨.inl (o0 _), .inl rfl, .inl rfl, .inl rfl, trivial⟩ ?_ (hr := by simp only [go_sem, Cg.v, Cg.cs]) (hnv := by simp only [go_sem, Cg.v, Cg.cs])
  simp only [go_sem, ha, hb, hHa, hHb, Ct.v, Ct.cs, Cg.v, Cg.cs]
  refine ⟨by simp <;> omega, ?_⟩
  refine dF w0 6 [3] ⟨.inl (o0 _), .inl rfl, .inl rfl, .inl rfl, trivial⟩ ?_ (hr := by simp only [go_sem, Cg.v, Cg.cs]) (hnv := by simp only [go_sem, Cg.v, Cg.cs])
  simp only [go_sem, ha, hb, hHa, hHb, Ct.v, Ct.cs, Cg.v, Cg.cs]
  refine ⟨by simp <;> omega, ?_⟩
  refine loop_body 3000 k_law03_CathodeTicks_r21.eq_1 ?_
  simp only [go_sem, tsets, ha, hb, hHa, hHb, Ct.v, Ct.cs, q1, q2, q3]
  refine cF g1 6 ⟨.inl (f1 _), trivial⟩ ?_ (hr := by simp only [go_sem, Cg.v, Cg.cs]) (hnv := by simp only [go_sem, Cg.v, Cg.cs])
  simp only [go_sem, ha, hb, hHa, hHb, Ct.v, Ct.cs, Cg.v, Cg.cs]
  refine cF r1 6 ⟨.inl (f1 _), trivial⟩ ?_ (hr := by simp only [go_sem, Cg.v, Cg.cs]) (hnv := by simp only [go_sem, Cg.v, Cg.cs])
  simp only [go_sem, ha, hb, hHa, hHb, Ct.v, Ct.cs, Cg.v, Cg.cs]
  refine dF u1 6 [3] ⟨.inl (o1 _), .inl rfl, .inl rfl, .inl rfl, trivial⟩ ?_ (hr := by simp only [go_sem, Cg.v, Cg.cs]) (hnv := by simp only [go_sem, Cg.v, Cg.cs])
  simp only [go_sem, ha, hb, hHa, hHb, Ct.v, Ct.cs, Cg.v, Cg.cs]
  refine ⟨by simp <;> omega, ?_⟩
  refine dF w1 6 [3] ⟨.inl (o1 _), .inl rfl, .inl rfl, .inl rfl, trivial⟩ ?_ (hr := by simp only [go_sem, Cg.v, Cg.cs]) (hnv := by simp only [go_sem, Cg.v, Cg.cs])
  simp only [go_sem, ha, hb, hHa, hHb, Ct.v, Ct.cs, Cg.v, Cg.cs]
  refine ⟨by simp <;> omega, ?_⟩
  refine loop_body 3000 k_law03_CathodeTicks_r21.eq_1 ?_
  simp only [go_sem, tsets, ha, hb, hHa, hHb, Ct.v, Ct.cs, q1, q2, q3]
  refine cF g2 6 ⟨.inl (f2 _), trivial⟩ ?_ (hr := by simp only [go_sem, Cg.v, Cg.cs]) (hnv := by simp only [go_sem, Cg.v, Cg.cs])
  simp only [go_sem, ha, hb, hHa, hHb, Ct.v, Ct.cs, Cg.v, Cg.cs]
  refine cF r2 6 ⟨.inl (f2 _), trivial⟩ ?_ (hr := by simp only [go_sem, Cg.v, Cg.cs]) (hnv := by simp only [go_sem, Cg.v, Cg.cs])
  simp only [go_sem, ha, hb, hHa, hHb, Ct.v, Ct.cs, Cg.v, Cg.cs]
  refine dF u2 6 [3] ⟨.inl (o2 _), .inl rfl, .inl rfl, .inl rfl, trivial⟩ ?_ (hr := by simp only [go_sem, Cg.v, Cg.cs]) (hnv := by simp only [go_sem, Cg.v, Cg.cs])
  simp only [go_sem, ha, hb, hHa, hHb, Ct.v, Ct.cs, Cg.v, Cg.cs]
  refine ⟨by simp <;> omega, ?_⟩
  refine dF w2 6 [3] ⟨.inl (o2 _), .inl rfl, .inl rfl, .inl rfl, trivial⟩ ?_ (hr := by simp only [go_sem, Cg.v, Cg.cs]) (hnv := by simp only [go_sem, Cg.v, Cg.cs])
  simp only [go_sem, ha, hb, hHa, hHb, Ct.v, Ct.cs, Cg.v, Cg.cs]
  refine ⟨by simp <;> omega, ?_⟩
  refine loop_body 3000 k_law03_CathodeTicks_r21.eq_1 ?_
  simp only [go_sem, tsets, ha, hb, hHa, hHb, Ct.v, Ct.cs, q1, q2, q3]
  refine cP awake_ok ?_
  simp only [go_sem]
  exact hR _
end Go.Proofs
