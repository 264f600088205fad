/- CathodeTicks: the law. -/
import Derived.Test.YtigaafcllfjniaaYeI
namespace Go.Proofs
open Go Go.Sx
attribute [local irreducible] Run

set_option maxRecDepth 20000 in
set_option maxHeartbeats 8000000 in
theorem ticks_ok (c : Ct) (x : Cg) (heat cur : Int) (xs : List Int) (hl : xs.length ≤ 9223372036854775807) : Ans Try.prog n_law03_CathodeTicks [c.v (.view (c.bands.map Bd.v)), x.v, .int .i64 heat, .int .i64 cur, .view (xs.map (.int .i64))] [] (.bool true) [] := by
  have hd := newdice_ok xs hl
  generalize seedW xs = w at *
  refine spec_run e_law03_CathodeTicks fun G => ?_
  simp only [go_sem, Ct.v, Ct.cs, Cg.v, Cg.cs, List.length_map]
  refine ⟨fun hbig => ?_, fun hbig => ?_⟩
  · refine cP awake_ok ?_
    simp only [go_sem]
    try simp
  refine callN1 hd ⟨by rw [bel_view]; exact bels_map _ _ fun _ => .int _ _, trivial⟩ (dr_bel _ _) (by simp) (by simp) ?_
  simp only [go_sem]
  refine callDN (coatOf_run w) rfl trivial (dr_bel _ _) (fun a ha => ⟨by simp only [go_sem], by simp only [go_sem], by simp only [go_sem]⟩) (by simp) (by simp) ?_
  rintro ⟨m, w1⟩ hm
  dsimp only at hm
  have hsd := scheduleOf_det w1 6 9 (by decide) (by decide)
  have hsc := schedOf_sch w1 6 9 (by decide) (by decide)
  generalize schedOf w1 6 9 = S at *
  obtain ⟨l, w2⟩ := S
  dsimp only at hsd hsc
  have hls := hsc.ok (by decide) (by decide) (by decide)
  have hone := One_run w2 20 (by decide)
  generalize (upto w2 20 == 0) = ob at hone
  have c0 : c.bands.length ≤ 1000 := by omega
  have c1 : m.bands.length ≤ 1000 := by have := hm.len; omega
  have v0 : ∀ (H : Heap), frz 6 H (c.v (.view (c.bands.map Bd.v))) = c.v (.view (c.bands.map Bd.v)) := fun H => by simp only [go_sem, frz, bds_frz, Ct.v, Ct.cs]
  simp only [go_sem, Ct.v, Ct.cs, ren, rens]
  by_cases hnil : l = []
  · have e1 : slv 1 (List.map Ht.v l) = .nilsl := by rw [hnil]; rfl
    have e2 : slrG false 3 (List.map Ht.v l) = [] := by rw [hnil]; rfl
    rw [e1, e2] at hsd
    refine dD hsd ?_
    simp only [go_sem]
    refine cF (rFollow_nil m hm) 6 ⟨.inl (ct_frz (H := _) rfl), .inr ⟨rfl, rfl⟩, trivial⟩ ?_
    simp only [go_sem, Cg.v, Cg.cs]
    refine cD hone ?_
    cases ob
    · simp only [go_sem, Ct.v, Ct.cs, Cg.v, Cg.cs]
      refine loop_wk (ρ' := tsets 134 [(2, .int .i64 heat), (3, .int .i64 cur), (10, .bool false), (16, .sl 6 0 3), (17, .sl 7 0 3), (18, .int .i64 0)]) (by simp [go_sem]) ?_
      refine tk_loop (fun X => by simp) (a := 6) (b := 7) (v0 := c.v (.view (c.bands.map Bd.v))) (v1 := m.v (.sl 3 0 m.bands.length)) (v2 := m.v (.sl 3 0 m.bands.length)) (c0 := c) (c1 := m) (c2 := m) (x0 := x) (x1 := x) (x2 := x) ?_ ?_ ?_ ?_ ?_ c0 c1 c1 ?_ ?_ ?_
      · rfl
      · rfl
      · exact ⟨fun Y => v0 _, fun Y => v0 _, _, rfl⟩
      · exact ⟨fun Y => ct_frz rfl, fun Y => ct_frz rfl, _, rfl⟩
      · exact ⟨fun Y => ct_frz rfl, fun Y => ct_frz rfl, _, rfl⟩
      · simp
      · simp
      · simp
    · simp only [go_sem, Ct.v, Ct.cs, Cg.v, Cg.cs]
      refine loop_wk (ρ' := tsets 134 [(2, .int .i64 heat), (3, .int .i64 cur), (10, .bool false), (16, .sl 6 0 3), (17, .sl 7 0 3), (18, .int .i64 0)]) (by simp [go_sem]) ?_
      refine tk_loop (fun X => by simp) (a := 6) (b := 7) (v0 := c.v (.view (c.bands.map Bd.v))) (v1 := m.v (.sl 3 0 m.bands.length)) (v2 := m.v (.sl 3 0 m.bands.length)) (c0 := c) (c1 := m) (c2 := m) (x0 := x) (x1 := x) (x2 := { x with wear := ⟨x.wear.lo, 1099511627776⟩ }) ?_ ?_ ?_ ?_ ?_ c0 c1 c1 ?_ ?_ ?_
      · rfl
      · rfl
      · exact ⟨fun Y => v0 _, fun Y => v0 _, _, rfl⟩
      · exact ⟨fun Y => ct_frz rfl, fun Y => ct_frz rfl, _, rfl⟩
      · exact ⟨fun Y => ct_frz rfl, fun Y => ct_frz rfl, _, rfl⟩
      · simp
      · simp
      · simp
  have hne : List.map Ht.v l ≠ [] := by simpa using hnil
  refine dDs hsd hne rfl ⟨.int _ _, .int _ _, trivial⟩ (dr_bel _ _) (dr_bel _ _) (by simp only [go_sem]) (by simp) ?_ ?_
  · simp only [go_sem]
  simp only [go_sem, List.length_map]
  have hF := rFollow_run m hm l hls hnil
  have hfl : (follow m l).length = l.length := followX_len m _ _
  have hlp : 0 < l.length := List.length_pos_iff.2 hnil
  have hlen := hls.len
  have hy : (follow m l)[l.length - 1]? = some ((follow m l).getD (l.length - 1) default) := by
    rw [List.getD_eq_getElem?_getD, List.getElem?_eq_getElem (by rw [hfl]; omega)]; rfl
  generalize follow m l = F at *
  generalize F.getD (l.length - 1) default = y at *
  have g0 : (0 : Int) < l.length := by omega
  have g1 : IntKind.i64.wrap ((l.length : Int) - 1) = ((l.length - 1 : Nat) : Int) := by rw [w64 (by omega)]; omega
  have g2 : ¬ ((l.length - 1 : Nat) : Int) < 0 := by omega
  have g3 : ((l.length - 1 : Nat) : Int) < l.length := by omega
  refine cFN hF 6 ⟨.inl (ct_frz (H := _) rfl), .inl (sch_frz (H := _) rfl rfl), trivial⟩ ?_
  simp only [go_sem, ren, rens, CgR, List.length_map, hfl, g0, g1, g2, g3, hy, Cg.v, Cg.cs]
  refine cD hone ?_
  cases ob
  · simp only [go_sem, Ct.v, Ct.cs, Cg.v, Cg.cs]
    refine loop_wk (ρ' := tsets 134 [(2, .int .i64 heat), (3, .int .i64 cur), (10, .bool false), (16, .sl 8 0 3), (17, .sl 9 0 3), (18, .int .i64 0)]) (by simp [go_sem]) ?_
    refine tk_loop (fun X => by simp) (a := 8) (b := 9) (v0 := c.v (.view (c.bands.map Bd.v))) (v1 := m.v (.sl 3 0 m.bands.length)) (v2 := m.v (.sl 3 0 m.bands.length)) (c0 := c) (c1 := m) (c2 := m) (x0 := x) (x1 := x) (x2 := y) ?_ ?_ ?_ ?_ ?_ c0 c1 c1 ?_ ?_ ?_
    · rfl
    · rfl
    · exact ⟨fun Y => v0 _, fun Y => v0 _, _, rfl⟩
    · exact ⟨fun Y => ct_frz rfl, fun Y => ct_frz rfl, _, rfl⟩
    · exact ⟨fun Y => ct_frz rfl, fun Y => ct_frz rfl, _, rfl⟩
    · simp
    · simp
    · simp
  · simp only [go_sem, Ct.v, Ct.cs, Cg.v, Cg.cs]
    refine loop_wk (ρ' := tsets 134 [(2, .int .i64 heat), (3, .int .i64 cur), (10, .bool false), (16, .sl 8 0 3), (17, .sl 9 0 3), (18, .int .i64 0)]) (by simp [go_sem]) ?_
    refine tk_loop (fun X => by simp) (a := 8) (b := 9) (v0 := c.v (.view (c.bands.map Bd.v))) (v1 := m.v (.sl 3 0 m.bands.length)) (v2 := m.v (.sl 3 0 m.bands.length)) (c0 := c) (c1 := m) (c2 := m) (x0 := x) (x1 := x) (x2 := { y with wear := ⟨y.wear.lo, 1099511627776⟩ }) ?_ ?_ ?_ ?_ ?_ c0 c1 c1 ?_ ?_ ?_
    · rfl
    · rfl
    · exact ⟨fun Y => v0 _, fun Y => v0 _, _, rfl⟩
    · exact ⟨fun Y => ct_frz rfl, fun Y => ct_frz rfl, _, rfl⟩
    · exact ⟨fun Y => ct_frz rfl, fun Y => ct_frz rfl, _, rfl⟩
    · simp
    · simp
    · simp
end Go.Proofs
