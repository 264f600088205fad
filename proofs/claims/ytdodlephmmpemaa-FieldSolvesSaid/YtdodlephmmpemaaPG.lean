/- A part of the proof. -/
import Derived.Test.YtdodlephmmpemaaPF
set_option linter.unusedSimpArgs false
set_option linter.unusedVariables false
namespace Go.Proofs
open Go Go.Sx

def k_law01_FieldSolves_r0 : List AOper := [
  ⟨(some (4)), .box (.tmp 0), none, []⟩, 
  ⟨(some (8)), .move (.const (.bool false)), none, []⟩]
def k_law01_FieldSolves_r1 : List AOper := [
  ⟨(some (20)), .load (some (4)) (.tmp 4), none, []⟩, 
  ⟨(some (21)), .move (.tmp 1), none, []⟩, 
  ⟨(some (22)), .buildSlice 1 [.tmp 21], none, []⟩, 
  ⟨(some (23)), .call (.const (.fn (.func 19) [] [])) [.tmp 20, .tmp 22], none, []⟩]
def k_law01_FieldSolves_r2 : List AOper := [
  ⟨(some (24)), .call (.const (.fn (.func 20) [] [])) [], none, []⟩, 
  ⟨(some (8)), .move (.tmp 24), none, []⟩]
def k_law01_FieldSolves_r3 : List AOper := [
  ⟨(some (25)), .move (.tmp 3), none, []⟩, 
  ⟨(some (26)), .call (.const (.fn (.func 22) [] [])) [.tmp 25], none, []⟩, 
  ⟨(some (9)), .move (.tmp 26), none, []⟩]
def k_law01_FieldSolves_r4 : List AOper := [
  ⟨(some (27)), .move (.tmp 9), none, []⟩, 
  ⟨(some (28)), .call (.const (.fn (.func 21) [] [])) [.tmp 27, .const (.int .i64 8), .const (.int .i64 6)], none, []⟩, 
  ⟨(some (10)), .box (.const (.agg [.int .i64 0, .int .i64 0, .bool false, .nilsl])), none, []⟩, 
  ⟨none, .store 4 (.tmp 10) (.tmp 28), none, []⟩]
def k_law01_FieldSolves_r5 : List AOper := [
  ⟨(some (29)), .move (.tmp 9), none, []⟩, 
  ⟨(some (30)), .load (some (4)) (.tmp 10), none, []⟩, 
  ⟨(some (31)), .call (.const (.fn (.func 37) [] [])) [.tmp 29, .tmp 30], none, []⟩, 
  ⟨(some (11)), .move (.tmp 31), none, []⟩]
def k_law01_FieldSolves_r6 : List AOper := [
  ⟨(some (32)), .load (some (4)) (.tmp 10), none, []⟩, 
  ⟨(some (33)), .call (.const (.fn (.func 24) [] [])) [.tmp 32], none, []⟩, 
  ⟨(some (12)), .box (.const (.agg [.int .i64 0, .int .i64 0, .bool false, .nilsl])), none, []⟩, 
  ⟨none, .store 4 (.tmp 12) (.tmp 33), none, []⟩]
def k_law01_FieldSolves_r7 : List AOper := [
  ⟨(some (35)), .load (some (4)) (.tmp 4), none, []⟩, 
  ⟨(some (36)), .move (.tmp 1), none, []⟩, 
  ⟨(some (37)), .move (.tmp 2), none, []⟩, 
  ⟨(some (38)), .call (.const (.fn (.func 38) [] [])) [.tmp 35, .tmp 36, .tmp 37], none, []⟩, 
  ⟨(some (34)), .move (.tmp 38), none, []⟩, 
  ⟨(some (39)), .extract (.tmp 34) 0, none, []⟩, 
  ⟨(some (40)), .extract (.tmp 34) 1, none, []⟩, 
  ⟨(some (13)), .box (.const (.agg [.nilsl, .nilsl, .int .i64 0, .bool false])), none, []⟩, 
  ⟨none, .store 4 (.tmp 13) (.tmp 39), none, []⟩, 
  ⟨(some (14)), .move (.tmp 40), none, []⟩]
def k_law01_FieldSolves_r8 : List AOper := [
  ⟨(some (42)), .load (some (4)) (.tmp 4), none, []⟩, 
  ⟨(some (43)), .move (.tmp 1), none, []⟩, 
  ⟨(some (44)), .move (.tmp 2), none, []⟩, 
  ⟨(some (45)), .call (.const (.fn (.func 39) [] [])) [.tmp 42, .tmp 43, .tmp 44], none, []⟩, 
  ⟨(some (41)), .move (.tmp 45), none, []⟩, 
  ⟨(some (46)), .extract (.tmp 41) 0, none, []⟩, 
  ⟨(some (47)), .extract (.tmp 41) 1, none, []⟩, 
  ⟨(some (15)), .box (.const (.agg [.nilsl, .nilsl, .int .i64 0, .bool false])), none, []⟩, 
  ⟨none, .store 4 (.tmp 15) (.tmp 46), none, []⟩, 
  ⟨(some (16)), .move (.tmp 47), none, []⟩]
def k_law01_FieldSolves_r9 : List AOper := [
  ⟨(some (48)), .move (.tmp 14), none, []⟩, 
  ⟨(some (49)), .move (.tmp 16), none, []⟩, 
  ⟨(some (50)), .bin .plain .neq (.tmp 48) (.tmp 49), none, []⟩, 
  ⟨(some (51)), .move (.tmp 50), none, []⟩, 
  ⟨(some (52)), .load (some (4)) (.tmp 13), (some (51, false)), []⟩, 
  ⟨(some (53)), .load (some (4)) (.tmp 15), (some (51, false)), []⟩, 
  ⟨(some (54)), .call (.const (.fn (.func 40) [] [])) [.tmp 52, .tmp 53], (some (51, false)), []⟩, 
  ⟨(some (55)), .not (.tmp 54), (some (51, false)), []⟩, 
  ⟨(some (56)), .pick (.tmp 51) (.const (.bool true)) (.tmp 55), none, []⟩]
def k_law01_FieldSolves_r10 : List AOper := [
  ⟨(some (8)), .move (.const (.bool false)), none, []⟩]
def k_law01_FieldSolves_r11 : List AOper := [
  ⟨(some (57)), .move (.tmp 2), none, []⟩, 
  ⟨(some (58)), .call (.const (.fn (.func 23) [] [])) [.tmp 57, .const (.int .i64 61)], none, []⟩, 
  ⟨(some (17)), .move (.tmp 58), none, []⟩]
def k_law01_FieldSolves_r12 : List AOper := [
  ⟨(some (60)), .load (some (4)) (.tmp 12), none, []⟩, 
  ⟨(some (61)), .move (.tmp 11), none, []⟩, 
  ⟨(some (62)), .move (.tmp 17), none, []⟩, 
  ⟨(some (63)), .call (.const (.fn (.func 38) [] [])) [.tmp 60, .tmp 61, .tmp 62], none, []⟩, 
  ⟨(some (59)), .move (.tmp 63), none, []⟩, 
  ⟨(some (64)), .extract (.tmp 59) 0, none, []⟩, 
  ⟨(some (65)), .extract (.tmp 59) 1, none, []⟩, 
  ⟨none, .store 4 (.tmp 13) (.tmp 64), none, []⟩, 
  ⟨(some (14)), .move (.tmp 65), none, []⟩]
def k_law01_FieldSolves_r13 : List AOper := [
  ⟨(some (67)), .load (some (4)) (.tmp 10), none, []⟩, 
  ⟨(some (68)), .move (.tmp 11), none, []⟩, 
  ⟨(some (69)), .move (.tmp 17), none, []⟩, 
  ⟨(some (70)), .call (.const (.fn (.func 39) [] [])) [.tmp 67, .tmp 68, .tmp 69], none, []⟩, 
  ⟨(some (66)), .move (.tmp 70), none, []⟩, 
  ⟨(some (71)), .extract (.tmp 66) 0, none, []⟩, 
  ⟨(some (72)), .extract (.tmp 66) 1, none, []⟩, 
  ⟨none, .store 4 (.tmp 15) (.tmp 71), none, []⟩, 
  ⟨(some (16)), .move (.tmp 72), none, []⟩]
def k_law01_FieldSolves_r14 : List AOper := [
  ⟨(some (73)), .move (.tmp 14), none, []⟩, 
  ⟨(some (74)), .move (.tmp 16), none, []⟩, 
  ⟨(some (75)), .bin .plain .neq (.tmp 73) (.tmp 74), none, []⟩, 
  ⟨(some (76)), .move (.tmp 75), none, []⟩, 
  ⟨(some (77)), .load (some (4)) (.tmp 13), (some (76, false)), []⟩, 
  ⟨(some (78)), .load (some (4)) (.tmp 15), (some (76, false)), []⟩, 
  ⟨(some (79)), .call (.const (.fn (.func 40) [] [])) [.tmp 77, .tmp 78], (some (76, false)), []⟩, 
  ⟨(some (80)), .not (.tmp 79), (some (76, false)), []⟩, 
  ⟨(some (81)), .pick (.tmp 76) (.const (.bool true)) (.tmp 80), none, []⟩, 
  ⟨(some (82)), .move (.tmp 81), none, []⟩, 
  ⟨(some (83)), .load (some (4)) (.tmp 12), (some (82, false)), []⟩, 
  ⟨(some (84)), .load (some (4)) (.tmp 10), (some (82, false)), []⟩, 
  ⟨(some (85)), .call (.const (.fn (.func 34) [] [])) [.tmp 83, .tmp 84], (some (82, false)), []⟩, 
  ⟨(some (86)), .not (.tmp 85), (some (82, false)), []⟩, 
  ⟨(some (87)), .pick (.tmp 82) (.const (.bool true)) (.tmp 86), none, []⟩]
def k_law01_FieldSolves_r15 : List AOper := [
  ⟨(some (8)), .move (.const (.bool false)), none, []⟩]
def k_law01_FieldSolves_r16 : List AOper := [
  ⟨(some (88)), .fieldAddr 0 (.tmp 13), none, []⟩, 
  ⟨(some (89)), .load none (.tmp 88), none, []⟩, 
  ⟨(some (90)), .fieldAddr 0 (.tmp 13), none, [0, 1]⟩, 
  ⟨(some (91)), .load none (.tmp 90), none, [0, 1]⟩, 
  ⟨(some (92)), .indexAddr 1 (.tmp 91) (.const (.int .i64 0)), none, [0, 1]⟩, 
  ⟨(some (93)), .load none (.tmp 92), none, [0, 1]⟩, 
  ⟨(some (94)), .bin .plain .add (.tmp 93) (.const (.int .i64 7)), none, [0, 1]⟩, 
  ⟨(some (95)), .indexAddr 1 (.tmp 89) (.const (.int .i64 0)), none, []⟩, 
  ⟨none, .store 1 (.tmp 95) (.tmp 94), none, []⟩]
def k_law01_FieldSolves_r16s : List (List AOper) := [
  [
  ⟨(some (88)), .fieldAddr 0 (.tmp 13), none, []⟩, 
  ⟨(some (89)), .load none (.tmp 88), none, []⟩, 
  ⟨(some (90)), .fieldAddr 0 (.tmp 13), none, [0, 1]⟩, 
  ⟨(some (91)), .load none (.tmp 90), none, [0, 1]⟩, 
  ⟨(some (92)), .indexAddr 1 (.tmp 91) (.const (.int .i64 0)), none, [0, 1]⟩, 
  ⟨(some (93)), .load none (.tmp 92), none, [0, 1]⟩, 
  ⟨(some (94)), .bin .plain .add (.tmp 93) (.const (.int .i64 7)), none, [0, 1]⟩], 
  [
  ⟨(some (95)), .indexAddr 1 (.tmp 89) (.const (.int .i64 0)), none, []⟩], 
  [
  ⟨none, .store 1 (.tmp 95) (.tmp 94), none, []⟩]]
theorem k_law01_FieldSolves_r16_sg : segs k_law01_FieldSolves_r16 = k_law01_FieldSolves_r16s := by kernel_rfl
theorem k_law01_FieldSolves_r16_st : statOK k_law01_FieldSolves_r16 = true := by kernel_rfl
def k_law01_FieldSolves_r17 : List AOper := [
  ⟨(some (97)), .load (some (4)) (.tmp 12), none, []⟩, 
  ⟨(some (98)), .move (.tmp 11), none, []⟩, 
  ⟨(some (99)), .move (.tmp 17), none, []⟩, 
  ⟨(some (100)), .call (.const (.fn (.func 38) [] [])) [.tmp 97, .tmp 98, .tmp 99], none, []⟩, 
  ⟨(some (96)), .move (.tmp 100), none, []⟩, 
  ⟨(some (101)), .extract (.tmp 96) 0, none, []⟩, 
  ⟨(some (102)), .extract (.tmp 96) 1, none, []⟩, 
  ⟨(some (18)), .box (.const (.agg [.nilsl, .nilsl, .int .i64 0, .bool false])), none, []⟩, 
  ⟨none, .store 4 (.tmp 18) (.tmp 101), none, []⟩, 
  ⟨(some (19)), .move (.tmp 102), none, []⟩]
def k_law01_FieldSolves_r18 : List AOper := [
  ⟨(some (103)), .load (some (4)) (.tmp 18), none, []⟩, 
  ⟨(some (104)), .load (some (4)) (.tmp 15), none, []⟩, 
  ⟨(some (105)), .call (.const (.fn (.func 40) [] [])) [.tmp 103, .tmp 104], none, []⟩, 
  ⟨(some (106)), .move (.tmp 105), none, []⟩, 
  ⟨(some (107)), .call (.const (.fn (.func 20) [] [])) [], (some (106, true)), []⟩, 
  ⟨(some (108)), .pick (.tmp 106) (.tmp 107) (.const (.bool false)), none, []⟩, 
  ⟨(some (8)), .move (.tmp 108), none, []⟩]
def k_law01_FieldSolves : AFun := { params := 4, ntmps := 109, body := (.seq (.reg k_law01_FieldSolves_r0 false) (.seq (.seq (.reg k_law01_FieldSolves_r1 false) (.cond (.tmp 23) (.seq (.reg k_law01_FieldSolves_r2 false) .ret) .skip)) (.seq (.reg k_law01_FieldSolves_r3 false) (.seq (.reg k_law01_FieldSolves_r4 false) (.seq (.reg k_law01_FieldSolves_r5 false) (.seq (.reg k_law01_FieldSolves_r6 false) (.seq (.reg k_law01_FieldSolves_r7 false) (.seq (.reg k_law01_FieldSolves_r8 false) (.seq (.seq (.reg k_law01_FieldSolves_r9 false) (.cond (.tmp 56) (.seq (.reg k_law01_FieldSolves_r10 false) .ret) .skip)) (.seq (.reg k_law01_FieldSolves_r11 false) (.seq (.reg k_law01_FieldSolves_r12 false) (.seq (.reg k_law01_FieldSolves_r13 false) (.seq (.seq (.reg k_law01_FieldSolves_r14 false) (.cond (.tmp 87) (.seq (.reg k_law01_FieldSolves_r15 false) .ret) .skip)) (.seq (.reg k_law01_FieldSolves_r16 true) (.seq (.reg k_law01_FieldSolves_r17 false) (.seq (.reg k_law01_FieldSolves_r18 false) .ret)))))))))))))))), res := [.tmp 8] }
theorem k_law01_FieldSolves_ok : cfun Try.prog Try.f4 = k_law01_FieldSolves := by kernel_rfl


abbrev n_law01_FieldSolves : Nat := 4
theorem e_law01_FieldSolves : EntryOK Try.prog n_law01_FieldSolves k_law01_FieldSolves := ⟨Try.f4, Try.func4, k_law01_FieldSolves_ok, by kernel_rfl⟩

attribute [go_sem] k_law01_FieldSolves_r0 k_law01_FieldSolves_r1 k_law01_FieldSolves_r2 k_law01_FieldSolves_r3 k_law01_FieldSolves_r4 k_law01_FieldSolves_r5 k_law01_FieldSolves_r6 k_law01_FieldSolves_r7 k_law01_FieldSolves_r8 k_law01_FieldSolves_r9 k_law01_FieldSolves_r10 k_law01_FieldSolves_r11
attribute [go_sem] k_law01_FieldSolves_r12 k_law01_FieldSolves_r13 k_law01_FieldSolves_r14 k_law01_FieldSolves_r15 k_law01_FieldSolves_r16s k_law01_FieldSolves_r17 k_law01_FieldSolves_r18 k_law01_FieldSolves_r16_sg k_law01_FieldSolves_r16_st k_law01_FieldSolves
end Go.Proofs

namespace Go.Proofs
open Go Go.Sx
attribute [local irreducible] Run

theorem SameInts_self {l : List Int} (hlen : l.length ≤ 1000000) : Ans Try.prog n_ref01_SameInts [vw l, vw l] [] (.bool true) [] := by
  refine spec_run e_ref01_SameInts fun G => ?_
  simp only [go_sem, vw, bne_self_eq_false]
  refine loop_ind k_ref01_SameInts_r8.eq_1 (fun i : Nat => i ≤ l.length) (fun i => l.length - i)
    (fun i => (tsets 26 [(0, vw l), (1, vw l), (5, .int .i64 i)], [])) 0 (Nat.zero_le _) (by simp [go_sem, vw]) rfl ?_
  intro i hi ih
  dsimp only at hi ih ⊢
  by_cases h1 : i < l.length
  · have h2 : (i : Int) < l.length := by omega
    have h3 := idx_next h1 (by omega)
    have n0 : ¬ (i : Int) < 0 := by omega
    have hx := gt_get h1
    generalize gt l i = z at *
    simp only [go_sem, vw, List.length_map, h2, n0, hx, bne_self_eq_false, h3]
    exact ih (i + 1) (by omega) h1 _ (by simp [go_sem, vw])
  · have h2 : ¬ (i : Int) < l.length := by omega
    simp only [go_sem, vw, List.length_map, h2]
theorem refSame_self {p : Pl} (hlen : p.cs.length ≤ 1000000) : Ans Try.prog n_ref01_Same [p.v, p.v] [] (.bool true) [] := by
  have h := SameInts_self hlen
  refine spec_run e_ref01_Same fun G => ?_
  have e1 : ((p.w : Int) == p.w) = true := by simp
  have e2 : ((p.h : Int) == p.h) = true := by simp
  have e3 : (p.rd == p.rd) = true := by simp
  simp only [go_sem, Pl.v, Pl.a, Pl.c4, vw, e1, e2, e3]
  refine cP h ?_
  simp only [go_sem]

end Go.Proofs

namespace Go.Proofs
open Go Go.Sx
attribute [local irreducible] Run

theorem same_none : Ans Try.prog n_law01_same [noFl, noFl] [] (.bool true) [] := by
  refine spec_run e_law01_same fun G => ?_
  have h1 := (Same_ok (a := []) (b := []) (by simp)).lss (args' := [.nilsl, .nilsl]) ⟨.inr ⟨rfl, rfl⟩, .inr ⟨rfl, rfl⟩, trivial⟩
  simp only [go_sem, noFl]
  refine cP h1 ?_
  simp only [go_sem]
  refine cP h1 ?_
  simp only [go_sem]

theorem same_refl (a b : List Int) (s : Nat) (t : Bool) (ha : a.length ≤ 1000000) (hb : b.length ≤ 1000000) : Ans Try.prog n_law01_same [fldW a b s t, fldW a b s t] [] (.bool true) [] := by
  have h := same_ok (a := a) (b := b) (c := a) (d := b) (s := s) (u := s) (t := t) (w := t) ha hb
  simpa using h

set_option maxHeartbeats 8000000 in
set_option maxRecDepth 10000 in
theorem solves_law (p : Rp) (v : List Int) (sw : Int) (zs : List Int) (hvl : v.length ≤ 9223372036854775807) (hl : zs.length ≤ 9223372036854775807) : Ans Try.prog n_law01_FieldSolves [p.v, vw v, .int .i64 sw, .view (zs.map (.int .i64))] [] (.bool true) [] := by
  by_cases hb : p.cs.length ≤ 300 ∧ v.length ≤ 300
  rotate_left
  · refine spec_run e_law01_FieldSolves fun G => ?_
    have hB := big_yes p hb hvl
    simp only [go_sem, Rp.v, vw]
    refine cF hB 6 ⟨.inl (rp_frz 3 _ p), .inl (bigL_frz rfl), trivial⟩ ?_
    simp only [go_sem]
    refine cP awake_ok ?_
    simp only [go_sem]
  have hB := big_no p hb.1 hb.2
  have m1 := mod_pos sw 61 (by omega)
  have hn : 0 ≤ sw % 61 ∧ sw % 61 ≤ 60 := by omega
  generalize sw % 61 = ni at *
  obtain ⟨n, rfl⟩ : ∃ n : Nat, (n : Int) = ni := ⟨ni.toNat, by omega⟩
  refine spec_run e_law01_FieldSolves fun G => ?_
  simp only [go_sem, Rp.v, vw]
  refine cF hB 6 ⟨.inl (rp_frz 3 _ p), .inl (bigL_frz rfl), trivial⟩ ?_
  simp only [go_sem]
  refine callN1 (newdice_ok zs hl) (by simp only [go_sem]) (dr_bel _ _) (by simp) (by simp) ?_
  generalize seedW zs = w
  simp only [go_sem]
  refine callDN (PlanOf_ok w 8 6 (by omega) (by omega)) rfl (by simp only [go_sem]) (dr_bel _ _) (fun q hq => ⟨pla_bel _ _ _ _ rfl, dr_bel _ _, iv_row _ _ _⟩) (by simp) (by simp) ?_
  rintro ⟨w1, q⟩ hq
  dsimp only at hq ⊢
  have hqo := hq.ok
  have hqN : q.cs.length ≤ 256 := by rw [hqo.len]; exact Nat.mul_le_mul hqo.w.2 hqo.h.2
  have hql : q.cs.length ≤ 1000000 := by omega
  have hq1 : 1 ≤ q.cs.length := by rw [hqo.len]; exact Nat.mul_pos hqo.w.1 hqo.h.1
  have hmx := hqo.max
  simp only [go_sem, Pl.a, Pl.c4, ren, rens]
  refine callR1 (VoltsOf_ok w1 hql (by omega) true) (j0 := 2) (j1 := 3) rfl (by simp [go_sem, Pl.a, Pl.c4]) rfl rfl (dr_bel _ _) (iv_row _ _ _) (by decide) (fun q hq => ⟨by simp [go_sem], dr_bel _ _, iv_row _ _ _⟩) (by simp) (by simp) ?_
  rintro ⟨w2, u⟩ hvv
  dsimp only at hvv ⊢
  have hu := hvv.2
  have hul := hvv.len hq
  simp only [go_sem, Pl.a, Pl.c4, ren, rens]
  refine cFN (Copy_ok hql hq1) 6 ⟨.inl (pla_frz 3 (j := 3) (g := true) rfl rfl), trivial⟩ ?_ (by simp [go_sem, Pl.a, Pl.c4]) (by simp only [go_sem, Pl.a, Pl.c4]) (iv_row _ _ _) (iv_nv _ _)
  simp only [go_sem, Pl.a, Pl.c4, ren, rens]
  have s1 := Solve_ok hqo hu hul (n := n) (by omega)
  have s2 := rSolve_ok (p := q.rp) (v := u) (n := n) (hqo.errS hu hul (by omega))
  rw [Pl.rp_v, Pl.rp_pl, Int.toNat_natCast] at s2
  have sS := refSame_self (p := q) hql
  have A := low_ok hqo u (cnt q u n)
  have B := high_ok hqo u (cnt q u n)
  have lA : (lowB q u (cnt q u n)).length = q.cs.length := by rw [A.len, hqo.len]
  have lB : (highB q u (cnt q u n)).length = q.cs.length := by rw [B.len, hqo.len]
  have bA := (A.at hu).bd 0 (by rw [← hqo.len]; omega)
  have g1 := iv_get (l := lowB q u (cnt q u n)) (i := 0) (by omega)
  have w7 : IntKind.i64.wrap (gt (lowB q u (cnt q u n)) 0 + 7) = gt (lowB q u (cnt q u n)) 0 + 7 := w64 (by omega)
  have z7 : (0 : Int) < q.cs.length := by omega
  have sm := same_refl (lowB q u (cnt q u n)) (highB q u (cnt q u n)) (cnt q u n) (stl q u (cnt q u n)) (by omega) (by omega)
  clear A B
  generalize hgL : lowB q u (cnt q u n) = L at *
  generalize hgH : highB q u (cnt q u n) = U at *
  generalize hgs : stl q u (cnt q u n) = st at *
  generalize hgc : cnt q u n = ct at *
  clear hgL hgH hgs hgc
  by_cases hE : p.errS v sw = 0
  · have a2 := rSolve_ok hE
    obtain ⟨⟨hp, hpv⟩, hv, hvg, hsw⟩ := Rp.okS hE
    have a1 := Solve_ok hp hv hvg (n := sw.toNat) (by omega)
    rw [show ((sw.toNat : Nat) : Int) = sw by omega] at a1
    rw [← hpv] at a1
    have A := low_ok hp v (cnt p.pl v sw.toNat)
    have B := high_ok hp v (cnt p.pl v sw.toNat)
    have kA : (lowB p.pl v (cnt p.pl v sw.toNat)).length = p.pl.cs.length := by rw [A.len, hp.len]
    have kB : (highB p.pl v (cnt p.pl v sw.toNat)).length = p.pl.cs.length := by rw [B.len, hp.len]
    have hpn : p.pl.cs.length ≤ 300 := hb.1
    have sn := same_refl (lowB p.pl v (cnt p.pl v sw.toNat)) (highB p.pl v (cnt p.pl v sw.toNat)) (cnt p.pl v sw.toNat) (stl p.pl v (cnt p.pl v sw.toNat)) (by omega) (by omega)
    clear A B
    generalize lowB p.pl v (cnt p.pl v sw.toNat) = L' at *
    generalize highB p.pl v (cnt p.pl v sw.toNat) = U' at *
    generalize stl p.pl v (cnt p.pl v sw.toNat) = st' at *
    generalize cnt p.pl v sw.toNat = ct' at *
    have hne : ((0 : Int) != 0) = false := rfl
    refine cN2 a1 ?_ (hr := by simp [go_sem, fldV]) (hx := iv_row _ _ _) (hy := iv_row _ _ _)
    simp only [go_sem, ren, rens, fldV, Pl.a, Pl.c4]
    refine cN2 a2 ?_ (hr := by simp [go_sem, fldV]) (hx := iv_row _ _ _) (hy := iv_row _ _ _)
    simp only [go_sem, ren, rens, fldV, Pl.a, Pl.c4]
    refine cF sn 6 ⟨.inl (fldW_frz (j0 := 8) (j1 := 9) rfl rfl kA.symm kB.symm), .inl (fldW_frz (j0 := 11) (j1 := 12) rfl rfl kA.symm kB.symm), trivial⟩ ?_
    simp only [go_sem, ren, rens, fldV, Pl.a, Pl.c4]
    refine cP m1 ?_
    simp only [go_sem, Pl.a, Pl.c4]
    refine cFN2 s1 6 ⟨.inl (pla_frz 3 (p := q) (j := 6) (g := true) rfl rfl), .inl (iv_frz_sl (d := 4) (j := 5) (g := false) rfl rfl), .inl rfl, trivial⟩ ?_ (by simp [go_sem, fldV]) (by simp only [go_sem, fldV]) (iv_row _ _ _) (iv_nv _ _) (iv_row _ _ _) (iv_nv _ _)
    simp only [go_sem, ren, rens, fldV, Pl.a, Pl.c4]
    refine cFN2 s2 6 ⟨.inl (pla_frz 3 (p := q) (j := 3) (g := true) rfl rfl), .inl (iv_frz_sl (d := 4) (j := 5) (g := false) rfl rfl), .inl rfl, trivial⟩ ?_ (by simp [go_sem, fldV]) (by simp only [go_sem, fldV]) (iv_row _ _ _) (iv_nv _ _) (iv_row _ _ _) (iv_nv _ _)
    simp only [go_sem, ren, rens, fldV, Pl.a, Pl.c4]
    refine cF sm 6 ⟨.inl (fldW_frz (j0 := 14) (j1 := 15) rfl rfl lA.symm lB.symm), .inl (fldW_frz (j0 := 16) (j1 := 17) rfl rfl lA.symm lB.symm), trivial⟩ ?_
    simp only [go_sem, ren, rens, fldV, Pl.a, Pl.c4]
    refine cF sS 6 ⟨.inl (pla_frz 3 (p := q) (j := 6) (g := true) rfl rfl), .inl (pla_frz 3 (p := q) (j := 3) (g := true) rfl rfl), trivial⟩ ?_
    simp only [go_sem, ren, rens, fldV, Pl.a, Pl.c4, iv_len, lA, g1, w7, z7, iv_set]
    refine cFN2 s1 6 ⟨.inl (pla_frz 3 (p := q) (j := 6) (g := true) rfl rfl), .inl (iv_frz_sl (d := 4) (j := 5) (g := false) rfl rfl), .inl rfl, trivial⟩ ?_ (by simp [go_sem, fldV]) (by simp only [go_sem, fldV]) (iv_row _ _ _) (iv_nv _ _) (iv_row _ _ _) (iv_nv _ _)
    simp only [go_sem, ren, rens, fldV, Pl.a, Pl.c4]
    refine cF sm 6 ⟨.inl (fldW_frz (j0 := 18) (j1 := 19) rfl rfl lA.symm lB.symm), .inl (fldW_frz (j0 := 16) (j1 := 17) rfl rfl lA.symm lB.symm), trivial⟩ ?_
    simp only [go_sem]
    refine cP awake_ok ?_
    simp only [go_sem]
  · have a1 := Solve_bad p (v := v) (n := sw) (by omega) (by omega) hE
    have a2 := rSolve_bad p (v := v) (n := sw) (by omega) (by omega) hE
    generalize p.errS v sw = er at *
    refine cP a1 ?_ (hr := by simp only [go_sem, noFl])
    simp only [go_sem, noFl, Pl.a, Pl.c4]
    refine cP a2 ?_ (hr := by simp only [go_sem, noFl])
    simp only [go_sem, noFl, Pl.a, Pl.c4]
    refine cP same_none ?_ (hb := by simp only [go_sem, noFl])
    simp only [go_sem, noFl, Pl.a, Pl.c4]
    refine cP m1 ?_
    simp only [go_sem, Pl.a, Pl.c4]
    refine cFN2 s1 6 ⟨.inl (pla_frz 3 (p := q) (j := 6) (g := true) rfl rfl), .inl (iv_frz_sl (d := 4) (j := 5) (g := false) rfl rfl), .inl rfl, trivial⟩ ?_ (by simp [go_sem, fldV]) (by simp only [go_sem, fldV]) (iv_row _ _ _) (iv_nv _ _) (iv_row _ _ _) (iv_nv _ _)
    simp only [go_sem, ren, rens, fldV, Pl.a, Pl.c4]
    refine cFN2 s2 6 ⟨.inl (pla_frz 3 (p := q) (j := 3) (g := true) rfl rfl), .inl (iv_frz_sl (d := 4) (j := 5) (g := false) rfl rfl), .inl rfl, trivial⟩ ?_ (by simp [go_sem, fldV]) (by simp only [go_sem, fldV]) (iv_row _ _ _) (iv_nv _ _) (iv_row _ _ _) (iv_nv _ _)
    simp only [go_sem, ren, rens, fldV, Pl.a, Pl.c4]
    refine cF sm 6 ⟨.inl (fldW_frz (j0 := 10) (j1 := 11) rfl rfl lA.symm lB.symm), .inl (fldW_frz (j0 := 12) (j1 := 13) rfl rfl lA.symm lB.symm), trivial⟩ ?_
    simp only [go_sem, ren, rens, fldV, Pl.a, Pl.c4]
    refine cF sS 6 ⟨.inl (pla_frz 3 (p := q) (j := 6) (g := true) rfl rfl), .inl (pla_frz 3 (p := q) (j := 3) (g := true) rfl rfl), trivial⟩ ?_
    simp only [go_sem, ren, rens, fldV, Pl.a, Pl.c4, iv_len, lA, g1, w7, z7, iv_set]
    refine cFN2 s1 6 ⟨.inl (pla_frz 3 (p := q) (j := 6) (g := true) rfl rfl), .inl (iv_frz_sl (d := 4) (j := 5) (g := false) rfl rfl), .inl rfl, trivial⟩ ?_ (by simp [go_sem, fldV]) (by simp only [go_sem, fldV]) (iv_row _ _ _) (iv_nv _ _) (iv_row _ _ _) (iv_nv _ _)
    simp only [go_sem, ren, rens, fldV, Pl.a, Pl.c4]
    refine cF sm 6 ⟨.inl (fldW_frz (j0 := 14) (j1 := 15) rfl rfl lA.symm lB.symm), .inl (fldW_frz (j0 := 12) (j1 := 13) rfl rfl lA.symm lB.symm), trivial⟩ ?_
    simp only [go_sem]
    refine cP awake_ok ?_
    simp only [go_sem]
end Go.Proofs

