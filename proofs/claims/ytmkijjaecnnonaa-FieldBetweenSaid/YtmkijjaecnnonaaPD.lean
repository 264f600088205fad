/- A part of the proof. -/
import Derived.Test.YtmkijjaecnnonaaPC
set_option linter.unusedSimpArgs false
set_option linter.unusedVariables false
namespace Go.Proofs
open Go Go.Sx

-- 11: thermion/thermionlaw01.FieldNarrows
def k_law01_FieldNarrows_r0 : List AOper := [
  ⟨(some (6)), .move (.const (.bool false)), none, []⟩]
def k_law01_FieldNarrows_r1 : List AOper := [
  ⟨(some (17)), .move (.tmp 0), none, []⟩, 
  ⟨(some (18)), .call (.const (.fn (.func 22) [] [])) [.tmp 17], none, []⟩, 
  ⟨(some (7)), .move (.tmp 18), none, []⟩]
def k_law01_FieldNarrows_r2 : List AOper := [
  ⟨(some (19)), .move (.tmp 7), none, []⟩, 
  ⟨(some (20)), .call (.const (.fn (.func 21) [] [])) [.tmp 19, .const (.int .i64 8), .const (.int .i64 6)], none, []⟩, 
  ⟨(some (8)), .box (.const (.agg [.int .i64 0, .int .i64 0, .bool false, .nilsl])), none, []⟩, 
  ⟨none, .store 4 (.tmp 8) (.tmp 20), none, []⟩]
def k_law01_FieldNarrows_r3 : List AOper := [
  ⟨(some (21)), .move (.tmp 7), none, []⟩, 
  ⟨(some (22)), .load (some (4)) (.tmp 8), none, []⟩, 
  ⟨(some (23)), .call (.const (.fn (.func 37) [] [])) [.tmp 21, .tmp 22], none, []⟩, 
  ⟨(some (9)), .move (.tmp 23), none, []⟩]
def k_law01_FieldNarrows_r4 : List AOper := [
  ⟨(some (24)), .move (.tmp 1), none, []⟩, 
  ⟨(some (25)), .call (.const (.fn (.func 23) [] [])) [.tmp 24, .const (.int .i64 41)], none, []⟩, 
  ⟨(some (26)), .move (.tmp 2), none, []⟩, 
  ⟨(some (27)), .call (.const (.fn (.func 23) [] [])) [.tmp 26, .const (.int .i64 21)], none, []⟩, 
  ⟨(some (10)), .move (.tmp 25), none, []⟩, 
  ⟨(some (11)), .move (.tmp 27), none, []⟩]
def k_law01_FieldNarrows_r5 : List AOper := [
  ⟨(some (29)), .load (some (4)) (.tmp 8), none, []⟩, 
  ⟨(some (30)), .move (.tmp 9), none, []⟩, 
  ⟨(some (31)), .move (.tmp 10), none, []⟩, 
  ⟨(some (32)), .call (.const (.fn (.func 38) [] [])) [.tmp 29, .tmp 30, .tmp 31], none, []⟩, 
  ⟨(some (28)), .move (.tmp 32), none, []⟩, 
  ⟨(some (33)), .extract (.tmp 28) 0, none, []⟩, 
  ⟨(some (34)), .extract (.tmp 28) 1, none, []⟩, 
  ⟨(some (12)), .box (.const (.agg [.nilsl, .nilsl, .int .i64 0, .bool false])), none, []⟩, 
  ⟨none, .store 4 (.tmp 12) (.tmp 33), none, []⟩, 
  ⟨(some (13)), .move (.tmp 34), none, []⟩]
def k_law01_FieldNarrows_r6 : List AOper := [
  ⟨(some (36)), .load (some (4)) (.tmp 8), none, []⟩, 
  ⟨(some (37)), .move (.tmp 9), none, []⟩, 
  ⟨(some (38)), .move (.tmp 10), none, []⟩, 
  ⟨(some (39)), .move (.tmp 11), none, []⟩, 
  ⟨(some (40)), .bin .plain .add (.tmp 38) (.tmp 39), none, []⟩, 
  ⟨(some (41)), .call (.const (.fn (.func 38) [] [])) [.tmp 36, .tmp 37, .tmp 40], none, []⟩, 
  ⟨(some (35)), .move (.tmp 41), none, []⟩, 
  ⟨(some (42)), .extract (.tmp 35) 0, none, []⟩, 
  ⟨(some (43)), .extract (.tmp 35) 1, none, []⟩, 
  ⟨(some (14)), .box (.const (.agg [.nilsl, .nilsl, .int .i64 0, .bool false])), none, []⟩, 
  ⟨none, .store 4 (.tmp 14) (.tmp 42), none, []⟩, 
  ⟨(some (15)), .move (.tmp 43), none, []⟩]
def k_law01_FieldNarrows_r7 : List AOper := [
  ⟨(some (44)), .move (.tmp 13), none, []⟩, 
  ⟨(some (45)), .bin .plain .neq (.tmp 44) (.const (.int .i64 0)), none, []⟩, 
  ⟨(some (46)), .move (.tmp 45), none, []⟩, 
  ⟨(some (47)), .move (.tmp 15), (some (46, false)), []⟩, 
  ⟨(some (48)), .bin .plain .neq (.tmp 47) (.const (.int .i64 0)), (some (46, false)), []⟩, 
  ⟨(some (49)), .pick (.tmp 46) (.const (.bool true)) (.tmp 48), none, []⟩, 
  ⟨(some (50)), .move (.tmp 49), none, []⟩, 
  ⟨(some (51)), .fieldAddr 0 (.tmp 12), (some (50, false)), []⟩, 
  ⟨(some (52)), .load none (.tmp 51), (some (50, false)), []⟩, 
  ⟨(some (53)), .len false (.tmp 52), (some (50, false)), []⟩, 
  ⟨(some (54)), .fieldAddr 0 (.tmp 14), (some (50, false)), []⟩, 
  ⟨(some (55)), .load none (.tmp 54), (some (50, false)), []⟩, 
  ⟨(some (56)), .len false (.tmp 55), (some (50, false)), []⟩, 
  ⟨(some (57)), .bin .plain .neq (.tmp 53) (.tmp 56), (some (50, false)), []⟩, 
  ⟨(some (58)), .pick (.tmp 50) (.const (.bool true)) (.tmp 57), none, []⟩, 
  ⟨(some (59)), .move (.tmp 58), none, []⟩, 
  ⟨(some (60)), .fieldAddr 1 (.tmp 12), (some (59, false)), []⟩, 
  ⟨(some (61)), .load none (.tmp 60), (some (59, false)), []⟩, 
  ⟨(some (62)), .len false (.tmp 61), (some (59, false)), []⟩, 
  ⟨(some (63)), .fieldAddr 1 (.tmp 14), (some (59, false)), []⟩, 
  ⟨(some (64)), .load none (.tmp 63), (some (59, false)), []⟩, 
  ⟨(some (65)), .len false (.tmp 64), (some (59, false)), []⟩, 
  ⟨(some (66)), .bin .plain .neq (.tmp 62) (.tmp 65), (some (59, false)), []⟩, 
  ⟨(some (67)), .pick (.tmp 59) (.const (.bool true)) (.tmp 66), none, []⟩, 
  ⟨(some (68)), .move (.tmp 67), none, []⟩, 
  ⟨(some (69)), .fieldAddr 0 (.tmp 12), (some (68, false)), []⟩, 
  ⟨(some (70)), .load none (.tmp 69), (some (68, false)), []⟩, 
  ⟨(some (71)), .len false (.tmp 70), (some (68, false)), []⟩, 
  ⟨(some (72)), .fieldAddr 3 (.tmp 8), (some (68, false)), []⟩, 
  ⟨(some (73)), .load none (.tmp 72), (some (68, false)), []⟩, 
  ⟨(some (74)), .len false (.tmp 73), (some (68, false)), []⟩, 
  ⟨(some (75)), .bin .plain .neq (.tmp 71) (.tmp 74), (some (68, false)), []⟩, 
  ⟨(some (76)), .pick (.tmp 68) (.const (.bool true)) (.tmp 75), none, []⟩, 
  ⟨(some (77)), .move (.tmp 76), none, []⟩, 
  ⟨(some (78)), .fieldAddr 1 (.tmp 12), (some (77, false)), []⟩, 
  ⟨(some (79)), .load none (.tmp 78), (some (77, false)), []⟩, 
  ⟨(some (80)), .len false (.tmp 79), (some (77, false)), []⟩, 
  ⟨(some (81)), .fieldAddr 3 (.tmp 8), (some (77, false)), []⟩, 
  ⟨(some (82)), .load none (.tmp 81), (some (77, false)), []⟩, 
  ⟨(some (83)), .len false (.tmp 82), (some (77, false)), []⟩, 
  ⟨(some (84)), .bin .plain .neq (.tmp 80) (.tmp 83), (some (77, false)), []⟩, 
  ⟨(some (85)), .pick (.tmp 77) (.const (.bool true)) (.tmp 84), none, []⟩]
def k_law01_FieldNarrows_r8 : List AOper := [
  ⟨(some (6)), .move (.const (.bool false)), none, []⟩]
def k_law01_FieldNarrows_r9 : List AOper := [
  ⟨(some (16)), .move (.const (.int .i64 0)), none, []⟩]
def k_law01_FieldNarrows_r10 : List AOper := [
  ⟨(some (86)), .move (.tmp 16), none, []⟩, 
  ⟨(some (87)), .fieldAddr 0 (.tmp 12), none, []⟩, 
  ⟨(some (88)), .load none (.tmp 87), none, []⟩, 
  ⟨(some (89)), .len false (.tmp 88), none, []⟩, 
  ⟨(some (90)), .bin .plain .lss (.tmp 86) (.tmp 89), none, []⟩]
def k_law01_FieldNarrows_r11 : List AOper := [
  ⟨(some (93)), .fieldAddr 0 (.tmp 14), none, []⟩, 
  ⟨(some (94)), .load none (.tmp 93), none, []⟩, 
  ⟨(some (95)), .move (.tmp 16), none, [0, 1]⟩, 
  ⟨(some (96)), .indexAddr 1 (.tmp 94) (.tmp 95), none, []⟩, 
  ⟨(some (97)), .load none (.tmp 96), none, []⟩, 
  ⟨(some (98)), .fieldAddr 0 (.tmp 12), none, [0, 1, 2, 3, 4]⟩, 
  ⟨(some (99)), .load none (.tmp 98), none, [0, 1, 2, 3, 4]⟩, 
  ⟨(some (100)), .move (.tmp 16), none, [0, 1, 2, 3, 4, 5, 6]⟩, 
  ⟨(some (101)), .indexAddr 1 (.tmp 99) (.tmp 100), none, [0, 1, 2, 3, 4]⟩, 
  ⟨(some (102)), .load none (.tmp 101), none, [0, 1, 2, 3, 4]⟩, 
  ⟨(some (103)), .bin .plain .lss (.tmp 97) (.tmp 102), none, []⟩, 
  ⟨(some (104)), .move (.tmp 103), none, []⟩, 
  ⟨(some (105)), .fieldAddr 1 (.tmp 14), (some (104, false)), []⟩, 
  ⟨(some (106)), .load none (.tmp 105), (some (104, false)), []⟩, 
  ⟨(some (107)), .move (.tmp 16), (some (104, false)), [12, 13]⟩, 
  ⟨(some (108)), .indexAddr 1 (.tmp 106) (.tmp 107), (some (104, false)), []⟩, 
  ⟨(some (109)), .load none (.tmp 108), (some (104, false)), []⟩, 
  ⟨(some (110)), .fieldAddr 1 (.tmp 12), (some (104, false)), [12, 13, 14, 15, 16]⟩, 
  ⟨(some (111)), .load none (.tmp 110), (some (104, false)), [12, 13, 14, 15, 16]⟩, 
  ⟨(some (112)), .move (.tmp 16), (some (104, false)), [12, 13, 14, 15, 16, 17, 18]⟩, 
  ⟨(some (113)), .indexAddr 1 (.tmp 111) (.tmp 112), (some (104, false)), [12, 13, 14, 15, 16]⟩, 
  ⟨(some (114)), .load none (.tmp 113), (some (104, false)), [12, 13, 14, 15, 16]⟩, 
  ⟨(some (115)), .bin .plain .gtr (.tmp 109) (.tmp 114), (some (104, false)), []⟩, 
  ⟨(some (116)), .pick (.tmp 104) (.const (.bool true)) (.tmp 115), none, []⟩]
def k_law01_FieldNarrows_r11s : List (List AOper) := [
  [
  ⟨(some (93)), .fieldAddr 0 (.tmp 14), none, []⟩, 
  ⟨(some (94)), .load none (.tmp 93), none, []⟩, 
  ⟨(some (95)), .move (.tmp 16), none, [0, 1]⟩, 
  ⟨(some (96)), .indexAddr 1 (.tmp 94) (.tmp 95), none, []⟩, 
  ⟨(some (97)), .load none (.tmp 96), none, []⟩, 
  ⟨(some (98)), .fieldAddr 0 (.tmp 12), none, [0, 1, 2, 3, 4]⟩, 
  ⟨(some (99)), .load none (.tmp 98), none, [0, 1, 2, 3, 4]⟩, 
  ⟨(some (100)), .move (.tmp 16), none, [0, 1, 2, 3, 4, 5, 6]⟩, 
  ⟨(some (101)), .indexAddr 1 (.tmp 99) (.tmp 100), none, [0, 1, 2, 3, 4]⟩, 
  ⟨(some (102)), .load none (.tmp 101), none, [0, 1, 2, 3, 4]⟩], 
  [
  ⟨(some (103)), .bin .plain .lss (.tmp 97) (.tmp 102), none, []⟩], 
  [
  ⟨(some (104)), .move (.tmp 103), none, []⟩], 
  [
  ⟨(some (105)), .fieldAddr 1 (.tmp 14), (some (104, false)), []⟩, 
  ⟨(some (106)), .load none (.tmp 105), (some (104, false)), []⟩, 
  ⟨(some (107)), .move (.tmp 16), (some (104, false)), [12, 13]⟩, 
  ⟨(some (108)), .indexAddr 1 (.tmp 106) (.tmp 107), (some (104, false)), []⟩, 
  ⟨(some (109)), .load none (.tmp 108), (some (104, false)), []⟩, 
  ⟨(some (110)), .fieldAddr 1 (.tmp 12), (some (104, false)), [12, 13, 14, 15, 16]⟩, 
  ⟨(some (111)), .load none (.tmp 110), (some (104, false)), [12, 13, 14, 15, 16]⟩, 
  ⟨(some (112)), .move (.tmp 16), (some (104, false)), [12, 13, 14, 15, 16, 17, 18]⟩, 
  ⟨(some (113)), .indexAddr 1 (.tmp 111) (.tmp 112), (some (104, false)), [12, 13, 14, 15, 16]⟩, 
  ⟨(some (114)), .load none (.tmp 113), (some (104, false)), [12, 13, 14, 15, 16]⟩], 
  [
  ⟨(some (115)), .bin .plain .gtr (.tmp 109) (.tmp 114), (some (104, false)), []⟩], 
  [
  ⟨(some (116)), .pick (.tmp 104) (.const (.bool true)) (.tmp 115), none, []⟩]]
theorem k_law01_FieldNarrows_r11_sg : segs k_law01_FieldNarrows_r11 = k_law01_FieldNarrows_r11s := by kernel_rfl
theorem k_law01_FieldNarrows_r11_st : statOK k_law01_FieldNarrows_r11 = true := by kernel_rfl
def k_law01_FieldNarrows_r12 : List AOper := [
  ⟨(some (6)), .move (.const (.bool false)), none, []⟩]
def k_law01_FieldNarrows_r13 : List AOper := [
  ⟨(some (91)), .move (.tmp 16), none, []⟩, 
  ⟨(some (92)), .bin .plain .add (.tmp 91) (.const (.int .i64 1)), none, []⟩, 
  ⟨(some (16)), .move (.tmp 92), none, []⟩]
def k_law01_FieldNarrows_r14 : ACode := (.seq (.seq (.reg k_law01_FieldNarrows_r10 false) (.cond (.tmp 90) .skip (.exit 0))) (.seq (.block 1 (.seq (.reg k_law01_FieldNarrows_r11 true) (.cond (.tmp 116) (.seq (.reg k_law01_FieldNarrows_r12 false) .ret) .skip))) (.reg k_law01_FieldNarrows_r13 false)))
def k_law01_FieldNarrows_r15 : List AOper := [
  ⟨(some (117)), .fieldAddr 3 (.tmp 12), none, []⟩, 
  ⟨(some (118)), .load none (.tmp 117), none, []⟩, 
  ⟨(some (119)), .not (.tmp 118), none, []⟩, 
  ⟨(some (120)), .move (.tmp 119), none, []⟩, 
  ⟨(some (121)), .load (some (4)) (.tmp 12), (some (120, false)), []⟩, 
  ⟨(some (122)), .load (some (4)) (.tmp 14), (some (120, false)), []⟩, 
  ⟨(some (123)), .call (.const (.fn (.func 40) [] [])) [.tmp 121, .tmp 122], (some (120, false)), []⟩, 
  ⟨(some (124)), .pick (.tmp 120) (.const (.bool true)) (.tmp 123), none, []⟩, 
  ⟨(some (125)), .move (.tmp 124), none, []⟩, 
  ⟨(some (126)), .fieldAddr 2 (.tmp 14), (some (125, true)), []⟩, 
  ⟨(some (127)), .load none (.tmp 126), (some (125, true)), []⟩, 
  ⟨(some (128)), .fieldAddr 2 (.tmp 12), (some (125, true)), []⟩, 
  ⟨(some (129)), .load none (.tmp 128), (some (125, true)), []⟩, 
  ⟨(some (130)), .bin .plain .geq (.tmp 127) (.tmp 129), (some (125, true)), []⟩, 
  ⟨(some (131)), .pick (.tmp 125) (.tmp 130) (.const (.bool false)), none, []⟩, 
  ⟨(some (132)), .move (.tmp 131), none, []⟩, 
  ⟨(some (133)), .fieldAddr 2 (.tmp 14), (some (132, true)), []⟩, 
  ⟨(some (134)), .load none (.tmp 133), (some (132, true)), []⟩, 
  ⟨(some (135)), .move (.tmp 10), (some (132, true)), []⟩, 
  ⟨(some (136)), .move (.tmp 11), (some (132, true)), []⟩, 
  ⟨(some (137)), .bin .plain .add (.tmp 135) (.tmp 136), (some (132, true)), []⟩, 
  ⟨(some (138)), .bin .plain .leq (.tmp 134) (.tmp 137), (some (132, true)), []⟩, 
  ⟨(some (139)), .pick (.tmp 132) (.tmp 138) (.const (.bool false)), none, []⟩, 
  ⟨(some (140)), .move (.tmp 139), none, []⟩, 
  ⟨(some (141)), .call (.const (.fn (.func 20) [] [])) [], (some (140, true)), []⟩, 
  ⟨(some (142)), .pick (.tmp 140) (.tmp 141) (.const (.bool false)), none, []⟩, 
  ⟨(some (6)), .move (.tmp 142), none, []⟩]
def k_law01_FieldNarrows : AFun := { params := 3, ntmps := 143, body := (.seq (.reg k_law01_FieldNarrows_r0 false) (.seq (.reg k_law01_FieldNarrows_r1 false) (.seq (.reg k_law01_FieldNarrows_r2 false) (.seq (.reg k_law01_FieldNarrows_r3 false) (.seq (.reg k_law01_FieldNarrows_r4 false) (.seq (.reg k_law01_FieldNarrows_r5 false) (.seq (.reg k_law01_FieldNarrows_r6 false) (.seq (.seq (.reg k_law01_FieldNarrows_r7 false) (.cond (.tmp 85) (.seq (.reg k_law01_FieldNarrows_r8 false) .ret) .skip)) (.seq (.seq (.reg k_law01_FieldNarrows_r9 false) (.block 0 (.loop k_law01_FieldNarrows_r14))) (.seq (.reg k_law01_FieldNarrows_r15 false) .ret)))))))))), res := [.tmp 6] }
theorem k_law01_FieldNarrows_ok : cfun Try.prog Try.f11 = k_law01_FieldNarrows := by kernel_rfl


abbrev n_law01_FieldNarrows : Nat := 11
theorem e_law01_FieldNarrows : EntryOK Try.prog n_law01_FieldNarrows k_law01_FieldNarrows := ⟨Try.f11, Try.func11, k_law01_FieldNarrows_ok, by kernel_rfl⟩

attribute [go_sem] k_law01_FieldNarrows_r0 k_law01_FieldNarrows_r1 k_law01_FieldNarrows_r2 k_law01_FieldNarrows_r3 k_law01_FieldNarrows_r4 k_law01_FieldNarrows_r5 k_law01_FieldNarrows_r6 k_law01_FieldNarrows_r7 k_law01_FieldNarrows_r8 k_law01_FieldNarrows_r9 k_law01_FieldNarrows_r10 k_law01_FieldNarrows_r11s
attribute [go_sem] k_law01_FieldNarrows_r12 k_law01_FieldNarrows_r13 k_law01_FieldNarrows_r15 k_law01_FieldNarrows_r11_sg k_law01_FieldNarrows_r11_st k_law01_FieldNarrows
end Go.Proofs
namespace Go.Proofs
open Go Go.Sx
attribute [local irreducible] Run

theorem mod_in (a b : Int) (hb : 1 ≤ b) : 0 ≤ a % b ∧ a % b < b := ⟨Int.emod_nonneg _ (by omega), Int.emod_lt_of_pos _ (by omega)⟩
theorem VolsOf.len {p : Pl} {a b : Int} (hp : PlMade a b p) {v : List Int} (h : VolsOf p v) : (v.length : Int) = gmax p.cs := by
  have := hp.ok.max
  have := h.1
  omega
theorem pla_bel (p : Pl) (j n : Nat) (S : Nat → Prop) (h : S j) : Bel S (p.a (.sl j 0 n)) := by unfold Pl.a Pl.c4; simp only [go_sem, h]

set_option maxHeartbeats 4000000 in
set_option maxRecDepth 10000 in
theorem narrows_ok (zs : List Int) (hl : zs.length ≤ 9223372036854775807) (a1 a2 : Int) : Ans Try.prog n_law01_FieldNarrows [.view (zs.map (.int .i64)), .int .i64 a1, .int .i64 a2] [] (.bool true) [] := by
  have m1 := mod_in a1 41 (by omega)
  have m2 := mod_in a2 21 (by omega)
  have e1 := mod_pos a1 41 (by omega)
  have e2 := mod_pos a2 21 (by omega)
  generalize a1 % 41 = n1 at *
  generalize a2 % 21 = n2 at *
  obtain ⟨n, rfl⟩ : ∃ n : Nat, n1 = n := ⟨n1.toNat, by omega⟩
  obtain ⟨m, rfl⟩ : ∃ m : Nat, n2 = m := ⟨n2.toNat, by omega⟩
  refine spec_run e_law01_FieldNarrows fun G => ?_
  simp only [go_sem]
  refine callN1 (newdice_ok zs hl) (by simp only [go_sem]) (dr_bel _ _) (by simp) (by simp) ?_
  generalize seedW zs = w
  simp only [go_sem]
  refine callDN (PlanOf_ok w 8 6 (by omega) (by omega)) rfl (by simp only [go_sem]) (dr_bel _ _) (fun q hq => ⟨pla_bel _ _ _ _ rfl, dr_bel _ _, iv_row _ _ _⟩) (by simp) (by simp) ?_
  rintro ⟨w1, p⟩ hp
  dsimp only at hp ⊢
  have hpo := hp.ok
  simp only [go_sem, Pl.a, Pl.c4, ren, rens]
  have hpl : p.cs.length ≤ 1000000 := by
    rw [hpo.len]; have := Nat.mul_le_mul hpo.w.2 hpo.h.2; omega
  have hmx := hpo.max
  refine callR1 (VoltsOf_ok w1 hpl (by omega) true) (j0 := 0) (j1 := 1) rfl (by simp [go_sem, Pl.a, Pl.c4]) rfl rfl (dr_bel _ _) (iv_row _ _ _) (by decide) (fun q hq => ⟨by simp [go_sem], dr_bel _ _, iv_row _ _ _⟩) (by simp) (by simp) ?_
  rintro ⟨w2, v⟩ hvv
  dsimp only at hvv ⊢
  have hv := hvv.2
  have hvl := hvv.len hp
  simp only [go_sem, ren, rens]
  refine cP e1 ?_
  simp only [go_sem]
  refine cP e2 ?_
  simp only [go_sem]
  have w64nm : IntKind.i64.wrap ((n : Int) + m) = ((n + m : Nat) : Int) := by rw [w64 (by omega)]; rfl
  have s1 := Solve_ok hpo hv hvl (n := n) (by omega)
  have s2 := Solve_ok hpo hv hvl (n := n + m) (by omega)
  have lL : ∀ k, (lowB p v k).length = p.cs.length := fun k => by rw [(low_ok hpo v k).len, hpo.len]
  have lH : ∀ k, (highB p v k).length = p.cs.length := fun k => by rw [(high_ok hpo v k).len, hpo.len]
  have hcm := cnt_mono p v n m
  have hcl := cnt_le p v (n + m)
  have hM1 := low_mono hpo v hcm
  have hM2 := high_mono hpo v hcm
  have hst : stl p v (cnt p v n) = true → cnt p v (n + m) = cnt p v n := cnt_same
  have L1 := lL (cnt p v n); have L2 := lL (cnt p v (n + m)); have H1 := lH (cnt p v n); have H2 := lH (cnt p v (n + m))
  have hsame := same_ok (a := lowB p v (cnt p v n)) (b := highB p v (cnt p v n)) (c := lowB p v (cnt p v (n + m))) (d := highB p v (cnt p v (n + m))) (s := cnt p v n) (u := cnt p v (n + m)) (t := stl p v (cnt p v n)) (w := stl p v (cnt p v (n + m))) (by omega) (by omega)
  have hst2 : stl p v (cnt p v n) = true → (decide (lowB p v (cnt p v n) = lowB p v (cnt p v (n + m))) && (decide (highB p v (cnt p v n) = highB p v (cnt p v (n + m))) && (decide (cnt p v n = cnt p v (n + m)) && decide (stl p v (cnt p v n) = stl p v (cnt p v (n + m)))))) = true := fun h => by
    rw [hst h]; simp
  clear hst lL lH
  refine cFN2 s1 6 ⟨.inl (pla_frz 3 (j := 1) (g := true) rfl rfl), .inl (iv_frz_sl (d := 4) (j := 3) (g := false) rfl rfl), .inl rfl, trivial⟩ ?_ (by simp [go_sem, fldV]) (by simp only [go_sem, fldV]) (iv_row _ _ _) (iv_nv _ _) (iv_row _ _ _) (iv_nv _ _)
  simp only [go_sem, ren, rens, fldV, w64nm]
  refine cFN2 s2 6 ⟨.inl (pla_frz 3 (j := 1) (g := true) rfl rfl), .inl (iv_frz_sl (d := 4) (j := 3) (g := false) rfl rfl), .inl rfl, trivial⟩ ?_ (by simp [go_sem, fldV]) (by simp only [go_sem, fldV]) (iv_row _ _ _) (iv_nv _ _) (iv_row _ _ _) (iv_nv _ _)
  clear s1 s2
  generalize cnt p v n = c1 at *
  generalize cnt p v (n + m) = c2 at *
  generalize stl p v c1 = t1 at *
  generalize stl p v c2 = t2 at *
  generalize lowB p v c1 = la at *
  generalize lowB p v c2 = lb at *
  generalize highB p v c1 = ha at *
  generalize highB p v c2 = hb at *
  simp only [go_sem, ren, rens, fldV, bne_self_eq_false, iv_len]
  refine loop_ind k_law01_FieldNarrows_r14.eq_1 (fun i : Nat => i ≤ p.cs.length) (fun i => p.cs.length - i)
    (fun i => (tsets 143 [(8, .ptr 2 0 0 1), (10, .int .i64 n), (11, .int .i64 m), (12, .ptr 6 0 0 1), (14, .ptr 9 0 0 1), (16, .int .i64 i)],
      [some (Dr w2), some (.cells true 1 (iv p.cs)), some (.cells false 4 [p.a (.sl 1 0 p.cs.length)]), some (.cells false 1 (iv v)), some (.cells false 1 (iv la)), some (.cells false 1 (iv ha)), some (.cells false 4 [fldV p.cs.length c1 t1 4 5]), some (.cells false 1 (iv lb)), some (.cells false 1 (iv hb)), some (.cells false 4 [fldV p.cs.length c2 t2 7 8])])) 0 (Nat.zero_le _) (by simp [go_sem]) rfl ?_
  intro i hi ih
  dsimp only at hi ih ⊢
  by_cases h1 : i < p.cs.length
  · have h2 : (i : Int) < p.cs.length := by omega
    have h3 := idx_next h1 (by omega)
    have n0 : ¬ (i : Int) < 0 := by omega
    have ga := iv_get (l := la) (i := i) (by omega)
    have gb := iv_get (l := lb) (i := i) (by omega)
    have gc := iv_get (l := ha) (i := i) (by omega)
    have gd := iv_get (l := hb) (i := i) (by omega)
    have q1 : ¬ gt lb i < gt la i := by have := hM1 i; omega
    have q2 : ¬ gt ha i < gt hb i := by have := hM2 i; omega
    simp only [go_sem, fldV, h2, n0, ga, gb, gc, gd, q1, q2, h3]
    exact ih (i + 1) (by omega) h1 _ (by simp [go_sem])
  · have h2 : ¬ (i : Int) < p.cs.length := by omega
    have g1 : (c1 : Int) ≤ c2 := by omega
    have g2 : (c2 : Int) ≤ ((n + m : Nat) : Int) := by omega
    cases t1 with
    | true =>
      rw [hst2 rfl] at hsame
      simp only [go_sem, fldV, h2]
      refine cF hsame 6 ⟨.inl (fldW_frz (g0 := false) (g1 := false) (j0 := 4) (j1 := 5) rfl rfl (by omega) (by omega)), .inl (fldW_frz (g0 := false) (g1 := false) (j0 := 7) (j1 := 8) rfl rfl (by omega) (by omega)), trivial⟩ ?_
      simp only [go_sem, fldV, g1, g2, w64nm]
      refine cP awake_ok ?_
      simp only [go_sem]
    | false =>
      simp only [go_sem, fldV, h2, g1, g2, w64nm]
      refine cP awake_ok ?_
      simp only [go_sem]
end Go.Proofs
namespace Go.Proofs
open Go Go.Sx

-- 9: thermion/thermionlaw01.FieldBetween
def k_law01_FieldBetween_r0 : List AOper := [
  ⟨(some (4)), .move (.const (.bool false)), none, []⟩]
def k_law01_FieldBetween_r1 : List AOper := [
  ⟨(some (14)), .move (.tmp 0), none, []⟩, 
  ⟨(some (15)), .call (.const (.fn (.func 22) [] [])) [.tmp 14], none, []⟩, 
  ⟨(some (5)), .move (.tmp 15), none, []⟩]
def k_law01_FieldBetween_r2 : List AOper := [
  ⟨(some (16)), .move (.tmp 5), none, []⟩, 
  ⟨(some (17)), .call (.const (.fn (.func 21) [] [])) [.tmp 16, .const (.int .i64 8), .const (.int .i64 6)], none, []⟩, 
  ⟨(some (6)), .box (.const (.agg [.int .i64 0, .int .i64 0, .bool false, .nilsl])), none, []⟩, 
  ⟨none, .store 4 (.tmp 6) (.tmp 17), none, []⟩]
def k_law01_FieldBetween_r3 : List AOper := [
  ⟨(some (18)), .move (.tmp 5), none, []⟩, 
  ⟨(some (19)), .load (some (4)) (.tmp 6), none, []⟩, 
  ⟨(some (20)), .call (.const (.fn (.func 37) [] [])) [.tmp 18, .tmp 19], none, []⟩, 
  ⟨(some (7)), .move (.tmp 20), none, []⟩]
def k_law01_FieldBetween_r4 : List AOper := [
  ⟨(some (22)), .load (some (4)) (.tmp 6), none, []⟩, 
  ⟨(some (23)), .move (.tmp 7), none, [0]⟩, 
  ⟨(some (24)), .move (.tmp 1), none, [0, 1]⟩, 
  ⟨(some (25)), .call (.const (.fn (.func 23) [] [])) [.tmp 24, .const (.int .i64 61)], none, [0, 1]⟩, 
  ⟨(some (26)), .call (.const (.fn (.func 38) [] [])) [.tmp 22, .tmp 23, .tmp 25], none, []⟩, 
  ⟨(some (21)), .move (.tmp 26), none, []⟩, 
  ⟨(some (27)), .extract (.tmp 21) 0, none, []⟩, 
  ⟨(some (28)), .extract (.tmp 21) 1, none, [6]⟩, 
  ⟨(some (8)), .box (.const (.agg [.nilsl, .nilsl, .int .i64 0, .bool false])), none, [0, 1, 2, 3, 4, 5, 6, 7]⟩, 
  ⟨none, .store 4 (.tmp 8) (.tmp 27), none, [7]⟩, 
  ⟨(some (9)), .move (.tmp 28), none, []⟩]
def k_law01_FieldBetween_r4s : List (List AOper) := [
  [
  ⟨(some (22)), .load (some (4)) (.tmp 6), none, []⟩, 
  ⟨(some (23)), .move (.tmp 7), none, [0]⟩, 
  ⟨(some (24)), .move (.tmp 1), none, [0, 1]⟩, 
  ⟨(some (25)), .call (.const (.fn (.func 23) [] [])) [.tmp 24, .const (.int .i64 61)], none, [0, 1]⟩, 
  ⟨(some (26)), .call (.const (.fn (.func 38) [] [])) [.tmp 22, .tmp 23, .tmp 25], none, []⟩, 
  ⟨(some (21)), .move (.tmp 26), none, []⟩, 
  ⟨(some (27)), .extract (.tmp 21) 0, none, []⟩, 
  ⟨(some (28)), .extract (.tmp 21) 1, none, [6]⟩, 
  ⟨(some (8)), .box (.const (.agg [.nilsl, .nilsl, .int .i64 0, .bool false])), none, [0, 1, 2, 3, 4, 5, 6, 7]⟩, 
  ⟨none, .store 4 (.tmp 8) (.tmp 27), none, [7]⟩], 
  [
  ⟨(some (9)), .move (.tmp 28), none, []⟩]]
theorem k_law01_FieldBetween_r4_sg : segs k_law01_FieldBetween_r4 = k_law01_FieldBetween_r4s := by kernel_rfl
theorem k_law01_FieldBetween_r4_st : statOK k_law01_FieldBetween_r4 = true := by kernel_rfl
def k_law01_FieldBetween_r5 : List AOper := [
  ⟨(some (29)), .move (.tmp 9), none, []⟩, 
  ⟨(some (30)), .bin .plain .neq (.tmp 29) (.const (.int .i64 0)), none, []⟩, 
  ⟨(some (31)), .move (.tmp 30), none, []⟩, 
  ⟨(some (32)), .load (some (4)) (.tmp 6), (some (31, false)), []⟩, 
  ⟨(some (33)), .move (.tmp 7), (some (31, false)), []⟩, 
  ⟨(some (34)), .fieldAddr 0 (.tmp 8), (some (31, false)), []⟩, 
  ⟨(some (35)), .load none (.tmp 34), (some (31, false)), []⟩, 
  ⟨(some (36)), .fieldAddr 1 (.tmp 8), (some (31, false)), []⟩, 
  ⟨(some (37)), .load none (.tmp 36), (some (31, false)), []⟩, 
  ⟨(some (38)), .call (.const (.fn (.func 42) [] [])) [.tmp 32, .tmp 33, .tmp 35, .tmp 37], (some (31, false)), []⟩, 
  ⟨(some (39)), .not (.tmp 38), (some (31, false)), []⟩, 
  ⟨(some (40)), .pick (.tmp 31) (.const (.bool true)) (.tmp 39), none, []⟩, 
  ⟨(some (41)), .move (.tmp 40), none, []⟩, 
  ⟨(some (42)), .fieldAddr 0 (.tmp 8), (some (41, false)), []⟩, 
  ⟨(some (43)), .load none (.tmp 42), (some (41, false)), []⟩, 
  ⟨(some (44)), .len false (.tmp 43), (some (41, false)), []⟩, 
  ⟨(some (45)), .fieldAddr 3 (.tmp 6), (some (41, false)), []⟩, 
  ⟨(some (46)), .load none (.tmp 45), (some (41, false)), []⟩, 
  ⟨(some (47)), .len false (.tmp 46), (some (41, false)), []⟩, 
  ⟨(some (48)), .bin .plain .neq (.tmp 44) (.tmp 47), (some (41, false)), []⟩, 
  ⟨(some (49)), .pick (.tmp 41) (.const (.bool true)) (.tmp 48), none, []⟩, 
  ⟨(some (50)), .move (.tmp 49), none, []⟩, 
  ⟨(some (51)), .fieldAddr 1 (.tmp 8), (some (50, false)), []⟩, 
  ⟨(some (52)), .load none (.tmp 51), (some (50, false)), []⟩, 
  ⟨(some (53)), .len false (.tmp 52), (some (50, false)), []⟩, 
  ⟨(some (54)), .fieldAddr 3 (.tmp 6), (some (50, false)), []⟩, 
  ⟨(some (55)), .load none (.tmp 54), (some (50, false)), []⟩, 
  ⟨(some (56)), .len false (.tmp 55), (some (50, false)), []⟩, 
  ⟨(some (57)), .bin .plain .neq (.tmp 53) (.tmp 56), (some (50, false)), []⟩, 
  ⟨(some (58)), .pick (.tmp 50) (.const (.bool true)) (.tmp 57), none, []⟩]
def k_law01_FieldBetween_r6 : List AOper := [
  ⟨(some (4)), .move (.const (.bool false)), none, []⟩]
def k_law01_FieldBetween_r7 : List AOper := [
  ⟨(some (10)), .move (.const (.int .i64 1000000)), none, []⟩, 
  ⟨(some (11)), .move (.const (.int .i64 (-1000000))), none, []⟩]
def k_law01_FieldBetween_r8 : List AOper := [
  ⟨(some (12)), .move (.const (.int .i64 0)), none, []⟩]
def k_law01_FieldBetween_r9 : List AOper := [
  ⟨(some (59)), .move (.tmp 12), none, []⟩, 
  ⟨(some (60)), .fieldAddr 3 (.tmp 6), none, []⟩, 
  ⟨(some (61)), .load none (.tmp 60), none, []⟩, 
  ⟨(some (62)), .len false (.tmp 61), none, []⟩, 
  ⟨(some (63)), .bin .plain .lss (.tmp 59) (.tmp 62), none, []⟩]
def k_law01_FieldBetween_r10 : List AOper := [
  ⟨(some (66)), .fieldAddr 3 (.tmp 6), none, []⟩, 
  ⟨(some (67)), .load none (.tmp 66), none, []⟩, 
  ⟨(some (68)), .move (.tmp 12), none, []⟩, 
  ⟨(some (69)), .indexAddr 1 (.tmp 67) (.tmp 68), none, []⟩, 
  ⟨(some (70)), .load none (.tmp 69), none, []⟩, 
  ⟨(some (71)), .bin .plain .gtr (.tmp 70) (.const (.int .i64 0)), none, []⟩]
def k_law01_FieldBetween_r11 : List AOper := [
  ⟨(some (72)), .move (.tmp 10), none, []⟩, 
  ⟨(some (73)), .move (.tmp 7), none, [0]⟩, 
  ⟨(some (74)), .fieldAddr 3 (.tmp 6), none, [0, 1]⟩, 
  ⟨(some (75)), .load none (.tmp 74), none, [0, 1]⟩, 
  ⟨(some (76)), .move (.tmp 12), none, [0, 1, 2, 3]⟩, 
  ⟨(some (77)), .indexAddr 1 (.tmp 75) (.tmp 76), none, [0, 1]⟩, 
  ⟨(some (78)), .load none (.tmp 77), none, [0, 1]⟩, 
  ⟨(some (79)), .bin .plain .sub (.tmp 78) (.const (.int .i64 1)), none, [0, 1]⟩, 
  ⟨(some (80)), .indexAddr 1 (.tmp 73) (.tmp 79), none, [0]⟩, 
  ⟨(some (81)), .load none (.tmp 80), none, [0]⟩, 
  ⟨(some (82)), .minmax false [.tmp 72, .tmp 81], none, []⟩, 
  ⟨(some (83)), .move (.tmp 11), none, [0, 1, 2, 3, 4, 5, 6, 7, 8, 9, 10]⟩, 
  ⟨(some (84)), .move (.tmp 7), none, [0, 1, 2, 3, 4, 5, 6, 7, 8, 9, 10, 11]⟩, 
  ⟨(some (85)), .fieldAddr 3 (.tmp 6), none, [0, 1, 2, 3, 4, 5, 6, 7, 8, 9, 10, 11, 12]⟩, 
  ⟨(some (86)), .load none (.tmp 85), none, [0, 1, 2, 3, 4, 5, 6, 7, 8, 9, 10, 11, 12]⟩, 
  ⟨(some (87)), .move (.tmp 12), none, [0, 1, 2, 3, 4, 5, 6, 7, 8, 9, 10, 11, 12, 13, 14]⟩, 
  ⟨(some (88)), .indexAddr 1 (.tmp 86) (.tmp 87), none, [0, 1, 2, 3, 4, 5, 6, 7, 8, 9, 10, 11, 12]⟩, 
  ⟨(some (89)), .load none (.tmp 88), none, [0, 1, 2, 3, 4, 5, 6, 7, 8, 9, 10, 11, 12]⟩, 
  ⟨(some (90)), .bin .plain .sub (.tmp 89) (.const (.int .i64 1)), none, [0, 1, 2, 3, 4, 5, 6, 7, 8, 9, 10, 11, 12]⟩, 
  ⟨(some (91)), .indexAddr 1 (.tmp 84) (.tmp 90), none, [0, 1, 2, 3, 4, 5, 6, 7, 8, 9, 10, 11]⟩, 
  ⟨(some (92)), .load none (.tmp 91), none, [0, 1, 2, 3, 4, 5, 6, 7, 8, 9, 10, 11]⟩, 
  ⟨(some (93)), .minmax true [.tmp 83, .tmp 92], none, [0, 1, 2, 3, 4, 5, 6, 7, 8, 9, 10]⟩, 
  ⟨(some (10)), .move (.tmp 82), none, [11, 12, 13, 14, 15, 16, 17, 18, 19, 20, 21]⟩, 
  ⟨(some (11)), .move (.tmp 93), none, []⟩]
def k_law01_FieldBetween_r11s : List (List AOper) := [
  [
  ⟨(some (72)), .move (.tmp 10), none, []⟩, 
  ⟨(some (73)), .move (.tmp 7), none, [0]⟩, 
  ⟨(some (74)), .fieldAddr 3 (.tmp 6), none, [0, 1]⟩, 
  ⟨(some (75)), .load none (.tmp 74), none, [0, 1]⟩, 
  ⟨(some (76)), .move (.tmp 12), none, [0, 1, 2, 3]⟩, 
  ⟨(some (77)), .indexAddr 1 (.tmp 75) (.tmp 76), none, [0, 1]⟩, 
  ⟨(some (78)), .load none (.tmp 77), none, [0, 1]⟩, 
  ⟨(some (79)), .bin .plain .sub (.tmp 78) (.const (.int .i64 1)), none, [0, 1]⟩, 
  ⟨(some (80)), .indexAddr 1 (.tmp 73) (.tmp 79), none, [0]⟩, 
  ⟨(some (81)), .load none (.tmp 80), none, [0]⟩, 
  ⟨(some (82)), .minmax false [.tmp 72, .tmp 81], none, []⟩, 
  ⟨(some (83)), .move (.tmp 11), none, [0, 1, 2, 3, 4, 5, 6, 7, 8, 9, 10]⟩, 
  ⟨(some (84)), .move (.tmp 7), none, [0, 1, 2, 3, 4, 5, 6, 7, 8, 9, 10, 11]⟩, 
  ⟨(some (85)), .fieldAddr 3 (.tmp 6), none, [0, 1, 2, 3, 4, 5, 6, 7, 8, 9, 10, 11, 12]⟩, 
  ⟨(some (86)), .load none (.tmp 85), none, [0, 1, 2, 3, 4, 5, 6, 7, 8, 9, 10, 11, 12]⟩, 
  ⟨(some (87)), .move (.tmp 12), none, [0, 1, 2, 3, 4, 5, 6, 7, 8, 9, 10, 11, 12, 13, 14]⟩, 
  ⟨(some (88)), .indexAddr 1 (.tmp 86) (.tmp 87), none, [0, 1, 2, 3, 4, 5, 6, 7, 8, 9, 10, 11, 12]⟩, 
  ⟨(some (89)), .load none (.tmp 88), none, [0, 1, 2, 3, 4, 5, 6, 7, 8, 9, 10, 11, 12]⟩, 
  ⟨(some (90)), .bin .plain .sub (.tmp 89) (.const (.int .i64 1)), none, [0, 1, 2, 3, 4, 5, 6, 7, 8, 9, 10, 11, 12]⟩, 
  ⟨(some (91)), .indexAddr 1 (.tmp 84) (.tmp 90), none, [0, 1, 2, 3, 4, 5, 6, 7, 8, 9, 10, 11]⟩, 
  ⟨(some (92)), .load none (.tmp 91), none, [0, 1, 2, 3, 4, 5, 6, 7, 8, 9, 10, 11]⟩, 
  ⟨(some (93)), .minmax true [.tmp 83, .tmp 92], none, [0, 1, 2, 3, 4, 5, 6, 7, 8, 9, 10]⟩, 
  ⟨(some (10)), .move (.tmp 82), none, [11, 12, 13, 14, 15, 16, 17, 18, 19, 20, 21]⟩], 
  [
  ⟨(some (11)), .move (.tmp 93), none, []⟩]]
theorem k_law01_FieldBetween_r11_sg : segs k_law01_FieldBetween_r11 = k_law01_FieldBetween_r11s := by kernel_rfl
theorem k_law01_FieldBetween_r11_st : statOK k_law01_FieldBetween_r11 = true := by kernel_rfl
def k_law01_FieldBetween_r12 : List AOper := [
  ⟨(some (64)), .move (.tmp 12), none, []⟩, 
  ⟨(some (65)), .bin .plain .add (.tmp 64) (.const (.int .i64 1)), none, []⟩, 
  ⟨(some (12)), .move (.tmp 65), none, []⟩]
def k_law01_FieldBetween_r13 : ACode := (.seq (.seq (.reg k_law01_FieldBetween_r9 false) (.cond (.tmp 63) .skip (.exit 0))) (.seq (.block 1 (.seq (.reg k_law01_FieldBetween_r10 false) (.cond (.tmp 71) (.reg k_law01_FieldBetween_r11 true) .skip))) (.reg k_law01_FieldBetween_r12 false)))
def k_law01_FieldBetween_r14 : List AOper := [
  ⟨(some (13)), .move (.const (.int .i64 0)), none, []⟩]
def k_law01_FieldBetween_r15 : List AOper := [
  ⟨(some (94)), .move (.tmp 13), none, []⟩, 
  ⟨(some (95)), .fieldAddr 3 (.tmp 6), none, []⟩, 
  ⟨(some (96)), .load none (.tmp 95), none, []⟩, 
  ⟨(some (97)), .len false (.tmp 96), none, []⟩, 
  ⟨(some (98)), .bin .plain .lss (.tmp 94) (.tmp 97), none, []⟩]
def k_law01_FieldBetween_r16 : List AOper := [
  ⟨(some (101)), .fieldAddr 0 (.tmp 8), none, []⟩, 
  ⟨(some (102)), .load none (.tmp 101), none, []⟩, 
  ⟨(some (103)), .move (.tmp 13), none, [0, 1]⟩, 
  ⟨(some (104)), .indexAddr 1 (.tmp 102) (.tmp 103), none, []⟩, 
  ⟨(some (105)), .load none (.tmp 104), none, []⟩, 
  ⟨(some (106)), .fieldAddr 1 (.tmp 8), none, [0, 1, 2, 3, 4]⟩, 
  ⟨(some (107)), .load none (.tmp 106), none, [0, 1, 2, 3, 4]⟩, 
  ⟨(some (108)), .move (.tmp 13), none, [0, 1, 2, 3, 4, 5, 6]⟩, 
  ⟨(some (109)), .indexAddr 1 (.tmp 107) (.tmp 108), none, [0, 1, 2, 3, 4]⟩, 
  ⟨(some (110)), .load none (.tmp 109), none, [0, 1, 2, 3, 4]⟩, 
  ⟨(some (111)), .bin .plain .gtr (.tmp 105) (.tmp 110), none, []⟩, 
  ⟨(some (112)), .move (.tmp 111), none, []⟩, 
  ⟨(some (113)), .fieldAddr 0 (.tmp 8), (some (112, false)), []⟩, 
  ⟨(some (114)), .load none (.tmp 113), (some (112, false)), []⟩, 
  ⟨(some (115)), .move (.tmp 13), (some (112, false)), [12, 13]⟩, 
  ⟨(some (116)), .indexAddr 1 (.tmp 114) (.tmp 115), (some (112, false)), []⟩, 
  ⟨(some (117)), .load none (.tmp 116), (some (112, false)), []⟩, 
  ⟨(some (118)), .move (.tmp 10), (some (112, false)), [12, 13, 14, 15, 16]⟩, 
  ⟨(some (119)), .bin .plain .lss (.tmp 117) (.tmp 118), (some (112, false)), []⟩, 
  ⟨(some (120)), .pick (.tmp 112) (.const (.bool true)) (.tmp 119), none, []⟩, 
  ⟨(some (121)), .move (.tmp 120), none, []⟩, 
  ⟨(some (122)), .fieldAddr 1 (.tmp 8), (some (121, false)), []⟩, 
  ⟨(some (123)), .load none (.tmp 122), (some (121, false)), []⟩, 
  ⟨(some (124)), .move (.tmp 13), (some (121, false)), [21, 22]⟩, 
  ⟨(some (125)), .indexAddr 1 (.tmp 123) (.tmp 124), (some (121, false)), []⟩, 
  ⟨(some (126)), .load none (.tmp 125), (some (121, false)), []⟩, 
  ⟨(some (127)), .move (.tmp 11), (some (121, false)), [21, 22, 23, 24, 25]⟩, 
  ⟨(some (128)), .bin .plain .gtr (.tmp 126) (.tmp 127), (some (121, false)), []⟩, 
  ⟨(some (129)), .pick (.tmp 121) (.const (.bool true)) (.tmp 128), none, []⟩]
def k_law01_FieldBetween_r16s : List (List AOper) := [
  [
  ⟨(some (101)), .fieldAddr 0 (.tmp 8), none, []⟩, 
  ⟨(some (102)), .load none (.tmp 101), none, []⟩, 
  ⟨(some (103)), .move (.tmp 13), none, [0, 1]⟩, 
  ⟨(some (104)), .indexAddr 1 (.tmp 102) (.tmp 103), none, []⟩, 
  ⟨(some (105)), .load none (.tmp 104), none, []⟩, 
  ⟨(some (106)), .fieldAddr 1 (.tmp 8), none, [0, 1, 2, 3, 4]⟩, 
  ⟨(some (107)), .load none (.tmp 106), none, [0, 1, 2, 3, 4]⟩, 
  ⟨(some (108)), .move (.tmp 13), none, [0, 1, 2, 3, 4, 5, 6]⟩, 
  ⟨(some (109)), .indexAddr 1 (.tmp 107) (.tmp 108), none, [0, 1, 2, 3, 4]⟩, 
  ⟨(some (110)), .load none (.tmp 109), none, [0, 1, 2, 3, 4]⟩], 
  [
  ⟨(some (111)), .bin .plain .gtr (.tmp 105) (.tmp 110), none, []⟩], 
  [
  ⟨(some (112)), .move (.tmp 111), none, []⟩], 
  [
  ⟨(some (113)), .fieldAddr 0 (.tmp 8), (some (112, false)), []⟩, 
  ⟨(some (114)), .load none (.tmp 113), (some (112, false)), []⟩, 
  ⟨(some (115)), .move (.tmp 13), (some (112, false)), [12, 13]⟩, 
  ⟨(some (116)), .indexAddr 1 (.tmp 114) (.tmp 115), (some (112, false)), []⟩, 
  ⟨(some (117)), .load none (.tmp 116), (some (112, false)), []⟩, 
  ⟨(some (118)), .move (.tmp 10), (some (112, false)), [12, 13, 14, 15, 16]⟩], 
  [
  ⟨(some (119)), .bin .plain .lss (.tmp 117) (.tmp 118), (some (112, false)), []⟩], 
  [
  ⟨(some (120)), .pick (.tmp 112) (.const (.bool true)) (.tmp 119), none, []⟩], 
  [
  ⟨(some (121)), .move (.tmp 120), none, []⟩], 
  [
  ⟨(some (122)), .fieldAddr 1 (.tmp 8), (some (121, false)), []⟩, 
  ⟨(some (123)), .load none (.tmp 122), (some (121, false)), []⟩, 
  ⟨(some (124)), .move (.tmp 13), (some (121, false)), [21, 22]⟩, 
  ⟨(some (125)), .indexAddr 1 (.tmp 123) (.tmp 124), (some (121, false)), []⟩, 
  ⟨(some (126)), .load none (.tmp 125), (some (121, false)), []⟩, 
  ⟨(some (127)), .move (.tmp 11), (some (121, false)), [21, 22, 23, 24, 25]⟩], 
  [
  ⟨(some (128)), .bin .plain .gtr (.tmp 126) (.tmp 127), (some (121, false)), []⟩], 
  [
  ⟨(some (129)), .pick (.tmp 121) (.const (.bool true)) (.tmp 128), none, []⟩]]
theorem k_law01_FieldBetween_r16_sg : segs k_law01_FieldBetween_r16 = k_law01_FieldBetween_r16s := by kernel_rfl
theorem k_law01_FieldBetween_r16_st : statOK k_law01_FieldBetween_r16 = true := by kernel_rfl
def k_law01_FieldBetween_r17 : List AOper := [
  ⟨(some (4)), .move (.const (.bool false)), none, []⟩]
def k_law01_FieldBetween_r18 : List AOper := [
  ⟨(some (99)), .move (.tmp 13), none, []⟩, 
  ⟨(some (100)), .bin .plain .add (.tmp 99) (.const (.int .i64 1)), none, []⟩, 
  ⟨(some (13)), .move (.tmp 100), none, []⟩]
def k_law01_FieldBetween_r19 : ACode := (.seq (.seq (.reg k_law01_FieldBetween_r15 false) (.cond (.tmp 98) .skip (.exit 2))) (.seq (.block 3 (.seq (.reg k_law01_FieldBetween_r16 true) (.cond (.tmp 129) (.seq (.reg k_law01_FieldBetween_r17 false) .ret) .skip))) (.reg k_law01_FieldBetween_r18 false)))
def k_law01_FieldBetween_r20 : List AOper := [
  ⟨(some (130)), .call (.const (.fn (.func 20) [] [])) [], none, []⟩, 
  ⟨(some (4)), .move (.tmp 130), none, []⟩]
def k_law01_FieldBetween : AFun := { params := 2, ntmps := 131, body := (.seq (.reg k_law01_FieldBetween_r0 false) (.seq (.reg k_law01_FieldBetween_r1 false) (.seq (.reg k_law01_FieldBetween_r2 false) (.seq (.reg k_law01_FieldBetween_r3 false) (.seq (.reg k_law01_FieldBetween_r4 true) (.seq (.seq (.reg k_law01_FieldBetween_r5 false) (.cond (.tmp 58) (.seq (.reg k_law01_FieldBetween_r6 false) .ret) .skip)) (.seq (.reg k_law01_FieldBetween_r7 false) (.seq (.seq (.reg k_law01_FieldBetween_r8 false) (.block 0 (.loop k_law01_FieldBetween_r13))) (.seq (.seq (.reg k_law01_FieldBetween_r14 false) (.block 2 (.loop k_law01_FieldBetween_r19))) (.seq (.reg k_law01_FieldBetween_r20 false) .ret)))))))))), res := [.tmp 4] }
theorem k_law01_FieldBetween_ok : cfun Try.prog Try.f9 = k_law01_FieldBetween := by kernel_rfl


abbrev n_law01_FieldBetween : Nat := 9
theorem e_law01_FieldBetween : EntryOK Try.prog n_law01_FieldBetween k_law01_FieldBetween := ⟨Try.f9, Try.func9, k_law01_FieldBetween_ok, by kernel_rfl⟩

attribute [go_sem] k_law01_FieldBetween_r0 k_law01_FieldBetween_r1 k_law01_FieldBetween_r2 k_law01_FieldBetween_r3 k_law01_FieldBetween_r4s k_law01_FieldBetween_r5 k_law01_FieldBetween_r6 k_law01_FieldBetween_r7 k_law01_FieldBetween_r8 k_law01_FieldBetween_r9 k_law01_FieldBetween_r10 k_law01_FieldBetween_r11s
attribute [go_sem] k_law01_FieldBetween_r12 k_law01_FieldBetween_r14 k_law01_FieldBetween_r15 k_law01_FieldBetween_r16s k_law01_FieldBetween_r17 k_law01_FieldBetween_r18 k_law01_FieldBetween_r20 k_law01_FieldBetween_r11_sg k_law01_FieldBetween_r4_sg k_law01_FieldBetween_r16_sg k_law01_FieldBetween_r11_st k_law01_FieldBetween_r4_st
attribute [go_sem] k_law01_FieldBetween_r16_st k_law01_FieldBetween
end Go.Proofs
namespace Go.Proofs
open Go Go.Sx
attribute [local irreducible] Run

set_option maxHeartbeats 4000000 in
set_option maxRecDepth 10000 in
theorem between_law (zs : List Int) (hl : zs.length ≤ 9223372036854775807) (a1 : Int) : Ans Try.prog n_law01_FieldBetween [.view (zs.map (.int .i64)), .int .i64 a1] [] (.bool true) [] := by
  have m1 := mod_in a1 61 (by omega)
  have e1 := mod_pos a1 61 (by omega)
  generalize a1 % 61 = n1 at *
  obtain ⟨n, rfl⟩ : ∃ n : Nat, n1 = n := ⟨n1.toNat, by omega⟩
  refine spec_run e_law01_FieldBetween fun G => ?_
  simp only [go_sem]
  refine callN1 (newdice_ok zs hl) (by simp only [go_sem]) (dr_bel _ _) (by simp) (by simp) ?_
  generalize seedW zs = w
  simp only [go_sem]
  refine callDN (PlanOf_ok w 8 6 (by omega) (by omega)) rfl (by simp only [go_sem]) (dr_bel _ _) (fun q hq => ⟨pla_bel _ _ _ _ rfl, dr_bel _ _, iv_row _ _ _⟩) (by simp) (by simp) ?_
  rintro ⟨w1, p⟩ hp
  dsimp only at hp ⊢
  have hpo := hp.ok
  have hpl : p.cs.length ≤ 1000000 := by
    rw [hpo.len]; have := Nat.mul_le_mul hpo.w.2 hpo.h.2; omega
  have hmx := hpo.max
  simp only [go_sem, Pl.a, Pl.c4, ren, rens]
  refine callR1 (VoltsOf_ok w1 hpl (by omega) true) (j0 := 0) (j1 := 1) rfl (by simp [go_sem, Pl.a, Pl.c4]) rfl rfl (dr_bel _ _) (iv_row _ _ _) (by decide) (fun q hq => ⟨by simp [go_sem], dr_bel _ _, iv_row _ _ _⟩) (by simp) (by simp) ?_
  rintro ⟨w2, v⟩ hvv
  dsimp only at hvv ⊢
  have hv := hvv.2
  have hvl := hvv.len hp
  simp only [go_sem, ren, rens]
  have s1 := Solve_ok hpo hv hvl (n := n) (by omega)
  refine dP e1 ?_
  simp only [go_sem]
  refine dFN2 s1 6 [1, 3] ⟨.inl (pla_frz 3 (j := 1) (g := true) (onlyR_row rfl (by simp)) rfl), .inl (iv_frz_sl (d := 4) (j := 3) (g := false) (onlyR_row rfl (by simp)) rfl), .inl rfl, trivial⟩ ?_ (by simp [go_sem, fldV]) (by simp only [go_sem, fldV]) (iv_row _ _ _) (iv_nv _ _) (iv_row _ _ _) (iv_nv _ _) (by simp [go_sem])
  have hL := low_ok hpo v (cnt p v n)
  have hH := high_ok hpo v (cnt p v n)
  have hG := Good_ok hpo hv hvl hL hH
  have hLH : ∀ i, i < p.w * p.h → gt (lowB p v (cnt p v n)) i ≤ gt (highB p v (cnt p v n)) i := fun i hi => low_high hpo v _ _ hi
  have lL : (lowB p v (cnt p v n)).length = p.cs.length := by rw [hL.len, hpo.len]
  have lH : (highB p v (cnt p v n)).length = p.cs.length := by rw [hH.len, hpo.len]
  generalize cnt p v n = c1 at *
  generalize stl p v c1 = t1 at *
  generalize lowB p v c1 = la at *
  generalize highB p v c1 = ha at *
  simp only [go_sem, ren, rens, fldV, Pl.a, Pl.c4]
  refine cF hG 6 ⟨.inl (pla_frz 3 (j := 1) (g := true) rfl rfl), .inl (iv_frz_sl (d := 4) (j := 3) (g := false) rfl rfl), .inl (iv_frz_sl (d := 4) (j := 4) (g := false) rfl lL.symm), .inl (iv_frz_sl (d := 4) (j := 5) (g := false) rfl lH.symm), trivial⟩ ?_
  simp only [go_sem, fldV, Pl.a, Pl.c4, bne_self_eq_false, iv_len]
  generalize hRL : endL p v = RL at *
  generalize hRM : endM p v = RM at *
  refine loop_ind k_law01_FieldBetween_r13.eq_1 (fun a : Nat × Int × Int => a.1 ≤ p.cs.length ∧ endLs v a.2.1 (p.cs.drop a.1) = RL ∧ endMs v a.2.2 (p.cs.drop a.1) = RM) (fun a => p.cs.length - a.1)
    (fun a => (tsets 131 [(6, .ptr 2 0 0 1), (7, .sl 3 0 v.length), (8, .ptr 6 0 0 1), (10, .int .i64 a.2.1), (11, .int .i64 a.2.2), (12, .int .i64 a.1)],
      [some (Dr w2), some (.cells true 1 (iv p.cs)), some (.cells false 4 [p.a (.sl 1 0 p.cs.length)]), some (.cells false 1 (iv v)), some (.cells false 1 (iv la)), some (.cells false 1 (iv ha)), some (.cells false 4 [fldV p.cs.length c1 t1 4 5])])) (0, 1000000, -1000000) ⟨Nat.zero_le _, hRL, hRM⟩ (by simp [go_sem]) rfl ?_
  rintro ⟨i, lo, hi⟩ ⟨hil, hLs, hMs⟩ ih
  dsimp only at hil hLs hMs ih ⊢
  by_cases h1 : i < p.cs.length
  · have h2 : (i : Int) < p.cs.length := by omega
    have h3 := idx_next h1 (by omega)
    have n0 : ¬ (i : Int) < 0 := by omega
    have hx := iv_get h1
    have hcr := hpo.cell _ (gt_mem h1)
    have hcm := hmx.2.2 _ (gt_mem h1)
    rw [drop_step h1] at hLs hMs
    rw [endLs] at hLs
    rw [endMs] at hMs
    generalize gt p.cs i = z at *
    by_cases hz : z = 0
    · have hz' : ¬ 0 < z := by omega
      rw [if_pos hz] at hLs hMs
      simp only [go_sem, fldV, Pl.a, Pl.c4, iv_len, h2, n0, hx, hz', h3]
      exact ih (i + 1, lo, hi) (by dsimp only; omega) ⟨h1, hLs, hMs⟩ _ (by simp [go_sem])
    · have hz' : 0 < z := by omega
      rw [if_neg hz] at hLs hMs
      have w1 : IntKind.i64.wrap (z - 1) = z - 1 := w64 (by omega)
      have k1 : ¬ z - 1 < 0 := by omega
      have k2 : z - 1 < v.length := by omega
      have hxv : (iv v)[(z - 1).toNat]? = some (.int .i64 (vo v z)) := iv_get (by omega)
      have k3 : (z - 1).toNat < v.length := by omega
      simp only [go_sem, fldV, Pl.a, Pl.c4, iv_len, h2, n0, hx, hz', h3, w1, k1, k2, k3, hxv]
      exact ih (i + 1, _, _) (by dsimp only; omega) ⟨h1, hLs, hMs⟩ _ (by simp [go_sem]; exact ⟨rfl, rfl⟩)
  · have h2 : ¬ (i : Int) < p.cs.length := by omega
    rw [drop_end (by omega)] at hLs hMs
    have hLs' : lo = RL := hLs
    have hMs' : hi = RM := hMs
    subst hLs'
    subst hMs'
    simp only [go_sem, fldV, Pl.a, Pl.c4, iv_len, h2]
    clear ih
    refine loop_ind k_law01_FieldBetween_r19.eq_1 (fun a : Nat => a ≤ p.cs.length) (fun a => p.cs.length - a)
      (fun a => (tsets 131 [(6, .ptr 2 0 0 1), (8, .ptr 6 0 0 1), (10, .int .i64 lo), (11, .int .i64 hi), (13, .int .i64 a)],
        [some (Dr w2), some (.cells true 1 (iv p.cs)), some (.cells false 4 [p.a (.sl 1 0 p.cs.length)]), some (.cells false 1 (iv v)), some (.cells false 1 (iv la)), some (.cells false 1 (iv ha)), some (.cells false 4 [fldV p.cs.length c1 t1 4 5])])) 0 (Nat.zero_le _) (by simp [go_sem]) rfl ?_
    intro j hj ih
    dsimp only at hj ih ⊢
    by_cases h4 : j < p.cs.length
    · have h5 : (j : Int) < p.cs.length := by omega
      have h6 := idx_next h4 (by omega)
      have n0 : ¬ (j : Int) < 0 := by omega
      have hjN : j < p.w * p.h := by rw [← hpo.len]; exact h4
      have ga := iv_get (l := la) (i := j) (by omega)
      have gb := iv_get (l := ha) (i := j) (by omega)
      have q0 := hLH j hjN
      have q1 := hL.bd j hjN
      have q2 := hH.bd j hjN
      rw [hRL, hRM] at q1 q2
      generalize gt la j = x at *
      generalize gt ha j = y at *
      have g1 : ¬ y < x := by omega
      have g2 : ¬ x < lo := by omega
      have g3 : ¬ hi < y := by omega
      simp only [go_sem, fldV, Pl.a, Pl.c4, iv_len, h5, n0, ga, gb, g1, g2, g3, h6]
      exact ih (j + 1) (by omega) h4 _ (by simp [go_sem])
    · have h5 : ¬ (j : Int) < p.cs.length := by omega
      simp only [go_sem, fldV, Pl.a, Pl.c4, iv_len, h5]
      refine cP awake_ok ?_
      simp only [go_sem]
end Go.Proofs
