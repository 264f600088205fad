/- A part of the proof. -/
import Derived.Test.YtdodlephmmpemaaPC
set_option linter.unusedSimpArgs false
set_option linter.unusedVariables false
namespace Go.Proofs
open Go Go.Sx

def k_kit_Tube_r0 : List AOper := [
  ⟨(some (6)), .box (.const (.agg [.int .i64 0, .int .i64 0, .bool false, .nilsl])), none, []⟩]
def k_kit_Tube_r1 : List AOper := [
  ⟨(some (14)), .move (.tmp 0), none, []⟩, 
  ⟨(some (15)), .move (.tmp 1), none, []⟩, 
  ⟨(some (16)), .minmax true [.const (.int .i64 4), .tmp 15], none, []⟩, 
  ⟨(some (17)), .call (.const (.fn (.func 54) [] [])) [.tmp 14, .const (.int .i64 4), .tmp 16], none, []⟩, 
  ⟨(some (18)), .move (.tmp 0), none, []⟩, 
  ⟨(some (19)), .move (.tmp 2), none, []⟩, 
  ⟨(some (20)), .call (.const (.fn (.func 54) [] [])) [.tmp 18, .const (.int .i64 1), .tmp 19], none, []⟩, 
  ⟨(some (21)), .move (.tmp 0), none, []⟩, 
  ⟨(some (22)), .call (.const (.fn (.func 65) [] [])) [.tmp 21, .const (.int .i64 2)], none, []⟩, 
  ⟨(some (23)), .build [.int .i64 0, .int .i64 0, .bool false, .nilsl] [(0, 1, .tmp 17), (1, 1, .tmp 20), (2, 1, .tmp 22)], none, []⟩, 
  ⟨(some (7)), .box (.const (.agg [.int .i64 0, .int .i64 0, .bool false, .nilsl])), none, []⟩, 
  ⟨none, .store 4 (.tmp 7) (.tmp 23), none, []⟩]
def k_kit_Tube_r2 : List AOper := [
  ⟨(some (24)), .move (.tmp 0), none, []⟩, 
  ⟨(some (25)), .fieldAddr 0 (.tmp 7), none, []⟩, 
  ⟨(some (26)), .load none (.tmp 25), none, []⟩, 
  ⟨(some (27)), .bin .plain .sub (.tmp 26) (.const (.int .i64 2)), none, []⟩, 
  ⟨(some (28)), .call (.const (.fn (.func 54) [] [])) [.tmp 24, .const (.int .i64 1), .tmp 27], none, []⟩, 
  ⟨(some (8)), .move (.tmp 28), none, []⟩]
def k_kit_Tube_r3 : List AOper := [
  ⟨(some (29)), .move (.tmp 0), none, []⟩, 
  ⟨(some (30)), .fieldAddr 1 (.tmp 7), none, []⟩, 
  ⟨(some (31)), .load none (.tmp 30), none, []⟩, 
  ⟨(some (32)), .call (.const (.fn (.func 41) [] [])) [.tmp 29, .tmp 31], none, []⟩, 
  ⟨(some (9)), .move (.tmp 32), none, []⟩]
def k_kit_Tube_r4 : List AOper := [
  ⟨(some (10)), .move (.const (.int .i64 0)), none, []⟩]
def k_kit_Tube_r5 : List AOper := [
  ⟨(some (33)), .move (.tmp 10), none, []⟩, 
  ⟨(some (34)), .fieldAddr 0 (.tmp 7), none, []⟩, 
  ⟨(some (35)), .load none (.tmp 34), none, []⟩, 
  ⟨(some (36)), .fieldAddr 1 (.tmp 7), none, []⟩, 
  ⟨(some (37)), .load none (.tmp 36), none, []⟩, 
  ⟨(some (38)), .bin .plain .mul (.tmp 35) (.tmp 37), none, []⟩, 
  ⟨(some (39)), .bin .plain .lss (.tmp 33) (.tmp 38), none, []⟩]
def k_kit_Tube_r6 : List AOper := [
  ⟨(some (42)), .move (.tmp 10), none, []⟩, 
  ⟨(some (43)), .fieldAddr 0 (.tmp 7), none, [0]⟩, 
  ⟨(some (44)), .load none (.tmp 43), none, [0]⟩, 
  ⟨(some (45)), .bin .plain .rem (.tmp 42) (.tmp 44), none, []⟩, 
  ⟨(some (46)), .move (.tmp 10), none, [0, 1, 2, 3]⟩, 
  ⟨(some (47)), .fieldAddr 0 (.tmp 7), none, [0, 1, 2, 3, 4]⟩, 
  ⟨(some (48)), .load none (.tmp 47), none, [0, 1, 2, 3, 4]⟩, 
  ⟨(some (49)), .bin .plain .quo (.tmp 46) (.tmp 48), none, [0, 1, 2, 3]⟩, 
  ⟨(some (11)), .move (.tmp 45), none, [4, 5, 6, 7]⟩, 
  ⟨(some (12)), .move (.tmp 49), none, []⟩]
def k_kit_Tube_r6s : List (List AOper) := [
  [
  ⟨(some (42)), .move (.tmp 10), none, []⟩, 
  ⟨(some (43)), .fieldAddr 0 (.tmp 7), none, [0]⟩, 
  ⟨(some (44)), .load none (.tmp 43), none, [0]⟩, 
  ⟨(some (45)), .bin .plain .rem (.tmp 42) (.tmp 44), none, []⟩, 
  ⟨(some (46)), .move (.tmp 10), none, [0, 1, 2, 3]⟩, 
  ⟨(some (47)), .fieldAddr 0 (.tmp 7), none, [0, 1, 2, 3, 4]⟩, 
  ⟨(some (48)), .load none (.tmp 47), none, [0, 1, 2, 3, 4]⟩, 
  ⟨(some (49)), .bin .plain .quo (.tmp 46) (.tmp 48), none, [0, 1, 2, 3]⟩, 
  ⟨(some (11)), .move (.tmp 45), none, [4, 5, 6, 7]⟩], 
  [
  ⟨(some (12)), .move (.tmp 49), none, []⟩]]
theorem k_kit_Tube_r6_sg : segs k_kit_Tube_r6 = k_kit_Tube_r6s := by kernel_rfl
theorem k_kit_Tube_r6_st : statOK k_kit_Tube_r6 = true := by kernel_rfl
def k_kit_Tube_r7 : List AOper := [
  ⟨(some (13)), .move (.const (.int .i64 0)), none, []⟩]
def k_kit_Tube_r8 : List AOper := [
  ⟨(some (51)), .move (.tmp 11), none, []⟩, 
  ⟨(some (52)), .bin .plain .eql (.tmp 51) (.const (.int .i64 0)), none, []⟩, 
  ⟨(some (50)), .move (.tmp 52), none, []⟩]
def k_kit_Tube_r9 : List AOper := [
  ⟨(some (13)), .move (.const (.int .i64 1)), none, []⟩]
def k_kit_Tube_r10 : List AOper := [
  ⟨(some (54)), .move (.tmp 11), none, []⟩, 
  ⟨(some (55)), .fieldAddr 0 (.tmp 7), none, []⟩, 
  ⟨(some (56)), .load none (.tmp 55), none, []⟩, 
  ⟨(some (57)), .bin .plain .sub (.tmp 56) (.const (.int .i64 1)), none, []⟩, 
  ⟨(some (58)), .bin .plain .eql (.tmp 54) (.tmp 57), none, []⟩, 
  ⟨(some (53)), .move (.tmp 58), none, []⟩]
def k_kit_Tube_r11 : List AOper := [
  ⟨(some (13)), .move (.const (.int .i64 3)), none, []⟩]
def k_kit_Tube_r12 : List AOper := [
  ⟨(some (60)), .move (.tmp 11), none, []⟩, 
  ⟨(some (61)), .move (.tmp 8), none, []⟩, 
  ⟨(some (62)), .bin .plain .eql (.tmp 60) (.tmp 61), none, []⟩, 
  ⟨(some (63)), .move (.tmp 62), none, []⟩, 
  ⟨(some (64)), .move (.tmp 12), (some (63, true)), []⟩, 
  ⟨(some (65)), .move (.tmp 9), (some (63, true)), []⟩, 
  ⟨(some (66)), .bin .plain .eql (.tmp 64) (.tmp 65), (some (63, true)), []⟩, 
  ⟨(some (67)), .move (.tmp 66), (some (63, true)), []⟩, 
  ⟨(some (68)), .move (.tmp 0), (some (67, false)), []⟩, 
  ⟨(some (69)), .call (.const (.fn (.func 65) [] [])) [.tmp 68, .const (.int .i64 3)], (some (67, false)), []⟩, 
  ⟨(some (70)), .pick (.tmp 67) (.const (.bool true)) (.tmp 69), (some (63, true)), []⟩, 
  ⟨(some (71)), .pick (.tmp 63) (.tmp 70) (.const (.bool false)), none, []⟩, 
  ⟨(some (72)), .move (.tmp 71), none, []⟩, 
  ⟨(some (73)), .fieldAddr 1 (.tmp 7), (some (72, true)), []⟩, 
  ⟨(some (74)), .load none (.tmp 73), (some (72, true)), []⟩, 
  ⟨(some (75)), .bin .plain .gtr (.tmp 74) (.const (.int .i64 1)), (some (72, true)), []⟩, 
  ⟨(some (76)), .pick (.tmp 72) (.tmp 75) (.const (.bool false)), none, []⟩, 
  ⟨(some (59)), .move (.tmp 76), none, []⟩]
def k_kit_Tube_r13 : List AOper := [
  ⟨(some (13)), .move (.const (.int .i64 2)), none, []⟩]
def k_kit_Tube_r14 : List AOper := [
  ⟨(some (77)), .fieldAddr 3 (.tmp 7), none, []⟩, 
  ⟨(some (78)), .load none (.tmp 77), none, []⟩, 
  ⟨(some (79)), .move (.tmp 13), none, []⟩, 
  ⟨(some (80)), .buildSlice 1 [.tmp 79], none, []⟩, 
  ⟨(some (81)), .append 1 8 false (.tmp 78) (.tmp 80), none, []⟩, 
  ⟨(some (82)), .fieldAddr 3 (.tmp 7), none, []⟩, 
  ⟨none, .store 1 (.tmp 82) (.tmp 81), none, []⟩]
def k_kit_Tube_r15 : List AOper := [
  ⟨(some (40)), .move (.tmp 10), none, []⟩, 
  ⟨(some (41)), .bin .plain .add (.tmp 40) (.const (.int .i64 1)), none, []⟩, 
  ⟨(some (10)), .move (.tmp 41), none, []⟩]
def k_kit_Tube_r16 : ACode := (.seq (.seq (.reg k_kit_Tube_r5 false) (.cond (.tmp 39) .skip (.exit 0))) (.seq (.block 1 (.seq (.reg k_kit_Tube_r6 true) (.seq (.reg k_kit_Tube_r7 false) (.seq (.block 2 (.seq (.reg k_kit_Tube_r8 false) (.cond (.tmp 50) (.reg k_kit_Tube_r9 false) (.seq (.reg k_kit_Tube_r10 false) (.cond (.tmp 53) (.reg k_kit_Tube_r11 false) (.seq (.reg k_kit_Tube_r12 false) (.cond (.tmp 59) (.reg k_kit_Tube_r13 false) .skip))))))) (.reg k_kit_Tube_r14 false))))) (.reg k_kit_Tube_r15 false)))
def k_kit_Tube_r17 : List AOper := [
  ⟨(some (83)), .load (some (4)) (.tmp 7), none, []⟩, 
  ⟨none, .store 4 (.tmp 6) (.tmp 83), none, []⟩]
def k_kit_Tube : AFun := { params := 3, ntmps := 84, body := (.seq (.reg k_kit_Tube_r0 false) (.seq (.reg k_kit_Tube_r1 false) (.seq (.reg k_kit_Tube_r2 false) (.seq (.reg k_kit_Tube_r3 false) (.seq (.seq (.reg k_kit_Tube_r4 false) (.block 0 (.loop k_kit_Tube_r16))) (.seq (.reg k_kit_Tube_r17 false) .ret)))))), res := [.cell 6 (some ((some (4))))] }
theorem k_kit_Tube_ok : cfun Try.prog Try.f46 = k_kit_Tube := by kernel_rfl

def k_field_Amplification_r0 : List AOper := [
  ⟨(some (5)), .box (.tmp 0), none, []⟩, 
  ⟨(some (10)), .box (.const (.agg [.int .i64 0, .int .i64 0])), none, []⟩, 
  ⟨(some (11)), .move (.const (.int .i64 0)), none, []⟩]
def k_field_Amplification_r1 : List AOper := [
  ⟨(some (15)), .load (some (4)) (.tmp 5), none, []⟩, 
  ⟨(some (16)), .move (.tmp 1), none, []⟩, 
  ⟨(some (17)), .move (.tmp 2), none, []⟩, 
  ⟨(some (18)), .move (.tmp 3), none, []⟩, 
  ⟨(some (19)), .move (.tmp 4), none, []⟩, 
  ⟨(some (20)), .buildSlice 1 [.tmp 17, .tmp 18, .tmp 19], none, []⟩, 
  ⟨(some (21)), .call (.const (.fn (.func 88) [] [])) [.tmp 15, .tmp 16, .tmp 20], none, []⟩, 
  ⟨(some (12)), .move (.tmp 21), none, []⟩]
def k_field_Amplification_r2 : List AOper := [
  ⟨(some (22)), .move (.tmp 12), none, []⟩, 
  ⟨(some (23)), .bin .plain .neq (.tmp 22) (.const (.int .i64 0)), none, []⟩]
def k_field_Amplification_r3 : List AOper := [
  ⟨(some (24)), .build [.int .i64 0, .int .i64 0] [], none, []⟩, 
  ⟨(some (25)), .move (.tmp 12), none, []⟩, 
  ⟨none, .store 2 (.tmp 10) (.tmp 24), none, []⟩, 
  ⟨(some (11)), .move (.tmp 25), none, []⟩]
def k_field_Amplification_r4 : List AOper := [
  ⟨(some (26)), .load (some (4)) (.tmp 5), none, []⟩, 
  ⟨(some (27)), .move (.tmp 1), none, []⟩, 
  ⟨(some (28)), .move (.tmp 4), none, []⟩, 
  ⟨(some (29)), .move (.tmp 2), none, []⟩, 
  ⟨(some (30)), .call (.const (.fn (.func 89) [] [])) [.tmp 26, .tmp 27, .tmp 28, .tmp 29], none, []⟩, 
  ⟨(some (13)), .box (.const (.agg [.int .i64 0, .int .i64 0])), none, []⟩, 
  ⟨none, .store 2 (.tmp 13) (.tmp 30), none, []⟩]
def k_field_Amplification_r5 : List AOper := [
  ⟨(some (31)), .fieldAddr 0 (.tmp 13), none, []⟩, 
  ⟨(some (32)), .load none (.tmp 31), none, []⟩, 
  ⟨(some (33)), .bin .plain .lss (.tmp 32) (.const (.int .i64 1)), none, []⟩]
def k_field_Amplification_r6 : List AOper := [
  ⟨(some (34)), .build [.int .i64 0, .int .i64 0] [], none, []⟩, 
  ⟨none, .store 2 (.tmp 10) (.tmp 34), none, []⟩, 
  ⟨(some (11)), .move (.const (.int .i64 10)), none, []⟩]
def k_field_Amplification_r7 : List AOper := [
  ⟨(some (35)), .load (some (4)) (.tmp 5), none, []⟩, 
  ⟨(some (36)), .move (.tmp 1), none, []⟩, 
  ⟨(some (37)), .move (.tmp 3), none, []⟩, 
  ⟨(some (38)), .move (.tmp 2), none, []⟩, 
  ⟨(some (39)), .call (.const (.fn (.func 89) [] [])) [.tmp 35, .tmp 36, .tmp 37, .tmp 38], none, []⟩, 
  ⟨(some (14)), .box (.const (.agg [.int .i64 0, .int .i64 0])), none, []⟩, 
  ⟨none, .store 2 (.tmp 14) (.tmp 39), none, []⟩]
def k_field_Amplification_r8 : List AOper := [
  ⟨(some (40)), .fieldAddr 0 (.tmp 14), none, []⟩, 
  ⟨(some (41)), .load none (.tmp 40), none, []⟩, 
  ⟨(some (42)), .bin .plain .mul (.const (.int .i64 1000)) (.tmp 41), none, []⟩, 
  ⟨(some (43)), .fieldAddr 1 (.tmp 13), none, [0, 1, 2]⟩, 
  ⟨(some (44)), .load none (.tmp 43), none, [0, 1, 2]⟩, 
  ⟨(some (45)), .call (.const (.fn (.func 92) [] [])) [.tmp 42, .tmp 44], none, []⟩, 
  ⟨(some (46)), .fieldAddr 1 (.tmp 14), none, [0, 1, 2, 3, 4, 5]⟩, 
  ⟨(some (47)), .load none (.tmp 46), none, [0, 1, 2, 3, 4, 5]⟩, 
  ⟨(some (48)), .bin .plain .mul (.const (.int .i64 1000)) (.tmp 47), none, [0, 1, 2, 3, 4, 5]⟩, 
  ⟨(some (49)), .fieldAddr 0 (.tmp 13), none, [0, 1, 2, 3, 4, 5, 6, 7, 8]⟩, 
  ⟨(some (50)), .load none (.tmp 49), none, [0, 1, 2, 3, 4, 5, 6, 7, 8]⟩, 
  ⟨(some (51)), .call (.const (.fn (.func 93) [] [])) [.tmp 48, .tmp 50], none, []⟩, 
  ⟨(some (52)), .build [.int .i64 0, .int .i64 0] [(0, 1, .tmp 45), (1, 1, .tmp 51)], none, []⟩, 
  ⟨none, .store 2 (.tmp 10) (.tmp 52), none, []⟩, 
  ⟨(some (11)), .move (.const (.int .i64 0)), none, []⟩]
def k_field_Amplification_r8s : List (List AOper) := [
  [
  ⟨(some (40)), .fieldAddr 0 (.tmp 14), none, []⟩, 
  ⟨(some (41)), .load none (.tmp 40), none, []⟩, 
  ⟨(some (42)), .bin .plain .mul (.const (.int .i64 1000)) (.tmp 41), none, []⟩, 
  ⟨(some (43)), .fieldAddr 1 (.tmp 13), none, [0, 1, 2]⟩, 
  ⟨(some (44)), .load none (.tmp 43), none, [0, 1, 2]⟩, 
  ⟨(some (45)), .call (.const (.fn (.func 92) [] [])) [.tmp 42, .tmp 44], none, []⟩, 
  ⟨(some (46)), .fieldAddr 1 (.tmp 14), none, [0, 1, 2, 3, 4, 5]⟩, 
  ⟨(some (47)), .load none (.tmp 46), none, [0, 1, 2, 3, 4, 5]⟩, 
  ⟨(some (48)), .bin .plain .mul (.const (.int .i64 1000)) (.tmp 47), none, [0, 1, 2, 3, 4, 5]⟩, 
  ⟨(some (49)), .fieldAddr 0 (.tmp 13), none, [0, 1, 2, 3, 4, 5, 6, 7, 8]⟩, 
  ⟨(some (50)), .load none (.tmp 49), none, [0, 1, 2, 3, 4, 5, 6, 7, 8]⟩], 
  [
  ⟨(some (51)), .call (.const (.fn (.func 93) [] [])) [.tmp 48, .tmp 50], none, []⟩], 
  [
  ⟨(some (52)), .build [.int .i64 0, .int .i64 0] [(0, 1, .tmp 45), (1, 1, .tmp 51)], none, []⟩], 
  [
  ⟨none, .store 2 (.tmp 10) (.tmp 52), none, []⟩], 
  [
  ⟨(some (11)), .move (.const (.int .i64 0)), none, []⟩]]
theorem k_field_Amplification_r8_sg : segs k_field_Amplification_r8 = k_field_Amplification_r8s := by kernel_rfl
theorem k_field_Amplification_r8_st : statOK k_field_Amplification_r8 = true := by kernel_rfl
def k_field_Amplification : AFun := { params := 5, ntmps := 53, body := (.seq (.reg k_field_Amplification_r0 false) (.seq (.seq (.reg k_field_Amplification_r1 false) (.seq (.reg k_field_Amplification_r2 false) (.cond (.tmp 23) (.seq (.reg k_field_Amplification_r3 false) .ret) .skip))) (.seq (.reg k_field_Amplification_r4 false) (.seq (.seq (.reg k_field_Amplification_r5 false) (.cond (.tmp 33) (.seq (.reg k_field_Amplification_r6 false) .ret) .skip)) (.seq (.reg k_field_Amplification_r7 false) (.seq (.reg k_field_Amplification_r8 true) .ret)))))), res := [.cell 10 (some ((some (2)))), .tmp 11] }
theorem k_field_Amplification_ok : cfun Try.prog Try.f49 = k_field_Amplification := by kernel_rfl

abbrev n_kit_Tube : Nat := 46
theorem e_kit_Tube : EntryOK Try.prog n_kit_Tube k_kit_Tube := ⟨Try.f46, Try.func46, k_kit_Tube_ok, by kernel_rfl⟩
abbrev n_field_Amplification : Nat := 49
theorem e_field_Amplification : EntryOK Try.prog n_field_Amplification k_field_Amplification := ⟨Try.f49, Try.func49, k_field_Amplification_ok, by kernel_rfl⟩
attribute [go_sem] k_kit_Tube_r0 k_kit_Tube_r1 k_kit_Tube_r2 k_kit_Tube_r3 k_kit_Tube_r4 k_kit_Tube_r5
attribute [go_sem] k_kit_Tube_r6s k_kit_Tube_r7 k_kit_Tube_r8 k_kit_Tube_r9 k_kit_Tube_r10 k_kit_Tube_r11 k_kit_Tube_r12 k_kit_Tube_r13 k_kit_Tube_r14 k_kit_Tube_r15 k_kit_Tube_r17 k_field_Amplification_r0
attribute [go_sem] k_field_Amplification_r1 k_field_Amplification_r2 k_field_Amplification_r3 k_field_Amplification_r4 k_field_Amplification_r5 k_field_Amplification_r6 k_field_Amplification_r7 k_field_Amplification_r8s
attribute [go_sem] k_kit_Tube_r6_sg k_field_Amplification_r8_sg k_kit_Tube_r6_st k_field_Amplification_r8_st
attribute [go_sem] k_kit_Tube k_field_Amplification
end Go.Proofs

namespace Go.Proofs
open Go Go.Sx
attribute [local irreducible] Run

theorem roundDown2_ok (n b : Int) (hb : 0 < b ∧ b ≤ 1000000000000) (hn : -1000000000000000 ≤ n ∧ n ≤ 1000000000000000) : Ans Try.prog n_field_roundDown [.int .i64 n, .int .i64 b] [] (.int .i64 (rdn n b)) [] := by
  have e := Int.tdiv_eq_ediv (a := n) (b := b)
  have e' := Int.tmod_eq_emod (a := n) (b := b)
  have h1 := Int.emod_nonneg n (show b ≠ 0 by omega)
  have h2 := Int.emod_lt_of_pos n (show 0 < b by omega)
  have hd := Int.dvd_iff_emod_eq_zero (a := b) (b := n)
  have hq1 : n / b ≤ 1000000000000000 := Int.ediv_le_of_le_mul (by omega) (by have := Int.mul_le_mul_of_nonneg_left (show (1 : Int) ≤ b by omega) (show (0 : Int) ≤ 1000000000000000 by omega); omega)
  have hq2 : -1000000000000000 ≤ n / b := Int.le_ediv_of_mul_le (by omega) (by have := Int.mul_le_mul_of_nonneg_left (show (1 : Int) ≤ b by omega) (show (0 : Int) ≤ 1000000000000000 by omega); omega)
  refine spec_run e_field_roundDown fun G => ?_
  have hs : b.sign = 1 := Int.sign_eq_one_of_pos (by omega)
  rw [hs] at e
  have e'' : n.tmod b = if 0 ≤ n ∨ b ∣ n then n % b else n % b - b := by
    rw [e']; split
    · omega
    · rw [Int.natAbs_of_nonneg (by omega)]
  have w1 : IntKind.i64.wrap (n.tdiv b) = n.tdiv b := w64 (by rw [e]; split <;> omega)
  unfold rdn
  simp only [go_sem, w1]
  by_cases hc : 0 ≤ n ∨ b ∣ n
  · rw [if_pos hc] at e e''
    have h3 : ¬ n.tmod b < 0 := by omega
    have h4 : b ≠ 0 := by omega
    simp only [go_sem, h3, h4]
    rw [e]; simp
  · rw [if_neg hc] at e e''
    have h3 : n.tmod b < 0 := by omega
    have h4 : b ≠ 0 := by omega
    have w2 : IntKind.i64.wrap (n.tdiv b - 1) = n.tdiv b - 1 := w64 (by rw [e]; omega)
    simp only [go_sem, h3, h4, w2]
    rw [e]; simp

theorem roundUp2_ok (n b : Int) (hb : 0 < b ∧ b ≤ 1000000000000) (hn : -1000000000000000 ≤ n ∧ n ≤ 1000000000000000) : Ans Try.prog n_field_roundUp [.int .i64 n, .int .i64 b] [] (.int .i64 (rup n b)) [] := by
  have hq1 : -n / b ≤ 1000000000000000 := Int.ediv_le_of_le_mul (by omega) (by have := Int.mul_le_mul_of_nonneg_left (show (1 : Int) ≤ b by omega) (show (0 : Int) ≤ 1000000000000000 by omega); omega)
  have hq2 : -1000000000000000 ≤ -n / b := Int.le_ediv_of_mul_le (by omega) (by have := Int.mul_le_mul_of_nonneg_left (show (1 : Int) ≤ b by omega) (show (0 : Int) ≤ 1000000000000000 by omega); omega)
  have w0 : IntKind.i64.wrap (0 - n) = -n := by rw [w64 (by omega)]; omega
  have w1 : IntKind.i64.wrap (0 - rdn (-n) b) = -rdn (-n) b := by unfold rdn; rw [w64 (by omega)]; omega
  refine spec_run e_field_roundUp fun G => ?_
  unfold rup
  simp only [go_sem, w0]
  refine cP (roundDown2_ok (-n) b hb (by omega)) ?_
  simp only [go_sem, w1]
  rfl


def chkA (p : Pl) (l : List Int) : Int := if (∀ x ∈ l, x ≠ 0 ∧ x ∈ p.cs) then (if l.Nodup then 0 else 9) else 7

theorem checkOf_gen {p : Pl} (hp : PlOK p) {n : Nat} (hn : n ≤ 200) {l : List Int} (hl : l.length ≤ 1000) : Ans Try.prog n_field_checkOf [p.v, .int .i64 n, vw l] [] (.int .i64 (chkA p l)) [] := by
  have hN : p.w * p.h ≤ 256 := Nat.mul_le_mul hp.w.2 hp.h.2
  have hlen := hp.len
  have c1 := Check_ok hp
  have c2 := checkSweeps_ok (n := n) ⟨by omega, by omega⟩
  have c3 := fun x => has_ok (p := p) (by omega) x
  refine spec_run e_field_checkOf fun G => ?_
  simp only [go_sem, Pl.v, Pl.a, Pl.c4, vw]
  refine cP c1 ?_
  simp only [go_sem]
  refine cP c2 ?_
  simp only [go_sem, List.length_map]
  unfold chkA
  refine loop_ind k_field_checkOf_r13.eq_1 (fun a : Nat × Heap => a.1 ≤ l.length ∧ ∀ x ∈ l.take a.1, x ≠ 0 ∧ x ∈ p.cs) (fun a => l.length - a.1)
    (fun a => (tsets 47 [(2, vw l), (3, .ptr 0 0 0 1), (23, vw l), (24, .int .i64 l.length), (25, .int .i64 a.1)], some (.cells false 4 [p.v]) :: a.2)) (0, []) ⟨Nat.zero_le _, by simp⟩ (by simp [go_sem, vw]) rfl ?_
  rintro ⟨i, X⟩ ⟨hi, hm⟩ ih
  dsimp only at hi hm ih ⊢
  by_cases h1 : i < l.length
  · have h2 : (i : Int) < l.length := by omega
    have h3 := idx_next h1 (by omega)
    have n0 : ¬ (i : Int) < 0 := by omega
    have hx := gt_get h1
    have hT : l.take (i + 1) = l.take i ++ [gt l i] := by rw [List.take_add_one, gt_get h1]; rfl
    have hmem := gt_mem h1
    have ck := c3 (gt l i)
    have ihn := fun X => ih (i + 1, X) (by dsimp only; omega)
    clear ih
    simp only [hT] at ihn
    generalize gt l i = z at *
    simp only [go_sem, vw, List.length_map, h2, n0, hx, Pl.v, Pl.a, Pl.c4]
    refine cP ck ?_
    by_cases hz : z ≠ 0 ∧ z ∈ p.cs
    · have hz' : decide (z ≠ 0 ∧ z ∈ p.cs) = true := by simp [hz]
      rw [hz']
      simp only [go_sem, h3]
      exact ihn _ ⟨h1, fun x hx' => by
        rcases List.mem_append.1 hx' with h | h
        · exact hm x h
        · simp only [List.mem_singleton] at h
          rw [h]; exact hz⟩ _ (by simp [go_sem, vw])
    · have hz' : decide (z ≠ 0 ∧ z ∈ p.cs) = false := by simpa using hz
      rw [hz', if_neg fun h => hz (h z hmem)]
      simp only [go_sem]
  · have h2 : ¬ (i : Int) < l.length := by omega
    rw [List.take_of_length_le (by omega)] at hm
    clear ih c3
    simp only [go_sem, vw, List.length_map, h2, Pl.v, Pl.a, Pl.c4]
    rw [if_pos hm]
    refine loop_ind k_field_checkOf_r20.eq_1 (fun a : Nat × Heap => a.1 ≤ l.length ∧ (l.take a.1).Nodup) (fun a => l.length - a.1)
      (fun a => (tsets 47 [(2, vw l), (34, vw l), (35, .int .i64 l.length), (36, .int .i64 a.1)], a.2)) (0, _) ⟨Nat.zero_le _, by simp⟩ (by simp [go_sem, vw]) rfl ?_
    clear hi h1 h2 i hm
    rintro ⟨i, X⟩ ⟨hi, hm⟩ ih
    dsimp only at hi hm ih ⊢
    by_cases h1 : i < l.length
    · have h2 : (i : Int) < l.length := by omega
      have h3 := idx_next h1 (by omega)
      have n0 : ¬ (i : Int) < 0 := by omega
      have hx := gt_get h1
      have hT : l.take (i + 1) = l.take i ++ [gt l i] := by rw [List.take_add_one, gt_get h1]; rfl
      have ck := Contains_ok (l := l.take i) (gt l i) (by rw [List.length_take]; omega)
      have ihn := fun X => ih (i + 1, X) (by dsimp only; omega)
      clear ih
      have hsub : ¬ gt l i ∉ l.take i → ¬ l.Nodup := fun h hnd => by
        have h4 : (l.take (i + 1)).Nodup := List.Sublist.nodup (List.take_sublist _ _) hnd
        rw [hT, List.nodup_append] at h4
        exact h fun hmm => h4.2.2 _ hmm _ (by simp) rfl
      simp only [hT] at ihn
      generalize gt l i = z at *
      have hle : (i : Int) ≤ l.length := by omega
      simp only [go_sem, vw, List.length_map, h2, n0, hx, hle]
      have hall : ((List.map (AVal.int IntKind.i64) l).all fun e => (match e with | AVal.agg cs => cs | v => [v]).length == 1) = true := by
        rw [List.all_eq_true]; intro e he
        obtain ⟨x, _, rfl⟩ := List.mem_map.1 he
        rfl
      have hvw : AVal.view (List.take (i - 0) (List.map (AVal.int IntKind.i64) l)) = vw (l.take i) := by simp [vw, List.map_take]
      refine ⟨by omega, hall, ?_⟩
      rw [hvw]
      refine cP ck ?_
      by_cases hz : z ∈ l.take i
      · have hz' : decide (z ∈ l.take i) = true := by simp only [hz, decide_true]
        rw [hz']
        simp only [go_sem]
        rw [if_neg (hsub fun h => h hz)]
      · have hz' : decide (z ∈ l.take i) = false := by simp only [hz, decide_false]
        rw [hz']
        simp only [go_sem, h3]
        exact ihn _ ⟨h1, by
          rw [List.nodup_append]
          exact ⟨hm, by simp, fun a ha b hb => by simp only [List.mem_singleton] at hb; subst hb; intro h; subst h; exact hz ha⟩⟩ _ (by simp [go_sem, vw])
    · have h2 : ¬ (i : Int) < l.length := by omega
      rw [List.take_of_length_le (by omega)] at hm
      simp only [go_sem, vw, List.length_map, h2]
      rw [if_pos hm]

def inflR (p : Pl) (n : Nat) (a k : Int) (g : Nat) : Rg := ⟨- chg p (lowB p (unitV g a) (cnt p (unitV g a) n)) k, - chg p (highB p (unitV g a) (cnt p (unitV g a) n)) k⟩
theorem inflR_in {p : Pl} (hp : PlOK p) (n : Nat) (a : Int) {k : Int} (hk : k ≠ 0) (g : Nat) : (inflR p n a k g).lo ≤ (inflR p n a k g).hi ∧ -100000000000 ≤ (inflR p n a k g).lo ∧ (inflR p n a k g).hi ≤ 100000000000 := by
  have hv := unitV_vok g a
  have A := low_ok hp (unitV g a) (cnt p (unitV g a) n)
  have B := high_ok hp (unitV g a) (cnt p (unitV g a) n)
  have h1 := chg_bd hp (A.at hv) k
  have h2 := chg_bd hp (B.at hv) k
  have h3 := chg_order hp A.elec B.elec (fun i hi => compare hp.w.2 A.sub B.sup hp.some (fun j hj hE => by rw [A.elec j hj hE, B.elec j hj hE]; exact Int.le_refl _) i hi) hk
  unfold inflR
  dsimp only
  omega
def ampR (p : Pl) (n : Nat) (k g a : Int) (m : Nat) : Rg × Int :=
  if chkA p [k, g, a] = 0 then (if (inflR p n a k m).lo < 1 then (⟨0, 0⟩, 10) else (⟨rdn (1000 * (inflR p n g k m).lo) (inflR p n a k m).hi, rup (1000 * (inflR p n g k m).hi) (inflR p n a k m).lo⟩, 0)) else (⟨0, 0⟩, chkA p [k, g, a])

set_option maxHeartbeats 4000000 in
theorem Amp_ok {p : Pl} (hp : PlOK p) {m : Nat} (hm : (m : Int) = gmax p.cs) {n : Nat} (hn : n ≤ 200) (k g a : Int) :
    Ans Try.prog n_field_Amplification [p.v, .int .i64 n, .int .i64 k, .int .i64 g, .int .i64 a] [] (.tup [(ampR p n k g a m).1.v, .int .i64 (ampR p n k g a m).2]) [] := by
  have h1 := checkOf_gen hp hn (l := [k, g, a]) (by simp)
  unfold ampR
  refine spec_run e_field_Amplification fun G => ?_
  simp only [go_sem, Pl.v, Pl.a, Pl.c4, vw]
  refine cF h1 6 ⟨.inl (plv_frz 3 _ p), .inl rfl, .inl (iv_frz_sl (d := 4) (j := 2) (g := false) (l := [k, g, a]) rfl rfl), trivial⟩ ?_
  by_cases hb : chkA p [k, g, a] = 0
  · have hal : ∀ x ∈ [k, g, a], x ≠ 0 ∧ x ∈ p.cs := by
      by_cases h : ∀ x ∈ [k, g, a], x ≠ 0 ∧ x ∈ p.cs
      · exact h
      · unfold chkA at hb; rw [if_neg h] at hb; omega
    have in1 := fun x (hx : x ∈ [k, g, a]) => show 1 ≤ x ∧ x ≤ m from by
      have h := hal x hx
      have h2 := hp.cell x h.2
      have h3 := hp.max.2.2 x h.2
      omega
    have i1 := influence_ok hp hm hn (a := a) (k := k) (in1 a (by simp))
    have i2 := influence_ok hp hm hn (a := g) (k := k) (in1 g (by simp))
    have b1 := inflR_in hp n a (k := k) (hal k (by simp)).1 m
    have b2 := inflR_in hp n g (k := k) (hal k (by simp)).1 m
    rw [hb, if_pos rfl]
    have i1' : Ans Try.prog n_field_influence [p.v, .int .i64 n, .int .i64 a, .int .i64 k] [] (inflR p n a k m).v [] := i1
    have i2' : Ans Try.prog n_field_influence [p.v, .int .i64 n, .int .i64 g, .int .i64 k] [] (inflR p n g k m).v [] := i2
    clear i1 i2 hal in1
    generalize inflR p n a k m = pl at *
    generalize inflR p n g k m = gr at *
    obtain ⟨pl0, pl1⟩ := pl
    obtain ⟨gr0, gr1⟩ := gr
    dsimp only at b1 b2 ⊢
    simp only [go_sem, Pl.v, Pl.a, Pl.c4, vw]
    refine cF i1' 6 ⟨.inl (plv_frz 3 _ p), .inl rfl, .inl rfl, .inl rfl, trivial⟩ ?_ (hr := by simp only [go_sem, Rg.v]) (hnv := by simp only [go_sem, Rg.v])
    by_cases hl : pl0 < 1
    · rw [if_pos hl]
      simp only [go_sem, Rg.v, hl, Pl.v, Pl.a, Pl.c4, vw]
    · rw [if_neg hl]
      have w1 : IntKind.i64.wrap (1000 * gr0) = 1000 * gr0 := w64 (by omega)
      have w2 : IntKind.i64.wrap (1000 * gr1) = 1000 * gr1 := w64 (by omega)
      simp only [go_sem, Rg.v, hl, Pl.v, Pl.a, Pl.c4, vw]
      refine cF i2' 6 ⟨.inl (plv_frz 3 _ p), .inl rfl, .inl rfl, .inl rfl, trivial⟩ ?_ (hr := by simp only [go_sem, Rg.v]) (hnv := by simp only [go_sem, Rg.v])
      simp only [go_sem, Rg.v, Pl.v, Pl.a, Pl.c4, vw, w1, w2]
      refine dP (roundDown2_ok (1000 * gr0) pl1 (by omega) (by omega)) ?_
      simp only [go_sem, Rg.v, Pl.v, Pl.a, Pl.c4, vw, w1, w2]
      refine cP (roundUp2_ok (1000 * gr1) pl0 (by omega) (by omega)) ?_
      simp only [go_sem, Rg.v]
  · rw [if_neg hb]
    have hb' : (chkA p [k, g, a] != 0) = true := by simp [hb]
    simp only [go_sem, Rg.v, hb']
end Go.Proofs

namespace Go.Proofs
open Go Go.Sx
attribute [local irreducible] Run

def inb (p : Pl) (i : Nat) (r d : Int) : Prop := (-((i % p.w : Nat) : Int) ≤ r ∧ r ≤ p.w - 1 - ((i % p.w : Nat) : Int)) ∧ (-((i / p.w : Nat) : Int) ≤ d ∧ d ≤ p.h - 1 - ((i / p.w : Nat) : Int))
instance (p : Pl) (i : Nat) (r d : Int) : Decidable (inb p i r d) := by unfold inb; infer_instance
def Stays (p : Pl) (e r d : Int) : Prop := ∀ i, i < p.w * p.h → gt p.cs i = e → inb p i r d
instance (p : Pl) (e r d : Int) : Decidable (Stays p e r d) := by unfold Stays; infer_instance

def wo (l : List Int) (e : Int) : List Int := l.map fun c => if c = e then 0 else c
def stepOf (p : Pl) (r d : Int) : Int := d * p.w + r
def Frees (p : Pl) (e r d : Int) : Prop := ∀ i, i < p.w * p.h → gt p.cs i = e → gt (wo p.cs e) ((i : Int) + stepOf p r d).toNat = 0
instance (p : Pl) (e r d : Int) : Decidable (Frees p e r d) := by unfold Frees; infer_instance
end Go.Proofs

namespace Go.Proofs
open Go Go.Sx
attribute [local irreducible] Run

end Go.Proofs

namespace Go.Proofs
open Go Go.Sx
attribute [local irreducible] Run

def gm (p : Pl) : Nat := (gmax p.cs).toNat
theorem gm_eq {p : Pl} (hp : PlOK p) : (gm p : Int) = gmax p.cs := by have := hp.max; unfold gm; omega
end Go.Proofs

namespace Go.Proofs
open Go Go.Sx
attribute [local irreducible] Run

structure Rp where
  w : Int
  h : Int
  rd : Bool
  cs : List Int
def Rp.v (p : Rp) : AVal := .agg [.int .i64 p.w, .int .i64 p.h, .bool p.rd, vw p.cs]
def Rp.pl (p : Rp) : Pl := ⟨p.w.toNat, p.h.toNat, p.rd, p.cs⟩
def Rp.err (p : Rp) : Int :=
  if ¬ ((1 ≤ p.w ∧ p.w ≤ 16) ∧ (1 ≤ p.h ∧ p.h ≤ 16)) then 2 else if (p.cs.length : Int) ≠ p.w * p.h then 3 else if ¬ ∀ c ∈ p.cs, 0 ≤ c ∧ c ≤ 6 then 2 else if gmax p.cs = 0 then 7 else 0
theorem Rp.ok {p : Rp} (h : p.err = 0) : PlOK p.pl ∧ p.v = p.pl.v := by
  unfold Rp.err at h
  by_cases h1 : (1 ≤ p.w ∧ p.w ≤ 16) ∧ (1 ≤ p.h ∧ p.h ≤ 16)
  · rw [if_neg (fun h => h h1)] at h
    by_cases h2 : (p.cs.length : Int) = p.w * p.h
    · rw [if_neg (fun h => h h2)] at h
      by_cases h3 : ∀ c ∈ p.cs, 0 ≤ c ∧ c ≤ 6
      · rw [if_neg (fun h => h h3)] at h
        by_cases h4 : gmax p.cs = 0
        · rw [if_pos h4] at h; omega
        · have ew : ((p.w.toNat : Nat) : Int) = p.w := by omega
          have eh : ((p.h.toNat : Nat) : Int) = p.h := by omega
          have hl : p.cs.length = p.w.toNat * p.h.toNat := by
            have : (p.cs.length : Int) = ((p.w.toNat * p.h.toNat : Nat) : Int) := by push_cast; rw [ew, eh, h2]
            omega
          refine ⟨⟨by show 1 ≤ p.w.toNat ∧ p.w.toNat ≤ 16; omega, by show 1 ≤ p.h.toNat ∧ p.h.toNat ≤ 16; omega, hl, h3, ?_⟩, ?_⟩
          · have hm : gmax p.cs ∈ p.cs := by
              rcases mxL_or p.cs 0 with h | h
              · exact absurd h h4
              · exact h
            obtain ⟨i, hi, hie⟩ := mem_gt hm
            exact ⟨i, by show i < p.w.toNat * p.h.toNat; omega, by show gt p.cs i ≠ 0; rw [hie]; exact h4⟩
          · unfold Rp.v Pl.v Pl.a Pl.c4 Rp.pl
            simp only [ew, eh]
      · rw [if_pos h3] at h; omega
    · rw [if_pos h2] at h; omega
  · rw [if_pos h1] at h; omega

set_option maxHeartbeats 2000000 in
theorem Check_raw (p : Rp) (hlen : p.cs.length ≤ 1000000) : Ans Try.prog n_field_Check [p.v] [] (.int .i64 p.err) [] := by
  by_cases hok : p.err = 0
  · obtain ⟨h1, h2⟩ := Rp.ok hok
    rw [hok, h2]
    exact Check_ok h1
  · unfold Rp.err at hok ⊢
    refine spec_run e_field_Check fun G => ?_
    simp only [go_sem, Rp.v, vw]
    by_cases hw : 1 ≤ p.w ∧ p.w ≤ 16
    · refine cP (within_yes hw) ?_
      simp only [go_sem]
      by_cases hh : 1 ≤ p.h ∧ p.h ≤ 16
      · rw [if_neg (fun h => h ⟨hw, hh⟩)] at hok ⊢
        refine cP (within_yes hh) ?_
        obtain ⟨w, hw'⟩ : ∃ w : Nat, (w : Int) = p.w := ⟨p.w.toNat, by omega⟩
        obtain ⟨h, hh'⟩ : ∃ h : Nat, (h : Int) = p.h := ⟨p.h.toNat, by omega⟩
        have hN : w * h ≤ 256 := Nat.mul_le_mul (show w ≤ 16 by omega) (show h ≤ 16 by omega)
        have em : IntKind.i64.wrap (p.w * p.h) = p.w * p.h := by rw [← hw', ← hh', w64 (by push_cast at *; omega)]
        by_cases hl : (p.cs.length : Int) = p.w * p.h
        · rw [if_neg (fun h => h hl)] at hok ⊢
          have hl' : ((p.cs.length : Int) != p.w * p.h) = false := by simp [hl]
          simp only [go_sem, List.length_map, em, hl']
          refine loop_ind k_field_Check_r11.eq_1 (fun a : Nat × Heap => a.1 ≤ p.cs.length ∧ ∀ c ∈ p.cs.take a.1, 0 ≤ c ∧ c ≤ 6) (fun a => p.cs.length - a.1)
            (fun a => (tsets 41 [(1, .ptr 0 0 0 1), (2, .int .i64 0), (25, vw p.cs), (26, .int .i64 p.cs.length), (27, .int .i64 a.1)], some (.cells false 4 [p.v]) :: a.2)) (0, []) ⟨Nat.zero_le _, by simp⟩ (by simp [go_sem, vw]) rfl ?_
          rintro ⟨i, X⟩ ⟨hi, hm⟩ ih
          dsimp only at hi hm ih ⊢
          by_cases h1 : i < p.cs.length
          · have h2 : (i : Int) < p.cs.length := by omega
            have h3 := idx_next h1 (by omega)
            have n0 : ¬ (i : Int) < 0 := by omega
            have hx := gt_get h1
            have hT : p.cs.take (i + 1) = p.cs.take i ++ [gt p.cs i] := by rw [List.take_add_one, gt_get h1]; rfl
            have hmem := gt_mem h1
            have ihn := fun X => ih (i + 1, X) (by dsimp only; omega)
            clear ih
            simp only [hT] at ihn
            generalize gt p.cs i = z at *
            simp only [go_sem, vw, List.length_map, h2, n0, hx]
            by_cases hz : 0 ≤ z ∧ z ≤ 6
            · refine cP (within_yes hz) ?_
              simp only [go_sem, h3]
              exact ihn _ ⟨h1, fun x hx' => by
                rcases List.mem_append.1 hx' with h | h
                · exact hm x h
                · simp only [List.mem_singleton] at h
                  rw [h]; exact hz⟩ _ (by simp [go_sem, vw])
            · rw [if_pos fun h => hz (h z hmem)]
              refine cP (within_no hz) ?_
              simp only [go_sem]
          · have h2 : ¬ (i : Int) < p.cs.length := by omega
            rw [List.take_of_length_le (by omega)] at hm
            rw [if_neg (fun h => h hm)] at hok ⊢
            have h4 : gmax p.cs = 0 := by
              by_cases h : gmax p.cs = 0
              · exact h
              · rw [if_neg h] at hok; omega
            rw [if_pos h4]
            have hne : p.cs ≠ [] := fun hn => by
              rw [hn] at hl
              simp only [List.length_nil] at hl
              have := Int.mul_pos (show (0 : Int) < p.w by omega) (show (0 : Int) < p.h by omega)
              omega
            have hmx := max_ok hne (fun c hc => (hm c hc).1) hlen
            rw [h4] at hmx
            simp only [go_sem, Rp.v, vw, List.length_map, h2]
            refine cP hmx ?_
            simp only [go_sem]
        · rw [if_pos hl]
          have hl' : ((p.cs.length : Int) != p.w * p.h) = true := by simp [hl]
          simp only [go_sem, List.length_map, em, hl']
      · rw [if_pos (fun h => hh h.2)]
        refine cP (within_no hh) ?_
        simp only [go_sem]
    · rw [if_pos (fun h => hw h.1)]
      refine cP (within_no hw) ?_
      simp only [go_sem]

def numErr (l : List Int) : Int := if ∀ x ∈ l, -1000000 ≤ x ∧ x ≤ 1000000 then 0 else 2
def Rp.errV (p : Rp) (v : List Int) : Int := if p.err ≠ 0 then p.err else if (v.length : Int) ≠ gmax p.cs then 3 else numErr v
end Go.Proofs

namespace Go.Proofs
open Go Go.Sx
attribute [local irreducible] Run

theorem checkSweeps_raw (n : Int) : Ans Try.prog n_field_checkSweeps [.int .i64 n] [] (.int .i64 (if 0 ≤ n ∧ n ≤ 200 then 0 else 2)) [] := by
  by_cases h : 0 ≤ n ∧ n ≤ 200
  · rw [if_pos h]; exact checkSweeps_ok h
  · rw [if_neg h]
    refine spec_run e_field_checkSweeps fun G => ?_
    simp only [go_sem]
    refine cP (within_no h) ?_
    simp only [go_sem]

def Rp.errS (p : Rp) (v : List Int) (n : Int) : Int := if p.errV v ≠ 0 then p.errV v else if 0 ≤ n ∧ n ≤ 200 then 0 else 2
theorem Rp.okS {p : Rp} {v : List Int} {n : Int} (h : p.errS v n = 0) : (PlOK p.pl ∧ p.v = p.pl.v) ∧ VOK v ∧ (v.length : Int) = gmax p.pl.cs ∧ 0 ≤ n ∧ n ≤ 200 := by
  unfold Rp.errS at h
  by_cases h1 : p.errV v = 0
  · rw [if_neg fun h2 => h2 h1] at h
    have hn : 0 ≤ n ∧ n ≤ 200 := by
      by_cases h2 : 0 ≤ n ∧ n ≤ 200
      · exact h2
      · rw [if_neg h2] at h; omega
    unfold Rp.errV at h1
    by_cases h3 : p.err = 0
    · rw [if_neg fun h4 => h4 h3] at h1
      by_cases h4 : (v.length : Int) = gmax p.cs
      · rw [if_neg fun h5 => h5 h4] at h1
        refine ⟨Rp.ok h3, ?_, h4, hn⟩
        unfold numErr at h1
        by_cases h5 : ∀ x ∈ v, -1000000 ≤ x ∧ x ≤ 1000000
        · exact h5
        · rw [if_neg h5] at h1; omega
      · rw [if_pos h4] at h1; omega
    · rw [if_pos h3] at h1; exact absurd h1 h3
  · rw [if_pos h1] at h; exact absurd h h1

end Go.Proofs

