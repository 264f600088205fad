/- A part of the proof. -/
import Derived.Test.YtdodlephmmpemaaPH
set_option linter.unusedSimpArgs false
set_option linter.unusedVariables false
namespace Go.Proofs
open Go Go.Sx

def k_law01_FieldShifts_r0 : List AOper := [
  ⟨(some (6)), .box (.tmp 0), none, []⟩, 
  ⟨(some (12)), .move (.const (.bool false)), none, []⟩]
def k_law01_FieldShifts_r1 : List AOper := [
  ⟨(some (19)), .load (some (4)) (.tmp 6), none, []⟩, 
  ⟨(some (20)), .call (.const (.fn (.func 19) [] [])) [.tmp 19, .const (.nilsl)], none, []⟩]
def k_law01_FieldShifts_r2 : List AOper := [
  ⟨(some (21)), .call (.const (.fn (.func 20) [] [])) [], none, []⟩, 
  ⟨(some (12)), .move (.tmp 21), none, []⟩]
def k_law01_FieldShifts_r3 : List AOper := [
  ⟨(some (22)), .move (.tmp 5), none, []⟩, 
  ⟨(some (23)), .call (.const (.fn (.func 22) [] [])) [.tmp 22], none, []⟩, 
  ⟨(some (24)), .call (.const (.fn (.func 21) [] [])) [.tmp 23, .const (.int .i64 8), .const (.int .i64 6)], none, []⟩, 
  ⟨(some (13)), .box (.const (.agg [.int .i64 0, .int .i64 0, .bool false, .nilsl])), none, []⟩, 
  ⟨none, .store 4 (.tmp 13) (.tmp 24), none, []⟩]
def k_law01_FieldShifts_r4 : List AOper := [
  ⟨(some (25)), .load (some (4)) (.tmp 13), none, []⟩, 
  ⟨(some (26)), .call (.const (.fn (.func 24) [] [])) [.tmp 25], none, []⟩, 
  ⟨(some (14)), .box (.const (.agg [.int .i64 0, .int .i64 0, .bool false, .nilsl])), none, []⟩, 
  ⟨none, .store 4 (.tmp 14) (.tmp 26), none, []⟩]
def k_law01_FieldShifts_r5 : List AOper := [
  ⟨(some (28)), .load (some (4)) (.tmp 6), none, []⟩, 
  ⟨(some (29)), .move (.tmp 1), none, []⟩, 
  ⟨(some (30)), .move (.tmp 2), none, []⟩, 
  ⟨(some (31)), .move (.tmp 3), none, []⟩, 
  ⟨(some (32)), .call (.const (.fn (.func 51) [] [])) [.tmp 28, .tmp 29, .tmp 30, .tmp 31], none, []⟩, 
  ⟨(some (27)), .move (.tmp 32), none, []⟩, 
  ⟨(some (33)), .extract (.tmp 27) 0, none, []⟩, 
  ⟨(some (34)), .extract (.tmp 27) 1, none, []⟩, 
  ⟨(some (15)), .box (.const (.agg [.int .i64 0, .int .i64 0, .bool false, .nilsl])), none, []⟩, 
  ⟨none, .store 4 (.tmp 15) (.tmp 33), none, []⟩, 
  ⟨(some (16)), .move (.tmp 34), none, []⟩]
def k_law01_FieldShifts_r6 : List AOper := [
  ⟨(some (36)), .load (some (4)) (.tmp 6), none, []⟩, 
  ⟨(some (37)), .move (.tmp 1), none, []⟩, 
  ⟨(some (38)), .move (.tmp 2), none, []⟩, 
  ⟨(some (39)), .move (.tmp 3), none, []⟩, 
  ⟨(some (40)), .call (.const (.fn (.func 52) [] [])) [.tmp 36, .tmp 37, .tmp 38, .tmp 39], none, []⟩, 
  ⟨(some (35)), .move (.tmp 40), none, []⟩, 
  ⟨(some (41)), .extract (.tmp 35) 0, none, []⟩, 
  ⟨(some (42)), .extract (.tmp 35) 1, none, []⟩, 
  ⟨(some (17)), .box (.const (.agg [.int .i64 0, .int .i64 0, .bool false, .nilsl])), none, []⟩, 
  ⟨none, .store 4 (.tmp 17) (.tmp 41), none, []⟩, 
  ⟨(some (18)), .move (.tmp 42), none, []⟩]
def k_law01_FieldShifts_r7 : List AOper := [
  ⟨(some (43)), .move (.tmp 16), none, []⟩, 
  ⟨(some (44)), .move (.tmp 18), none, []⟩, 
  ⟨(some (45)), .bin .plain .neq (.tmp 43) (.tmp 44), none, []⟩, 
  ⟨(some (46)), .move (.tmp 45), none, []⟩, 
  ⟨(some (47)), .load (some (4)) (.tmp 15), (some (46, false)), []⟩, 
  ⟨(some (48)), .load (some (4)) (.tmp 17), (some (46, false)), []⟩, 
  ⟨(some (49)), .call (.const (.fn (.func 34) [] [])) [.tmp 47, .tmp 48], (some (46, false)), []⟩, 
  ⟨(some (50)), .not (.tmp 49), (some (46, false)), []⟩, 
  ⟨(some (51)), .pick (.tmp 46) (.const (.bool true)) (.tmp 50), none, []⟩]
def k_law01_FieldShifts_r8 : List AOper := [
  ⟨(some (12)), .move (.const (.bool false)), none, []⟩]
def k_law01_FieldShifts_r9 : List AOper := [
  ⟨(some (52)), .move (.tmp 1), none, []⟩, 
  ⟨(some (53)), .call (.const (.fn (.func 23) [] [])) [.tmp 52, .const (.int .i64 4)], none, []⟩, 
  ⟨(some (54)), .move (.tmp 2), none, []⟩, 
  ⟨(some (55)), .call (.const (.fn (.func 23) [] [])) [.tmp 54, .const (.int .i64 5)], none, []⟩, 
  ⟨(some (56)), .bin .plain .sub (.tmp 55) (.const (.int .i64 2)), none, []⟩, 
  ⟨(some (57)), .move (.tmp 3), none, []⟩, 
  ⟨(some (58)), .call (.const (.fn (.func 23) [] [])) [.tmp 57, .const (.int .i64 5)], none, []⟩, 
  ⟨(some (59)), .bin .plain .sub (.tmp 58) (.const (.int .i64 2)), none, []⟩, 
  ⟨(some (1)), .move (.tmp 53), none, []⟩, 
  ⟨(some (2)), .move (.tmp 56), none, []⟩, 
  ⟨(some (3)), .move (.tmp 59), none, []⟩]
def k_law01_FieldShifts_r10 : List AOper := [
  ⟨(some (61)), .load (some (4)) (.tmp 14), none, []⟩, 
  ⟨(some (62)), .move (.tmp 1), none, []⟩, 
  ⟨(some (63)), .move (.tmp 2), none, []⟩, 
  ⟨(some (64)), .move (.tmp 3), none, []⟩, 
  ⟨(some (65)), .call (.const (.fn (.func 51) [] [])) [.tmp 61, .tmp 62, .tmp 63, .tmp 64], none, []⟩, 
  ⟨(some (60)), .move (.tmp 65), none, []⟩, 
  ⟨(some (66)), .extract (.tmp 60) 0, none, []⟩, 
  ⟨(some (67)), .extract (.tmp 60) 1, none, []⟩, 
  ⟨none, .store 4 (.tmp 15) (.tmp 66), none, []⟩, 
  ⟨(some (16)), .move (.tmp 67), none, []⟩]
def k_law01_FieldShifts_r11 : List AOper := [
  ⟨(some (69)), .load (some (4)) (.tmp 13), none, []⟩, 
  ⟨(some (70)), .move (.tmp 1), none, []⟩, 
  ⟨(some (71)), .move (.tmp 2), none, []⟩, 
  ⟨(some (72)), .move (.tmp 3), none, []⟩, 
  ⟨(some (73)), .call (.const (.fn (.func 52) [] [])) [.tmp 69, .tmp 70, .tmp 71, .tmp 72], none, []⟩, 
  ⟨(some (68)), .move (.tmp 73), none, []⟩, 
  ⟨(some (74)), .extract (.tmp 68) 0, none, []⟩, 
  ⟨(some (75)), .extract (.tmp 68) 1, none, []⟩, 
  ⟨none, .store 4 (.tmp 17) (.tmp 74), none, []⟩, 
  ⟨(some (18)), .move (.tmp 75), none, []⟩]
def k_law01_FieldShifts_r12 : List AOper := [
  ⟨(some (76)), .move (.tmp 16), none, []⟩, 
  ⟨(some (77)), .move (.tmp 18), none, []⟩, 
  ⟨(some (78)), .bin .plain .eql (.tmp 76) (.tmp 77), none, []⟩, 
  ⟨(some (79)), .move (.tmp 78), none, []⟩, 
  ⟨(some (80)), .load (some (4)) (.tmp 15), (some (79, true)), []⟩, 
  ⟨(some (81)), .load (some (4)) (.tmp 17), (some (79, true)), []⟩, 
  ⟨(some (82)), .call (.const (.fn (.func 34) [] [])) [.tmp 80, .tmp 81], (some (79, true)), []⟩, 
  ⟨(some (83)), .pick (.tmp 79) (.tmp 82) (.const (.bool false)), none, []⟩, 
  ⟨(some (84)), .move (.tmp 83), none, []⟩, 
  ⟨(some (85)), .load (some (4)) (.tmp 14), (some (84, true)), []⟩, 
  ⟨(some (86)), .load (some (4)) (.tmp 13), (some (84, true)), []⟩, 
  ⟨(some (87)), .call (.const (.fn (.func 34) [] [])) [.tmp 85, .tmp 86], (some (84, true)), []⟩, 
  ⟨(some (88)), .pick (.tmp 84) (.tmp 87) (.const (.bool false)), none, []⟩, 
  ⟨(some (89)), .move (.tmp 88), none, []⟩, 
  ⟨(some (90)), .move (.tmp 5), (some (89, true)), []⟩, 
  ⟨(some (91)), .move (.tmp 4), (some (89, true)), []⟩, 
  ⟨(some (92)), .move (.tmp 1), (some (89, true)), []⟩, 
  ⟨(some (93)), .move (.tmp 2), (some (89, true)), []⟩, 
  ⟨(some (94)), .bin .plain .add (.tmp 93) (.const (.int .i64 2)), (some (89, true)), []⟩, 
  ⟨(some (95)), .move (.tmp 3), (some (89, true)), []⟩, 
  ⟨(some (96)), .bin .plain .add (.tmp 95) (.const (.int .i64 2)), (some (89, true)), []⟩, 
  ⟨(some (97)), .call (.const (.fn (.func 53) [] [])) [.tmp 90, .tmp 91, .tmp 92, .tmp 94, .tmp 96], (some (89, true)), []⟩, 
  ⟨(some (98)), .pick (.tmp 89) (.tmp 97) (.const (.bool false)), none, []⟩, 
  ⟨(some (99)), .move (.tmp 98), none, []⟩, 
  ⟨(some (100)), .call (.const (.fn (.func 20) [] [])) [], (some (99, true)), []⟩, 
  ⟨(some (101)), .pick (.tmp 99) (.tmp 100) (.const (.bool false)), none, []⟩, 
  ⟨(some (12)), .move (.tmp 101), none, []⟩]
def k_law01_FieldShifts : AFun := { params := 6, ntmps := 102, body := (.seq (.reg k_law01_FieldShifts_r0 false) (.seq (.seq (.reg k_law01_FieldShifts_r1 false) (.cond (.tmp 20) (.seq (.reg k_law01_FieldShifts_r2 false) .ret) .skip)) (.seq (.reg k_law01_FieldShifts_r3 false) (.seq (.reg k_law01_FieldShifts_r4 false) (.seq (.reg k_law01_FieldShifts_r5 false) (.seq (.reg k_law01_FieldShifts_r6 false) (.seq (.seq (.reg k_law01_FieldShifts_r7 false) (.cond (.tmp 51) (.seq (.reg k_law01_FieldShifts_r8 false) .ret) .skip)) (.seq (.reg k_law01_FieldShifts_r9 false) (.seq (.reg k_law01_FieldShifts_r10 false) (.seq (.reg k_law01_FieldShifts_r11 false) (.seq (.reg k_law01_FieldShifts_r12 false) .ret))))))))))), res := [.tmp 12] }
theorem k_law01_FieldShifts_ok : cfun Try.prog Try.f8 = k_law01_FieldShifts := by kernel_rfl

def k_ref01_Shift_r0 : List AOper := [
  ⟨(some (4)), .box (.tmp 0), none, []⟩, 
  ⟨(some (8)), .box (.const (.agg [.int .i64 0, .int .i64 0, .bool false, .nilsl])), none, []⟩, 
  ⟨(some (9)), .move (.const (.int .i64 0)), none, []⟩]
def k_ref01_Shift_r1 : List AOper := [
  ⟨(some (18)), .load (some (4)) (.tmp 4), none, []⟩, 
  ⟨(some (19)), .call (.const (.fn (.func 27) [] [])) [.tmp 18], none, []⟩, 
  ⟨(some (10)), .move (.tmp 19), none, []⟩]
def k_ref01_Shift_r2 : List AOper := [
  ⟨(some (20)), .move (.tmp 10), none, []⟩, 
  ⟨(some (21)), .bin .plain .neq (.tmp 20) (.const (.int .i64 0)), none, []⟩]
def k_ref01_Shift_r3 : List AOper := [
  ⟨(some (22)), .build [.int .i64 0, .int .i64 0, .bool false, .nilsl] [], none, []⟩, 
  ⟨(some (23)), .move (.tmp 10), none, []⟩, 
  ⟨none, .store 4 (.tmp 8) (.tmp 22), none, []⟩, 
  ⟨(some (9)), .move (.tmp 23), none, []⟩]
def k_ref01_Shift_r4 : List AOper := [
  ⟨(some (24)), .load (some (4)) (.tmp 4), none, []⟩, 
  ⟨(some (25)), .move (.tmp 1), none, []⟩, 
  ⟨(some (26)), .call (.const (.fn (.func 76) [] [])) [.tmp 24, .tmp 25], none, []⟩, 
  ⟨(some (27)), .not (.tmp 26), none, []⟩]
def k_ref01_Shift_r5 : List AOper := [
  ⟨(some (28)), .build [.int .i64 0, .int .i64 0, .bool false, .nilsl] [], none, []⟩, 
  ⟨none, .store 4 (.tmp 8) (.tmp 28), none, []⟩, 
  ⟨(some (9)), .move (.const (.int .i64 7)), none, []⟩]
def k_ref01_Shift_r6 : List AOper := [
  ⟨(some (29)), .load (some (4)) (.tmp 4), none, []⟩, 
  ⟨(some (30)), .call (.const (.fn (.func 24) [] [])) [.tmp 29], none, []⟩, 
  ⟨(some (11)), .box (.const (.agg [.int .i64 0, .int .i64 0, .bool false, .nilsl])), none, []⟩, 
  ⟨none, .store 4 (.tmp 11) (.tmp 30), none, []⟩]
def k_ref01_Shift_r7 : List AOper := [
  ⟨(some (12)), .move (.const (.int .i64 0)), none, []⟩]
def k_ref01_Shift_r8 : List AOper := [
  ⟨(some (31)), .move (.tmp 12), none, []⟩, 
  ⟨(some (32)), .fieldAddr 3 (.tmp 4), none, []⟩, 
  ⟨(some (33)), .load none (.tmp 32), none, []⟩, 
  ⟨(some (34)), .len false (.tmp 33), none, []⟩, 
  ⟨(some (35)), .bin .plain .lss (.tmp 31) (.tmp 34), none, []⟩]
def k_ref01_Shift_r9 : List AOper := [
  ⟨(some (38)), .fieldAddr 3 (.tmp 4), none, []⟩, 
  ⟨(some (39)), .load none (.tmp 38), none, []⟩, 
  ⟨(some (40)), .move (.tmp 12), none, []⟩, 
  ⟨(some (41)), .indexAddr 1 (.tmp 39) (.tmp 40), none, []⟩, 
  ⟨(some (42)), .load none (.tmp 41), none, []⟩, 
  ⟨(some (43)), .move (.tmp 1), none, []⟩, 
  ⟨(some (44)), .bin .plain .eql (.tmp 42) (.tmp 43), none, []⟩]
def k_ref01_Shift_r10 : List AOper := [
  ⟨(some (45)), .fieldAddr 3 (.tmp 11), none, []⟩, 
  ⟨(some (46)), .load none (.tmp 45), none, []⟩, 
  ⟨(some (47)), .move (.tmp 12), none, []⟩, 
  ⟨(some (48)), .indexAddr 1 (.tmp 46) (.tmp 47), none, []⟩, 
  ⟨none, .store 1 (.tmp 48) (.const (.int .i64 0)), none, []⟩]
def k_ref01_Shift_r11 : List AOper := [
  ⟨(some (36)), .move (.tmp 12), none, []⟩, 
  ⟨(some (37)), .bin .plain .add (.tmp 36) (.const (.int .i64 1)), none, []⟩, 
  ⟨(some (12)), .move (.tmp 37), none, []⟩]
def k_ref01_Shift_r12 : ACode := (.seq (.seq (.reg k_ref01_Shift_r8 false) (.cond (.tmp 35) .skip (.exit 0))) (.seq (.block 1 (.seq (.reg k_ref01_Shift_r9 false) (.cond (.tmp 44) (.reg k_ref01_Shift_r10 false) .skip))) (.reg k_ref01_Shift_r11 false)))
def k_ref01_Shift_r13 : List AOper := [
  ⟨(some (49)), .move (.tmp 2), none, []⟩, 
  ⟨(some (50)), .call (.const (.fn (.func 71) [] [])) [.tmp 49, .const (.int .i64 (-16)), .const (.int .i64 16)], none, []⟩, 
  ⟨(some (51)), .move (.tmp 50), none, []⟩, 
  ⟨(some (52)), .move (.tmp 3), (some (51, false)), []⟩, 
  ⟨(some (53)), .call (.const (.fn (.func 71) [] [])) [.tmp 52, .const (.int .i64 (-16)), .const (.int .i64 16)], (some (51, false)), []⟩, 
  ⟨(some (54)), .pick (.tmp 51) (.const (.bool true)) (.tmp 53), none, []⟩]
def k_ref01_Shift_r14 : List AOper := [
  ⟨(some (55)), .build [.int .i64 0, .int .i64 0, .bool false, .nilsl] [], none, []⟩, 
  ⟨none, .store 4 (.tmp 8) (.tmp 55), none, []⟩, 
  ⟨(some (9)), .move (.const (.int .i64 2)), none, []⟩]
def k_ref01_Shift_r15 : List AOper := [
  ⟨(some (13)), .move (.const (.bool false)), none, []⟩]
def k_ref01_Shift_r16 : List AOper := [
  ⟨(some (14)), .move (.const (.int .i64 0)), none, []⟩]
def k_ref01_Shift_r17 : List AOper := [
  ⟨(some (56)), .move (.tmp 14), none, []⟩, 
  ⟨(some (57)), .fieldAddr 3 (.tmp 4), none, []⟩, 
  ⟨(some (58)), .load none (.tmp 57), none, []⟩, 
  ⟨(some (59)), .len false (.tmp 58), none, []⟩, 
  ⟨(some (60)), .bin .plain .lss (.tmp 56) (.tmp 59), none, []⟩]
def k_ref01_Shift_r18 : List AOper := [
  ⟨(some (63)), .fieldAddr 3 (.tmp 4), none, []⟩, 
  ⟨(some (64)), .load none (.tmp 63), none, []⟩, 
  ⟨(some (65)), .move (.tmp 14), none, []⟩, 
  ⟨(some (66)), .indexAddr 1 (.tmp 64) (.tmp 65), none, []⟩, 
  ⟨(some (67)), .load none (.tmp 66), none, []⟩, 
  ⟨(some (68)), .move (.tmp 1), none, []⟩, 
  ⟨(some (69)), .bin .plain .neq (.tmp 67) (.tmp 68), none, []⟩]
def k_ref01_Shift_r19 : List AOper := [
  ⟨(some (70)), .move (.tmp 14), none, []⟩, 
  ⟨(some (71)), .fieldAddr 0 (.tmp 4), none, [0]⟩, 
  ⟨(some (72)), .load none (.tmp 71), none, [0]⟩, 
  ⟨(some (73)), .bin .plain .rem (.tmp 70) (.tmp 72), none, []⟩, 
  ⟨(some (74)), .move (.tmp 2), none, [0, 1, 2, 3]⟩, 
  ⟨(some (75)), .bin .plain .add (.tmp 73) (.tmp 74), none, []⟩, 
  ⟨(some (76)), .move (.tmp 14), none, [0, 1, 2, 3, 4, 5]⟩, 
  ⟨(some (77)), .fieldAddr 0 (.tmp 4), none, [0, 1, 2, 3, 4, 5, 6]⟩, 
  ⟨(some (78)), .load none (.tmp 77), none, [0, 1, 2, 3, 4, 5, 6]⟩, 
  ⟨(some (79)), .bin .plain .quo (.tmp 76) (.tmp 78), none, [0, 1, 2, 3, 4, 5]⟩, 
  ⟨(some (80)), .move (.tmp 3), none, [0, 1, 2, 3, 4, 5, 6, 7, 8, 9]⟩, 
  ⟨(some (81)), .bin .plain .add (.tmp 79) (.tmp 80), none, [0, 1, 2, 3, 4, 5]⟩, 
  ⟨(some (15)), .move (.tmp 75), none, [6, 7, 8, 9, 10, 11]⟩, 
  ⟨(some (16)), .move (.tmp 81), none, []⟩]
def k_ref01_Shift_r19s : List (List AOper) := [
  [
  ⟨(some (70)), .move (.tmp 14), none, []⟩, 
  ⟨(some (71)), .fieldAddr 0 (.tmp 4), none, [0]⟩, 
  ⟨(some (72)), .load none (.tmp 71), none, [0]⟩, 
  ⟨(some (73)), .bin .plain .rem (.tmp 70) (.tmp 72), none, []⟩, 
  ⟨(some (74)), .move (.tmp 2), none, [0, 1, 2, 3]⟩, 
  ⟨(some (75)), .bin .plain .add (.tmp 73) (.tmp 74), none, []⟩, 
  ⟨(some (76)), .move (.tmp 14), none, [0, 1, 2, 3, 4, 5]⟩, 
  ⟨(some (77)), .fieldAddr 0 (.tmp 4), none, [0, 1, 2, 3, 4, 5, 6]⟩, 
  ⟨(some (78)), .load none (.tmp 77), none, [0, 1, 2, 3, 4, 5, 6]⟩, 
  ⟨(some (79)), .bin .plain .quo (.tmp 76) (.tmp 78), none, [0, 1, 2, 3, 4, 5]⟩, 
  ⟨(some (80)), .move (.tmp 3), none, [0, 1, 2, 3, 4, 5, 6, 7, 8, 9]⟩, 
  ⟨(some (81)), .bin .plain .add (.tmp 79) (.tmp 80), none, [0, 1, 2, 3, 4, 5]⟩, 
  ⟨(some (15)), .move (.tmp 75), none, [6, 7, 8, 9, 10, 11]⟩], 
  [
  ⟨(some (16)), .move (.tmp 81), none, []⟩]]
theorem k_ref01_Shift_r19_sg : segs k_ref01_Shift_r19 = k_ref01_Shift_r19s := by kernel_rfl
theorem k_ref01_Shift_r19_st : statOK k_ref01_Shift_r19 = true := by kernel_rfl
def k_ref01_Shift_r20 : List AOper := [
  ⟨(some (82)), .move (.tmp 15), none, []⟩, 
  ⟨(some (83)), .fieldAddr 0 (.tmp 4), none, []⟩, 
  ⟨(some (84)), .load none (.tmp 83), none, []⟩, 
  ⟨(some (85)), .bin .plain .sub (.tmp 84) (.const (.int .i64 1)), none, []⟩, 
  ⟨(some (86)), .call (.const (.fn (.func 71) [] [])) [.tmp 82, .const (.int .i64 0), .tmp 85], none, []⟩, 
  ⟨(some (87)), .move (.tmp 86), none, []⟩, 
  ⟨(some (88)), .move (.tmp 16), (some (87, false)), []⟩, 
  ⟨(some (89)), .fieldAddr 1 (.tmp 4), (some (87, false)), []⟩, 
  ⟨(some (90)), .load none (.tmp 89), (some (87, false)), []⟩, 
  ⟨(some (91)), .bin .plain .sub (.tmp 90) (.const (.int .i64 1)), (some (87, false)), []⟩, 
  ⟨(some (92)), .call (.const (.fn (.func 71) [] [])) [.tmp 88, .const (.int .i64 0), .tmp 91], (some (87, false)), []⟩, 
  ⟨(some (93)), .pick (.tmp 87) (.const (.bool true)) (.tmp 92), none, []⟩]
def k_ref01_Shift_r21 : List AOper := [
  ⟨(some (94)), .build [.int .i64 0, .int .i64 0, .bool false, .nilsl] [], none, []⟩, 
  ⟨none, .store 4 (.tmp 8) (.tmp 94), none, []⟩, 
  ⟨(some (9)), .move (.const (.int .i64 2)), none, []⟩]
def k_ref01_Shift_r22 : List AOper := [
  ⟨(some (95)), .move (.tmp 13), none, []⟩, 
  ⟨(some (96)), .move (.tmp 95), none, []⟩, 
  ⟨(some (97)), .fieldAddr 3 (.tmp 11), (some (96, false)), []⟩, 
  ⟨(some (98)), .load none (.tmp 97), (some (96, false)), []⟩, 
  ⟨(some (99)), .move (.tmp 16), (some (96, false)), []⟩, 
  ⟨(some (100)), .fieldAddr 0 (.tmp 4), (some (96, false)), []⟩, 
  ⟨(some (101)), .load none (.tmp 100), (some (96, false)), []⟩, 
  ⟨(some (102)), .bin .plain .mul (.tmp 99) (.tmp 101), (some (96, false)), []⟩, 
  ⟨(some (103)), .move (.tmp 15), (some (96, false)), []⟩, 
  ⟨(some (104)), .bin .plain .add (.tmp 102) (.tmp 103), (some (96, false)), []⟩, 
  ⟨(some (105)), .indexAddr 1 (.tmp 98) (.tmp 104), (some (96, false)), []⟩, 
  ⟨(some (106)), .load none (.tmp 105), (some (96, false)), []⟩, 
  ⟨(some (107)), .bin .plain .gtr (.tmp 106) (.const (.int .i64 0)), (some (96, false)), []⟩, 
  ⟨(some (108)), .move (.tmp 107), (some (96, false)), []⟩, 
  ⟨(some (109)), .fieldAddr 3 (.tmp 11), (some (108, true)), []⟩, 
  ⟨(some (110)), .load none (.tmp 109), (some (108, true)), []⟩, 
  ⟨(some (111)), .move (.tmp 16), (some (108, true)), []⟩, 
  ⟨(some (112)), .fieldAddr 0 (.tmp 4), (some (108, true)), []⟩, 
  ⟨(some (113)), .load none (.tmp 112), (some (108, true)), []⟩, 
  ⟨(some (114)), .bin .plain .mul (.tmp 111) (.tmp 113), (some (108, true)), []⟩, 
  ⟨(some (115)), .move (.tmp 15), (some (108, true)), []⟩, 
  ⟨(some (116)), .bin .plain .add (.tmp 114) (.tmp 115), (some (108, true)), []⟩, 
  ⟨(some (117)), .indexAddr 1 (.tmp 110) (.tmp 116), (some (108, true)), []⟩, 
  ⟨(some (118)), .load none (.tmp 117), (some (108, true)), []⟩, 
  ⟨(some (119)), .move (.tmp 1), (some (108, true)), []⟩, 
  ⟨(some (120)), .bin .plain .neq (.tmp 118) (.tmp 119), (some (108, true)), []⟩, 
  ⟨(some (121)), .pick (.tmp 108) (.tmp 120) (.const (.bool false)), (some (96, false)), []⟩, 
  ⟨(some (122)), .pick (.tmp 96) (.const (.bool true)) (.tmp 121), none, []⟩, 
  ⟨(some (13)), .move (.tmp 122), none, []⟩]
def k_ref01_Shift_r23 : List AOper := [
  ⟨(some (123)), .fieldAddr 3 (.tmp 11), none, []⟩, 
  ⟨(some (124)), .load none (.tmp 123), none, []⟩, 
  ⟨(some (125)), .move (.tmp 16), none, []⟩, 
  ⟨(some (126)), .fieldAddr 0 (.tmp 4), none, []⟩, 
  ⟨(some (127)), .load none (.tmp 126), none, []⟩, 
  ⟨(some (128)), .bin .plain .mul (.tmp 125) (.tmp 127), none, []⟩, 
  ⟨(some (129)), .move (.tmp 15), none, []⟩, 
  ⟨(some (130)), .bin .plain .add (.tmp 128) (.tmp 129), none, []⟩, 
  ⟨(some (131)), .move (.tmp 1), none, []⟩, 
  ⟨(some (132)), .indexAddr 1 (.tmp 124) (.tmp 130), none, []⟩, 
  ⟨none, .store 1 (.tmp 132) (.tmp 131), none, []⟩]
def k_ref01_Shift_r24 : List AOper := [
  ⟨(some (61)), .move (.tmp 14), none, []⟩, 
  ⟨(some (62)), .bin .plain .add (.tmp 61) (.const (.int .i64 1)), none, []⟩, 
  ⟨(some (14)), .move (.tmp 62), none, []⟩]
def k_ref01_Shift_r25 : ACode := (.seq (.seq (.reg k_ref01_Shift_r17 false) (.cond (.tmp 60) .skip (.exit 2))) (.seq (.block 3 (.seq (.seq (.reg k_ref01_Shift_r18 false) (.cond (.tmp 69) (.exit 3) .skip)) (.seq (.reg k_ref01_Shift_r19 true) (.seq (.seq (.reg k_ref01_Shift_r20 false) (.cond (.tmp 93) (.seq (.reg k_ref01_Shift_r21 false) .ret) .skip)) (.seq (.reg k_ref01_Shift_r22 false) (.reg k_ref01_Shift_r23 false)))))) (.reg k_ref01_Shift_r24 false)))
def k_ref01_Shift_r26 : List AOper := [
  ⟨(some (133)), .move (.tmp 13), none, []⟩]
def k_ref01_Shift_r27 : List AOper := [
  ⟨(some (134)), .build [.int .i64 0, .int .i64 0, .bool false, .nilsl] [], none, []⟩, 
  ⟨none, .store 4 (.tmp 8) (.tmp 134), none, []⟩, 
  ⟨(some (9)), .move (.const (.int .i64 9)), none, []⟩]
def k_ref01_Shift_r28 : List AOper := [
  ⟨(some (135)), .load (some (4)) (.tmp 11), none, []⟩, 
  ⟨(some (136)), .call (.const (.fn (.func 27) [] [])) [.tmp 135], none, []⟩, 
  ⟨(some (17)), .move (.tmp 136), none, []⟩]
def k_ref01_Shift_r29 : List AOper := [
  ⟨(some (137)), .move (.tmp 17), none, []⟩, 
  ⟨(some (138)), .bin .plain .neq (.tmp 137) (.const (.int .i64 0)), none, []⟩]
def k_ref01_Shift_r30 : List AOper := [
  ⟨(some (139)), .build [.int .i64 0, .int .i64 0, .bool false, .nilsl] [], none, []⟩, 
  ⟨(some (140)), .move (.tmp 17), none, []⟩, 
  ⟨none, .store 4 (.tmp 8) (.tmp 139), none, []⟩, 
  ⟨(some (9)), .move (.tmp 140), none, []⟩]
def k_ref01_Shift_r31 : List AOper := [
  ⟨(some (141)), .load (some (4)) (.tmp 11), none, []⟩, 
  ⟨none, .store 4 (.tmp 8) (.tmp 141), none, []⟩, 
  ⟨(some (9)), .move (.const (.int .i64 0)), none, []⟩]
def k_ref01_Shift : AFun := { params := 4, ntmps := 142, body := (.seq (.reg k_ref01_Shift_r0 false) (.seq (.seq (.reg k_ref01_Shift_r1 false) (.seq (.reg k_ref01_Shift_r2 false) (.cond (.tmp 21) (.seq (.reg k_ref01_Shift_r3 false) .ret) .skip))) (.seq (.seq (.reg k_ref01_Shift_r4 false) (.cond (.tmp 27) (.seq (.reg k_ref01_Shift_r5 false) .ret) .skip)) (.seq (.reg k_ref01_Shift_r6 false) (.seq (.seq (.reg k_ref01_Shift_r7 false) (.block 0 (.loop k_ref01_Shift_r12))) (.seq (.seq (.reg k_ref01_Shift_r13 false) (.cond (.tmp 54) (.seq (.reg k_ref01_Shift_r14 false) .ret) .skip)) (.seq (.reg k_ref01_Shift_r15 false) (.seq (.seq (.reg k_ref01_Shift_r16 false) (.block 2 (.loop k_ref01_Shift_r25))) (.seq (.seq (.reg k_ref01_Shift_r26 false) (.cond (.tmp 133) (.seq (.reg k_ref01_Shift_r27 false) .ret) .skip)) (.seq (.seq (.reg k_ref01_Shift_r28 false) (.seq (.reg k_ref01_Shift_r29 false) (.cond (.tmp 138) (.seq (.reg k_ref01_Shift_r30 false) .ret) .skip))) (.seq (.reg k_ref01_Shift_r31 false) .ret))))))))))), res := [.cell 8 (some ((some (4)))), .tmp 9] }
theorem k_ref01_Shift_ok : cfun Try.prog Try.f52 = k_ref01_Shift := by kernel_rfl

def k_law01_plays_r0 : List AOper := [
  ⟨(some (10)), .move (.const (.bool false)), none, []⟩]
def k_law01_plays_r1 : List AOper := [
  ⟨(some (19)), .move (.tmp 0), none, []⟩, 
  ⟨(some (20)), .call (.const (.fn (.func 22) [] [])) [.tmp 19], none, []⟩, 
  ⟨(some (11)), .move (.tmp 20), none, []⟩]
def k_law01_plays_r2 : List AOper := [
  ⟨(some (21)), .move (.tmp 11), none, []⟩, 
  ⟨(some (22)), .call (.const (.fn (.func 21) [] [])) [.tmp 21, .const (.int .i64 6), .const (.int .i64 4)], none, []⟩, 
  ⟨(some (23)), .move (.tmp 11), none, []⟩, 
  ⟨(some (24)), .call (.const (.fn (.func 46) [] [])) [.tmp 23, .const (.int .i64 7), .const (.int .i64 5)], none, []⟩, 
  ⟨(some (25)), .buildSlice 4 [.tmp 22, .tmp 24], none, []⟩, 
  ⟨(some (12)), .move (.tmp 25), none, []⟩]
def k_law01_plays_r3 : List AOper := [
  ⟨(some (26)), .move (.tmp 1), none, []⟩, 
  ⟨(some (27)), .call (.const (.fn (.func 23) [] [])) [.tmp 26, .const (.int .i64 26)], none, []⟩, 
  ⟨(some (13)), .move (.tmp 27), none, []⟩]
def k_law01_plays_r4 : List AOper := [
  ⟨(some (14)), .move (.const (.int .i64 0)), none, []⟩]
def k_law01_plays_r5 : List AOper := [
  ⟨(some (28)), .move (.tmp 14), none, []⟩, 
  ⟨(some (29)), .move (.tmp 12), none, []⟩, 
  ⟨(some (30)), .len false (.tmp 29), none, []⟩, 
  ⟨(some (31)), .bin .plain .lss (.tmp 28) (.tmp 30), none, []⟩]
def k_law01_plays_r6 : List AOper := [
  ⟨(some (34)), .move (.tmp 2), none, []⟩, 
  ⟨(some (35)), .call (.const (.fn (.func 23) [] [])) [.tmp 34, .const (.int .i64 5)], none, []⟩, 
  ⟨(some (36)), .move (.tmp 3), none, []⟩, 
  ⟨(some (37)), .call (.const (.fn (.func 23) [] [])) [.tmp 36, .const (.int .i64 5)], none, []⟩, 
  ⟨(some (38)), .move (.tmp 4), none, []⟩, 
  ⟨(some (39)), .call (.const (.fn (.func 23) [] [])) [.tmp 38, .const (.int .i64 5)], none, []⟩, 
  ⟨(some (2)), .move (.tmp 35), none, []⟩, 
  ⟨(some (3)), .move (.tmp 37), none, []⟩, 
  ⟨(some (4)), .move (.tmp 39), none, []⟩]
def k_law01_plays_r7 : List AOper := [
  ⟨(some (40)), .move (.tmp 14), none, []⟩, 
  ⟨(some (41)), .bin .plain .gtr (.tmp 40) (.const (.int .i64 0)), none, []⟩, 
  ⟨(some (42)), .move (.tmp 41), none, []⟩, 
  ⟨(some (43)), .move (.tmp 13), (some (42, true)), []⟩, 
  ⟨(some (44)), .bin .plain .rem (.tmp 43) (.const (.int .i64 4)), (some (42, true)), []⟩, 
  ⟨(some (45)), .bin .plain .gtr (.tmp 44) (.const (.int .i64 0)), (some (42, true)), []⟩, 
  ⟨(some (46)), .pick (.tmp 42) (.tmp 45) (.const (.bool false)), none, []⟩]
def k_law01_plays_r8 : List AOper := [
  ⟨(some (2)), .move (.const (.int .i64 1)), none, []⟩, 
  ⟨(some (3)), .move (.const (.int .i64 2)), none, []⟩, 
  ⟨(some (4)), .move (.const (.int .i64 3)), none, []⟩]
def k_law01_plays_r9 : List AOper := [
  ⟨(some (48)), .move (.tmp 12), none, []⟩, 
  ⟨(some (49)), .move (.tmp 14), none, []⟩, 
  ⟨(some (50)), .indexAddr 4 (.tmp 48) (.tmp 49), none, []⟩, 
  ⟨(some (51)), .load (some (4)) (.tmp 50), none, []⟩, 
  ⟨(some (52)), .move (.tmp 13), none, []⟩, 
  ⟨(some (53)), .move (.tmp 2), none, []⟩, 
  ⟨(some (54)), .move (.tmp 3), none, []⟩, 
  ⟨(some (55)), .move (.tmp 4), none, []⟩, 
  ⟨(some (56)), .call (.const (.fn (.func 61) [] [])) [.tmp 51, .tmp 52, .tmp 53, .tmp 54, .tmp 55], none, []⟩, 
  ⟨(some (47)), .move (.tmp 56), none, []⟩, 
  ⟨(some (57)), .extract (.tmp 47) 0, none, []⟩, 
  ⟨(some (58)), .extract (.tmp 47) 1, none, []⟩, 
  ⟨(some (15)), .move (.tmp 57), none, []⟩, 
  ⟨(some (16)), .move (.tmp 58), none, []⟩]
def k_law01_plays_r10 : List AOper := [
  ⟨(some (60)), .move (.tmp 12), none, []⟩, 
  ⟨(some (61)), .move (.tmp 14), none, []⟩, 
  ⟨(some (62)), .indexAddr 4 (.tmp 60) (.tmp 61), none, []⟩, 
  ⟨(some (63)), .load (some (4)) (.tmp 62), none, []⟩, 
  ⟨(some (64)), .move (.tmp 13), none, []⟩, 
  ⟨(some (65)), .move (.tmp 2), none, []⟩, 
  ⟨(some (66)), .move (.tmp 3), none, []⟩, 
  ⟨(some (67)), .move (.tmp 4), none, []⟩, 
  ⟨(some (68)), .call (.const (.fn (.func 98) [] [])) [.tmp 63, .tmp 64, .tmp 65, .tmp 66, .tmp 67], none, []⟩, 
  ⟨(some (59)), .move (.tmp 68), none, []⟩, 
  ⟨(some (69)), .extract (.tmp 59) 0, none, []⟩, 
  ⟨(some (70)), .extract (.tmp 59) 1, none, []⟩, 
  ⟨(some (17)), .move (.tmp 69), none, []⟩, 
  ⟨(some (18)), .move (.tmp 70), none, []⟩]
def k_law01_plays_r11 : List AOper := [
  ⟨(some (71)), .move (.tmp 15), none, []⟩, 
  ⟨(some (72)), .move (.tmp 17), none, []⟩, 
  ⟨(some (73)), .bin .plain .neq (.tmp 71) (.tmp 72), none, []⟩, 
  ⟨(some (74)), .move (.tmp 73), none, []⟩, 
  ⟨(some (75)), .move (.tmp 16), (some (74, false)), []⟩, 
  ⟨(some (76)), .move (.tmp 18), (some (74, false)), []⟩, 
  ⟨(some (77)), .bin .plain .neq (.tmp 75) (.tmp 76), (some (74, false)), []⟩, 
  ⟨(some (78)), .pick (.tmp 74) (.const (.bool true)) (.tmp 77), none, []⟩]
def k_law01_plays_r12 : List AOper := [
  ⟨(some (10)), .move (.const (.bool false)), none, []⟩]
def k_law01_plays_r13 : List AOper := [
  ⟨(some (32)), .move (.tmp 14), none, []⟩, 
  ⟨(some (33)), .bin .plain .add (.tmp 32) (.const (.int .i64 1)), none, []⟩, 
  ⟨(some (14)), .move (.tmp 33), none, []⟩]
def k_law01_plays_r14 : ACode := (.seq (.seq (.reg k_law01_plays_r5 false) (.cond (.tmp 31) .skip (.exit 0))) (.seq (.block 1 (.seq (.reg k_law01_plays_r6 false) (.seq (.seq (.reg k_law01_plays_r7 false) (.cond (.tmp 46) (.reg k_law01_plays_r8 false) .skip)) (.seq (.reg k_law01_plays_r9 false) (.seq (.reg k_law01_plays_r10 false) (.seq (.reg k_law01_plays_r11 false) (.cond (.tmp 78) (.seq (.reg k_law01_plays_r12 false) .ret) .skip))))))) (.reg k_law01_plays_r13 false)))
def k_law01_plays_r15 : List AOper := [
  ⟨(some (10)), .move (.const (.bool true)), none, []⟩]
def k_law01_plays : AFun := { params := 5, ntmps := 79, body := (.seq (.reg k_law01_plays_r0 false) (.seq (.reg k_law01_plays_r1 false) (.seq (.reg k_law01_plays_r2 false) (.seq (.reg k_law01_plays_r3 false) (.seq (.seq (.reg k_law01_plays_r4 false) (.block 0 (.loop k_law01_plays_r14))) (.seq (.reg k_law01_plays_r15 false) .ret)))))), res := [.tmp 10] }
theorem k_law01_plays_ok : cfun Try.prog Try.f53 = k_law01_plays := by kernel_rfl

def k_ref01_Play_r0 : List AOper := [
  ⟨(some (5)), .box (.tmp 0), none, []⟩, 
  ⟨(some (10)), .move (.const (.int .i64 0)), none, []⟩, 
  ⟨(some (11)), .move (.const (.int .i64 0)), none, []⟩]
def k_ref01_Play_r1 : List AOper := [
  ⟨(some (21)), .load (some (4)) (.tmp 5), none, []⟩, 
  ⟨(some (22)), .move (.tmp 1), none, []⟩, 
  ⟨(some (23)), .move (.tmp 2), none, []⟩, 
  ⟨(some (24)), .move (.tmp 3), none, []⟩, 
  ⟨(some (25)), .move (.tmp 4), none, []⟩, 
  ⟨(some (26)), .call (.const (.fn (.func 50) [] [])) [.tmp 21, .tmp 22, .tmp 23, .tmp 24, .tmp 25], none, []⟩, 
  ⟨(some (20)), .move (.tmp 26), none, []⟩, 
  ⟨(some (27)), .extract (.tmp 20) 0, none, []⟩, 
  ⟨(some (28)), .extract (.tmp 20) 1, none, []⟩, 
  ⟨(some (12)), .box (.const (.agg [.int .i64 0, .int .i64 0])), none, []⟩, 
  ⟨none, .store 2 (.tmp 12) (.tmp 27), none, []⟩, 
  ⟨(some (13)), .move (.tmp 28), none, []⟩]
def k_ref01_Play_r2 : List AOper := [
  ⟨(some (29)), .move (.tmp 13), none, []⟩, 
  ⟨(some (30)), .bin .plain .neq (.tmp 29) (.const (.int .i64 0)), none, []⟩]
def k_ref01_Play_r3 : List AOper := [
  ⟨(some (31)), .move (.tmp 13), none, []⟩, 
  ⟨(some (10)), .move (.const (.int .i64 0)), none, []⟩, 
  ⟨(some (11)), .move (.tmp 31), none, []⟩]
def k_ref01_Play_r4 : List AOper := [
  ⟨(some (14)), .move (.const (.int .i64 0)), none, []⟩]
def k_ref01_Play_r5 : List AOper := [
  ⟨(some (32)), .buildSlice 1 [.const (.int .i64 1), .const (.int .i64 0)], none, []⟩, 
  ⟨(some (33)), .buildSlice 1 [.const (.int .i64 (-1)), .const (.int .i64 0)], none, []⟩, 
  ⟨(some (34)), .buildSlice 1 [.const (.int .i64 0), .const (.int .i64 1)], none, []⟩, 
  ⟨(some (35)), .buildSlice 1 [.const (.int .i64 0), .const (.int .i64 (-1))], none, []⟩, 
  ⟨(some (36)), .buildSlice 1 [.tmp 32, .tmp 33, .tmp 34, .tmp 35], none, []⟩, 
  ⟨(some (15)), .move (.tmp 36), none, []⟩]
def k_ref01_Play_r6 : List AOper := [
  ⟨(some (16)), .move (.const (.int .i64 0)), none, []⟩]
def k_ref01_Play_r7 : List AOper := [
  ⟨(some (37)), .move (.tmp 16), none, []⟩, 
  ⟨(some (38)), .move (.tmp 15), none, []⟩, 
  ⟨(some (39)), .len false (.tmp 38), none, []⟩, 
  ⟨(some (40)), .bin .plain .lss (.tmp 37) (.tmp 39), none, []⟩]
def k_ref01_Play_r8 : List AOper := [
  ⟨(some (44)), .load (some (4)) (.tmp 5), none, []⟩, 
  ⟨(some (45)), .move (.tmp 3), none, [0]⟩, 
  ⟨(some (46)), .move (.tmp 15), none, [0, 1]⟩, 
  ⟨(some (47)), .move (.tmp 16), none, [0, 1, 2]⟩, 
  ⟨(some (48)), .indexAddr 1 (.tmp 46) (.tmp 47), none, [0, 1]⟩, 
  ⟨(some (49)), .load none (.tmp 48), none, [0, 1]⟩, 
  ⟨(some (50)), .indexAddr 1 (.tmp 49) (.const (.int .i64 0)), none, [0, 1]⟩, 
  ⟨(some (51)), .load none (.tmp 50), none, [0, 1]⟩, 
  ⟨(some (52)), .move (.tmp 15), none, [0, 1, 2, 3, 4, 5, 6, 7]⟩, 
  ⟨(some (53)), .move (.tmp 16), none, [0, 1, 2, 3, 4, 5, 6, 7, 8]⟩, 
  ⟨(some (54)), .indexAddr 1 (.tmp 52) (.tmp 53), none, [0, 1, 2, 3, 4, 5, 6, 7]⟩, 
  ⟨(some (55)), .load none (.tmp 54), none, [0, 1, 2, 3, 4, 5, 6, 7]⟩, 
  ⟨(some (56)), .indexAddr 1 (.tmp 55) (.const (.int .i64 1)), none, [0, 1, 2, 3, 4, 5, 6, 7]⟩, 
  ⟨(some (57)), .load none (.tmp 56), none, [0, 1, 2, 3, 4, 5, 6, 7]⟩, 
  ⟨(some (58)), .call (.const (.fn (.func 52) [] [])) [.tmp 44, .tmp 45, .tmp 51, .tmp 57], none, []⟩, 
  ⟨(some (43)), .move (.tmp 58), none, []⟩, 
  ⟨(some (59)), .extract (.tmp 43) 0, none, []⟩, 
  ⟨(some (60)), .extract (.tmp 43) 1, none, [16]⟩, 
  ⟨(some (17)), .box (.const (.agg [.int .i64 0, .int .i64 0, .bool false, .nilsl])), none, [0, 1, 2, 3, 4, 5, 6, 7, 8, 9, 10, 11, 12, 13, 14, 15, 16, 17]⟩, 
  ⟨none, .store 4 (.tmp 17) (.tmp 59), none, [17]⟩, 
  ⟨(some (18)), .move (.tmp 60), none, []⟩]
def k_ref01_Play_r8s : List (List AOper) := [
  [
  ⟨(some (44)), .load (some (4)) (.tmp 5), none, []⟩, 
  ⟨(some (45)), .move (.tmp 3), none, [0]⟩, 
  ⟨(some (46)), .move (.tmp 15), none, [0, 1]⟩, 
  ⟨(some (47)), .move (.tmp 16), none, [0, 1, 2]⟩, 
  ⟨(some (48)), .indexAddr 1 (.tmp 46) (.tmp 47), none, [0, 1]⟩, 
  ⟨(some (49)), .load none (.tmp 48), none, [0, 1]⟩, 
  ⟨(some (50)), .indexAddr 1 (.tmp 49) (.const (.int .i64 0)), none, [0, 1]⟩, 
  ⟨(some (51)), .load none (.tmp 50), none, [0, 1]⟩, 
  ⟨(some (52)), .move (.tmp 15), none, [0, 1, 2, 3, 4, 5, 6, 7]⟩, 
  ⟨(some (53)), .move (.tmp 16), none, [0, 1, 2, 3, 4, 5, 6, 7, 8]⟩, 
  ⟨(some (54)), .indexAddr 1 (.tmp 52) (.tmp 53), none, [0, 1, 2, 3, 4, 5, 6, 7]⟩, 
  ⟨(some (55)), .load none (.tmp 54), none, [0, 1, 2, 3, 4, 5, 6, 7]⟩, 
  ⟨(some (56)), .indexAddr 1 (.tmp 55) (.const (.int .i64 1)), none, [0, 1, 2, 3, 4, 5, 6, 7]⟩, 
  ⟨(some (57)), .load none (.tmp 56), none, [0, 1, 2, 3, 4, 5, 6, 7]⟩, 
  ⟨(some (58)), .call (.const (.fn (.func 52) [] [])) [.tmp 44, .tmp 45, .tmp 51, .tmp 57], none, []⟩, 
  ⟨(some (43)), .move (.tmp 58), none, []⟩, 
  ⟨(some (59)), .extract (.tmp 43) 0, none, []⟩, 
  ⟨(some (60)), .extract (.tmp 43) 1, none, [16]⟩, 
  ⟨(some (17)), .box (.const (.agg [.int .i64 0, .int .i64 0, .bool false, .nilsl])), none, [0, 1, 2, 3, 4, 5, 6, 7, 8, 9, 10, 11, 12, 13, 14, 15, 16, 17]⟩, 
  ⟨none, .store 4 (.tmp 17) (.tmp 59), none, [17]⟩], 
  [
  ⟨(some (18)), .move (.tmp 60), none, []⟩]]
theorem k_ref01_Play_r8_sg : segs k_ref01_Play_r8 = k_ref01_Play_r8s := by kernel_rfl
theorem k_ref01_Play_r8_st : statOK k_ref01_Play_r8 = true := by kernel_rfl
def k_ref01_Play_r9 : List AOper := [
  ⟨(some (61)), .move (.tmp 18), none, []⟩, 
  ⟨(some (62)), .bin .plain .neq (.tmp 61) (.const (.int .i64 0)), none, []⟩]
def k_ref01_Play_r10 : List AOper := [
  ⟨(some (64)), .load (some (4)) (.tmp 17), none, []⟩, 
  ⟨(some (65)), .move (.tmp 1), none, []⟩, 
  ⟨(some (66)), .move (.tmp 2), none, []⟩, 
  ⟨(some (67)), .move (.tmp 3), none, []⟩, 
  ⟨(some (68)), .move (.tmp 4), none, []⟩, 
  ⟨(some (69)), .call (.const (.fn (.func 50) [] [])) [.tmp 64, .tmp 65, .tmp 66, .tmp 67, .tmp 68], none, []⟩, 
  ⟨(some (63)), .move (.tmp 69), none, []⟩, 
  ⟨(some (70)), .extract (.tmp 63) 0, none, []⟩, 
  ⟨(some (71)), .extract (.tmp 63) 1, none, []⟩, 
  ⟨(some (19)), .box (.const (.agg [.int .i64 0, .int .i64 0])), none, []⟩, 
  ⟨none, .store 2 (.tmp 19) (.tmp 70), none, []⟩, 
  ⟨(some (18)), .move (.tmp 71), none, []⟩]
def k_ref01_Play_r11 : List AOper := [
  ⟨(some (72)), .move (.tmp 18), none, []⟩, 
  ⟨(some (73)), .bin .plain .eql (.tmp 72) (.const (.int .i64 0)), none, []⟩]
def k_ref01_Play_r12 : List AOper := [
  ⟨(some (74)), .move (.tmp 14), none, []⟩, 
  ⟨(some (75)), .fieldAddr 1 (.tmp 19), none, []⟩, 
  ⟨(some (76)), .load none (.tmp 75), none, []⟩, 
  ⟨(some (77)), .fieldAddr 0 (.tmp 12), none, []⟩, 
  ⟨(some (78)), .load none (.tmp 77), none, []⟩, 
  ⟨(some (79)), .bin .plain .sub (.tmp 76) (.tmp 78), none, []⟩, 
  ⟨(some (80)), .fieldAddr 1 (.tmp 12), none, []⟩, 
  ⟨(some (81)), .load none (.tmp 80), none, []⟩, 
  ⟨(some (82)), .fieldAddr 0 (.tmp 19), none, []⟩, 
  ⟨(some (83)), .load none (.tmp 82), none, []⟩, 
  ⟨(some (84)), .bin .plain .sub (.tmp 81) (.tmp 83), none, []⟩, 
  ⟨(some (85)), .minmax true [.tmp 74, .tmp 79, .tmp 84], none, []⟩, 
  ⟨(some (14)), .move (.tmp 85), none, []⟩]
def k_ref01_Play_r13 : List AOper := [
  ⟨(some (41)), .move (.tmp 16), none, []⟩, 
  ⟨(some (42)), .bin .plain .add (.tmp 41) (.const (.int .i64 1)), none, []⟩, 
  ⟨(some (16)), .move (.tmp 42), none, []⟩]
def k_ref01_Play_r14 : ACode := (.seq (.seq (.reg k_ref01_Play_r7 false) (.cond (.tmp 40) .skip (.exit 0))) (.seq (.block 1 (.seq (.reg k_ref01_Play_r8 true) (.seq (.seq (.reg k_ref01_Play_r9 false) (.cond (.tmp 62) (.exit 1) .skip)) (.seq (.reg k_ref01_Play_r10 false) (.seq (.reg k_ref01_Play_r11 false) (.cond (.tmp 73) (.reg k_ref01_Play_r12 false) .skip)))))) (.reg k_ref01_Play_r13 false)))
def k_ref01_Play_r15 : List AOper := [
  ⟨(some (86)), .move (.tmp 14), none, []⟩, 
  ⟨(some (10)), .move (.tmp 86), none, []⟩, 
  ⟨(some (11)), .move (.const (.int .i64 0)), none, []⟩]
def k_ref01_Play : AFun := { params := 5, ntmps := 87, body := (.seq (.reg k_ref01_Play_r0 false) (.seq (.reg k_ref01_Play_r1 false) (.seq (.seq (.reg k_ref01_Play_r2 false) (.cond (.tmp 30) (.seq (.reg k_ref01_Play_r3 false) .ret) .skip)) (.seq (.reg k_ref01_Play_r4 false) (.seq (.reg k_ref01_Play_r5 false) (.seq (.seq (.reg k_ref01_Play_r6 false) (.block 0 (.loop k_ref01_Play_r14))) (.seq (.reg k_ref01_Play_r15 false) .ret))))))), res := [.tmp 10, .tmp 11] }
theorem k_ref01_Play_ok : cfun Try.prog Try.f98 = k_ref01_Play := by kernel_rfl


abbrev n_law01_FieldShifts : Nat := 8
theorem e_law01_FieldShifts : EntryOK Try.prog n_law01_FieldShifts k_law01_FieldShifts := ⟨Try.f8, Try.func8, k_law01_FieldShifts_ok, by kernel_rfl⟩
abbrev n_ref01_Shift : Nat := 52
theorem e_ref01_Shift : EntryOK Try.prog n_ref01_Shift k_ref01_Shift := ⟨Try.f52, Try.func52, k_ref01_Shift_ok, by kernel_rfl⟩
abbrev n_law01_plays : Nat := 53
theorem e_law01_plays : EntryOK Try.prog n_law01_plays k_law01_plays := ⟨Try.f53, Try.func53, k_law01_plays_ok, by kernel_rfl⟩
abbrev n_ref01_Play : Nat := 98
theorem e_ref01_Play : EntryOK Try.prog n_ref01_Play k_ref01_Play := ⟨Try.f98, Try.func98, k_ref01_Play_ok, by kernel_rfl⟩

attribute [go_sem] k_law01_FieldShifts_r0 k_law01_FieldShifts_r1 k_law01_FieldShifts_r2 k_law01_FieldShifts_r3 k_law01_FieldShifts_r4 k_law01_FieldShifts_r5 k_law01_FieldShifts_r6 k_law01_FieldShifts_r7 k_law01_FieldShifts_r8 k_law01_FieldShifts_r9 k_law01_FieldShifts_r10 k_law01_FieldShifts_r11
attribute [go_sem] k_law01_FieldShifts_r12 k_ref01_Shift_r0 k_ref01_Shift_r1 k_ref01_Shift_r2 k_ref01_Shift_r3 k_ref01_Shift_r4 k_ref01_Shift_r5 k_ref01_Shift_r6 k_ref01_Shift_r7 k_ref01_Shift_r8 k_ref01_Shift_r9 k_ref01_Shift_r10
attribute [go_sem] k_ref01_Shift_r11 k_ref01_Shift_r13 k_ref01_Shift_r14 k_ref01_Shift_r15 k_ref01_Shift_r16 k_ref01_Shift_r17 k_ref01_Shift_r18 k_ref01_Shift_r19s k_ref01_Shift_r20 k_ref01_Shift_r21 k_ref01_Shift_r22 k_ref01_Shift_r23
attribute [go_sem] k_ref01_Shift_r24 k_ref01_Shift_r26 k_ref01_Shift_r27 k_ref01_Shift_r28 k_ref01_Shift_r29 k_ref01_Shift_r30 k_ref01_Shift_r31 k_law01_plays_r0 k_law01_plays_r1 k_law01_plays_r2 k_law01_plays_r3 k_law01_plays_r4
attribute [go_sem] k_law01_plays_r5 k_law01_plays_r6 k_law01_plays_r7 k_law01_plays_r8 k_law01_plays_r9 k_law01_plays_r10 k_law01_plays_r11 k_law01_plays_r12 k_law01_plays_r13 k_law01_plays_r15 k_ref01_Play_r0 k_ref01_Play_r1
attribute [go_sem] k_ref01_Play_r2 k_ref01_Play_r3 k_ref01_Play_r4 k_ref01_Play_r5 k_ref01_Play_r6 k_ref01_Play_r7 k_ref01_Play_r8s k_ref01_Play_r9 k_ref01_Play_r10 k_ref01_Play_r11 k_ref01_Play_r12 k_ref01_Play_r13
attribute [go_sem] k_ref01_Play_r15 k_ref01_Play_r8_sg k_ref01_Shift_r19_sg k_ref01_Play_r8_st k_ref01_Shift_r19_st k_law01_FieldShifts k_ref01_Shift k_law01_plays k_ref01_Play
end Go.Proofs

namespace Go.Proofs
open Go Go.Sx
attribute [local irreducible] Run

set_option maxHeartbeats 8000000 in
set_option maxRecDepth 8000 in
theorem rShift_no {p : Pl} (hp : PlOK p) (hC : Ans Try.prog n_ref01_Check [p.v] [] (.int .i64 0) []) (e r d : Int) (hE : shErr p e r d ≠ 0) : Ans Try.prog n_ref01_Shift [p.v, .int .i64 e, .int .i64 r, .int .i64 d] [] (.tup [noPl, .int .i64 (shErr p e r d)]) [] := by
  have hw := hp.w; have hh := hp.h
  have hN : p.w * p.h ≤ 256 := Nat.mul_le_mul hw.2 hh.2
  have hlen := hp.len
  have hN1 : 1 ≤ p.cs.length := by
    obtain ⟨i, hi, _⟩ := hp.some
    rw [hlen]; omega
  have c2 := rHas_ok hp e
  have c4 := Copy_ok (p := p) (by omega) hN1
  have hwl := wo_len p.cs e
  refine spec_run e_ref01_Shift fun G => ?_
  simp only [go_sem, Pl.v, Pl.a, Pl.c4, vw]
  refine cP hC ?_
  simp only [go_sem, Pl.v, Pl.a, Pl.c4, vw]
  refine cP c2 ?_
  by_cases h1 : e ≠ 0 ∧ e ∈ p.cs
  rotate_left
  · have hs : shErr p e r d = 7 := by unfold shErr; rw [if_pos h1]
    rw [hs, decide_eq_false h1]
    simp only [go_sem, noPl]
  rw [decide_eq_true h1]
  have S2 : ¬ Stays p e r d → shErr p e r d = 2 := fun h => by unfold shErr; rw [if_neg (fun h2 => h2 h1), if_pos h]
  have S9 : Stays p e r d → ¬ Frees p e r d → shErr p e r d = 9 := fun h h' => by unfold shErr; rw [if_neg (fun h2 => h2 h1), if_neg (fun h2 => h2 h), if_pos h']
  have S0 : Stays p e r d → Frees p e r d → shErr p e r d = 0 := fun h h' => by unfold shErr; rw [if_neg (fun h2 => h2 h1), if_neg (fun h2 => h2 h), if_neg (fun h2 => h2 h')]
  have he : 1 ≤ e ∧ e ≤ 6 := by have := hp.cell e h1.2; omega
  simp only [go_sem, Pl.v, Pl.a, Pl.c4, vw]
  refine cN1 c4 ?_ (hr := by simp [go_sem, Pl.a, Pl.c4]) (hx := iv_row _ _ _)
  simp only [go_sem, Pl.a, Pl.c4, ren, rens, iv_len]
  have hm0 : p.cs = mixTo (wo p.cs e) p.cs 0 := by simp [mixTo]
  refine loop_ind k_ref01_Shift_r12.eq_1 (fun a : Nat => a ≤ p.cs.length) (fun a => p.cs.length - a)
    (fun a => (tsets 142 [(1, .int .i64 e), (2, .int .i64 r), (3, .int .i64 d), (4, .ptr 0 0 0 1), (8, .ptr 1 0 0 1), (9, .int .i64 0), (11, .ptr 3 0 0 1), (12, .int .i64 a)],
      [some (.cells false 4 [p.v]), some (.cells false 4 [noPl]), some (.cells true 1 (iv (mixTo (wo p.cs e) p.cs a))), some (.cells false 4 [p.a (.sl 2 0 p.cs.length)])])) 0 (Nat.zero_le _) (by simp [go_sem]) (by rw [← hm0]; rfl) ?_
  intro i hi ih
  dsimp only at hi ih ⊢
  by_cases g1 : i < p.cs.length
  · have h2 : (i : Int) < p.cs.length := by omega
    have h3 := idx_next g1 (by omega)
    have n0 : ¬ (i : Int) < 0 := by omega
    have hx := gt_get g1
    have f1 := mix_len (a := wo p.cs e) (b := p.cs) hwl (i := i) (by omega)
    rw [hwl] at f1
    have s1 := mix_set (a := wo p.cs e) (b := p.cs) hwl (i := i) (by omega)
    have g1' := mix_gt (a := wo p.cs e) (b := p.cs) hwl (i := i) (by omega)
    have gi : (iv (mixTo (wo p.cs e) p.cs i))[i]? = some (.int .i64 (gt p.cs i)) := by rw [iv_get (by omega), g1']
    rw [gt_wo _ _ g1] at s1
    have ihn := ih (i + 1) (by omega) g1
    clear ih
    by_cases hz : gt p.cs i = e
    · have hz' : (gt p.cs i == e) = true := by simp [hz]
      rw [if_pos hz] at s1
      generalize gt p.cs i = z at *
      simp only [go_sem, noPl, Pl.v, Pl.a, Pl.c4, vw, iv_len, List.length_map, h2, n0, hx, f1, gi, hz', iv_set, s1, h3]
      exact ihn _ (by simp [go_sem])
    · have hz' : (gt p.cs i == e) = false := by simp [hz]
      rw [if_neg hz] at s1
      have s2 : mixTo (wo p.cs e) p.cs (i + 1) = mixTo (wo p.cs e) p.cs i := by
        rw [← s1, ← g1']
        refine gt_ext (by simp) fun j hj => ?_
        rw [gt_set _ _ _ _ (by omega)]
        split
        · rename_i h; rw [h]
        · rfl
      rw [s2] at ihn
      generalize gt p.cs i = z at *
      simp only [go_sem, noPl, Pl.v, Pl.a, Pl.c4, vw, iv_len, List.length_map, h2, n0, hx, f1, gi, hz', h3]
      exact ihn _ (by simp [go_sem])
  have h2 : ¬ (i : Int) < p.cs.length := by omega
  have hie : i = p.cs.length := by omega
  have hf1 : mixTo (wo p.cs e) p.cs i = wo p.cs e := by have := mix_end hwl; rwa [hwl, ← hie] at this
  rw [hf1]
  clear ih hf1
  have hs0 := shT_zero p.cs e (stepOf p r d)
  rw [← hs0]
  simp only [go_sem, noPl, Pl.v, Pl.a, Pl.c4, vw, iv_len, List.length_map, h2]
  clear hie h2 hi g1
  obtain ⟨i0, hi0, hie0⟩ := mem_gt h1.2
  have hst0 : Stays p e r d → (-16 ≤ r ∧ r ≤ 16) ∧ (-16 ≤ d ∧ d ≤ 16) := fun h => by
    have hb := h i0 (by omega) hie0
    obtain ⟨c1, c2', c3⟩ := cell_lt (w := p.w) (h := p.h) (i := i0) (by omega)
    unfold inb at hb
    generalize i0 % p.w = x0 at *
    generalize i0 / p.w = y0 at *
    omega
  by_cases hr16 : -16 ≤ r ∧ r ≤ 16
  rotate_left
  · have hns : ¬ Stays p e r d := fun h => hr16 (hst0 h).1
    rw [S2 hns]
    refine cP (beyond_yes hr16) ?_
    simp only [go_sem, noPl]
  refine cP (beyond_no hr16) ?_
  simp only [go_sem]
  by_cases hd16 : -16 ≤ d ∧ d ≤ 16
  rotate_left
  · have hns : ¬ Stays p e r d := fun h => hd16 (hst0 h).2
    rw [S2 hns]
    refine cP (beyond_yes hd16) ?_
    simp only [go_sem, noPl]
  refine cP (beyond_no hd16) ?_
  simp only [go_sem]
  clear hst0 hie0 hi0 i0 c2 c4 hC
  refine loop_ind k_ref01_Shift_r25.eq_1 (fun q : Nat × Bool => q.1 ≤ p.cs.length ∧ (∀ j, j < q.1 → gt p.cs j = e → inb p j r d) ∧ (q.2 = true ↔ ∃ j, j < q.1 ∧ gt p.cs j = e ∧ gt (wo p.cs e) ((j : Int) + stepOf p r d).toNat ≠ 0)) (fun q => p.cs.length - q.1)
    (fun q => (tsets 142 [(1, .int .i64 e), (2, .int .i64 r), (3, .int .i64 d), (4, .ptr 0 0 0 1), (8, .ptr 1 0 0 1), (9, .int .i64 0), (11, .ptr 3 0 0 1), (13, .bool q.2), (14, .int .i64 q.1)],
      [some (.cells false 4 [p.v]), some (.cells false 4 [noPl]), some (.cells true 1 (iv (shT p.cs e (stepOf p r d) q.1))), some (.cells false 4 [p.a (.sl 2 0 p.cs.length)])])) (0, false) ⟨Nat.zero_le _, fun j hj => absurd hj (Nat.not_lt_zero _), by simp⟩ (by simp [go_sem]) rfl ?_
  rintro ⟨i, tk⟩ ⟨hi, hin, htk⟩ ih
  dsimp only at hi hin htk ih ⊢
  by_cases h4 : i < p.cs.length
  · have h5 : (i : Int) < p.cs.length := by omega
    have h6 := idx_next h4 (by omega)
    have n0 : ¬ (i : Int) < 0 := by omega
    have hx := gt_get h4
    have hiN : i < p.w * p.h := by omega
    by_cases hz : gt p.cs i = e
    · have hz' : (gt p.cs i != e) = false := by simp [hz]
      have e1 := nat_rem i p.w
      have e2 := nat_quo i p.w
      have wne : ¬ (p.w : Int) = 0 := by omega
      obtain ⟨c1, c2, c3⟩ := cell_lt hiN
      have hib : inb p i r d ↔ ((0 ≤ ((i % p.w : Nat) : Int) + r ∧ ((i % p.w : Nat) : Int) + r ≤ (p.w : Int) - 1) ∧ (0 ≤ ((i / p.w : Nat) : Int) + d ∧ ((i / p.w : Nat) : Int) + d ≤ (p.h : Int) - 1)) := by
        unfold inb
        generalize i % p.w = x0 at *
        generalize i / p.w = y0 at *
        omega
      have ww : IntKind.i64.wrap ((p.w : Int) - 1) = (p.w : Int) - 1 := w64 (by omega)
      have wh : IntKind.i64.wrap ((p.h : Int) - 1) = (p.h : Int) - 1 := w64 (by omega)
      have we1 : IntKind.i64.wrap (((i % p.w : Nat) : Int) + r) = ((i % p.w : Nat) : Int) + r := (fun (x0 : Nat) (h : x0 < p.w) => w64 (by omega) : ∀ x0 : Nat, x0 < p.w → IntKind.i64.wrap ((x0 : Int) + r) = (x0 : Int) + r) _ c1
      have we2 : IntKind.i64.wrap (((i / p.w : Nat) : Int) + d) = ((i / p.w : Nat) : Int) + d := (fun (x0 : Nat) (h : x0 < p.h) => w64 (by omega) : ∀ x0 : Nat, x0 < p.h → IntKind.i64.wrap ((x0 : Int) + d) = (x0 : Int) + d) _ c2
      have we3 : IntKind.i64.wrap ((i / p.w : Nat) : Int) = ((i / p.w : Nat) : Int) := (fun (x0 : Nat) (h : x0 < p.h) => w64 (by omega) : ∀ x0 : Nat, x0 < p.h → IntKind.i64.wrap (x0 : Int) = (x0 : Int)) _ c2
      by_cases hxr : 0 ≤ ((i % p.w : Nat) : Int) + r ∧ ((i % p.w : Nat) : Int) + r ≤ (p.w : Int) - 1
      rotate_left
      · have hns : ¬ Stays p e r d := fun h => hxr (hib.1 (h i hiN hz)).1
        rw [S2 hns]
        simp only [go_sem, noPl, Pl.v, Pl.a, Pl.c4, vw, List.length_map, h5, n0, hx, hz', e1, e2, wne, we1, we2, we3, ww, wh]
        refine cP (beyond_yes hxr) ?_
        simp only [go_sem, noPl]
      by_cases hyr : 0 ≤ ((i / p.w : Nat) : Int) + d ∧ ((i / p.w : Nat) : Int) + d ≤ (p.h : Int) - 1
      rotate_left
      · have hns : ¬ Stays p e r d := fun h => hyr (hib.1 (h i hiN hz)).2
        rw [S2 hns]
        simp only [go_sem, noPl, Pl.v, Pl.a, Pl.c4, vw, List.length_map, h5, n0, hx, hz', e1, e2, wne, we1, we2, we3, ww, wh]
        refine cP (beyond_no hxr) ?_
        simp only [go_sem, noPl, Pl.v, Pl.a, Pl.c4, vw, List.length_map, h5, n0, hx, hz', e1, e2, wne, we1, we2, we3, ww, wh]
        refine cP (beyond_yes hyr) ?_
        simp only [go_sem, noPl]
      have hb : inb p i r d := hib.2 ⟨hxr, hyr⟩
      obtain ⟨X, hX⟩ : ∃ X : Nat, (X : Int) = ((i % p.w : Nat) : Int) + r := ⟨(((i % p.w : Nat) : Int) + r).toNat, by omega⟩
      obtain ⟨Y, hY⟩ : ∃ Y : Nat, (Y : Int) = ((i / p.w : Nat) : Int) + d := ⟨(((i / p.w : Nat) : Int) + d).toNat, by omega⟩
      have hkl0 := cell_in (w := p.w) (h := p.h) (x := X) (y := Y) (by omega) (by omega)
      have hk : ((Y * p.w + X : Nat) : Int) = i + stepOf p r d := by
        have c3' : ((i / p.w : Nat) : Int) * p.w + ((i % p.w : Nat) : Int) = i := by exact_mod_cast c3
        unfold stepOf
        push_cast at c3' ⊢
        push_cast at hX hY
        rw [hY, hX, Int.add_mul]
        omega
      have w1 : IntKind.i64.wrap ((Y : Int) * p.w) = ((Y * p.w : Nat) : Int) := by rw [w64 (by push_cast at *; omega)]; push_cast; rfl
      have w2 : IntKind.i64.wrap (((Y * p.w : Nat) : Int) + X) = ((Y * p.w + X : Nat) : Int) := by rw [w64 (by push_cast at *; omega)]; push_cast; rfl
      have hkl : Y * p.w + X < p.cs.length := by omega
      generalize hkk : Y * p.w + X = k at *
      have hkI : (k : Int) < p.cs.length := by omega
      have nk : ¬ (k : Int) < 0 := by omega
      have gk := shT_at (l := p.cs) (e := e) (stepOf p r d) hk hkl
      have gI : (iv (shT p.cs e (stepOf p r d) i))[k]? = some (.int .i64 (gt (wo p.cs e) k)) := by rw [iv_get (by rw [shT_len]; exact hkl), gk]
      have pu := shT_put (stepOf p r d) hz hk hkl
      have sl := shT_len p.cs e (stepOf p r d) i
      have hto : gt (wo p.cs e) ((i : Int) + stepOf p r d).toNat = gt (wo p.cs e) k := by rw [← hk]; rfl
      have hgw : 0 ≤ gt (wo p.cs e) k ∧ gt (wo p.cs e) k ≠ e := by
        have hc := hp.cell _ (gt_mem (l := p.cs) (i := k) hkl)
        rw [gt_wo _ _ hkl]
        split
        · omega
        · rename_i h; exact ⟨hc.1, h⟩
      have hinn : ∀ j, j < i + 1 → gt p.cs j = e → inb p j r d := fun j hj h7 => by
        by_cases e1 : j = i
        · subst e1; exact hb
        · exact hin j (by omega) h7
      have ihn := fun tk' h => ih (i + 1, tk') (by dsimp only; omega) ⟨h4, hinn, h⟩
      clear ih
      dsimp only at ihn
      rw [pu] at ihn
      have htn : (∃ j, j < i + 1 ∧ gt p.cs j = e ∧ gt (wo p.cs e) ((j : Int) + stepOf p r d).toNat ≠ 0) ↔ (tk = true ∨ gt (wo p.cs e) k ≠ 0) := by
        rw [htk]
        constructor
        · rintro ⟨j, j1, j2, j3⟩
          by_cases e1 : j = i
          · subst e1; right; rw [← hto]; exact j3
          · left; exact ⟨j, by omega, j2, j3⟩
        · rintro (⟨j, j1, j2, j3⟩ | h)
          · exact ⟨j, by omega, j2, j3⟩
          · exact ⟨i, by omega, hz, by rw [hto]; exact h⟩
      rw [htn] at ihn
      replace we1 := we1.trans hX.symm
      replace we2 := we2.trans hY.symm
      rw [← hX] at hxr
      rw [← hY] at hyr
      have B1 := beyond_no hxr
      have B2 := beyond_no hyr
      cases tk with
      | true =>
        simp only [go_sem, noPl, Pl.v, Pl.a, Pl.c4, vw, List.length_map, h5, n0, hx, hz', e1, e2, wne, we1, we2, we3, ww, wh]
        refine cP B1 ?_
        simp only [go_sem, noPl, Pl.v, Pl.a, Pl.c4, vw, List.length_map, h5, n0, hx, hz', e1, e2, wne, we1, we2, we3, ww, wh]
        refine cP B2 ?_
        simp only [go_sem, noPl, Pl.v, Pl.a, Pl.c4, vw, List.length_map, h5, n0, hx, hz', e1, e2, wne, we1, we2, we3, ww, wh, iv_len, w1, w2, nk, hkI, gI, sl, iv_set, h6]
        exact ihn true (by simp) _ (by simp [go_sem])
      | false =>
        by_cases h8 : gt (wo p.cs e) k = 0
        · have h8' : ¬ 0 < gt (wo p.cs e) k := by omega
          have ihm := ihn false (by simp [h8])
          clear ihn
          generalize gt (wo p.cs e) k = zk at *
          simp only [go_sem, noPl, Pl.v, Pl.a, Pl.c4, vw, List.length_map, h5, n0, hx, hz', e1, e2, wne, we1, we2, we3, ww, wh]
          refine cP B1 ?_
          simp only [go_sem, noPl, Pl.v, Pl.a, Pl.c4, vw, List.length_map, h5, n0, hx, hz', e1, e2, wne, we1, we2, we3, ww, wh]
          refine cP B2 ?_
          simp only [go_sem, noPl, Pl.v, Pl.a, Pl.c4, vw, List.length_map, h5, n0, hx, hz', e1, e2, wne, we1, we2, we3, ww, wh, iv_len, w1, w2, nk, hkI, gI, sl, iv_set, h6, h8']
          exact ihm _ (by simp [go_sem])
        · have h8' : 0 < gt (wo p.cs e) k := by omega
          have h9' : (gt (wo p.cs e) k != e) = true := by simp [hgw.2]
          have ihm := ihn true (by simp [h8])
          clear ihn
          generalize gt (wo p.cs e) k = zk at *
          simp only [go_sem, noPl, Pl.v, Pl.a, Pl.c4, vw, List.length_map, h5, n0, hx, hz', e1, e2, wne, we1, we2, we3, ww, wh]
          refine cP B1 ?_
          simp only [go_sem, noPl, Pl.v, Pl.a, Pl.c4, vw, List.length_map, h5, n0, hx, hz', e1, e2, wne, we1, we2, we3, ww, wh]
          refine cP B2 ?_
          simp only [go_sem, noPl, Pl.v, Pl.a, Pl.c4, vw, List.length_map, h5, n0, hx, hz', e1, e2, wne, we1, we2, we3, ww, wh, iv_len, w1, w2, nk, hkI, gI, sl, iv_set, h6, h8', h9']
          exact ihm _ (by simp [go_sem])
    · have hz' : (gt p.cs i != e) = true := by simp [hz]
      have sk := shT_skip (l := p.cs) (e := e) (stepOf p r d) hz
      have ihn := fun h1 h2 => ih (i + 1, tk) (by dsimp only; omega) ⟨h4, h1, h2⟩
      clear ih
      dsimp only at ihn
      rw [sk] at ihn
      have hz0 := hz
      have hx0 : p.cs[i]? = some (gt p.cs i) := hx
      simp only [go_sem, noPl, Pl.v, Pl.a, Pl.c4, vw, List.length_map, h5, n0, hx0, hz', h6]
      refine ihn (fun j hj h7 => ?_) ?_ _ (by simp [go_sem])
      · by_cases e1 : j = i
        · subst e1; exact absurd h7 hz0
        · exact hin j (by omega) h7
      · rw [htk]
        constructor
        · rintro ⟨j, j1, j2, j3⟩; exact ⟨j, by omega, j2, j3⟩
        · rintro ⟨j, j1, j2, j3⟩
          by_cases e1 : j = i
          · subst e1; exact absurd j2 hz0
          · exact ⟨j, by omega, j2, j3⟩
  · have h5 : ¬ (i : Int) < p.cs.length := by omega
    have hst : Stays p e r d := fun j hj h7 => hin j (by omega) h7
    have hie : i = p.w * p.h := by omega
    cases tk with
    | true =>
      have hnf : ¬ Frees p e r d := fun h => by
        obtain ⟨j, j1, j2, j3⟩ := htk.1 rfl
        exact j3 (h j (by omega) j2)
      rw [S9 hst hnf]
      simp only [go_sem, noPl, Pl.v, Pl.a, Pl.c4, vw, List.length_map, h5]
    | false =>
      have hf : Frees p e r d := fun j hj h7 => by
        by_cases h8 : gt (wo p.cs e) ((j : Int) + stepOf p r d).toNat = 0
        · exact h8
        · have := htk.2 ⟨j, by omega, h7, h8⟩
          cases this
      exact absurd (S0 hst hf) hE

set_option maxHeartbeats 8000000 in
set_option maxRecDepth 8000 in
theorem rShift_yes {p : Pl} (hp : PlOK p) (hC : Ans Try.prog n_ref01_Check [p.v] [] (.int .i64 0) []) {e r d : Int} (hE : shErr p e r d = 0) : Ans Try.prog n_ref01_Shift [p.v, .int .i64 e, .int .i64 r, .int .i64 d] [] (.tup [p.a (.sl 0 0 p.cs.length), .int .i64 0]) [some (.cells true 1 (iv (p.shift e r d).cs))] := by
  have hw := hp.w; have hh := hp.h
  have hN : p.w * p.h ≤ 256 := Nat.mul_le_mul hw.2 hh.2
  have hlen := hp.len
  have hN1 : 1 ≤ p.cs.length := by
    obtain ⟨i, hi, _⟩ := hp.some
    rw [hlen]; omega
  have c2 := rHas_ok hp e
  have c4 := Copy_ok (p := p) (by omega) hN1
  have hwl := wo_len p.cs e
  refine Ans.keep (run_fn e_ref01_Shift fun G => ?_) (by simp) (by simp [go_sem, Pl.a, Pl.c4]) ⟨iv_row _ _ _, trivial⟩
  simp only [go_sem, Pl.v, Pl.a, Pl.c4, vw]
  refine cP hC ?_
  simp only [go_sem, Pl.v, Pl.a, Pl.c4, vw]
  refine cP c2 ?_
  by_cases h1 : e ≠ 0 ∧ e ∈ p.cs
  rotate_left
  · exfalso; unfold shErr at hE; rw [if_pos h1] at hE; exact absurd hE (by decide)
  rw [decide_eq_true h1]
  have S2 : ¬ Stays p e r d → shErr p e r d = 2 := fun h => by unfold shErr; rw [if_neg (fun h2 => h2 h1), if_pos h]
  have S9 : Stays p e r d → ¬ Frees p e r d → shErr p e r d = 9 := fun h h' => by unfold shErr; rw [if_neg (fun h2 => h2 h1), if_neg (fun h2 => h2 h), if_pos h']
  have S0 : Stays p e r d → Frees p e r d → shErr p e r d = 0 := fun h h' => by unfold shErr; rw [if_neg (fun h2 => h2 h1), if_neg (fun h2 => h2 h), if_neg (fun h2 => h2 h')]
  have he : 1 ≤ e ∧ e ≤ 6 := by have := hp.cell e h1.2; omega
  simp only [go_sem, Pl.v, Pl.a, Pl.c4, vw]
  refine cN1 c4 ?_ (hr := by simp [go_sem, Pl.a, Pl.c4]) (hx := iv_row _ _ _)
  simp only [go_sem, Pl.a, Pl.c4, ren, rens, iv_len]
  have hm0 : p.cs = mixTo (wo p.cs e) p.cs 0 := by simp [mixTo]
  refine loop_ind k_ref01_Shift_r12.eq_1 (fun a : Nat => a ≤ p.cs.length) (fun a => p.cs.length - a)
    (fun a => (tsets 142 [(1, .int .i64 e), (2, .int .i64 r), (3, .int .i64 d), (4, .ptr 0 0 0 1), (8, .ptr 1 0 0 1), (9, .int .i64 0), (11, .ptr 3 0 0 1), (12, .int .i64 a)],
      [some (.cells false 4 [p.v]), some (.cells false 4 [noPl]), some (.cells true 1 (iv (mixTo (wo p.cs e) p.cs a))), some (.cells false 4 [p.a (.sl 2 0 p.cs.length)])])) 0 (Nat.zero_le _) (by simp [go_sem]) (by rw [← hm0]; rfl) ?_
  intro i hi ih
  dsimp only at hi ih ⊢
  by_cases g1 : i < p.cs.length
  · have h2 : (i : Int) < p.cs.length := by omega
    have h3 := idx_next g1 (by omega)
    have n0 : ¬ (i : Int) < 0 := by omega
    have hx := gt_get g1
    have f1 := mix_len (a := wo p.cs e) (b := p.cs) hwl (i := i) (by omega)
    rw [hwl] at f1
    have s1 := mix_set (a := wo p.cs e) (b := p.cs) hwl (i := i) (by omega)
    have g1' := mix_gt (a := wo p.cs e) (b := p.cs) hwl (i := i) (by omega)
    have gi : (iv (mixTo (wo p.cs e) p.cs i))[i]? = some (.int .i64 (gt p.cs i)) := by rw [iv_get (by omega), g1']
    rw [gt_wo _ _ g1] at s1
    have ihn := ih (i + 1) (by omega) g1
    clear ih
    by_cases hz : gt p.cs i = e
    · have hz' : (gt p.cs i == e) = true := by simp [hz]
      rw [if_pos hz] at s1
      generalize gt p.cs i = z at *
      simp only [go_sem, noPl, Pl.v, Pl.a, Pl.c4, vw, iv_len, List.length_map, h2, n0, hx, f1, gi, hz', iv_set, s1, h3]
      exact ihn _ (by simp [go_sem])
    · have hz' : (gt p.cs i == e) = false := by simp [hz]
      rw [if_neg hz] at s1
      have s2 : mixTo (wo p.cs e) p.cs (i + 1) = mixTo (wo p.cs e) p.cs i := by
        rw [← s1, ← g1']
        refine gt_ext (by simp) fun j hj => ?_
        rw [gt_set _ _ _ _ (by omega)]
        split
        · rename_i h; rw [h]
        · rfl
      rw [s2] at ihn
      generalize gt p.cs i = z at *
      simp only [go_sem, noPl, Pl.v, Pl.a, Pl.c4, vw, iv_len, List.length_map, h2, n0, hx, f1, gi, hz', h3]
      exact ihn _ (by simp [go_sem])
  have h2 : ¬ (i : Int) < p.cs.length := by omega
  have hie : i = p.cs.length := by omega
  have hf1 : mixTo (wo p.cs e) p.cs i = wo p.cs e := by have := mix_end hwl; rwa [hwl, ← hie] at this
  rw [hf1]
  clear ih hf1
  have hs0 := shT_zero p.cs e (stepOf p r d)
  rw [← hs0]
  simp only [go_sem, noPl, Pl.v, Pl.a, Pl.c4, vw, iv_len, List.length_map, h2]
  clear hie h2 hi g1
  obtain ⟨i0, hi0, hie0⟩ := mem_gt h1.2
  have hst0 : Stays p e r d → (-16 ≤ r ∧ r ≤ 16) ∧ (-16 ≤ d ∧ d ≤ 16) := fun h => by
    have hb := h i0 (by omega) hie0
    obtain ⟨c1, c2', c3⟩ := cell_lt (w := p.w) (h := p.h) (i := i0) (by omega)
    unfold inb at hb
    generalize i0 % p.w = x0 at *
    generalize i0 / p.w = y0 at *
    omega
  by_cases hr16 : -16 ≤ r ∧ r ≤ 16
  rotate_left
  · have hns : ¬ Stays p e r d := fun h => hr16 (hst0 h).1
    exfalso; rw [S2 hns] at hE; exact absurd hE (by decide)
  refine cP (beyond_no hr16) ?_
  simp only [go_sem]
  by_cases hd16 : -16 ≤ d ∧ d ≤ 16
  rotate_left
  · have hns : ¬ Stays p e r d := fun h => hd16 (hst0 h).2
    exfalso; rw [S2 hns] at hE; exact absurd hE (by decide)
  refine cP (beyond_no hd16) ?_
  simp only [go_sem]
  clear hst0 hie0 hi0 i0 c2 c4 hC
  refine loop_ind k_ref01_Shift_r25.eq_1 (fun q : Nat × Bool => q.1 ≤ p.cs.length ∧ (∀ j, j < q.1 → gt p.cs j = e → inb p j r d) ∧ (q.2 = true ↔ ∃ j, j < q.1 ∧ gt p.cs j = e ∧ gt (wo p.cs e) ((j : Int) + stepOf p r d).toNat ≠ 0)) (fun q => p.cs.length - q.1)
    (fun q => (tsets 142 [(1, .int .i64 e), (2, .int .i64 r), (3, .int .i64 d), (4, .ptr 0 0 0 1), (8, .ptr 1 0 0 1), (9, .int .i64 0), (11, .ptr 3 0 0 1), (13, .bool q.2), (14, .int .i64 q.1)],
      [some (.cells false 4 [p.v]), some (.cells false 4 [noPl]), some (.cells true 1 (iv (shT p.cs e (stepOf p r d) q.1))), some (.cells false 4 [p.a (.sl 2 0 p.cs.length)])])) (0, false) ⟨Nat.zero_le _, fun j hj => absurd hj (Nat.not_lt_zero _), by simp⟩ (by simp [go_sem]) rfl ?_
  rintro ⟨i, tk⟩ ⟨hi, hin, htk⟩ ih
  dsimp only at hi hin htk ih ⊢
  by_cases h4 : i < p.cs.length
  · have h5 : (i : Int) < p.cs.length := by omega
    have h6 := idx_next h4 (by omega)
    have n0 : ¬ (i : Int) < 0 := by omega
    have hx := gt_get h4
    have hiN : i < p.w * p.h := by omega
    by_cases hz : gt p.cs i = e
    · have hz' : (gt p.cs i != e) = false := by simp [hz]
      have e1 := nat_rem i p.w
      have e2 := nat_quo i p.w
      have wne : ¬ (p.w : Int) = 0 := by omega
      obtain ⟨c1, c2, c3⟩ := cell_lt hiN
      have hib : inb p i r d ↔ ((0 ≤ ((i % p.w : Nat) : Int) + r ∧ ((i % p.w : Nat) : Int) + r ≤ (p.w : Int) - 1) ∧ (0 ≤ ((i / p.w : Nat) : Int) + d ∧ ((i / p.w : Nat) : Int) + d ≤ (p.h : Int) - 1)) := by
        unfold inb
        generalize i % p.w = x0 at *
        generalize i / p.w = y0 at *
        omega
      have ww : IntKind.i64.wrap ((p.w : Int) - 1) = (p.w : Int) - 1 := w64 (by omega)
      have wh : IntKind.i64.wrap ((p.h : Int) - 1) = (p.h : Int) - 1 := w64 (by omega)
      have we1 : IntKind.i64.wrap (((i % p.w : Nat) : Int) + r) = ((i % p.w : Nat) : Int) + r := (fun (x0 : Nat) (h : x0 < p.w) => w64 (by omega) : ∀ x0 : Nat, x0 < p.w → IntKind.i64.wrap ((x0 : Int) + r) = (x0 : Int) + r) _ c1
      have we2 : IntKind.i64.wrap (((i / p.w : Nat) : Int) + d) = ((i / p.w : Nat) : Int) + d := (fun (x0 : Nat) (h : x0 < p.h) => w64 (by omega) : ∀ x0 : Nat, x0 < p.h → IntKind.i64.wrap ((x0 : Int) + d) = (x0 : Int) + d) _ c2
      have we3 : IntKind.i64.wrap ((i / p.w : Nat) : Int) = ((i / p.w : Nat) : Int) := (fun (x0 : Nat) (h : x0 < p.h) => w64 (by omega) : ∀ x0 : Nat, x0 < p.h → IntKind.i64.wrap (x0 : Int) = (x0 : Int)) _ c2
      by_cases hxr : 0 ≤ ((i % p.w : Nat) : Int) + r ∧ ((i % p.w : Nat) : Int) + r ≤ (p.w : Int) - 1
      rotate_left
      · have hns : ¬ Stays p e r d := fun h => hxr (hib.1 (h i hiN hz)).1
        exfalso; rw [S2 hns] at hE; exact absurd hE (by decide)
      by_cases hyr : 0 ≤ ((i / p.w : Nat) : Int) + d ∧ ((i / p.w : Nat) : Int) + d ≤ (p.h : Int) - 1
      rotate_left
      · have hns : ¬ Stays p e r d := fun h => hyr (hib.1 (h i hiN hz)).2
        exfalso; rw [S2 hns] at hE; exact absurd hE (by decide)
      have hb : inb p i r d := hib.2 ⟨hxr, hyr⟩
      obtain ⟨X, hX⟩ : ∃ X : Nat, (X : Int) = ((i % p.w : Nat) : Int) + r := ⟨(((i % p.w : Nat) : Int) + r).toNat, by omega⟩
      obtain ⟨Y, hY⟩ : ∃ Y : Nat, (Y : Int) = ((i / p.w : Nat) : Int) + d := ⟨(((i / p.w : Nat) : Int) + d).toNat, by omega⟩
      have hkl0 := cell_in (w := p.w) (h := p.h) (x := X) (y := Y) (by omega) (by omega)
      have hk : ((Y * p.w + X : Nat) : Int) = i + stepOf p r d := by
        have c3' : ((i / p.w : Nat) : Int) * p.w + ((i % p.w : Nat) : Int) = i := by exact_mod_cast c3
        unfold stepOf
        push_cast at c3' ⊢
        push_cast at hX hY
        rw [hY, hX, Int.add_mul]
        omega
      have w1 : IntKind.i64.wrap ((Y : Int) * p.w) = ((Y * p.w : Nat) : Int) := by rw [w64 (by push_cast at *; omega)]; push_cast; rfl
      have w2 : IntKind.i64.wrap (((Y * p.w : Nat) : Int) + X) = ((Y * p.w + X : Nat) : Int) := by rw [w64 (by push_cast at *; omega)]; push_cast; rfl
      have hkl : Y * p.w + X < p.cs.length := by omega
      generalize hkk : Y * p.w + X = k at *
      have hkI : (k : Int) < p.cs.length := by omega
      have nk : ¬ (k : Int) < 0 := by omega
      have gk := shT_at (l := p.cs) (e := e) (stepOf p r d) hk hkl
      have gI : (iv (shT p.cs e (stepOf p r d) i))[k]? = some (.int .i64 (gt (wo p.cs e) k)) := by rw [iv_get (by rw [shT_len]; exact hkl), gk]
      have pu := shT_put (stepOf p r d) hz hk hkl
      have sl := shT_len p.cs e (stepOf p r d) i
      have hto : gt (wo p.cs e) ((i : Int) + stepOf p r d).toNat = gt (wo p.cs e) k := by rw [← hk]; rfl
      have hgw : 0 ≤ gt (wo p.cs e) k ∧ gt (wo p.cs e) k ≠ e := by
        have hc := hp.cell _ (gt_mem (l := p.cs) (i := k) hkl)
        rw [gt_wo _ _ hkl]
        split
        · omega
        · rename_i h; exact ⟨hc.1, h⟩
      have hinn : ∀ j, j < i + 1 → gt p.cs j = e → inb p j r d := fun j hj h7 => by
        by_cases e1 : j = i
        · subst e1; exact hb
        · exact hin j (by omega) h7
      have ihn := fun tk' h => ih (i + 1, tk') (by dsimp only; omega) ⟨h4, hinn, h⟩
      clear ih
      dsimp only at ihn
      rw [pu] at ihn
      have htn : (∃ j, j < i + 1 ∧ gt p.cs j = e ∧ gt (wo p.cs e) ((j : Int) + stepOf p r d).toNat ≠ 0) ↔ (tk = true ∨ gt (wo p.cs e) k ≠ 0) := by
        rw [htk]
        constructor
        · rintro ⟨j, j1, j2, j3⟩
          by_cases e1 : j = i
          · subst e1; right; rw [← hto]; exact j3
          · left; exact ⟨j, by omega, j2, j3⟩
        · rintro (⟨j, j1, j2, j3⟩ | h)
          · exact ⟨j, by omega, j2, j3⟩
          · exact ⟨i, by omega, hz, by rw [hto]; exact h⟩
      rw [htn] at ihn
      replace we1 := we1.trans hX.symm
      replace we2 := we2.trans hY.symm
      rw [← hX] at hxr
      rw [← hY] at hyr
      have B1 := beyond_no hxr
      have B2 := beyond_no hyr
      cases tk with
      | true =>
        simp only [go_sem, noPl, Pl.v, Pl.a, Pl.c4, vw, List.length_map, h5, n0, hx, hz', e1, e2, wne, we1, we2, we3, ww, wh]
        refine cP B1 ?_
        simp only [go_sem, noPl, Pl.v, Pl.a, Pl.c4, vw, List.length_map, h5, n0, hx, hz', e1, e2, wne, we1, we2, we3, ww, wh]
        refine cP B2 ?_
        simp only [go_sem, noPl, Pl.v, Pl.a, Pl.c4, vw, List.length_map, h5, n0, hx, hz', e1, e2, wne, we1, we2, we3, ww, wh, iv_len, w1, w2, nk, hkI, gI, sl, iv_set, h6]
        exact ihn true (by simp) _ (by simp [go_sem])
      | false =>
        by_cases h8 : gt (wo p.cs e) k = 0
        · have h8' : ¬ 0 < gt (wo p.cs e) k := by omega
          have ihm := ihn false (by simp [h8])
          clear ihn
          generalize gt (wo p.cs e) k = zk at *
          simp only [go_sem, noPl, Pl.v, Pl.a, Pl.c4, vw, List.length_map, h5, n0, hx, hz', e1, e2, wne, we1, we2, we3, ww, wh]
          refine cP B1 ?_
          simp only [go_sem, noPl, Pl.v, Pl.a, Pl.c4, vw, List.length_map, h5, n0, hx, hz', e1, e2, wne, we1, we2, we3, ww, wh]
          refine cP B2 ?_
          simp only [go_sem, noPl, Pl.v, Pl.a, Pl.c4, vw, List.length_map, h5, n0, hx, hz', e1, e2, wne, we1, we2, we3, ww, wh, iv_len, w1, w2, nk, hkI, gI, sl, iv_set, h6, h8']
          exact ihm _ (by simp [go_sem])
        · have h8' : 0 < gt (wo p.cs e) k := by omega
          have h9' : (gt (wo p.cs e) k != e) = true := by simp [hgw.2]
          have ihm := ihn true (by simp [h8])
          clear ihn
          generalize gt (wo p.cs e) k = zk at *
          simp only [go_sem, noPl, Pl.v, Pl.a, Pl.c4, vw, List.length_map, h5, n0, hx, hz', e1, e2, wne, we1, we2, we3, ww, wh]
          refine cP B1 ?_
          simp only [go_sem, noPl, Pl.v, Pl.a, Pl.c4, vw, List.length_map, h5, n0, hx, hz', e1, e2, wne, we1, we2, we3, ww, wh]
          refine cP B2 ?_
          simp only [go_sem, noPl, Pl.v, Pl.a, Pl.c4, vw, List.length_map, h5, n0, hx, hz', e1, e2, wne, we1, we2, we3, ww, wh, iv_len, w1, w2, nk, hkI, gI, sl, iv_set, h6, h8', h9']
          exact ihm _ (by simp [go_sem])
    · have hz' : (gt p.cs i != e) = true := by simp [hz]
      have sk := shT_skip (l := p.cs) (e := e) (stepOf p r d) hz
      have ihn := fun h1 h2 => ih (i + 1, tk) (by dsimp only; omega) ⟨h4, h1, h2⟩
      clear ih
      dsimp only at ihn
      rw [sk] at ihn
      have hz0 := hz
      have hx0 : p.cs[i]? = some (gt p.cs i) := hx
      simp only [go_sem, noPl, Pl.v, Pl.a, Pl.c4, vw, List.length_map, h5, n0, hx0, hz', h6]
      refine ihn (fun j hj h7 => ?_) ?_ _ (by simp [go_sem])
      · by_cases e1 : j = i
        · subst e1; exact absurd h7 hz0
        · exact hin j (by omega) h7
      · rw [htk]
        constructor
        · rintro ⟨j, j1, j2, j3⟩; exact ⟨j, by omega, j2, j3⟩
        · rintro ⟨j, j1, j2, j3⟩
          by_cases e1 : j = i
          · subst e1; exact absurd j2 hz0
          · exact ⟨j, by omega, j2, j3⟩
  · have h5 : ¬ (i : Int) < p.cs.length := by omega
    have hst : Stays p e r d := fun j hj h7 => hin j (by omega) h7
    have hie : i = p.w * p.h := by omega
    cases tk with
    | true =>
      have hnf : ¬ Frees p e r d := fun h => by
        obtain ⟨j, j1, j2, j3⟩ := htk.1 rfl
        exact j3 (h j (by omega) j2)
      rw [S9 hst hnf] at hE; exact absurd hE (by decide)
    | false =>
      have hf : Frees p e r d := fun j hj h7 => by
        by_cases h8 : gt (wo p.cs e) ((j : Int) + stepOf p r d).toNat = 0
        · exact h8
        · have := htk.2 ⟨j, by omega, h7, h8⟩
          cases this
      have hpo := shift_ok hp he hst h1.2
      have hC2 := rCheck_raw (p.shift e r d).rp (by show (p.shift e r d).cs.length ≤ _; rw [hpo.len]; show p.w * p.h ≤ _; omega)
      rw [hpo.err, Pl.rp_v] at hC2
      have hcs : (p.shift e r d).cs = shT p.cs e (stepOf p r d) i := by rw [hie]; rfl
      have hcl : (p.shift e r d).cs.length = p.cs.length := by rw [hpo.len, hlen]; rfl
      rw [← hcs]
      simp only [go_sem, noPl, Pl.v, Pl.a, Pl.c4, vw, List.length_map, h5]
      refine cF hC2 6 ⟨.inl (pla_frz 3 (p := p.shift e r d) (j := 2) (g := true) rfl hcl.symm), trivial⟩ ?_
      simp only [go_sem, noPl, Pl.v, Pl.a, Pl.c4, vw]
      exact kept_new (A := []) 0 2 rfl rfl (by omega) (by simp [ren, rens]) (fun i x hx => by simp at hx) (iv_row _ _ _) rfl
end Go.Proofs

namespace Go.Proofs
open Go Go.Sx
attribute [local irreducible] Run

theorem amR_rp {p : Pl} (hp : PlOK p) {n : Nat} (hn : n ≤ 200) (k g a : Int) : amR p.rp n k g a = ampR p n k g a (gm p) := by
  have hq : p.rp.errQ n [k, g, a] = chkA p [k, g, a] := by
    unfold Rp.errQ
    rw [if_neg (fun h => h hp.err), if_pos (by omega), Pl.rp_pl]
  unfold amR
  rw [hq, Pl.rp_pl, Int.toNat_natCast]
  by_cases h : chkA p [k, g, a] = 0
  · rw [if_pos h]
  · rw [if_neg h]; unfold ampR; rw [if_neg h]
theorem rAmp_ok {p : Pl} (hp : PlOK p) {n : Nat} (hn : n ≤ 200) (k g a : Int) : Ans Try.prog n_ref01_Amplification [p.v, .int .i64 n, .int .i64 k, .int .i64 g, .int .i64 a] [] (.tup [(ampR p n k g a (gm p)).1.v, .int .i64 (ampR p n k g a (gm p)).2]) [] := by
  have hN : p.w * p.h ≤ 256 := Nat.mul_le_mul hp.w.2 hp.h.2
  have h := rAmp_raw p.rp n k g a (by show p.cs.length ≤ _; rw [hp.len]; omega)
  rwa [amR_rp hp hn, Pl.rp_v] at h
theorem amp_parts {p : Pl} (hp : PlOK p) {n : Nat} {k g a : Int} {m : Nat} (h : (ampR p n k g a m).2 = 0) : (1 ≤ g ∧ g ≤ 6) ∧ g ≠ k := by
  have hc : chkA p [k, g, a] = 0 := by
    by_cases hc : chkA p [k, g, a] = 0
    · exact hc
    · unfold ampR at h; rw [if_neg hc] at h; exact absurd h hc
  unfold chkA at hc
  by_cases h1 : ∀ x ∈ [k, g, a], x ≠ 0 ∧ x ∈ p.cs
  · rw [if_pos h1] at hc
    by_cases h2 : [k, g, a].Nodup
    · have h3 := h1 g (by simp)
      have h4 := hp.cell g h3.2
      refine ⟨by omega, fun e => ?_⟩
      subst e
      simp at h2
    · rw [if_neg h2] at hc; omega
  · rw [if_neg h1] at hc; omega

theorem Play_gen {p : Pl} (hp : PlOK p) {n : Nat} (hn : n ≤ 200) (k g a : Int) :
    Ans Try.prog n_field_Play [p.v, .int .i64 n, .int .i64 k, .int .i64 g, .int .i64 a] [] (.tup [.int .i64 (playR p n k g a).1, .int .i64 (playR p n k g a).2]) [] := by
  by_cases h : (ampR p n k g a (gm p)).2 = 0
  · obtain ⟨h1, h2⟩ := amp_parts hp h
    exact Play_ok hp hn h1 h2 a
  · have A0 := Amp_ok hp (gm_eq hp) hn k g a
    unfold playR
    rw [if_neg h]
    have h' : ((ampR p n k g a (gm p)).2 != 0) = true := by simp [h]
    refine spec_run e_field_Play fun G => ?_
    simp only [go_sem, Pl.v, Pl.a, Pl.c4, vw]
    refine cP A0 ?_ (hr := by simp only [go_sem, Rg.v])
    simp only [go_sem, Rg.v, h']

def stA : Heap := [some (.cells false 1 (iv [1, 0])), some (.cells false 1 (iv [-1, 0])), some (.cells false 1 (iv [0, 1])), some (.cells false 1 (iv [0, -1])), some (.cells false 1 [.sl 2 0 2, .sl 3 0 2, .sl 4 0 2, .sl 5 0 2])]

set_option maxHeartbeats 16000000 in
set_option maxRecDepth 8000 in
theorem rPlay_gen {p : Pl} (hp : PlOK p) {n : Nat} (hn : n ≤ 200) (k g a : Int) :
    Ans Try.prog n_ref01_Play [p.v, .int .i64 n, .int .i64 k, .int .i64 g, .int .i64 a] [] (.tup [.int .i64 (playR p n k g a).1, .int .i64 (playR p n k g a).2]) [] := by
  have hN : p.w * p.h ≤ 256 := Nat.mul_le_mul hp.w.2 hp.h.2
  have A0 := rAmp_ok hp hn k g a
  have hparts := amp_parts hp (n := n) (k := k) (g := g) (a := a) (m := gm p)
  have hsI := fun hgk => ampR_in hp n (k := k) (g := g) hgk a
  have hC := rCheck_raw p.rp (by show p.cs.length ≤ _; rw [hp.len]; omega)
  rw [hp.err, Pl.rp_v] at hC
  unfold playR
  generalize ampR p n k g a (gm p) = A at *
  obtain ⟨⟨s0, s1⟩, se⟩ := A
  dsimp only at A0 hparts hsI ⊢
  have u1 : IntKind.i64.wrap 1 = 1 := rfl
  have u2 : IntKind.i64.wrap 2 = 2 := rfl
  have u3 : IntKind.i64.wrap 3 = 3 := rfl
  have u4 : IntKind.i64.wrap 4 = 4 := rfl
  refine spec_run e_ref01_Play fun G => ?_
  simp only [go_sem, Pl.v, Pl.a, Pl.c4, vw]
  refine cP A0 ?_ (hr := by simp only [go_sem, Rg.v])
  by_cases hse : se = 0
  · have hse' : (se != 0) = false := by simp [hse]
    rw [if_pos hse]
    obtain ⟨hg, hgk⟩ := hparts hse
    have hs := hsI hgk
    generalize hP : playTo p n k g a s0 s1 4 = P4
    simp only [go_sem, Rg.v, hse']
    refine loop_ind k_ref01_Play_r14.eq_1 (fun q : Nat × Heap => q.1 ≤ 4) (fun q => 4 - q.1)
      (fun q => (tsets 87 [(1, .int .i64 n), (2, .int .i64 k), (3, .int .i64 g), (4, .int .i64 a), (5, .ptr 0 0 0 1), (12, .ptr 1 0 0 1), (14, .int .i64 (playTo p n k g a s0 s1 q.1)), (15, .sl 6 0 4), (16, .int .i64 q.1)],
        some (.cells false 4 [p.v]) :: some (.cells false 2 [.agg [.int .i64 s0, .int .i64 s1]]) :: (stA ++ q.2))) (0, []) (Nat.zero_le _) (by simp [go_sem, playTo]) rfl ?_
    rintro ⟨i, X⟩ hi ih
    dsimp only at hi ih ⊢
    have hc : i = 0 ∨ i = 1 ∨ i = 2 ∨ i = 3 ∨ i = 4 := by omega
    simp only [stA, iv, List.map_cons, List.map_nil, List.cons_append, List.nil_append] at ih ⊢
    rcases hc with rfl | rfl | rfl | rfl | rfl
    · -- step 0
      have ihn := fun X => ih (0 + 1, X) (by dsimp only; omega) (by show 0 + 1 ≤ 4; omega)
      clear ih hP
      have hpt : playTo p n k g a s0 s1 (0 + 1) = playStep p n k g a s0 s1 (playTo p n k g a s0 s1 0) 1 0 := rfl
      have bnd := playTo_in hp n hg hgk a hs 0 (by omega)
      simp only [hpt] at ihn
      unfold playStep at ihn
      clear hpt
      generalize playTo p n k g a s0 s1 0 = acc at *
      by_cases hE : shErr p g 1 0 = 0
      · have SY := rShift_yes hp hC hE
        have hq := shift_of hp hg hE
        have hql : (p.shift g 1 0).cs.length = p.cs.length := shT_len _ _ _ _
        have AM := rAmp_ok hq hn k g a
        have ab := ampR_in hq n hgk a
        rw [if_pos hE] at ihn
        generalize ampR (p.shift g 1 0) n k g a (gm (p.shift g 1 0)) = am at *
        obtain ⟨⟨a0, a1⟩, ae⟩ := am
        dsimp only at AM ihn ab
        simp only [go_sem, Rg.v, u1, u2, u3, u4, Pl.v, Pl.a, Pl.c4, vw]
        refine dFN SY 6 [] ⟨.inl (plv_frz 3 _ p), .inl rfl, .inl rfl, .inl rfl, trivial⟩ ?_ (hr := by simp [go_sem, Pl.a, Pl.c4]) (hnv := by simp only [go_sem, Pl.a, Pl.c4]) (hx := iv_row _ _ _) (hxn := iv_nv _ _)
        simp only [go_sem, ren, rens, Pl.a, Pl.c4, vw, Pl.v]
        refine ⟨by simp <;> omega, ?_⟩
        refine cF AM 6 ⟨.inl (pla_frz 3 (p := p.shift g 1 0) (j := X.length + 7) (g := true) (by simp) hql.symm), .inl rfl, .inl rfl, .inl rfl, .inl rfl, trivial⟩ ?_ (hr := by simp only [go_sem, Rg.v]) (hnv := by simp only [go_sem, Rg.v])
        by_cases hae : ae = 0
        · have hae' : (ae == 0) = true := by simp [hae]
          have z1 : IntKind.i64.wrap (a1 - s0) = a1 - s0 := w64 (by omega)
          have z2 : IntKind.i64.wrap (s1 - a0) = s1 - a0 := w64 (by omega)
          rw [if_pos hae] at ihn
          unfold mx3 at ihn
          simp only [go_sem, Rg.v, hae', z1, z2, u1, u2, u3, u4]
          exact ihn _ _ (by simp [go_sem, u1, u2, u3, u4])
        · have hae' : (ae == 0) = false := by simp [hae]
          rw [if_neg hae] at ihn
          simp only [go_sem, Rg.v, hae', u1, u2, u3, u4]
          exact ihn _ _ (by simp [go_sem, u1, u2, u3, u4])
      · have SN := rShift_no hp hC g 1 0 hE
        have hE' : (shErr p g 1 0 != 0) = true := by simp [hE]
        rw [if_neg hE] at ihn
        simp only [go_sem, Rg.v, u1, u2, u3, u4, Pl.v, Pl.a, Pl.c4, vw]
        refine dP SN ?_ (hb := by simp only [go_sem, noPl]) (hr := by simp only [go_sem, noPl])
        simp only [go_sem, noPl, hE', u1, u2, u3, u4, Pl.v, Pl.a, Pl.c4, vw]
        refine ⟨by simp <;> omega, ?_⟩
        exact ihn _ _ (by simp [go_sem, u1, u2, u3, u4])
    · -- step 1
      have ihn := fun X => ih (1 + 1, X) (by dsimp only; omega) (by show 1 + 1 ≤ 4; omega)
      clear ih hP
      have hpt : playTo p n k g a s0 s1 (1 + 1) = playStep p n k g a s0 s1 (playTo p n k g a s0 s1 1) (-1) 0 := rfl
      have bnd := playTo_in hp n hg hgk a hs 1 (by omega)
      simp only [hpt] at ihn
      unfold playStep at ihn
      clear hpt
      generalize playTo p n k g a s0 s1 1 = acc at *
      by_cases hE : shErr p g (-1) 0 = 0
      · have SY := rShift_yes hp hC hE
        have hq := shift_of hp hg hE
        have hql : (p.shift g (-1) 0).cs.length = p.cs.length := shT_len _ _ _ _
        have AM := rAmp_ok hq hn k g a
        have ab := ampR_in hq n hgk a
        rw [if_pos hE] at ihn
        generalize ampR (p.shift g (-1) 0) n k g a (gm (p.shift g (-1) 0)) = am at *
        obtain ⟨⟨a0, a1⟩, ae⟩ := am
        dsimp only at AM ihn ab
        simp only [go_sem, Rg.v, u1, u2, u3, u4, Pl.v, Pl.a, Pl.c4, vw]
        refine dFN SY 6 [] ⟨.inl (plv_frz 3 _ p), .inl rfl, .inl rfl, .inl rfl, trivial⟩ ?_ (hr := by simp [go_sem, Pl.a, Pl.c4]) (hnv := by simp only [go_sem, Pl.a, Pl.c4]) (hx := iv_row _ _ _) (hxn := iv_nv _ _)
        simp only [go_sem, ren, rens, Pl.a, Pl.c4, vw, Pl.v]
        refine ⟨by simp <;> omega, ?_⟩
        refine cF AM 6 ⟨.inl (pla_frz 3 (p := p.shift g (-1) 0) (j := X.length + 7) (g := true) (by simp) hql.symm), .inl rfl, .inl rfl, .inl rfl, .inl rfl, trivial⟩ ?_ (hr := by simp only [go_sem, Rg.v]) (hnv := by simp only [go_sem, Rg.v])
        by_cases hae : ae = 0
        · have hae' : (ae == 0) = true := by simp [hae]
          have z1 : IntKind.i64.wrap (a1 - s0) = a1 - s0 := w64 (by omega)
          have z2 : IntKind.i64.wrap (s1 - a0) = s1 - a0 := w64 (by omega)
          rw [if_pos hae] at ihn
          unfold mx3 at ihn
          simp only [go_sem, Rg.v, hae', z1, z2, u1, u2, u3, u4]
          exact ihn _ _ (by simp [go_sem, u1, u2, u3, u4])
        · have hae' : (ae == 0) = false := by simp [hae]
          rw [if_neg hae] at ihn
          simp only [go_sem, Rg.v, hae', u1, u2, u3, u4]
          exact ihn _ _ (by simp [go_sem, u1, u2, u3, u4])
      · have SN := rShift_no hp hC g (-1) 0 hE
        have hE' : (shErr p g (-1) 0 != 0) = true := by simp [hE]
        rw [if_neg hE] at ihn
        simp only [go_sem, Rg.v, u1, u2, u3, u4, Pl.v, Pl.a, Pl.c4, vw]
        refine dP SN ?_ (hb := by simp only [go_sem, noPl]) (hr := by simp only [go_sem, noPl])
        simp only [go_sem, noPl, hE', u1, u2, u3, u4, Pl.v, Pl.a, Pl.c4, vw]
        refine ⟨by simp <;> omega, ?_⟩
        exact ihn _ _ (by simp [go_sem, u1, u2, u3, u4])
    · -- step 2
      have ihn := fun X => ih (2 + 1, X) (by dsimp only; omega) (by show 2 + 1 ≤ 4; omega)
      clear ih hP
      have hpt : playTo p n k g a s0 s1 (2 + 1) = playStep p n k g a s0 s1 (playTo p n k g a s0 s1 2) 0 1 := rfl
      have bnd := playTo_in hp n hg hgk a hs 2 (by omega)
      simp only [hpt] at ihn
      unfold playStep at ihn
      clear hpt
      generalize playTo p n k g a s0 s1 2 = acc at *
      by_cases hE : shErr p g 0 1 = 0
      · have SY := rShift_yes hp hC hE
        have hq := shift_of hp hg hE
        have hql : (p.shift g 0 1).cs.length = p.cs.length := shT_len _ _ _ _
        have AM := rAmp_ok hq hn k g a
        have ab := ampR_in hq n hgk a
        rw [if_pos hE] at ihn
        generalize ampR (p.shift g 0 1) n k g a (gm (p.shift g 0 1)) = am at *
        obtain ⟨⟨a0, a1⟩, ae⟩ := am
        dsimp only at AM ihn ab
        simp only [go_sem, Rg.v, u1, u2, u3, u4, Pl.v, Pl.a, Pl.c4, vw]
        refine dFN SY 6 [] ⟨.inl (plv_frz 3 _ p), .inl rfl, .inl rfl, .inl rfl, trivial⟩ ?_ (hr := by simp [go_sem, Pl.a, Pl.c4]) (hnv := by simp only [go_sem, Pl.a, Pl.c4]) (hx := iv_row _ _ _) (hxn := iv_nv _ _)
        simp only [go_sem, ren, rens, Pl.a, Pl.c4, vw, Pl.v]
        refine ⟨by simp <;> omega, ?_⟩
        refine cF AM 6 ⟨.inl (pla_frz 3 (p := p.shift g 0 1) (j := X.length + 7) (g := true) (by simp) hql.symm), .inl rfl, .inl rfl, .inl rfl, .inl rfl, trivial⟩ ?_ (hr := by simp only [go_sem, Rg.v]) (hnv := by simp only [go_sem, Rg.v])
        by_cases hae : ae = 0
        · have hae' : (ae == 0) = true := by simp [hae]
          have z1 : IntKind.i64.wrap (a1 - s0) = a1 - s0 := w64 (by omega)
          have z2 : IntKind.i64.wrap (s1 - a0) = s1 - a0 := w64 (by omega)
          rw [if_pos hae] at ihn
          unfold mx3 at ihn
          simp only [go_sem, Rg.v, hae', z1, z2, u1, u2, u3, u4]
          exact ihn _ _ (by simp [go_sem, u1, u2, u3, u4])
        · have hae' : (ae == 0) = false := by simp [hae]
          rw [if_neg hae] at ihn
          simp only [go_sem, Rg.v, hae', u1, u2, u3, u4]
          exact ihn _ _ (by simp [go_sem, u1, u2, u3, u4])
      · have SN := rShift_no hp hC g 0 1 hE
        have hE' : (shErr p g 0 1 != 0) = true := by simp [hE]
        rw [if_neg hE] at ihn
        simp only [go_sem, Rg.v, u1, u2, u3, u4, Pl.v, Pl.a, Pl.c4, vw]
        refine dP SN ?_ (hb := by simp only [go_sem, noPl]) (hr := by simp only [go_sem, noPl])
        simp only [go_sem, noPl, hE', u1, u2, u3, u4, Pl.v, Pl.a, Pl.c4, vw]
        refine ⟨by simp <;> omega, ?_⟩
        exact ihn _ _ (by simp [go_sem, u1, u2, u3, u4])
    · -- step 3
      have ihn := fun X => ih (3 + 1, X) (by dsimp only; omega) (by show 3 + 1 ≤ 4; omega)
      clear ih hP
      have hpt : playTo p n k g a s0 s1 (3 + 1) = playStep p n k g a s0 s1 (playTo p n k g a s0 s1 3) 0 (-1) := rfl
      have bnd := playTo_in hp n hg hgk a hs 3 (by omega)
      simp only [hpt] at ihn
      unfold playStep at ihn
      clear hpt
      generalize playTo p n k g a s0 s1 3 = acc at *
      by_cases hE : shErr p g 0 (-1) = 0
      · have SY := rShift_yes hp hC hE
        have hq := shift_of hp hg hE
        have hql : (p.shift g 0 (-1)).cs.length = p.cs.length := shT_len _ _ _ _
        have AM := rAmp_ok hq hn k g a
        have ab := ampR_in hq n hgk a
        rw [if_pos hE] at ihn
        generalize ampR (p.shift g 0 (-1)) n k g a (gm (p.shift g 0 (-1))) = am at *
        obtain ⟨⟨a0, a1⟩, ae⟩ := am
        dsimp only at AM ihn ab
        simp only [go_sem, Rg.v, u1, u2, u3, u4, Pl.v, Pl.a, Pl.c4, vw]
        refine dFN SY 6 [] ⟨.inl (plv_frz 3 _ p), .inl rfl, .inl rfl, .inl rfl, trivial⟩ ?_ (hr := by simp [go_sem, Pl.a, Pl.c4]) (hnv := by simp only [go_sem, Pl.a, Pl.c4]) (hx := iv_row _ _ _) (hxn := iv_nv _ _)
        simp only [go_sem, ren, rens, Pl.a, Pl.c4, vw, Pl.v]
        refine ⟨by simp <;> omega, ?_⟩
        refine cF AM 6 ⟨.inl (pla_frz 3 (p := p.shift g 0 (-1)) (j := X.length + 7) (g := true) (by simp) hql.symm), .inl rfl, .inl rfl, .inl rfl, .inl rfl, trivial⟩ ?_ (hr := by simp only [go_sem, Rg.v]) (hnv := by simp only [go_sem, Rg.v])
        by_cases hae : ae = 0
        · have hae' : (ae == 0) = true := by simp [hae]
          have z1 : IntKind.i64.wrap (a1 - s0) = a1 - s0 := w64 (by omega)
          have z2 : IntKind.i64.wrap (s1 - a0) = s1 - a0 := w64 (by omega)
          rw [if_pos hae] at ihn
          unfold mx3 at ihn
          simp only [go_sem, Rg.v, hae', z1, z2, u1, u2, u3, u4]
          exact ihn _ _ (by simp [go_sem, u1, u2, u3, u4])
        · have hae' : (ae == 0) = false := by simp [hae]
          rw [if_neg hae] at ihn
          simp only [go_sem, Rg.v, hae', u1, u2, u3, u4]
          exact ihn _ _ (by simp [go_sem, u1, u2, u3, u4])
      · have SN := rShift_no hp hC g 0 (-1) hE
        have hE' : (shErr p g 0 (-1) != 0) = true := by simp [hE]
        rw [if_neg hE] at ihn
        simp only [go_sem, Rg.v, u1, u2, u3, u4, Pl.v, Pl.a, Pl.c4, vw]
        refine dP SN ?_ (hb := by simp only [go_sem, noPl]) (hr := by simp only [go_sem, noPl])
        simp only [go_sem, noPl, hE', u1, u2, u3, u4, Pl.v, Pl.a, Pl.c4, vw]
        refine ⟨by simp <;> omega, ?_⟩
        exact ihn _ _ (by simp [go_sem, u1, u2, u3, u4])
    · rw [hP]
      simp only [go_sem]
  · have hse' : (se != 0) = true := by simp [hse]
    rw [if_neg hse]
    simp only [go_sem, Rg.v, hse']
end Go.Proofs

