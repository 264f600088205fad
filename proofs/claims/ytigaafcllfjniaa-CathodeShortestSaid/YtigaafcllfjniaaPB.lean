/- A part of the proof. -/
import Derived.Test.YtigaafcllfjniaaPA
set_option linter.unusedSimpArgs false
set_option linter.unusedVariables false
namespace Go.Proofs
open Go Go.Sx

def k_ref03_Check_r0 : List AOper := [
  ⟨(some (1)), .box (.tmp 0), none, []⟩, 
  ⟨(some (2)), .move (.const (.int .i64 0)), none, []⟩]
def k_ref03_Check_r1 : List AOper := [
  ⟨(some (7)), .fieldAddr 0 (.tmp 1), none, []⟩, 
  ⟨(some (8)), .load none (.tmp 7), none, []⟩, 
  ⟨(some (9)), .call (.const (.fn (.func 69) [] [])) [.tmp 8, .const (.int .i64 1), .const (.int .i64 1000000)], none, []⟩, 
  ⟨(some (10)), .move (.tmp 9), none, []⟩, 
  ⟨(some (11)), .fieldAddr 1 (.tmp 1), (some (10, false)), []⟩, 
  ⟨(some (12)), .load none (.tmp 11), (some (10, false)), []⟩, 
  ⟨(some (13)), .call (.const (.fn (.func 69) [] [])) [.tmp 12, .const (.int .i64 1), .const (.int .i64 2000)], (some (10, false)), []⟩, 
  ⟨(some (14)), .pick (.tmp 10) (.const (.bool true)) (.tmp 13), none, []⟩]
def k_ref03_Check_r2 : List AOper := [
  ⟨(some (2)), .move (.const (.int .i64 2)), none, []⟩]
def k_ref03_Check_r3 : List AOper := [
  ⟨(some (15)), .fieldAddr 2 (.tmp 1), none, []⟩, 
  ⟨(some (16)), .load (some (2)) (.tmp 15), none, []⟩, 
  ⟨(some (17)), .fieldAddr 4 (.tmp 1), none, []⟩, 
  ⟨(some (18)), .load (some (2)) (.tmp 17), none, []⟩, 
  ⟨(some (19)), .buildSlice 2 [.tmp 16, .tmp 18], none, []⟩, 
  ⟨(some (20)), .call (.const (.fn (.func 70) [] [])) [.tmp 19, .const (.int .i64 1000000)], none, []⟩, 
  ⟨(some (3)), .move (.tmp 20), none, []⟩]
def k_ref03_Check_r4 : List AOper := [
  ⟨(some (21)), .move (.tmp 3), none, []⟩, 
  ⟨(some (22)), .bin .plain .neq (.tmp 21) (.const (.int .i64 0)), none, []⟩]
def k_ref03_Check_r5 : List AOper := [
  ⟨(some (23)), .move (.tmp 3), none, []⟩, 
  ⟨(some (2)), .move (.tmp 23), none, []⟩]
def k_ref03_Check_r6 : List AOper := [
  ⟨(some (24)), .fieldAddr 6 (.tmp 1), none, []⟩, 
  ⟨(some (25)), .load none (.tmp 24), none, []⟩, 
  ⟨(some (26)), .len false (.tmp 25), none, []⟩, 
  ⟨(some (27)), .bin .plain .eql (.tmp 26) (.const (.int .i64 0)), none, []⟩]
def k_ref03_Check_r7 : List AOper := [
  ⟨(some (2)), .move (.const (.int .i64 6)), none, []⟩]
def k_ref03_Check_r8 : List AOper := [
  ⟨(some (28)), .fieldAddr 6 (.tmp 1), none, []⟩, 
  ⟨(some (29)), .load none (.tmp 28), none, []⟩, 
  ⟨(some (30)), .len false (.tmp 29), none, []⟩, 
  ⟨(some (31)), .bin .plain .gtr (.tmp 30) (.const (.int .i64 16)), none, []⟩]
def k_ref03_Check_r9 : List AOper := [
  ⟨(some (2)), .move (.const (.int .i64 8)), none, []⟩]
def k_ref03_Check_r10 : List AOper := [
  ⟨(some (4)), .move (.const (.int .i64 0)), none, []⟩]
def k_ref03_Check_r11 : List AOper := [
  ⟨(some (32)), .move (.tmp 4), none, []⟩, 
  ⟨(some (33)), .fieldAddr 6 (.tmp 1), none, []⟩, 
  ⟨(some (34)), .load none (.tmp 33), none, []⟩, 
  ⟨(some (35)), .len false (.tmp 34), none, []⟩, 
  ⟨(some (36)), .bin .plain .lss (.tmp 32) (.tmp 35), none, []⟩]
def k_ref03_Check_r12 : List AOper := [
  ⟨(some (39)), .fieldAddr 6 (.tmp 1), none, []⟩, 
  ⟨(some (40)), .load none (.tmp 39), none, []⟩, 
  ⟨(some (41)), .move (.tmp 4), none, []⟩, 
  ⟨(some (42)), .indexAddr 9 (.tmp 40) (.tmp 41), none, []⟩, 
  ⟨(some (43)), .load (some (9)) (.tmp 42), none, []⟩, 
  ⟨(some (5)), .box (.const (.agg [.int .i64 0, .int .i64 0, .int .i64 0, .int .i64 0, .int .i64 0, .int .i64 0, .int .i64 0, .int .i64 0, .int .i64 0])), none, []⟩, 
  ⟨none, .store 9 (.tmp 5) (.tmp 43), none, []⟩]
def k_ref03_Check_r13 : List AOper := [
  ⟨(some (44)), .fieldAddr 0 (.tmp 5), none, []⟩, 
  ⟨(some (45)), .load none (.tmp 44), none, []⟩, 
  ⟨(some (46)), .call (.const (.fn (.func 69) [] [])) [.tmp 45, .const (.int .i64 0), .const (.int .i64 2000)], none, []⟩]
def k_ref03_Check_r14 : List AOper := [
  ⟨(some (2)), .move (.const (.int .i64 2)), none, []⟩]
def k_ref03_Check_r15 : List AOper := [
  ⟨(some (47)), .move (.tmp 4), none, []⟩, 
  ⟨(some (48)), .bin .plain .eql (.tmp 47) (.const (.int .i64 0)), none, []⟩, 
  ⟨(some (49)), .move (.tmp 48), none, []⟩, 
  ⟨(some (50)), .fieldAddr 0 (.tmp 5), (some (49, true)), []⟩, 
  ⟨(some (51)), .load none (.tmp 50), (some (49, true)), []⟩, 
  ⟨(some (52)), .bin .plain .neq (.tmp 51) (.const (.int .i64 0)), (some (49, true)), []⟩, 
  ⟨(some (53)), .pick (.tmp 49) (.tmp 52) (.const (.bool false)), none, []⟩, 
  ⟨(some (54)), .move (.tmp 53), none, []⟩, 
  ⟨(some (55)), .move (.tmp 4), (some (54, false)), []⟩, 
  ⟨(some (56)), .bin .plain .gtr (.tmp 55) (.const (.int .i64 0)), (some (54, false)), []⟩, 
  ⟨(some (57)), .move (.tmp 56), (some (54, false)), []⟩, 
  ⟨(some (58)), .fieldAddr 0 (.tmp 5), (some (57, true)), []⟩, 
  ⟨(some (59)), .load none (.tmp 58), (some (57, true)), []⟩, 
  ⟨(some (60)), .fieldAddr 6 (.tmp 1), (some (57, true)), [11, 12]⟩, 
  ⟨(some (61)), .load none (.tmp 60), (some (57, true)), [11, 12]⟩, 
  ⟨(some (62)), .move (.tmp 4), (some (57, true)), [11, 12, 13, 14]⟩, 
  ⟨(some (63)), .bin .plain .sub (.tmp 62) (.const (.int .i64 1)), (some (57, true)), [11, 12, 13, 14]⟩, 
  ⟨(some (64)), .indexAddr 9 (.tmp 61) (.tmp 63), (some (57, true)), [11, 12]⟩, 
  ⟨(some (65)), .fieldAddr 0 (.tmp 64), (some (57, true)), [11, 12]⟩, 
  ⟨(some (66)), .load none (.tmp 65), (some (57, true)), [11, 12]⟩, 
  ⟨(some (67)), .bin .plain .leq (.tmp 59) (.tmp 66), (some (57, true)), []⟩, 
  ⟨(some (68)), .pick (.tmp 57) (.tmp 67) (.const (.bool false)), (some (54, false)), []⟩, 
  ⟨(some (69)), .pick (.tmp 54) (.const (.bool true)) (.tmp 68), none, []⟩]
def k_ref03_Check_r15s : List (List AOper) := [
  [
  ⟨(some (47)), .move (.tmp 4), none, []⟩], 
  [
  ⟨(some (48)), .bin .plain .eql (.tmp 47) (.const (.int .i64 0)), none, []⟩], 
  [
  ⟨(some (49)), .move (.tmp 48), none, []⟩], 
  [
  ⟨(some (50)), .fieldAddr 0 (.tmp 5), (some (49, true)), []⟩], 
  [
  ⟨(some (51)), .load none (.tmp 50), (some (49, true)), []⟩], 
  [
  ⟨(some (52)), .bin .plain .neq (.tmp 51) (.const (.int .i64 0)), (some (49, true)), []⟩], 
  [
  ⟨(some (53)), .pick (.tmp 49) (.tmp 52) (.const (.bool false)), none, []⟩], 
  [
  ⟨(some (54)), .move (.tmp 53), none, []⟩], 
  [
  ⟨(some (55)), .move (.tmp 4), (some (54, false)), []⟩], 
  [
  ⟨(some (56)), .bin .plain .gtr (.tmp 55) (.const (.int .i64 0)), (some (54, false)), []⟩], 
  [
  ⟨(some (57)), .move (.tmp 56), (some (54, false)), []⟩], 
  [
  ⟨(some (58)), .fieldAddr 0 (.tmp 5), (some (57, true)), []⟩, 
  ⟨(some (59)), .load none (.tmp 58), (some (57, true)), []⟩, 
  ⟨(some (60)), .fieldAddr 6 (.tmp 1), (some (57, true)), [11, 12]⟩, 
  ⟨(some (61)), .load none (.tmp 60), (some (57, true)), [11, 12]⟩, 
  ⟨(some (62)), .move (.tmp 4), (some (57, true)), [11, 12, 13, 14]⟩, 
  ⟨(some (63)), .bin .plain .sub (.tmp 62) (.const (.int .i64 1)), (some (57, true)), [11, 12, 13, 14]⟩, 
  ⟨(some (64)), .indexAddr 9 (.tmp 61) (.tmp 63), (some (57, true)), [11, 12]⟩, 
  ⟨(some (65)), .fieldAddr 0 (.tmp 64), (some (57, true)), [11, 12]⟩, 
  ⟨(some (66)), .load none (.tmp 65), (some (57, true)), [11, 12]⟩], 
  [
  ⟨(some (67)), .bin .plain .leq (.tmp 59) (.tmp 66), (some (57, true)), []⟩], 
  [
  ⟨(some (68)), .pick (.tmp 57) (.tmp 67) (.const (.bool false)), (some (54, false)), []⟩], 
  [
  ⟨(some (69)), .pick (.tmp 54) (.const (.bool true)) (.tmp 68), none, []⟩]]
theorem k_ref03_Check_r15_sg : segs k_ref03_Check_r15 = k_ref03_Check_r15s := by kernel_rfl
theorem k_ref03_Check_r15_st : statOK k_ref03_Check_r15 = true := by kernel_rfl
def k_ref03_Check_r16 : List AOper := [
  ⟨(some (2)), .move (.const (.int .i64 11)), none, []⟩]
def k_ref03_Check_r17 : List AOper := [
  ⟨(some (70)), .fieldAddr 1 (.tmp 5), none, []⟩, 
  ⟨(some (71)), .load (some (2)) (.tmp 70), none, []⟩, 
  ⟨(some (72)), .fieldAddr 3 (.tmp 5), none, []⟩, 
  ⟨(some (73)), .load (some (2)) (.tmp 72), none, []⟩, 
  ⟨(some (74)), .fieldAddr 5 (.tmp 5), none, []⟩, 
  ⟨(some (75)), .load (some (2)) (.tmp 74), none, []⟩, 
  ⟨(some (76)), .fieldAddr 7 (.tmp 5), none, []⟩, 
  ⟨(some (77)), .load (some (2)) (.tmp 76), none, []⟩, 
  ⟨(some (78)), .buildSlice 2 [.tmp 71, .tmp 73, .tmp 75, .tmp 77], none, []⟩, 
  ⟨(some (79)), .call (.const (.fn (.func 70) [] [])) [.tmp 78, .const (.int .i64 1000000)], none, []⟩, 
  ⟨(some (6)), .move (.tmp 79), none, []⟩]
def k_ref03_Check_r18 : List AOper := [
  ⟨(some (80)), .move (.tmp 6), none, []⟩, 
  ⟨(some (81)), .bin .plain .neq (.tmp 80) (.const (.int .i64 0)), none, []⟩]
def k_ref03_Check_r19 : List AOper := [
  ⟨(some (82)), .move (.tmp 6), none, []⟩, 
  ⟨(some (2)), .move (.tmp 82), none, []⟩]
def k_ref03_Check_r20 : List AOper := [
  ⟨(some (37)), .move (.tmp 4), none, []⟩, 
  ⟨(some (38)), .bin .plain .add (.tmp 37) (.const (.int .i64 1)), none, []⟩, 
  ⟨(some (4)), .move (.tmp 38), none, []⟩]
def k_ref03_Check_r21 : ACode := (.seq (.seq (.reg k_ref03_Check_r11 false) (.cond (.tmp 36) .skip (.exit 0))) (.seq (.block 1 (.seq (.reg k_ref03_Check_r12 false) (.seq (.seq (.reg k_ref03_Check_r13 false) (.cond (.tmp 46) (.seq (.reg k_ref03_Check_r14 false) .ret) .skip)) (.seq (.seq (.reg k_ref03_Check_r15 true) (.cond (.tmp 69) (.seq (.reg k_ref03_Check_r16 false) .ret) .skip)) (.seq (.reg k_ref03_Check_r17 false) (.seq (.reg k_ref03_Check_r18 false) (.cond (.tmp 81) (.seq (.reg k_ref03_Check_r19 false) .ret) .skip))))))) (.reg k_ref03_Check_r20 false)))
def k_ref03_Check_r22 : List AOper := [
  ⟨(some (2)), .move (.const (.int .i64 0)), none, []⟩]
def k_ref03_Check : AFun := { params := 1, ntmps := 83, body := (.seq (.reg k_ref03_Check_r0 false) (.seq (.seq (.reg k_ref03_Check_r1 false) (.cond (.tmp 14) (.seq (.reg k_ref03_Check_r2 false) .ret) .skip)) (.seq (.seq (.reg k_ref03_Check_r3 false) (.seq (.reg k_ref03_Check_r4 false) (.cond (.tmp 22) (.seq (.reg k_ref03_Check_r5 false) .ret) .skip))) (.seq (.seq (.reg k_ref03_Check_r6 false) (.cond (.tmp 27) (.seq (.reg k_ref03_Check_r7 false) .ret) .skip)) (.seq (.seq (.reg k_ref03_Check_r8 false) (.cond (.tmp 31) (.seq (.reg k_ref03_Check_r9 false) .ret) .skip)) (.seq (.seq (.reg k_ref03_Check_r10 false) (.block 0 (.loop k_ref03_Check_r21))) (.seq (.reg k_ref03_Check_r22 false) .ret))))))), res := [.tmp 2] }
theorem k_ref03_Check_ok : cfun Try.prog Try.f26 = k_ref03_Check := by kernel_rfl

def k_ref03_CheckSchedule_r0 : List AOper := [
  ⟨(some (2)), .move (.const (.int .i64 0)), none, []⟩]
def k_ref03_CheckSchedule_r1 : List AOper := [
  ⟨(some (5)), .move (.tmp 0), none, []⟩, 
  ⟨(some (6)), .len false (.tmp 5), none, []⟩, 
  ⟨(some (7)), .bin .plain .gtr (.tmp 6) (.const (.int .i64 40)), none, []⟩]
def k_ref03_CheckSchedule_r2 : List AOper := [
  ⟨(some (2)), .move (.const (.int .i64 8)), none, []⟩]
def k_ref03_CheckSchedule_r3 : List AOper := [
  ⟨(some (3)), .move (.const (.int .i64 0)), none, []⟩]
def k_ref03_CheckSchedule_r4 : List AOper := [
  ⟨(some (4)), .move (.const (.int .i64 0)), none, []⟩]
def k_ref03_CheckSchedule_r5 : List AOper := [
  ⟨(some (8)), .move (.tmp 4), none, []⟩, 
  ⟨(some (9)), .move (.tmp 0), none, []⟩, 
  ⟨(some (10)), .len false (.tmp 9), none, []⟩, 
  ⟨(some (11)), .bin .plain .lss (.tmp 8) (.tmp 10), none, []⟩]
def k_ref03_CheckSchedule_r6 : List AOper := [
  ⟨(some (14)), .move (.tmp 0), none, []⟩, 
  ⟨(some (15)), .move (.tmp 4), none, []⟩, 
  ⟨(some (16)), .indexAddr 3 (.tmp 14) (.tmp 15), none, []⟩, 
  ⟨(some (17)), .fieldAddr 0 (.tmp 16), none, []⟩, 
  ⟨(some (18)), .load none (.tmp 17), none, []⟩, 
  ⟨(some (19)), .call (.const (.fn (.func 69) [] [])) [.tmp 18, .const (.int .i64 1), .const (.int .i64 2000)], none, []⟩, 
  ⟨(some (20)), .move (.tmp 19), none, []⟩, 
  ⟨(some (21)), .move (.tmp 0), (some (20, false)), []⟩, 
  ⟨(some (22)), .move (.tmp 4), (some (20, false)), []⟩, 
  ⟨(some (23)), .indexAddr 3 (.tmp 21) (.tmp 22), (some (20, false)), []⟩, 
  ⟨(some (24)), .fieldAddr 1 (.tmp 23), (some (20, false)), []⟩, 
  ⟨(some (25)), .load none (.tmp 24), (some (20, false)), []⟩, 
  ⟨(some (26)), .call (.const (.fn (.func 69) [] [])) [.tmp 25, .const (.int .i64 0), .const (.int .i64 2000)], (some (20, false)), []⟩, 
  ⟨(some (27)), .pick (.tmp 20) (.const (.bool true)) (.tmp 26), none, []⟩, 
  ⟨(some (28)), .move (.tmp 27), none, []⟩, 
  ⟨(some (29)), .move (.tmp 0), (some (28, false)), []⟩, 
  ⟨(some (30)), .move (.tmp 4), (some (28, false)), []⟩, 
  ⟨(some (31)), .indexAddr 3 (.tmp 29) (.tmp 30), (some (28, false)), []⟩, 
  ⟨(some (32)), .fieldAddr 2 (.tmp 31), (some (28, false)), []⟩, 
  ⟨(some (33)), .load none (.tmp 32), (some (28, false)), []⟩, 
  ⟨(some (34)), .call (.const (.fn (.func 69) [] [])) [.tmp 33, .const (.int .i64 0), .const (.int .i64 1000)], (some (28, false)), []⟩, 
  ⟨(some (35)), .pick (.tmp 28) (.const (.bool true)) (.tmp 34), none, []⟩]
def k_ref03_CheckSchedule_r7 : List AOper := [
  ⟨(some (2)), .move (.const (.int .i64 2)), none, []⟩]
def k_ref03_CheckSchedule_r8 : List AOper := [
  ⟨(some (36)), .move (.tmp 3), none, []⟩, 
  ⟨(some (37)), .move (.tmp 0), none, []⟩, 
  ⟨(some (38)), .move (.tmp 4), none, []⟩, 
  ⟨(some (39)), .indexAddr 3 (.tmp 37) (.tmp 38), none, []⟩, 
  ⟨(some (40)), .fieldAddr 0 (.tmp 39), none, []⟩, 
  ⟨(some (41)), .load none (.tmp 40), none, []⟩, 
  ⟨(some (42)), .bin .plain .add (.tmp 36) (.tmp 41), none, []⟩, 
  ⟨(some (3)), .move (.tmp 42), none, []⟩]
def k_ref03_CheckSchedule_r9 : List AOper := [
  ⟨(some (12)), .move (.tmp 4), none, []⟩, 
  ⟨(some (13)), .bin .plain .add (.tmp 12) (.const (.int .i64 1)), none, []⟩, 
  ⟨(some (4)), .move (.tmp 13), none, []⟩]
def k_ref03_CheckSchedule_r10 : ACode := (.seq (.seq (.reg k_ref03_CheckSchedule_r5 false) (.cond (.tmp 11) .skip (.exit 0))) (.seq (.block 1 (.seq (.seq (.reg k_ref03_CheckSchedule_r6 false) (.cond (.tmp 35) (.seq (.reg k_ref03_CheckSchedule_r7 false) .ret) .skip)) (.reg k_ref03_CheckSchedule_r8 false))) (.reg k_ref03_CheckSchedule_r9 false)))
def k_ref03_CheckSchedule_r11 : List AOper := [
  ⟨(some (43)), .move (.tmp 3), none, []⟩, 
  ⟨(some (44)), .bin .plain .gtr (.tmp 43) (.const (.int .i64 20000)), none, []⟩]
def k_ref03_CheckSchedule_r12 : List AOper := [
  ⟨(some (2)), .move (.const (.int .i64 5)), none, []⟩]
def k_ref03_CheckSchedule_r13 : List AOper := [
  ⟨(some (2)), .move (.const (.int .i64 0)), none, []⟩]
def k_ref03_CheckSchedule : AFun := { params := 1, ntmps := 45, body := (.seq (.reg k_ref03_CheckSchedule_r0 false) (.seq (.seq (.reg k_ref03_CheckSchedule_r1 false) (.cond (.tmp 7) (.seq (.reg k_ref03_CheckSchedule_r2 false) .ret) .skip)) (.seq (.reg k_ref03_CheckSchedule_r3 false) (.seq (.seq (.reg k_ref03_CheckSchedule_r4 false) (.block 0 (.loop k_ref03_CheckSchedule_r10))) (.seq (.seq (.reg k_ref03_CheckSchedule_r11 false) (.cond (.tmp 44) (.seq (.reg k_ref03_CheckSchedule_r12 false) .ret) .skip)) (.seq (.reg k_ref03_CheckSchedule_r13 false) .ret)))))), res := [.tmp 2] }
theorem k_ref03_CheckSchedule_ok : cfun Try.prog Try.f30 = k_ref03_CheckSchedule := by kernel_rfl

def k_ref03_Follow_r0 : List AOper := [
  ⟨(some (2)), .box (.tmp 0), none, []⟩, 
  ⟨(some (4)), .move (.const (.nilsl)), none, []⟩, 
  ⟨(some (5)), .move (.const (.int .i64 0)), none, []⟩]
def k_ref03_Follow_r1 : List AOper := [
  ⟨(some (12)), .load (some (7)) (.tmp 2), none, []⟩, 
  ⟨(some (13)), .call (.const (.fn (.func 26) [] [])) [.tmp 12], none, []⟩, 
  ⟨(some (6)), .move (.tmp 13), none, []⟩]
def k_ref03_Follow_r2 : List AOper := [
  ⟨(some (14)), .move (.tmp 6), none, []⟩, 
  ⟨(some (15)), .bin .plain .neq (.tmp 14) (.const (.int .i64 0)), none, []⟩]
def k_ref03_Follow_r3 : List AOper := [
  ⟨(some (16)), .move (.tmp 6), none, []⟩, 
  ⟨(some (4)), .move (.const (.nilsl)), none, []⟩, 
  ⟨(some (5)), .move (.tmp 16), none, []⟩]
def k_ref03_Follow_r4 : List AOper := [
  ⟨(some (17)), .move (.tmp 1), none, []⟩, 
  ⟨(some (18)), .call (.const (.fn (.func 30) [] [])) [.tmp 17], none, []⟩, 
  ⟨(some (7)), .move (.tmp 18), none, []⟩]
def k_ref03_Follow_r5 : List AOper := [
  ⟨(some (19)), .move (.tmp 7), none, []⟩, 
  ⟨(some (20)), .bin .plain .neq (.tmp 19) (.const (.int .i64 0)), none, []⟩]
def k_ref03_Follow_r6 : List AOper := [
  ⟨(some (21)), .move (.tmp 7), none, []⟩, 
  ⟨(some (4)), .move (.const (.nilsl)), none, []⟩, 
  ⟨(some (5)), .move (.tmp 21), none, []⟩]
def k_ref03_Follow_r7 : List AOper := [
  ⟨(some (22)), .load (some (7)) (.tmp 2), none, []⟩, 
  ⟨(some (23)), .move (.tmp 1), none, []⟩, 
  ⟨(some (24)), .call (.const (.fn (.func 77) [] [])) [.tmp 22, .tmp 23], none, []⟩, 
  ⟨(some (8)), .move (.tmp 24), none, []⟩]
def k_ref03_Follow_r8 : List AOper := [
  ⟨(some (9)), .move (.const (.nilsl)), none, []⟩]
def k_ref03_Follow_r9 : List AOper := [
  ⟨(some (10)), .move (.const (.int .i64 0)), none, []⟩]
def k_ref03_Follow_r10 : List AOper := [
  ⟨(some (11)), .move (.const (.int .i64 0)), none, []⟩]
def k_ref03_Follow_r11 : List AOper := [
  ⟨(some (25)), .move (.tmp 11), none, []⟩, 
  ⟨(some (26)), .move (.tmp 1), none, []⟩, 
  ⟨(some (27)), .len false (.tmp 26), none, []⟩, 
  ⟨(some (28)), .bin .plain .lss (.tmp 25) (.tmp 27), none, []⟩]
def k_ref03_Follow_r12 : List AOper := [
  ⟨(some (31)), .move (.tmp 10), none, []⟩, 
  ⟨(some (32)), .move (.tmp 1), none, []⟩, 
  ⟨(some (33)), .move (.tmp 11), none, []⟩, 
  ⟨(some (34)), .indexAddr 3 (.tmp 32) (.tmp 33), none, []⟩, 
  ⟨(some (35)), .fieldAddr 0 (.tmp 34), none, []⟩, 
  ⟨(some (36)), .load none (.tmp 35), none, []⟩, 
  ⟨(some (37)), .bin .plain .add (.tmp 31) (.tmp 36), none, []⟩, 
  ⟨(some (10)), .move (.tmp 37), none, []⟩]
def k_ref03_Follow_r13 : List AOper := [
  ⟨(some (38)), .move (.tmp 9), none, []⟩, 
  ⟨(some (39)), .move (.tmp 8), none, []⟩, 
  ⟨(some (40)), .move (.tmp 10), none, []⟩, 
  ⟨(some (41)), .indexAddr 13 (.tmp 39) (.tmp 40), none, []⟩, 
  ⟨(some (42)), .load (some (13)) (.tmp 41), none, []⟩, 
  ⟨(some (43)), .buildSlice 13 [.tmp 42], none, []⟩, 
  ⟨(some (44)), .append 13 104 true (.tmp 38) (.tmp 43), none, []⟩, 
  ⟨(some (9)), .move (.tmp 44), none, []⟩]
def k_ref03_Follow_r14 : List AOper := [
  ⟨(some (29)), .move (.tmp 11), none, []⟩, 
  ⟨(some (30)), .bin .plain .add (.tmp 29) (.const (.int .i64 1)), none, []⟩, 
  ⟨(some (11)), .move (.tmp 30), none, []⟩]
def k_ref03_Follow_r15 : ACode := (.seq (.seq (.reg k_ref03_Follow_r11 false) (.cond (.tmp 28) .skip (.exit 0))) (.seq (.block 1 (.seq (.reg k_ref03_Follow_r12 false) (.reg k_ref03_Follow_r13 false))) (.reg k_ref03_Follow_r14 false)))
def k_ref03_Follow_r16 : List AOper := [
  ⟨(some (45)), .move (.tmp 9), none, []⟩, 
  ⟨(some (4)), .move (.tmp 45), none, []⟩, 
  ⟨(some (5)), .move (.const (.int .i64 0)), none, []⟩]
def k_ref03_Follow : AFun := { params := 2, ntmps := 46, body := (.seq (.reg k_ref03_Follow_r0 false) (.seq (.seq (.reg k_ref03_Follow_r1 false) (.seq (.reg k_ref03_Follow_r2 false) (.cond (.tmp 15) (.seq (.reg k_ref03_Follow_r3 false) .ret) .skip))) (.seq (.seq (.reg k_ref03_Follow_r4 false) (.seq (.reg k_ref03_Follow_r5 false) (.cond (.tmp 20) (.seq (.reg k_ref03_Follow_r6 false) .ret) .skip))) (.seq (.reg k_ref03_Follow_r7 false) (.seq (.reg k_ref03_Follow_r8 false) (.seq (.reg k_ref03_Follow_r9 false) (.seq (.seq (.reg k_ref03_Follow_r10 false) (.block 0 (.loop k_ref03_Follow_r15))) (.seq (.reg k_ref03_Follow_r16 false) .ret)))))))), res := [.tmp 4, .tmp 5] }
theorem k_ref03_Follow_ok : cfun Try.prog Try.f34 = k_ref03_Follow := by kernel_rfl

def k_kit_DemandOf_r0 : List AOper := [
  ⟨(some (4)), .box (.tmp 1), none, []⟩, 
  ⟨(some (6)), .box (.const (.agg [.int .i64 0, .int .i64 0, .int .i64 0, .int .i64 0, .int .i64 0])), none, []⟩]
def k_kit_DemandOf_r1 : List AOper := [
  ⟨(some (7)), .box (.const (.agg [.int .i64 0, .int .i64 0, .int .i64 0, .int .i64 0, .int .i64 0, .int .i64 0, .int .i64 0, .int .i64 0, .int .i64 0, .int .i64 0, .int .i64 0, .int .i64 0, .int .i64 0])), none, []⟩]
def k_kit_DemandOf_r2 : List AOper := [
  ⟨(some (8)), .move (.const (.int .i64 0)), none, []⟩]
def k_kit_DemandOf_r3 : List AOper := [
  ⟨(some (13)), .load (some (7)) (.tmp 4), none, []⟩, 
  ⟨(some (14)), .move (.tmp 2), none, []⟩, 
  ⟨(some (15)), .call (.const (.fn (.func 34) [] [])) [.tmp 13, .tmp 14], none, []⟩, 
  ⟨(some (12)), .move (.tmp 15), none, []⟩, 
  ⟨(some (16)), .extract (.tmp 12) 0, none, []⟩, 
  ⟨(some (17)), .extract (.tmp 12) 1, none, []⟩, 
  ⟨(some (9)), .move (.tmp 16), none, []⟩, 
  ⟨(some (10)), .move (.tmp 17), none, []⟩]
def k_kit_DemandOf_r4 : List AOper := [
  ⟨(some (18)), .move (.tmp 9), none, []⟩, 
  ⟨(some (19)), .len false (.tmp 18), none, []⟩, 
  ⟨(some (20)), .bin .plain .gtr (.tmp 19) (.const (.int .i64 0)), none, []⟩]
def k_kit_DemandOf_r5 : List AOper := [
  ⟨(some (21)), .move (.tmp 9), none, []⟩, 
  ⟨(some (22)), .move (.tmp 9), none, []⟩, 
  ⟨(some (23)), .len false (.tmp 22), none, []⟩, 
  ⟨(some (24)), .bin .plain .sub (.tmp 23) (.const (.int .i64 1)), none, []⟩, 
  ⟨(some (25)), .indexAddr 13 (.tmp 21) (.tmp 24), none, []⟩, 
  ⟨(some (26)), .load (some (13)) (.tmp 25), none, []⟩, 
  ⟨none, .store 13 (.tmp 7) (.tmp 26), none, []⟩]
def k_kit_DemandOf_r6 : List AOper := [
  ⟨(some (11)), .move (.const (.int .i64 0)), none, []⟩]
def k_kit_DemandOf_r7 : List AOper := [
  ⟨(some (27)), .move (.tmp 11), none, []⟩, 
  ⟨(some (28)), .move (.tmp 9), none, []⟩, 
  ⟨(some (29)), .len false (.tmp 28), none, []⟩, 
  ⟨(some (30)), .bin .plain .lss (.tmp 27) (.tmp 29), none, []⟩]
def k_kit_DemandOf_r8 : List AOper := [
  ⟨(some (33)), .move (.tmp 8), none, []⟩, 
  ⟨(some (34)), .move (.tmp 9), none, []⟩, 
  ⟨(some (35)), .move (.tmp 11), none, []⟩, 
  ⟨(some (36)), .indexAddr 13 (.tmp 34) (.tmp 35), none, []⟩, 
  ⟨(some (37)), .fieldAddr 8 (.tmp 36), none, []⟩, 
  ⟨(some (38)), .fieldAddr 1 (.tmp 37), none, []⟩, 
  ⟨(some (39)), .load none (.tmp 38), none, []⟩, 
  ⟨(some (40)), .minmax true [.tmp 33, .tmp 39], none, []⟩, 
  ⟨(some (8)), .move (.tmp 40), none, []⟩]
def k_kit_DemandOf_r9 : List AOper := [
  ⟨(some (31)), .move (.tmp 11), none, []⟩, 
  ⟨(some (32)), .bin .plain .add (.tmp 31) (.const (.int .i64 1)), none, []⟩, 
  ⟨(some (11)), .move (.tmp 32), none, []⟩]
def k_kit_DemandOf_r10 : ACode := (.seq (.seq (.reg k_kit_DemandOf_r7 false) (.cond (.tmp 30) .skip (.exit 0))) (.seq (.block 1 (.reg k_kit_DemandOf_r8 false)) (.reg k_kit_DemandOf_r9 false)))
def k_kit_DemandOf_r11 : List AOper := [
  ⟨(some (41)), .move (.tmp 8), none, []⟩, 
  ⟨(some (42)), .move (.tmp 0), none, [0]⟩, 
  ⟨(some (43)), .move (.tmp 8), none, [0, 1]⟩, 
  ⟨(some (44)), .bin .plain .add (.tmp 43) (.const (.int .i64 2)), none, [0, 1]⟩, 
  ⟨(some (45)), .call (.const (.fn (.func 23) [] [])) [.tmp 42, .tmp 44], none, [0]⟩, 
  ⟨(some (46)), .fieldAddr 0 (.tmp 4), none, [0, 1, 2, 3, 4]⟩, 
  ⟨(some (47)), .load none (.tmp 46), none, [0, 1, 2, 3, 4]⟩, 
  ⟨(some (48)), .buildSlice 1 [.tmp 41, .tmp 45, .tmp 47], none, []⟩, 
  ⟨(some (49)), .move (.tmp 0), none, [0, 1, 2, 3, 4, 5, 6, 7]⟩, 
  ⟨(some (50)), .call (.const (.fn (.func 23) [] [])) [.tmp 49, .const (.int .i64 3)], none, [0, 5, 6, 7]⟩, 
  ⟨(some (51)), .indexAddr 1 (.tmp 48) (.tmp 50), none, []⟩, 
  ⟨(some (52)), .load none (.tmp 51), none, []⟩, 
  ⟨(some (53)), .move (.tmp 0), none, [0, 1, 2, 3, 4, 5, 6, 7, 8, 9, 10, 11]⟩, 
  ⟨(some (54)), .fieldAddr 10 (.tmp 7), none, [0, 1, 2, 3, 4, 5, 6, 7, 8, 9, 10, 11, 12]⟩, 
  ⟨(some (55)), .load (some (2)) (.tmp 54), none, [0, 1, 2, 3, 4, 5, 6, 7, 8, 9, 10, 11, 12]⟩, 
  ⟨(some (56)), .call (.const (.fn (.func 91) [] [])) [.tmp 53, .tmp 55], none, [0, 5, 6, 7, 10, 11]⟩, 
  ⟨(some (57)), .move (.tmp 0), none, [0, 1, 2, 3, 4, 5, 6, 7, 8, 9, 10, 11, 12, 13, 14, 15]⟩, 
  ⟨(some (58)), .fieldAddr 6 (.tmp 7), none, [0, 1, 2, 3, 4, 5, 6, 7, 8, 9, 10, 11, 12, 13, 14, 15, 16]⟩, 
  ⟨(some (59)), .load (some (2)) (.tmp 58), none, [0, 1, 2, 3, 4, 5, 6, 7, 8, 9, 10, 11, 12, 13, 14, 15, 16]⟩, 
  ⟨(some (60)), .call (.const (.fn (.func 91) [] [])) [.tmp 57, .tmp 59], none, [0, 5, 6, 7, 10, 11]⟩, 
  ⟨(some (61)), .move (.tmp 0), none, [0, 1, 2, 3, 4, 5, 6, 7, 8, 9, 10, 11, 12, 13, 14, 15, 16, 17, 18, 19]⟩, 
  ⟨(some (62)), .fieldAddr 0 (.tmp 7), none, [0, 1, 2, 3, 4, 5, 6, 7, 8, 9, 10, 11, 12, 13, 14, 15, 16, 17, 18, 19, 20]⟩, 
  ⟨(some (63)), .load (some (2)) (.tmp 62), none, [0, 1, 2, 3, 4, 5, 6, 7, 8, 9, 10, 11, 12, 13, 14, 15, 16, 17, 18, 19, 20]⟩, 
  ⟨(some (64)), .call (.const (.fn (.func 91) [] [])) [.tmp 61, .tmp 63], none, [0, 5, 6, 7, 10, 11]⟩, 
  ⟨(some (65)), .fieldAddr 4 (.tmp 7), none, [0, 1, 2, 3, 4, 5, 6, 7, 8, 9, 10, 11, 12, 13, 14, 15, 16, 17, 18, 19, 20, 21, 22, 23]⟩, 
  ⟨(some (66)), .fieldAddr 0 (.tmp 65), none, [0, 1, 2, 3, 4, 5, 6, 7, 8, 9, 10, 11, 12, 13, 14, 15, 16, 17, 18, 19, 20, 21, 22, 23]⟩, 
  ⟨(some (67)), .load none (.tmp 66), none, [0, 1, 2, 3, 4, 5, 6, 7, 8, 9, 10, 11, 12, 13, 14, 15, 16, 17, 18, 19, 20, 21, 22, 23]⟩, 
  ⟨(some (68)), .fieldAddr 4 (.tmp 7), none, [0, 1, 2, 3, 4, 5, 6, 7, 8, 9, 10, 11, 12, 13, 14, 15, 16, 17, 18, 19, 20, 21, 22, 23, 24, 25, 26]⟩, 
  ⟨(some (69)), .fieldAddr 1 (.tmp 68), none, [0, 1, 2, 3, 4, 5, 6, 7, 8, 9, 10, 11, 12, 13, 14, 15, 16, 17, 18, 19, 20, 21, 22, 23, 24, 25, 26]⟩, 
  ⟨(some (70)), .load none (.tmp 69), none, [0, 1, 2, 3, 4, 5, 6, 7, 8, 9, 10, 11, 12, 13, 14, 15, 16, 17, 18, 19, 20, 21, 22, 23, 24, 25, 26]⟩, 
  ⟨(some (71)), .move (.tmp 0), none, [0, 1, 2, 3, 4, 5, 6, 7, 8, 9, 10, 11, 12, 13, 14, 15, 16, 17, 18, 19, 20, 21, 22, 23, 24, 25, 26, 27, 28, 29]⟩, 
  ⟨(some (72)), .fieldAddr 4 (.tmp 7), none, [0, 1, 2, 3, 4, 5, 6, 7, 8, 9, 10, 11, 12, 13, 14, 15, 16, 17, 18, 19, 20, 21, 22, 23, 24, 25, 26, 27, 28, 29, 30]⟩, 
  ⟨(some (73)), .load (some (2)) (.tmp 72), none, [0, 1, 2, 3, 4, 5, 6, 7, 8, 9, 10, 11, 12, 13, 14, 15, 16, 17, 18, 19, 20, 21, 22, 23, 24, 25, 26, 27, 28, 29, 30]⟩, 
  ⟨(some (74)), .call (.const (.fn (.func 92) [] [])) [.tmp 71, .tmp 73], none, [0, 5, 6, 7, 10, 11, 24, 25, 26, 27, 28, 29]⟩, 
  ⟨(some (75)), .buildSlice 1 [.const (.int .i64 0), .tmp 67, .tmp 70, .tmp 74], none, [0, 5, 6, 7, 10, 11]⟩, 
  ⟨(some (76)), .move (.tmp 0), none, [0, 1, 2, 3, 4, 5, 6, 7, 8, 9, 10, 11, 12, 13, 14, 15, 16, 17, 18, 19, 20, 21, 22, 23, 24, 25, 26, 27, 28, 29, 30, 31, 32, 33, 34]⟩, 
  ⟨(some (77)), .call (.const (.fn (.func 23) [] [])) [.tmp 76, .const (.int .i64 4)], none, [0, 5, 6, 7, 10, 11, 24, 25, 26, 27, 28, 29, 34]⟩, 
  ⟨(some (78)), .indexAddr 1 (.tmp 75) (.tmp 77), none, [0, 5, 6, 7, 10, 11]⟩, 
  ⟨(some (79)), .load none (.tmp 78), none, [0, 5, 6, 7, 10, 11]⟩, 
  ⟨(some (80)), .build [.int .i64 0, .int .i64 0, .int .i64 0, .int .i64 0, .int .i64 0] [(0, 1, .tmp 52), (1, 1, .tmp 56), (2, 1, .tmp 60), (3, 1, .tmp 64), (4, 1, .tmp 79)], none, []⟩, 
  ⟨none, .store 5 (.tmp 6) (.tmp 80), none, []⟩]
def k_kit_DemandOf_r11s : List (List AOper) := [
  [
  ⟨(some (41)), .move (.tmp 8), none, []⟩, 
  ⟨(some (42)), .move (.tmp 0), none, [0]⟩, 
  ⟨(some (43)), .move (.tmp 8), none, [0, 1]⟩, 
  ⟨(some (44)), .bin .plain .add (.tmp 43) (.const (.int .i64 2)), none, [0, 1]⟩, 
  ⟨(some (45)), .call (.const (.fn (.func 23) [] [])) [.tmp 42, .tmp 44], none, [0]⟩, 
  ⟨(some (46)), .fieldAddr 0 (.tmp 4), none, [0, 1, 2, 3, 4]⟩, 
  ⟨(some (47)), .load none (.tmp 46), none, [0, 1, 2, 3, 4]⟩, 
  ⟨(some (48)), .buildSlice 1 [.tmp 41, .tmp 45, .tmp 47], none, []⟩, 
  ⟨(some (49)), .move (.tmp 0), none, [0, 1, 2, 3, 4, 5, 6, 7]⟩, 
  ⟨(some (50)), .call (.const (.fn (.func 23) [] [])) [.tmp 49, .const (.int .i64 3)], none, [0, 5, 6, 7]⟩, 
  ⟨(some (51)), .indexAddr 1 (.tmp 48) (.tmp 50), none, []⟩, 
  ⟨(some (52)), .load none (.tmp 51), none, []⟩, 
  ⟨(some (53)), .move (.tmp 0), none, [0, 1, 2, 3, 4, 5, 6, 7, 8, 9, 10, 11]⟩, 
  ⟨(some (54)), .fieldAddr 10 (.tmp 7), none, [0, 1, 2, 3, 4, 5, 6, 7, 8, 9, 10, 11, 12]⟩, 
  ⟨(some (55)), .load (some (2)) (.tmp 54), none, [0, 1, 2, 3, 4, 5, 6, 7, 8, 9, 10, 11, 12]⟩, 
  ⟨(some (56)), .call (.const (.fn (.func 91) [] [])) [.tmp 53, .tmp 55], none, [0, 5, 6, 7, 10, 11]⟩, 
  ⟨(some (57)), .move (.tmp 0), none, [0, 1, 2, 3, 4, 5, 6, 7, 8, 9, 10, 11, 12, 13, 14, 15]⟩, 
  ⟨(some (58)), .fieldAddr 6 (.tmp 7), none, [0, 1, 2, 3, 4, 5, 6, 7, 8, 9, 10, 11, 12, 13, 14, 15, 16]⟩, 
  ⟨(some (59)), .load (some (2)) (.tmp 58), none, [0, 1, 2, 3, 4, 5, 6, 7, 8, 9, 10, 11, 12, 13, 14, 15, 16]⟩, 
  ⟨(some (60)), .call (.const (.fn (.func 91) [] [])) [.tmp 57, .tmp 59], none, [0, 5, 6, 7, 10, 11]⟩, 
  ⟨(some (61)), .move (.tmp 0), none, [0, 1, 2, 3, 4, 5, 6, 7, 8, 9, 10, 11, 12, 13, 14, 15, 16, 17, 18, 19]⟩, 
  ⟨(some (62)), .fieldAddr 0 (.tmp 7), none, [0, 1, 2, 3, 4, 5, 6, 7, 8, 9, 10, 11, 12, 13, 14, 15, 16, 17, 18, 19, 20]⟩, 
  ⟨(some (63)), .load (some (2)) (.tmp 62), none, [0, 1, 2, 3, 4, 5, 6, 7, 8, 9, 10, 11, 12, 13, 14, 15, 16, 17, 18, 19, 20]⟩, 
  ⟨(some (64)), .call (.const (.fn (.func 91) [] [])) [.tmp 61, .tmp 63], none, [0, 5, 6, 7, 10, 11]⟩, 
  ⟨(some (65)), .fieldAddr 4 (.tmp 7), none, [0, 1, 2, 3, 4, 5, 6, 7, 8, 9, 10, 11, 12, 13, 14, 15, 16, 17, 18, 19, 20, 21, 22, 23]⟩, 
  ⟨(some (66)), .fieldAddr 0 (.tmp 65), none, [0, 1, 2, 3, 4, 5, 6, 7, 8, 9, 10, 11, 12, 13, 14, 15, 16, 17, 18, 19, 20, 21, 22, 23]⟩, 
  ⟨(some (67)), .load none (.tmp 66), none, [0, 1, 2, 3, 4, 5, 6, 7, 8, 9, 10, 11, 12, 13, 14, 15, 16, 17, 18, 19, 20, 21, 22, 23]⟩, 
  ⟨(some (68)), .fieldAddr 4 (.tmp 7), none, [0, 1, 2, 3, 4, 5, 6, 7, 8, 9, 10, 11, 12, 13, 14, 15, 16, 17, 18, 19, 20, 21, 22, 23, 24, 25, 26]⟩, 
  ⟨(some (69)), .fieldAddr 1 (.tmp 68), none, [0, 1, 2, 3, 4, 5, 6, 7, 8, 9, 10, 11, 12, 13, 14, 15, 16, 17, 18, 19, 20, 21, 22, 23, 24, 25, 26]⟩, 
  ⟨(some (70)), .load none (.tmp 69), none, [0, 1, 2, 3, 4, 5, 6, 7, 8, 9, 10, 11, 12, 13, 14, 15, 16, 17, 18, 19, 20, 21, 22, 23, 24, 25, 26]⟩, 
  ⟨(some (71)), .move (.tmp 0), none, [0, 1, 2, 3, 4, 5, 6, 7, 8, 9, 10, 11, 12, 13, 14, 15, 16, 17, 18, 19, 20, 21, 22, 23, 24, 25, 26, 27, 28, 29]⟩, 
  ⟨(some (72)), .fieldAddr 4 (.tmp 7), none, [0, 1, 2, 3, 4, 5, 6, 7, 8, 9, 10, 11, 12, 13, 14, 15, 16, 17, 18, 19, 20, 21, 22, 23, 24, 25, 26, 27, 28, 29, 30]⟩, 
  ⟨(some (73)), .load (some (2)) (.tmp 72), none, [0, 1, 2, 3, 4, 5, 6, 7, 8, 9, 10, 11, 12, 13, 14, 15, 16, 17, 18, 19, 20, 21, 22, 23, 24, 25, 26, 27, 28, 29, 30]⟩, 
  ⟨(some (74)), .call (.const (.fn (.func 92) [] [])) [.tmp 71, .tmp 73], none, [0, 5, 6, 7, 10, 11, 24, 25, 26, 27, 28, 29]⟩, 
  ⟨(some (75)), .buildSlice 1 [.const (.int .i64 0), .tmp 67, .tmp 70, .tmp 74], none, [0, 5, 6, 7, 10, 11]⟩, 
  ⟨(some (76)), .move (.tmp 0), none, [0, 1, 2, 3, 4, 5, 6, 7, 8, 9, 10, 11, 12, 13, 14, 15, 16, 17, 18, 19, 20, 21, 22, 23, 24, 25, 26, 27, 28, 29, 30, 31, 32, 33, 34]⟩, 
  ⟨(some (77)), .call (.const (.fn (.func 23) [] [])) [.tmp 76, .const (.int .i64 4)], none, [0, 5, 6, 7, 10, 11, 24, 25, 26, 27, 28, 29, 34]⟩, 
  ⟨(some (78)), .indexAddr 1 (.tmp 75) (.tmp 77), none, [0, 5, 6, 7, 10, 11]⟩, 
  ⟨(some (79)), .load none (.tmp 78), none, [0, 5, 6, 7, 10, 11]⟩], 
  [
  ⟨(some (80)), .build [.int .i64 0, .int .i64 0, .int .i64 0, .int .i64 0, .int .i64 0] [(0, 1, .tmp 52), (1, 1, .tmp 56), (2, 1, .tmp 60), (3, 1, .tmp 64), (4, 1, .tmp 79)], none, []⟩], 
  [
  ⟨none, .store 5 (.tmp 6) (.tmp 80), none, []⟩]]
theorem k_kit_DemandOf_r11_sg : segs k_kit_DemandOf_r11 = k_kit_DemandOf_r11s := by kernel_rfl
theorem k_kit_DemandOf_r11_st : statOK k_kit_DemandOf_r11 = true := by kernel_rfl
def k_kit_DemandOf : AFun := { params := 3, ntmps := 81, body := (.seq (.reg k_kit_DemandOf_r0 false) (.seq (.reg k_kit_DemandOf_r1 false) (.seq (.reg k_kit_DemandOf_r2 false) (.seq (.reg k_kit_DemandOf_r3 false) (.seq (.seq (.reg k_kit_DemandOf_r4 false) (.cond (.tmp 20) (.reg k_kit_DemandOf_r5 false) .skip)) (.seq (.seq (.reg k_kit_DemandOf_r6 false) (.block 0 (.loop k_kit_DemandOf_r10))) (.seq (.reg k_kit_DemandOf_r11 true) .ret))))))), res := [.cell 6 (some ((some (5))))] }
theorem k_kit_DemandOf_ok : cfun Try.prog Try.f45 = k_kit_DemandOf := by kernel_rfl

def k_ref03_beyond_r0 : List AOper := [
  ⟨(some (6)), .move (.const (.bool false)), none, []⟩]
def k_ref03_beyond_r1 : List AOper := [
  ⟨(some (7)), .move (.tmp 0), none, []⟩, 
  ⟨(some (8)), .move (.tmp 1), none, []⟩, 
  ⟨(some (9)), .bin .plain .lss (.tmp 7) (.tmp 8), none, []⟩, 
  ⟨(some (10)), .move (.tmp 9), none, []⟩, 
  ⟨(some (11)), .move (.tmp 0), (some (10, false)), []⟩, 
  ⟨(some (12)), .move (.tmp 2), (some (10, false)), []⟩, 
  ⟨(some (13)), .bin .plain .gtr (.tmp 11) (.tmp 12), (some (10, false)), []⟩, 
  ⟨(some (14)), .pick (.tmp 10) (.const (.bool true)) (.tmp 13), none, []⟩, 
  ⟨(some (6)), .move (.tmp 14), none, []⟩]
def k_ref03_beyond : AFun := { params := 3, ntmps := 15, body := (.seq (.reg k_ref03_beyond_r0 false) (.seq (.reg k_ref03_beyond_r1 false) .ret)), res := [.tmp 6] }
theorem k_ref03_beyond_ok : cfun Try.prog Try.f69 = k_ref03_beyond := by kernel_rfl

def k_ref03_checkRanges_r0 : List AOper := [
  ⟨(some (4)), .move (.const (.int .i64 0)), none, []⟩]
def k_ref03_checkRanges_r1 : List AOper := [
  ⟨(some (5)), .move (.const (.int .i64 0)), none, []⟩]
def k_ref03_checkRanges_r2 : List AOper := [
  ⟨(some (7)), .move (.tmp 5), none, []⟩, 
  ⟨(some (8)), .move (.tmp 0), none, []⟩, 
  ⟨(some (9)), .len false (.tmp 8), none, []⟩, 
  ⟨(some (10)), .bin .plain .lss (.tmp 7) (.tmp 9), none, []⟩]
def k_ref03_checkRanges_r3 : List AOper := [
  ⟨(some (13)), .move (.tmp 0), none, []⟩, 
  ⟨(some (14)), .move (.tmp 5), none, []⟩, 
  ⟨(some (15)), .indexAddr 2 (.tmp 13) (.tmp 14), none, []⟩, 
  ⟨(some (16)), .load (some (2)) (.tmp 15), none, []⟩, 
  ⟨(some (17)), .move (.tmp 1), none, []⟩, 
  ⟨(some (18)), .call (.const (.fn (.func 71) [] [])) [.tmp 16, .tmp 17], none, []⟩, 
  ⟨(some (6)), .move (.tmp 18), none, []⟩]
def k_ref03_checkRanges_r4 : List AOper := [
  ⟨(some (19)), .move (.tmp 6), none, []⟩, 
  ⟨(some (20)), .bin .plain .neq (.tmp 19) (.const (.int .i64 0)), none, []⟩]
def k_ref03_checkRanges_r5 : List AOper := [
  ⟨(some (21)), .move (.tmp 6), none, []⟩, 
  ⟨(some (4)), .move (.tmp 21), none, []⟩]
def k_ref03_checkRanges_r6 : List AOper := [
  ⟨(some (11)), .move (.tmp 5), none, []⟩, 
  ⟨(some (12)), .bin .plain .add (.tmp 11) (.const (.int .i64 1)), none, []⟩, 
  ⟨(some (5)), .move (.tmp 12), none, []⟩]
def k_ref03_checkRanges_r7 : ACode := (.seq (.seq (.reg k_ref03_checkRanges_r2 false) (.cond (.tmp 10) .skip (.exit 0))) (.seq (.block 1 (.seq (.reg k_ref03_checkRanges_r3 false) (.seq (.reg k_ref03_checkRanges_r4 false) (.cond (.tmp 20) (.seq (.reg k_ref03_checkRanges_r5 false) .ret) .skip)))) (.reg k_ref03_checkRanges_r6 false)))
def k_ref03_checkRanges_r8 : List AOper := [
  ⟨(some (4)), .move (.const (.int .i64 0)), none, []⟩]
def k_ref03_checkRanges : AFun := { params := 2, ntmps := 22, body := (.seq (.reg k_ref03_checkRanges_r0 false) (.seq (.seq (.reg k_ref03_checkRanges_r1 false) (.block 0 (.loop k_ref03_checkRanges_r7))) (.seq (.reg k_ref03_checkRanges_r8 false) .ret))), res := [.tmp 4] }
theorem k_ref03_checkRanges_ok : cfun Try.prog Try.f70 = k_ref03_checkRanges := by kernel_rfl

def k_ref03_checkRange_r0 : List AOper := [
  ⟨(some (2)), .box (.tmp 0), none, []⟩, 
  ⟨(some (4)), .move (.const (.int .i64 0)), none, []⟩]
def k_ref03_checkRange_r1 : List AOper := [
  ⟨(some (5)), .fieldAddr 0 (.tmp 2), none, []⟩, 
  ⟨(some (6)), .load none (.tmp 5), none, []⟩, 
  ⟨(some (7)), .move (.tmp 1), none, []⟩, 
  ⟨(some (8)), .call (.const (.fn (.func 69) [] [])) [.tmp 6, .const (.int .i64 0), .tmp 7], none, []⟩, 
  ⟨(some (9)), .move (.tmp 8), none, []⟩, 
  ⟨(some (10)), .fieldAddr 1 (.tmp 2), (some (9, false)), []⟩, 
  ⟨(some (11)), .load none (.tmp 10), (some (9, false)), []⟩, 
  ⟨(some (12)), .move (.tmp 1), (some (9, false)), []⟩, 
  ⟨(some (13)), .call (.const (.fn (.func 69) [] [])) [.tmp 11, .const (.int .i64 0), .tmp 12], (some (9, false)), []⟩, 
  ⟨(some (14)), .pick (.tmp 9) (.const (.bool true)) (.tmp 13), none, []⟩]
def k_ref03_checkRange_r2 : List AOper := [
  ⟨(some (4)), .move (.const (.int .i64 2)), none, []⟩]
def k_ref03_checkRange_r3 : List AOper := [
  ⟨(some (15)), .fieldAddr 0 (.tmp 2), none, []⟩, 
  ⟨(some (16)), .load none (.tmp 15), none, []⟩, 
  ⟨(some (17)), .fieldAddr 1 (.tmp 2), none, []⟩, 
  ⟨(some (18)), .load none (.tmp 17), none, []⟩, 
  ⟨(some (19)), .bin .plain .gtr (.tmp 16) (.tmp 18), none, []⟩]
def k_ref03_checkRange_r4 : List AOper := [
  ⟨(some (4)), .move (.const (.int .i64 11)), none, []⟩]
def k_ref03_checkRange_r5 : List AOper := [
  ⟨(some (4)), .move (.const (.int .i64 0)), none, []⟩]
def k_ref03_checkRange : AFun := { params := 2, ntmps := 20, body := (.seq (.reg k_ref03_checkRange_r0 false) (.seq (.seq (.reg k_ref03_checkRange_r1 false) (.cond (.tmp 14) (.seq (.reg k_ref03_checkRange_r2 false) .ret) .skip)) (.seq (.seq (.reg k_ref03_checkRange_r3 false) (.cond (.tmp 19) (.seq (.reg k_ref03_checkRange_r4 false) .ret) .skip)) (.seq (.reg k_ref03_checkRange_r5 false) .ret)))), res := [.tmp 4] }
theorem k_ref03_checkRange_ok : cfun Try.prog Try.f71 = k_ref03_checkRange := by kernel_rfl

def k_ref03_ticks_r0 : List AOper := [
  ⟨(some (2)), .box (.tmp 0), none, []⟩, 
  ⟨(some (4)), .move (.const (.nilsl)), none, []⟩]
def k_ref03_ticks_r1 : List AOper := [
  ⟨(some (8)), .load (some (7)) (.tmp 2), none, []⟩, 
  ⟨(some (9)), .call (.const (.fn (.func 79) [] [])) [.tmp 8], none, []⟩, 
  ⟨(some (10)), .buildSlice 13 [.tmp 9], none, []⟩, 
  ⟨(some (5)), .move (.tmp 10), none, []⟩]
def k_ref03_ticks_r2 : List AOper := [
  ⟨(some (6)), .move (.const (.int .i64 0)), none, []⟩]
def k_ref03_ticks_r3 : List AOper := [
  ⟨(some (11)), .move (.tmp 6), none, []⟩, 
  ⟨(some (12)), .move (.tmp 1), none, []⟩, 
  ⟨(some (13)), .len false (.tmp 12), none, []⟩, 
  ⟨(some (14)), .bin .plain .lss (.tmp 11) (.tmp 13), none, []⟩]
def k_ref03_ticks_r4 : List AOper := [
  ⟨(some (7)), .move (.const (.int .i64 0)), none, []⟩]
def k_ref03_ticks_r5 : List AOper := [
  ⟨(some (17)), .move (.tmp 7), none, []⟩, 
  ⟨(some (18)), .move (.tmp 1), none, []⟩, 
  ⟨(some (19)), .move (.tmp 6), none, []⟩, 
  ⟨(some (20)), .indexAddr 3 (.tmp 18) (.tmp 19), none, []⟩, 
  ⟨(some (21)), .fieldAddr 0 (.tmp 20), none, []⟩, 
  ⟨(some (22)), .load none (.tmp 21), none, []⟩, 
  ⟨(some (23)), .bin .plain .lss (.tmp 17) (.tmp 22), none, []⟩]
def k_ref03_ticks_r6 : List AOper := [
  ⟨(some (26)), .move (.tmp 5), none, []⟩, 
  ⟨(some (27)), .load (some (7)) (.tmp 2), none, [0]⟩, 
  ⟨(some (28)), .move (.tmp 5), none, [0, 1]⟩, 
  ⟨(some (29)), .move (.tmp 5), none, [0, 1, 2]⟩, 
  ⟨(some (30)), .len false (.tmp 29), none, [0, 1, 2]⟩, 
  ⟨(some (31)), .bin .plain .sub (.tmp 30) (.const (.int .i64 1)), none, [0, 1, 2]⟩, 
  ⟨(some (32)), .indexAddr 13 (.tmp 28) (.tmp 31), none, [0, 1]⟩, 
  ⟨(some (33)), .load (some (13)) (.tmp 32), none, [0, 1]⟩, 
  ⟨(some (34)), .move (.tmp 1), none, [0, 1, 2, 3, 4, 5, 6, 7]⟩, 
  ⟨(some (35)), .move (.tmp 6), none, [0, 1, 2, 3, 4, 5, 6, 7, 8]⟩, 
  ⟨(some (36)), .indexAddr 3 (.tmp 34) (.tmp 35), none, [0, 1, 2, 3, 4, 5, 6, 7]⟩, 
  ⟨(some (37)), .fieldAddr 1 (.tmp 36), none, [0, 1, 2, 3, 4, 5, 6, 7]⟩, 
  ⟨(some (38)), .load none (.tmp 37), none, [0, 1, 2, 3, 4, 5, 6, 7]⟩, 
  ⟨(some (39)), .move (.tmp 1), none, [0, 1, 2, 3, 4, 5, 6, 7, 8, 9, 10, 11, 12]⟩, 
  ⟨(some (40)), .move (.tmp 6), none, [0, 1, 2, 3, 4, 5, 6, 7, 8, 9, 10, 11, 12, 13]⟩, 
  ⟨(some (41)), .indexAddr 3 (.tmp 39) (.tmp 40), none, [0, 1, 2, 3, 4, 5, 6, 7, 8, 9, 10, 11, 12]⟩, 
  ⟨(some (42)), .fieldAddr 2 (.tmp 41), none, [0, 1, 2, 3, 4, 5, 6, 7, 8, 9, 10, 11, 12]⟩, 
  ⟨(some (43)), .load none (.tmp 42), none, [0, 1, 2, 3, 4, 5, 6, 7, 8, 9, 10, 11, 12]⟩, 
  ⟨(some (44)), .call (.const (.fn (.func 82) [] [])) [.tmp 27, .tmp 33, .tmp 38, .tmp 43], none, [0]⟩, 
  ⟨(some (45)), .buildSlice 13 [.tmp 44], none, [0]⟩, 
  ⟨(some (46)), .append 13 104 true (.tmp 26) (.tmp 45), none, []⟩, 
  ⟨(some (5)), .move (.tmp 46), none, []⟩]
def k_ref03_ticks_r6s : List (List AOper) := [
  [
  ⟨(some (26)), .move (.tmp 5), none, []⟩, 
  ⟨(some (27)), .load (some (7)) (.tmp 2), none, [0]⟩, 
  ⟨(some (28)), .move (.tmp 5), none, [0, 1]⟩, 
  ⟨(some (29)), .move (.tmp 5), none, [0, 1, 2]⟩, 
  ⟨(some (30)), .len false (.tmp 29), none, [0, 1, 2]⟩, 
  ⟨(some (31)), .bin .plain .sub (.tmp 30) (.const (.int .i64 1)), none, [0, 1, 2]⟩, 
  ⟨(some (32)), .indexAddr 13 (.tmp 28) (.tmp 31), none, [0, 1]⟩, 
  ⟨(some (33)), .load (some (13)) (.tmp 32), none, [0, 1]⟩, 
  ⟨(some (34)), .move (.tmp 1), none, [0, 1, 2, 3, 4, 5, 6, 7]⟩, 
  ⟨(some (35)), .move (.tmp 6), none, [0, 1, 2, 3, 4, 5, 6, 7, 8]⟩, 
  ⟨(some (36)), .indexAddr 3 (.tmp 34) (.tmp 35), none, [0, 1, 2, 3, 4, 5, 6, 7]⟩, 
  ⟨(some (37)), .fieldAddr 1 (.tmp 36), none, [0, 1, 2, 3, 4, 5, 6, 7]⟩, 
  ⟨(some (38)), .load none (.tmp 37), none, [0, 1, 2, 3, 4, 5, 6, 7]⟩, 
  ⟨(some (39)), .move (.tmp 1), none, [0, 1, 2, 3, 4, 5, 6, 7, 8, 9, 10, 11, 12]⟩, 
  ⟨(some (40)), .move (.tmp 6), none, [0, 1, 2, 3, 4, 5, 6, 7, 8, 9, 10, 11, 12, 13]⟩, 
  ⟨(some (41)), .indexAddr 3 (.tmp 39) (.tmp 40), none, [0, 1, 2, 3, 4, 5, 6, 7, 8, 9, 10, 11, 12]⟩, 
  ⟨(some (42)), .fieldAddr 2 (.tmp 41), none, [0, 1, 2, 3, 4, 5, 6, 7, 8, 9, 10, 11, 12]⟩, 
  ⟨(some (43)), .load none (.tmp 42), none, [0, 1, 2, 3, 4, 5, 6, 7, 8, 9, 10, 11, 12]⟩, 
  ⟨(some (44)), .call (.const (.fn (.func 82) [] [])) [.tmp 27, .tmp 33, .tmp 38, .tmp 43], none, [0]⟩, 
  ⟨(some (45)), .buildSlice 13 [.tmp 44], none, [0]⟩], 
  [
  ⟨(some (46)), .append 13 104 true (.tmp 26) (.tmp 45), none, []⟩], 
  [
  ⟨(some (5)), .move (.tmp 46), none, []⟩]]
theorem k_ref03_ticks_r6_sg : segs k_ref03_ticks_r6 = k_ref03_ticks_r6s := by kernel_rfl
theorem k_ref03_ticks_r6_st : statOK k_ref03_ticks_r6 = true := by kernel_rfl
def k_ref03_ticks_r7 : List AOper := [
  ⟨(some (24)), .move (.tmp 7), none, []⟩, 
  ⟨(some (25)), .bin .plain .add (.tmp 24) (.const (.int .i64 1)), none, []⟩, 
  ⟨(some (7)), .move (.tmp 25), none, []⟩]
def k_ref03_ticks_r8 : ACode := (.seq (.seq (.reg k_ref03_ticks_r5 false) (.cond (.tmp 23) .skip (.exit 2))) (.seq (.block 3 (.reg k_ref03_ticks_r6 true)) (.reg k_ref03_ticks_r7 false)))
def k_ref03_ticks_r9 : List AOper := [
  ⟨(some (15)), .move (.tmp 6), none, []⟩, 
  ⟨(some (16)), .bin .plain .add (.tmp 15) (.const (.int .i64 1)), none, []⟩, 
  ⟨(some (6)), .move (.tmp 16), none, []⟩]
def k_ref03_ticks_r10 : ACode := (.seq (.seq (.reg k_ref03_ticks_r3 false) (.cond (.tmp 14) .skip (.exit 0))) (.seq (.block 1 (.seq (.reg k_ref03_ticks_r4 false) (.block 2 (.loop k_ref03_ticks_r8)))) (.reg k_ref03_ticks_r9 false)))
def k_ref03_ticks_r11 : List AOper := [
  ⟨(some (47)), .move (.tmp 5), none, []⟩, 
  ⟨(some (4)), .move (.tmp 47), none, []⟩]
def k_ref03_ticks : AFun := { params := 2, ntmps := 48, body := (.seq (.reg k_ref03_ticks_r0 false) (.seq (.reg k_ref03_ticks_r1 false) (.seq (.seq (.reg k_ref03_ticks_r2 false) (.block 0 (.loop k_ref03_ticks_r10))) (.seq (.reg k_ref03_ticks_r11 false) .ret)))), res := [.tmp 4] }
theorem k_ref03_ticks_ok : cfun Try.prog Try.f77 = k_ref03_ticks := by kernel_rfl

def k_ref03_fresh_r0 : List AOper := [
  ⟨(some (1)), .box (.tmp 0), none, []⟩, 
  ⟨(some (2)), .box (.const (.agg [.int .i64 0, .int .i64 0, .int .i64 0, .int .i64 0, .int .i64 0, .int .i64 0, .int .i64 0, .int .i64 0, .int .i64 0, .int .i64 0, .int .i64 0, .int .i64 0, .int .i64 0])), none, []⟩]
def k_ref03_fresh_r1 : List AOper := [
  ⟨(some (3)), .fieldAddr 0 (.tmp 1), none, []⟩, 
  ⟨(some (4)), .load none (.tmp 3), none, []⟩, 
  ⟨(some (5)), .fieldAddr 0 (.tmp 1), none, []⟩, 
  ⟨(some (6)), .load none (.tmp 5), none, []⟩, 
  ⟨(some (7)), .build [.int .i64 0, .int .i64 0] [(0, 1, .tmp 4), (1, 1, .tmp 6)], none, []⟩, 
  ⟨(some (8)), .build [.int .i64 0, .int .i64 0, .int .i64 0, .int .i64 0, .int .i64 0, .int .i64 0, .int .i64 0, .int .i64 0, .int .i64 0, .int .i64 0, .int .i64 0, .int .i64 0, .int .i64 0] [(0, 2, .tmp 7), (12, 1, .const (.int .i64 300))], none, []⟩, 
  ⟨none, .store 13 (.tmp 2) (.tmp 8), none, []⟩]
def k_ref03_fresh : AFun := { params := 1, ntmps := 9, body := (.seq (.reg k_ref03_fresh_r0 false) (.seq (.reg k_ref03_fresh_r1 false) .ret)), res := [.cell 2 (some ((some (13))))] }
theorem k_ref03_fresh_ok : cfun Try.prog Try.f79 = k_ref03_fresh := by kernel_rfl

def k_ref03_tick_r0 : List AOper := [
  ⟨(some (4)), .box (.tmp 0), none, []⟩, 
  ⟨(some (5)), .box (.tmp 1), none, []⟩, 
  ⟨(some (8)), .box (.const (.agg [.int .i64 0, .int .i64 0, .int .i64 0, .int .i64 0, .int .i64 0, .int .i64 0, .int .i64 0, .int .i64 0, .int .i64 0, .int .i64 0, .int .i64 0, .int .i64 0, .int .i64 0])), none, []⟩]
def k_ref03_tick_r1 : List AOper := [
  ⟨(some (12)), .load (some (7)) (.tmp 4), none, []⟩, 
  ⟨(some (13)), .fieldAddr 12 (.tmp 5), none, []⟩, 
  ⟨(some (14)), .load none (.tmp 13), none, []⟩, 
  ⟨(some (15)), .move (.tmp 2), none, []⟩, 
  ⟨(some (16)), .call (.const (.fn (.func 83) [] [])) [.tmp 12, .tmp 14, .tmp 15], none, []⟩, 
  ⟨(some (9)), .move (.tmp 16), none, []⟩]
def k_ref03_tick_r2 : List AOper := [
  ⟨(some (17)), .load (some (7)) (.tmp 4), none, []⟩, 
  ⟨(some (18)), .move (.tmp 9), none, []⟩, 
  ⟨(some (19)), .move (.tmp 3), none, []⟩, 
  ⟨(some (20)), .call (.const (.fn (.func 84) [] [])) [.tmp 17, .tmp 18, .tmp 19], none, []⟩, 
  ⟨(some (10)), .box (.const (.agg [.int .i64 0, .int .i64 0, .int .i64 0, .int .i64 0, .int .i64 0, .int .i64 0, .int .i64 0, .int .i64 0, .int .i64 0])), none, []⟩, 
  ⟨none, .store 9 (.tmp 10) (.tmp 20), none, []⟩]
def k_ref03_tick_r3 : List AOper := [
  ⟨(some (21)), .move (.tmp 9), none, []⟩, 
  ⟨(some (22)), .build [.int .i64 0, .int .i64 0, .int .i64 0, .int .i64 0, .int .i64 0, .int .i64 0, .int .i64 0, .int .i64 0, .int .i64 0, .int .i64 0, .int .i64 0, .int .i64 0, .int .i64 0] [(12, 1, .tmp 21)], none, []⟩, 
  ⟨(some (11)), .box (.const (.agg [.int .i64 0, .int .i64 0, .int .i64 0, .int .i64 0, .int .i64 0, .int .i64 0, .int .i64 0, .int .i64 0, .int .i64 0, .int .i64 0, .int .i64 0, .int .i64 0, .int .i64 0])), none, []⟩, 
  ⟨none, .store 13 (.tmp 11) (.tmp 22), none, []⟩]
def k_ref03_tick_r4 : List AOper := [
  ⟨(some (23)), .fieldAddr 0 (.tmp 5), none, []⟩, 
  ⟨(some (24)), .fieldAddr 0 (.tmp 23), none, []⟩, 
  ⟨(some (25)), .load none (.tmp 24), none, []⟩, 
  ⟨(some (26)), .fieldAddr 1 (.tmp 10), none, []⟩, 
  ⟨(some (27)), .fieldAddr 0 (.tmp 26), none, []⟩, 
  ⟨(some (28)), .load none (.tmp 27), none, []⟩, 
  ⟨(some (29)), .call (.const (.fn (.func 111) [] [])) [.tmp 25, .tmp 28], none, []⟩, 
  ⟨(some (30)), .fieldAddr 8 (.tmp 11), none, []⟩, 
  ⟨(some (31)), .fieldAddr 0 (.tmp 30), none, []⟩, 
  ⟨none, .store 1 (.tmp 31) (.tmp 29), none, []⟩]
def k_ref03_tick_r5 : List AOper := [
  ⟨(some (32)), .fieldAddr 0 (.tmp 5), none, []⟩, 
  ⟨(some (33)), .fieldAddr 1 (.tmp 32), none, []⟩, 
  ⟨(some (34)), .load none (.tmp 33), none, []⟩, 
  ⟨(some (35)), .fieldAddr 1 (.tmp 10), none, []⟩, 
  ⟨(some (36)), .fieldAddr 1 (.tmp 35), none, []⟩, 
  ⟨(some (37)), .load none (.tmp 36), none, []⟩, 
  ⟨(some (38)), .call (.const (.fn (.func 112) [] [])) [.tmp 34, .tmp 37], none, []⟩, 
  ⟨(some (39)), .fieldAddr 8 (.tmp 11), none, []⟩, 
  ⟨(some (40)), .fieldAddr 1 (.tmp 39), none, []⟩, 
  ⟨none, .store 1 (.tmp 40) (.tmp 38), none, []⟩]
def k_ref03_tick_r6 : List AOper := [
  ⟨(some (41)), .fieldAddr 0 (.tmp 5), none, []⟩, 
  ⟨(some (42)), .fieldAddr 0 (.tmp 41), none, []⟩, 
  ⟨(some (43)), .load none (.tmp 42), none, []⟩, 
  ⟨(some (44)), .fieldAddr 0 (.tmp 5), none, [0, 1, 2]⟩, 
  ⟨(some (45)), .fieldAddr 0 (.tmp 44), none, [0, 1, 2]⟩, 
  ⟨(some (46)), .load none (.tmp 45), none, [0, 1, 2]⟩, 
  ⟨(some (47)), .fieldAddr 1 (.tmp 10), none, [0, 1, 2, 3, 4, 5]⟩, 
  ⟨(some (48)), .fieldAddr 1 (.tmp 47), none, [0, 1, 2, 3, 4, 5]⟩, 
  ⟨(some (49)), .load none (.tmp 48), none, [0, 1, 2, 3, 4, 5]⟩, 
  ⟨(some (50)), .call (.const (.fn (.func 112) [] [])) [.tmp 46, .tmp 49], none, [0, 1, 2]⟩, 
  ⟨(some (51)), .bin .plain .sub (.tmp 43) (.tmp 50), none, []⟩, 
  ⟨(some (52)), .fieldAddr 0 (.tmp 11), none, []⟩, 
  ⟨(some (53)), .fieldAddr 0 (.tmp 52), none, []⟩, 
  ⟨none, .store 1 (.tmp 53) (.tmp 51), none, []⟩]
def k_ref03_tick_r6s : List (List AOper) := [
  [
  ⟨(some (41)), .fieldAddr 0 (.tmp 5), none, []⟩, 
  ⟨(some (42)), .fieldAddr 0 (.tmp 41), none, []⟩, 
  ⟨(some (43)), .load none (.tmp 42), none, []⟩, 
  ⟨(some (44)), .fieldAddr 0 (.tmp 5), none, [0, 1, 2]⟩, 
  ⟨(some (45)), .fieldAddr 0 (.tmp 44), none, [0, 1, 2]⟩, 
  ⟨(some (46)), .load none (.tmp 45), none, [0, 1, 2]⟩, 
  ⟨(some (47)), .fieldAddr 1 (.tmp 10), none, [0, 1, 2, 3, 4, 5]⟩, 
  ⟨(some (48)), .fieldAddr 1 (.tmp 47), none, [0, 1, 2, 3, 4, 5]⟩, 
  ⟨(some (49)), .load none (.tmp 48), none, [0, 1, 2, 3, 4, 5]⟩, 
  ⟨(some (50)), .call (.const (.fn (.func 112) [] [])) [.tmp 46, .tmp 49], none, [0, 1, 2]⟩], 
  [
  ⟨(some (51)), .bin .plain .sub (.tmp 43) (.tmp 50), none, []⟩], 
  [
  ⟨(some (52)), .fieldAddr 0 (.tmp 11), none, []⟩], 
  [
  ⟨(some (53)), .fieldAddr 0 (.tmp 52), none, []⟩], 
  [
  ⟨none, .store 1 (.tmp 53) (.tmp 51), none, []⟩]]
theorem k_ref03_tick_r6_sg : segs k_ref03_tick_r6 = k_ref03_tick_r6s := by kernel_rfl
theorem k_ref03_tick_r6_st : statOK k_ref03_tick_r6 = true := by kernel_rfl
def k_ref03_tick_r7 : List AOper := [
  ⟨(some (54)), .fieldAddr 0 (.tmp 5), none, []⟩, 
  ⟨(some (55)), .fieldAddr 1 (.tmp 54), none, []⟩, 
  ⟨(some (56)), .load none (.tmp 55), none, []⟩, 
  ⟨(some (57)), .fieldAddr 0 (.tmp 5), none, [0, 1, 2]⟩, 
  ⟨(some (58)), .fieldAddr 1 (.tmp 57), none, [0, 1, 2]⟩, 
  ⟨(some (59)), .load none (.tmp 58), none, [0, 1, 2]⟩, 
  ⟨(some (60)), .fieldAddr 1 (.tmp 10), none, [0, 1, 2, 3, 4, 5]⟩, 
  ⟨(some (61)), .fieldAddr 0 (.tmp 60), none, [0, 1, 2, 3, 4, 5]⟩, 
  ⟨(some (62)), .load none (.tmp 61), none, [0, 1, 2, 3, 4, 5]⟩, 
  ⟨(some (63)), .call (.const (.fn (.func 111) [] [])) [.tmp 59, .tmp 62], none, [0, 1, 2]⟩, 
  ⟨(some (64)), .bin .plain .sub (.tmp 56) (.tmp 63), none, []⟩, 
  ⟨(some (65)), .fieldAddr 0 (.tmp 11), none, []⟩, 
  ⟨(some (66)), .fieldAddr 1 (.tmp 65), none, []⟩, 
  ⟨none, .store 1 (.tmp 66) (.tmp 64), none, []⟩]
def k_ref03_tick_r7s : List (List AOper) := [
  [
  ⟨(some (54)), .fieldAddr 0 (.tmp 5), none, []⟩, 
  ⟨(some (55)), .fieldAddr 1 (.tmp 54), none, []⟩, 
  ⟨(some (56)), .load none (.tmp 55), none, []⟩, 
  ⟨(some (57)), .fieldAddr 0 (.tmp 5), none, [0, 1, 2]⟩, 
  ⟨(some (58)), .fieldAddr 1 (.tmp 57), none, [0, 1, 2]⟩, 
  ⟨(some (59)), .load none (.tmp 58), none, [0, 1, 2]⟩, 
  ⟨(some (60)), .fieldAddr 1 (.tmp 10), none, [0, 1, 2, 3, 4, 5]⟩, 
  ⟨(some (61)), .fieldAddr 0 (.tmp 60), none, [0, 1, 2, 3, 4, 5]⟩, 
  ⟨(some (62)), .load none (.tmp 61), none, [0, 1, 2, 3, 4, 5]⟩, 
  ⟨(some (63)), .call (.const (.fn (.func 111) [] [])) [.tmp 59, .tmp 62], none, [0, 1, 2]⟩], 
  [
  ⟨(some (64)), .bin .plain .sub (.tmp 56) (.tmp 63), none, []⟩], 
  [
  ⟨(some (65)), .fieldAddr 0 (.tmp 11), none, []⟩], 
  [
  ⟨(some (66)), .fieldAddr 1 (.tmp 65), none, []⟩], 
  [
  ⟨none, .store 1 (.tmp 66) (.tmp 64), none, []⟩]]
theorem k_ref03_tick_r7_sg : segs k_ref03_tick_r7 = k_ref03_tick_r7s := by kernel_rfl
theorem k_ref03_tick_r7_st : statOK k_ref03_tick_r7 = true := by kernel_rfl
def k_ref03_tick_r8 : List AOper := [
  ⟨(some (67)), .fieldAddr 2 (.tmp 5), none, []⟩, 
  ⟨(some (68)), .fieldAddr 0 (.tmp 67), none, []⟩, 
  ⟨(some (69)), .load none (.tmp 68), none, []⟩, 
  ⟨(some (70)), .fieldAddr 2 (.tmp 5), none, [0, 1, 2]⟩, 
  ⟨(some (71)), .fieldAddr 0 (.tmp 70), none, [0, 1, 2]⟩, 
  ⟨(some (72)), .load none (.tmp 71), none, [0, 1, 2]⟩, 
  ⟨(some (73)), .fieldAddr 3 (.tmp 10), none, [0, 1, 2, 3, 4, 5]⟩, 
  ⟨(some (74)), .fieldAddr 1 (.tmp 73), none, [0, 1, 2, 3, 4, 5]⟩, 
  ⟨(some (75)), .load none (.tmp 74), none, [0, 1, 2, 3, 4, 5]⟩, 
  ⟨(some (76)), .call (.const (.fn (.func 112) [] [])) [.tmp 72, .tmp 75], none, [0, 1, 2]⟩, 
  ⟨(some (77)), .bin .plain .sub (.tmp 69) (.tmp 76), none, []⟩, 
  ⟨(some (78)), .fieldAddr 8 (.tmp 11), none, [0, 1, 2, 3, 4, 5, 6, 7, 8, 9, 10]⟩, 
  ⟨(some (79)), .fieldAddr 0 (.tmp 78), none, [0, 1, 2, 3, 4, 5, 6, 7, 8, 9, 10]⟩, 
  ⟨(some (80)), .load none (.tmp 79), none, [0, 1, 2, 3, 4, 5, 6, 7, 8, 9, 10]⟩, 
  ⟨(some (81)), .bin .plain .add (.tmp 77) (.tmp 80), none, []⟩, 
  ⟨(some (82)), .fieldAddr 2 (.tmp 11), none, []⟩, 
  ⟨(some (83)), .fieldAddr 0 (.tmp 82), none, []⟩, 
  ⟨none, .store 1 (.tmp 83) (.tmp 81), none, []⟩]
def k_ref03_tick_r8s : List (List AOper) := [
  [
  ⟨(some (67)), .fieldAddr 2 (.tmp 5), none, []⟩, 
  ⟨(some (68)), .fieldAddr 0 (.tmp 67), none, []⟩, 
  ⟨(some (69)), .load none (.tmp 68), none, []⟩, 
  ⟨(some (70)), .fieldAddr 2 (.tmp 5), none, [0, 1, 2]⟩, 
  ⟨(some (71)), .fieldAddr 0 (.tmp 70), none, [0, 1, 2]⟩, 
  ⟨(some (72)), .load none (.tmp 71), none, [0, 1, 2]⟩, 
  ⟨(some (73)), .fieldAddr 3 (.tmp 10), none, [0, 1, 2, 3, 4, 5]⟩, 
  ⟨(some (74)), .fieldAddr 1 (.tmp 73), none, [0, 1, 2, 3, 4, 5]⟩, 
  ⟨(some (75)), .load none (.tmp 74), none, [0, 1, 2, 3, 4, 5]⟩, 
  ⟨(some (76)), .call (.const (.fn (.func 112) [] [])) [.tmp 72, .tmp 75], none, [0, 1, 2]⟩, 
  ⟨(some (77)), .bin .plain .sub (.tmp 69) (.tmp 76), none, []⟩, 
  ⟨(some (78)), .fieldAddr 8 (.tmp 11), none, [0, 1, 2, 3, 4, 5, 6, 7, 8, 9, 10]⟩, 
  ⟨(some (79)), .fieldAddr 0 (.tmp 78), none, [0, 1, 2, 3, 4, 5, 6, 7, 8, 9, 10]⟩, 
  ⟨(some (80)), .load none (.tmp 79), none, [0, 1, 2, 3, 4, 5, 6, 7, 8, 9, 10]⟩], 
  [
  ⟨(some (81)), .bin .plain .add (.tmp 77) (.tmp 80), none, []⟩], 
  [
  ⟨(some (82)), .fieldAddr 2 (.tmp 11), none, []⟩], 
  [
  ⟨(some (83)), .fieldAddr 0 (.tmp 82), none, []⟩], 
  [
  ⟨none, .store 1 (.tmp 83) (.tmp 81), none, []⟩]]
theorem k_ref03_tick_r8_sg : segs k_ref03_tick_r8 = k_ref03_tick_r8s := by kernel_rfl
theorem k_ref03_tick_r8_st : statOK k_ref03_tick_r8 = true := by kernel_rfl
def k_ref03_tick_r9 : List AOper := [
  ⟨(some (84)), .fieldAddr 2 (.tmp 5), none, []⟩, 
  ⟨(some (85)), .fieldAddr 1 (.tmp 84), none, []⟩, 
  ⟨(some (86)), .load none (.tmp 85), none, []⟩, 
  ⟨(some (87)), .fieldAddr 2 (.tmp 5), none, [0, 1, 2]⟩, 
  ⟨(some (88)), .fieldAddr 1 (.tmp 87), none, [0, 1, 2]⟩, 
  ⟨(some (89)), .load none (.tmp 88), none, [0, 1, 2]⟩, 
  ⟨(some (90)), .fieldAddr 3 (.tmp 10), none, [0, 1, 2, 3, 4, 5]⟩, 
  ⟨(some (91)), .fieldAddr 0 (.tmp 90), none, [0, 1, 2, 3, 4, 5]⟩, 
  ⟨(some (92)), .load none (.tmp 91), none, [0, 1, 2, 3, 4, 5]⟩, 
  ⟨(some (93)), .call (.const (.fn (.func 111) [] [])) [.tmp 89, .tmp 92], none, [0, 1, 2]⟩, 
  ⟨(some (94)), .bin .plain .sub (.tmp 86) (.tmp 93), none, []⟩, 
  ⟨(some (95)), .fieldAddr 8 (.tmp 11), none, [0, 1, 2, 3, 4, 5, 6, 7, 8, 9, 10]⟩, 
  ⟨(some (96)), .fieldAddr 1 (.tmp 95), none, [0, 1, 2, 3, 4, 5, 6, 7, 8, 9, 10]⟩, 
  ⟨(some (97)), .load none (.tmp 96), none, [0, 1, 2, 3, 4, 5, 6, 7, 8, 9, 10]⟩, 
  ⟨(some (98)), .bin .plain .add (.tmp 94) (.tmp 97), none, []⟩, 
  ⟨(some (99)), .fieldAddr 2 (.tmp 11), none, []⟩, 
  ⟨(some (100)), .fieldAddr 1 (.tmp 99), none, []⟩, 
  ⟨none, .store 1 (.tmp 100) (.tmp 98), none, []⟩]
def k_ref03_tick_r9s : List (List AOper) := [
  [
  ⟨(some (84)), .fieldAddr 2 (.tmp 5), none, []⟩, 
  ⟨(some (85)), .fieldAddr 1 (.tmp 84), none, []⟩, 
  ⟨(some (86)), .load none (.tmp 85), none, []⟩, 
  ⟨(some (87)), .fieldAddr 2 (.tmp 5), none, [0, 1, 2]⟩, 
  ⟨(some (88)), .fieldAddr 1 (.tmp 87), none, [0, 1, 2]⟩, 
  ⟨(some (89)), .load none (.tmp 88), none, [0, 1, 2]⟩, 
  ⟨(some (90)), .fieldAddr 3 (.tmp 10), none, [0, 1, 2, 3, 4, 5]⟩, 
  ⟨(some (91)), .fieldAddr 0 (.tmp 90), none, [0, 1, 2, 3, 4, 5]⟩, 
  ⟨(some (92)), .load none (.tmp 91), none, [0, 1, 2, 3, 4, 5]⟩, 
  ⟨(some (93)), .call (.const (.fn (.func 111) [] [])) [.tmp 89, .tmp 92], none, [0, 1, 2]⟩, 
  ⟨(some (94)), .bin .plain .sub (.tmp 86) (.tmp 93), none, []⟩, 
  ⟨(some (95)), .fieldAddr 8 (.tmp 11), none, [0, 1, 2, 3, 4, 5, 6, 7, 8, 9, 10]⟩, 
  ⟨(some (96)), .fieldAddr 1 (.tmp 95), none, [0, 1, 2, 3, 4, 5, 6, 7, 8, 9, 10]⟩, 
  ⟨(some (97)), .load none (.tmp 96), none, [0, 1, 2, 3, 4, 5, 6, 7, 8, 9, 10]⟩], 
  [
  ⟨(some (98)), .bin .plain .add (.tmp 94) (.tmp 97), none, []⟩], 
  [
  ⟨(some (99)), .fieldAddr 2 (.tmp 11), none, []⟩], 
  [
  ⟨(some (100)), .fieldAddr 1 (.tmp 99), none, []⟩], 
  [
  ⟨none, .store 1 (.tmp 100) (.tmp 98), none, []⟩]]
theorem k_ref03_tick_r9_sg : segs k_ref03_tick_r9 = k_ref03_tick_r9s := by kernel_rfl
theorem k_ref03_tick_r9_st : statOK k_ref03_tick_r9 = true := by kernel_rfl
def k_ref03_tick_r10 : List AOper := [
  ⟨(some (101)), .fieldAddr 4 (.tmp 5), none, []⟩, 
  ⟨(some (102)), .fieldAddr 0 (.tmp 101), none, []⟩, 
  ⟨(some (103)), .load none (.tmp 102), none, []⟩, 
  ⟨(some (104)), .fieldAddr 4 (.tmp 5), none, [0, 1, 2]⟩, 
  ⟨(some (105)), .fieldAddr 0 (.tmp 104), none, [0, 1, 2]⟩, 
  ⟨(some (106)), .load none (.tmp 105), none, [0, 1, 2]⟩, 
  ⟨(some (107)), .fieldAddr 5 (.tmp 10), none, [0, 1, 2, 3, 4, 5]⟩, 
  ⟨(some (108)), .fieldAddr 1 (.tmp 107), none, [0, 1, 2, 3, 4, 5]⟩, 
  ⟨(some (109)), .load none (.tmp 108), none, [0, 1, 2, 3, 4, 5]⟩, 
  ⟨(some (110)), .call (.const (.fn (.func 112) [] [])) [.tmp 106, .tmp 109], none, [0, 1, 2]⟩, 
  ⟨(some (111)), .bin .plain .sub (.tmp 103) (.tmp 110), none, []⟩, 
  ⟨(some (112)), .fieldAddr 2 (.tmp 5), none, [0, 1, 2, 3, 4, 5, 6, 7, 8, 9, 10]⟩, 
  ⟨(some (113)), .fieldAddr 0 (.tmp 112), none, [0, 1, 2, 3, 4, 5, 6, 7, 8, 9, 10]⟩, 
  ⟨(some (114)), .load none (.tmp 113), none, [0, 1, 2, 3, 4, 5, 6, 7, 8, 9, 10]⟩, 
  ⟨(some (115)), .fieldAddr 3 (.tmp 10), none, [0, 1, 2, 3, 4, 5, 6, 7, 8, 9, 10, 11, 12, 13]⟩, 
  ⟨(some (116)), .fieldAddr 0 (.tmp 115), none, [0, 1, 2, 3, 4, 5, 6, 7, 8, 9, 10, 11, 12, 13]⟩, 
  ⟨(some (117)), .load none (.tmp 116), none, [0, 1, 2, 3, 4, 5, 6, 7, 8, 9, 10, 11, 12, 13]⟩, 
  ⟨(some (118)), .call (.const (.fn (.func 111) [] [])) [.tmp 114, .tmp 117], none, [0, 1, 2, 10]⟩, 
  ⟨(some (119)), .bin .plain .add (.tmp 111) (.tmp 118), none, []⟩, 
  ⟨(some (120)), .fieldAddr 4 (.tmp 11), none, []⟩, 
  ⟨(some (121)), .fieldAddr 0 (.tmp 120), none, []⟩, 
  ⟨none, .store 1 (.tmp 121) (.tmp 119), none, []⟩]
def k_ref03_tick_r10s : List (List AOper) := [
  [
  ⟨(some (101)), .fieldAddr 4 (.tmp 5), none, []⟩, 
  ⟨(some (102)), .fieldAddr 0 (.tmp 101), none, []⟩, 
  ⟨(some (103)), .load none (.tmp 102), none, []⟩, 
  ⟨(some (104)), .fieldAddr 4 (.tmp 5), none, [0, 1, 2]⟩, 
  ⟨(some (105)), .fieldAddr 0 (.tmp 104), none, [0, 1, 2]⟩, 
  ⟨(some (106)), .load none (.tmp 105), none, [0, 1, 2]⟩, 
  ⟨(some (107)), .fieldAddr 5 (.tmp 10), none, [0, 1, 2, 3, 4, 5]⟩, 
  ⟨(some (108)), .fieldAddr 1 (.tmp 107), none, [0, 1, 2, 3, 4, 5]⟩, 
  ⟨(some (109)), .load none (.tmp 108), none, [0, 1, 2, 3, 4, 5]⟩, 
  ⟨(some (110)), .call (.const (.fn (.func 112) [] [])) [.tmp 106, .tmp 109], none, [0, 1, 2]⟩, 
  ⟨(some (111)), .bin .plain .sub (.tmp 103) (.tmp 110), none, []⟩, 
  ⟨(some (112)), .fieldAddr 2 (.tmp 5), none, [0, 1, 2, 3, 4, 5, 6, 7, 8, 9, 10]⟩, 
  ⟨(some (113)), .fieldAddr 0 (.tmp 112), none, [0, 1, 2, 3, 4, 5, 6, 7, 8, 9, 10]⟩, 
  ⟨(some (114)), .load none (.tmp 113), none, [0, 1, 2, 3, 4, 5, 6, 7, 8, 9, 10]⟩, 
  ⟨(some (115)), .fieldAddr 3 (.tmp 10), none, [0, 1, 2, 3, 4, 5, 6, 7, 8, 9, 10, 11, 12, 13]⟩, 
  ⟨(some (116)), .fieldAddr 0 (.tmp 115), none, [0, 1, 2, 3, 4, 5, 6, 7, 8, 9, 10, 11, 12, 13]⟩, 
  ⟨(some (117)), .load none (.tmp 116), none, [0, 1, 2, 3, 4, 5, 6, 7, 8, 9, 10, 11, 12, 13]⟩, 
  ⟨(some (118)), .call (.const (.fn (.func 111) [] [])) [.tmp 114, .tmp 117], none, [0, 1, 2, 10]⟩], 
  [
  ⟨(some (119)), .bin .plain .add (.tmp 111) (.tmp 118), none, []⟩], 
  [
  ⟨(some (120)), .fieldAddr 4 (.tmp 11), none, []⟩], 
  [
  ⟨(some (121)), .fieldAddr 0 (.tmp 120), none, []⟩], 
  [
  ⟨none, .store 1 (.tmp 121) (.tmp 119), none, []⟩]]
theorem k_ref03_tick_r10_sg : segs k_ref03_tick_r10 = k_ref03_tick_r10s := by kernel_rfl
theorem k_ref03_tick_r10_st : statOK k_ref03_tick_r10 = true := by kernel_rfl
def k_ref03_tick_r11 : List AOper := [
  ⟨(some (122)), .fieldAddr 4 (.tmp 5), none, []⟩, 
  ⟨(some (123)), .fieldAddr 1 (.tmp 122), none, []⟩, 
  ⟨(some (124)), .load none (.tmp 123), none, []⟩, 
  ⟨(some (125)), .fieldAddr 4 (.tmp 5), none, [0, 1, 2]⟩, 
  ⟨(some (126)), .fieldAddr 1 (.tmp 125), none, [0, 1, 2]⟩, 
  ⟨(some (127)), .load none (.tmp 126), none, [0, 1, 2]⟩, 
  ⟨(some (128)), .fieldAddr 5 (.tmp 10), none, [0, 1, 2, 3, 4, 5]⟩, 
  ⟨(some (129)), .fieldAddr 0 (.tmp 128), none, [0, 1, 2, 3, 4, 5]⟩, 
  ⟨(some (130)), .load none (.tmp 129), none, [0, 1, 2, 3, 4, 5]⟩, 
  ⟨(some (131)), .call (.const (.fn (.func 111) [] [])) [.tmp 127, .tmp 130], none, [0, 1, 2]⟩, 
  ⟨(some (132)), .bin .plain .sub (.tmp 124) (.tmp 131), none, []⟩, 
  ⟨(some (133)), .fieldAddr 2 (.tmp 5), none, [0, 1, 2, 3, 4, 5, 6, 7, 8, 9, 10]⟩, 
  ⟨(some (134)), .fieldAddr 1 (.tmp 133), none, [0, 1, 2, 3, 4, 5, 6, 7, 8, 9, 10]⟩, 
  ⟨(some (135)), .load none (.tmp 134), none, [0, 1, 2, 3, 4, 5, 6, 7, 8, 9, 10]⟩, 
  ⟨(some (136)), .fieldAddr 3 (.tmp 10), none, [0, 1, 2, 3, 4, 5, 6, 7, 8, 9, 10, 11, 12, 13]⟩, 
  ⟨(some (137)), .fieldAddr 1 (.tmp 136), none, [0, 1, 2, 3, 4, 5, 6, 7, 8, 9, 10, 11, 12, 13]⟩, 
  ⟨(some (138)), .load none (.tmp 137), none, [0, 1, 2, 3, 4, 5, 6, 7, 8, 9, 10, 11, 12, 13]⟩, 
  ⟨(some (139)), .call (.const (.fn (.func 112) [] [])) [.tmp 135, .tmp 138], none, [0, 1, 2, 10]⟩, 
  ⟨(some (140)), .bin .plain .add (.tmp 132) (.tmp 139), none, []⟩, 
  ⟨(some (141)), .fieldAddr 4 (.tmp 11), none, []⟩, 
  ⟨(some (142)), .fieldAddr 1 (.tmp 141), none, []⟩, 
  ⟨none, .store 1 (.tmp 142) (.tmp 140), none, []⟩]
def k_ref03_tick_r11s : List (List AOper) := [
  [
  ⟨(some (122)), .fieldAddr 4 (.tmp 5), none, []⟩, 
  ⟨(some (123)), .fieldAddr 1 (.tmp 122), none, []⟩, 
  ⟨(some (124)), .load none (.tmp 123), none, []⟩, 
  ⟨(some (125)), .fieldAddr 4 (.tmp 5), none, [0, 1, 2]⟩, 
  ⟨(some (126)), .fieldAddr 1 (.tmp 125), none, [0, 1, 2]⟩, 
  ⟨(some (127)), .load none (.tmp 126), none, [0, 1, 2]⟩, 
  ⟨(some (128)), .fieldAddr 5 (.tmp 10), none, [0, 1, 2, 3, 4, 5]⟩, 
  ⟨(some (129)), .fieldAddr 0 (.tmp 128), none, [0, 1, 2, 3, 4, 5]⟩, 
  ⟨(some (130)), .load none (.tmp 129), none, [0, 1, 2, 3, 4, 5]⟩, 
  ⟨(some (131)), .call (.const (.fn (.func 111) [] [])) [.tmp 127, .tmp 130], none, [0, 1, 2]⟩, 
  ⟨(some (132)), .bin .plain .sub (.tmp 124) (.tmp 131), none, []⟩, 
  ⟨(some (133)), .fieldAddr 2 (.tmp 5), none, [0, 1, 2, 3, 4, 5, 6, 7, 8, 9, 10]⟩, 
  ⟨(some (134)), .fieldAddr 1 (.tmp 133), none, [0, 1, 2, 3, 4, 5, 6, 7, 8, 9, 10]⟩, 
  ⟨(some (135)), .load none (.tmp 134), none, [0, 1, 2, 3, 4, 5, 6, 7, 8, 9, 10]⟩, 
  ⟨(some (136)), .fieldAddr 3 (.tmp 10), none, [0, 1, 2, 3, 4, 5, 6, 7, 8, 9, 10, 11, 12, 13]⟩, 
  ⟨(some (137)), .fieldAddr 1 (.tmp 136), none, [0, 1, 2, 3, 4, 5, 6, 7, 8, 9, 10, 11, 12, 13]⟩, 
  ⟨(some (138)), .load none (.tmp 137), none, [0, 1, 2, 3, 4, 5, 6, 7, 8, 9, 10, 11, 12, 13]⟩, 
  ⟨(some (139)), .call (.const (.fn (.func 112) [] [])) [.tmp 135, .tmp 138], none, [0, 1, 2, 10]⟩], 
  [
  ⟨(some (140)), .bin .plain .add (.tmp 132) (.tmp 139), none, []⟩], 
  [
  ⟨(some (141)), .fieldAddr 4 (.tmp 11), none, []⟩], 
  [
  ⟨(some (142)), .fieldAddr 1 (.tmp 141), none, []⟩], 
  [
  ⟨none, .store 1 (.tmp 142) (.tmp 140), none, []⟩]]
theorem k_ref03_tick_r11_sg : segs k_ref03_tick_r11 = k_ref03_tick_r11s := by kernel_rfl
theorem k_ref03_tick_r11_st : statOK k_ref03_tick_r11 = true := by kernel_rfl
def k_ref03_tick_r12 : List AOper := [
  ⟨(some (143)), .fieldAddr 6 (.tmp 5), none, []⟩, 
  ⟨(some (144)), .fieldAddr 0 (.tmp 143), none, []⟩, 
  ⟨(some (145)), .load none (.tmp 144), none, []⟩, 
  ⟨(some (146)), .fieldAddr 4 (.tmp 5), none, [0, 1, 2]⟩, 
  ⟨(some (147)), .fieldAddr 0 (.tmp 146), none, [0, 1, 2]⟩, 
  ⟨(some (148)), .load none (.tmp 147), none, [0, 1, 2]⟩, 
  ⟨(some (149)), .fieldAddr 5 (.tmp 10), none, [0, 1, 2, 3, 4, 5]⟩, 
  ⟨(some (150)), .fieldAddr 0 (.tmp 149), none, [0, 1, 2, 3, 4, 5]⟩, 
  ⟨(some (151)), .load none (.tmp 150), none, [0, 1, 2, 3, 4, 5]⟩, 
  ⟨(some (152)), .call (.const (.fn (.func 111) [] [])) [.tmp 148, .tmp 151], none, [0, 1, 2]⟩, 
  ⟨(some (153)), .bin .plain .add (.tmp 145) (.tmp 152), none, []⟩, 
  ⟨(some (154)), .fieldAddr 6 (.tmp 11), none, []⟩, 
  ⟨(some (155)), .fieldAddr 0 (.tmp 154), none, []⟩, 
  ⟨none, .store 1 (.tmp 155) (.tmp 153), none, []⟩]
def k_ref03_tick_r12s : List (List AOper) := [
  [
  ⟨(some (143)), .fieldAddr 6 (.tmp 5), none, []⟩, 
  ⟨(some (144)), .fieldAddr 0 (.tmp 143), none, []⟩, 
  ⟨(some (145)), .load none (.tmp 144), none, []⟩, 
  ⟨(some (146)), .fieldAddr 4 (.tmp 5), none, [0, 1, 2]⟩, 
  ⟨(some (147)), .fieldAddr 0 (.tmp 146), none, [0, 1, 2]⟩, 
  ⟨(some (148)), .load none (.tmp 147), none, [0, 1, 2]⟩, 
  ⟨(some (149)), .fieldAddr 5 (.tmp 10), none, [0, 1, 2, 3, 4, 5]⟩, 
  ⟨(some (150)), .fieldAddr 0 (.tmp 149), none, [0, 1, 2, 3, 4, 5]⟩, 
  ⟨(some (151)), .load none (.tmp 150), none, [0, 1, 2, 3, 4, 5]⟩, 
  ⟨(some (152)), .call (.const (.fn (.func 111) [] [])) [.tmp 148, .tmp 151], none, [0, 1, 2]⟩], 
  [
  ⟨(some (153)), .bin .plain .add (.tmp 145) (.tmp 152), none, []⟩], 
  [
  ⟨(some (154)), .fieldAddr 6 (.tmp 11), none, []⟩], 
  [
  ⟨(some (155)), .fieldAddr 0 (.tmp 154), none, []⟩], 
  [
  ⟨none, .store 1 (.tmp 155) (.tmp 153), none, []⟩]]
theorem k_ref03_tick_r12_sg : segs k_ref03_tick_r12 = k_ref03_tick_r12s := by kernel_rfl
theorem k_ref03_tick_r12_st : statOK k_ref03_tick_r12 = true := by kernel_rfl
def k_ref03_tick_r13 : List AOper := [
  ⟨(some (156)), .fieldAddr 6 (.tmp 5), none, []⟩, 
  ⟨(some (157)), .fieldAddr 1 (.tmp 156), none, []⟩, 
  ⟨(some (158)), .load none (.tmp 157), none, []⟩, 
  ⟨(some (159)), .fieldAddr 4 (.tmp 5), none, [0, 1, 2]⟩, 
  ⟨(some (160)), .fieldAddr 1 (.tmp 159), none, [0, 1, 2]⟩, 
  ⟨(some (161)), .load none (.tmp 160), none, [0, 1, 2]⟩, 
  ⟨(some (162)), .fieldAddr 5 (.tmp 10), none, [0, 1, 2, 3, 4, 5]⟩, 
  ⟨(some (163)), .fieldAddr 1 (.tmp 162), none, [0, 1, 2, 3, 4, 5]⟩, 
  ⟨(some (164)), .load none (.tmp 163), none, [0, 1, 2, 3, 4, 5]⟩, 
  ⟨(some (165)), .call (.const (.fn (.func 112) [] [])) [.tmp 161, .tmp 164], none, [0, 1, 2]⟩, 
  ⟨(some (166)), .bin .plain .add (.tmp 158) (.tmp 165), none, []⟩, 
  ⟨(some (167)), .fieldAddr 6 (.tmp 11), none, []⟩, 
  ⟨(some (168)), .fieldAddr 1 (.tmp 167), none, []⟩, 
  ⟨none, .store 1 (.tmp 168) (.tmp 166), none, []⟩]
def k_ref03_tick_r13s : List (List AOper) := [
  [
  ⟨(some (156)), .fieldAddr 6 (.tmp 5), none, []⟩, 
  ⟨(some (157)), .fieldAddr 1 (.tmp 156), none, []⟩, 
  ⟨(some (158)), .load none (.tmp 157), none, []⟩, 
  ⟨(some (159)), .fieldAddr 4 (.tmp 5), none, [0, 1, 2]⟩, 
  ⟨(some (160)), .fieldAddr 1 (.tmp 159), none, [0, 1, 2]⟩, 
  ⟨(some (161)), .load none (.tmp 160), none, [0, 1, 2]⟩, 
  ⟨(some (162)), .fieldAddr 5 (.tmp 10), none, [0, 1, 2, 3, 4, 5]⟩, 
  ⟨(some (163)), .fieldAddr 1 (.tmp 162), none, [0, 1, 2, 3, 4, 5]⟩, 
  ⟨(some (164)), .load none (.tmp 163), none, [0, 1, 2, 3, 4, 5]⟩, 
  ⟨(some (165)), .call (.const (.fn (.func 112) [] [])) [.tmp 161, .tmp 164], none, [0, 1, 2]⟩], 
  [
  ⟨(some (166)), .bin .plain .add (.tmp 158) (.tmp 165), none, []⟩], 
  [
  ⟨(some (167)), .fieldAddr 6 (.tmp 11), none, []⟩], 
  [
  ⟨(some (168)), .fieldAddr 1 (.tmp 167), none, []⟩], 
  [
  ⟨none, .store 1 (.tmp 168) (.tmp 166), none, []⟩]]
theorem k_ref03_tick_r13_sg : segs k_ref03_tick_r13 = k_ref03_tick_r13s := by kernel_rfl
theorem k_ref03_tick_r13_st : statOK k_ref03_tick_r13 = true := by kernel_rfl
def k_ref03_tick_r14 : List AOper := [
  ⟨(some (169)), .fieldAddr 10 (.tmp 5), none, []⟩, 
  ⟨(some (170)), .fieldAddr 0 (.tmp 169), none, []⟩, 
  ⟨(some (171)), .load none (.tmp 170), none, []⟩, 
  ⟨(some (172)), .fieldAddr 7 (.tmp 10), none, []⟩, 
  ⟨(some (173)), .fieldAddr 0 (.tmp 172), none, []⟩, 
  ⟨(some (174)), .load none (.tmp 173), none, []⟩, 
  ⟨(some (175)), .bin .plain .add (.tmp 171) (.tmp 174), none, []⟩, 
  ⟨(some (176)), .fieldAddr 10 (.tmp 5), none, []⟩, 
  ⟨(some (177)), .fieldAddr 1 (.tmp 176), none, []⟩, 
  ⟨(some (178)), .load none (.tmp 177), none, []⟩, 
  ⟨(some (179)), .fieldAddr 7 (.tmp 10), none, []⟩, 
  ⟨(some (180)), .fieldAddr 1 (.tmp 179), none, []⟩, 
  ⟨(some (181)), .load none (.tmp 180), none, []⟩, 
  ⟨(some (182)), .bin .plain .add (.tmp 178) (.tmp 181), none, []⟩, 
  ⟨(some (183)), .build [.int .i64 0, .int .i64 0] [(0, 1, .tmp 175), (1, 1, .tmp 182)], none, []⟩, 
  ⟨(some (184)), .fieldAddr 10 (.tmp 11), none, []⟩, 
  ⟨none, .store 2 (.tmp 184) (.tmp 183), none, []⟩]
def k_ref03_tick_r15 : List AOper := [
  ⟨(some (185)), .fieldAddr 0 (.tmp 11), none, []⟩, 
  ⟨(some (186)), .fieldAddr 1 (.tmp 185), none, []⟩, 
  ⟨(some (187)), .load none (.tmp 186), none, []⟩, 
  ⟨(some (188)), .fieldAddr 0 (.tmp 4), none, []⟩, 
  ⟨(some (189)), .load none (.tmp 188), none, []⟩, 
  ⟨(some (190)), .minmax false [.tmp 187, .tmp 189], none, []⟩, 
  ⟨(some (191)), .fieldAddr 0 (.tmp 11), none, []⟩, 
  ⟨(some (192)), .fieldAddr 1 (.tmp 191), none, []⟩, 
  ⟨none, .store 1 (.tmp 192) (.tmp 190), none, []⟩]
def k_ref03_tick_r16 : List AOper := [
  ⟨(some (193)), .fieldAddr 2 (.tmp 11), none, []⟩, 
  ⟨(some (194)), .fieldAddr 1 (.tmp 193), none, []⟩, 
  ⟨(some (195)), .load none (.tmp 194), none, []⟩, 
  ⟨(some (196)), .fieldAddr 0 (.tmp 4), none, []⟩, 
  ⟨(some (197)), .load none (.tmp 196), none, []⟩, 
  ⟨(some (198)), .minmax false [.tmp 195, .tmp 197], none, []⟩, 
  ⟨(some (199)), .fieldAddr 2 (.tmp 11), none, []⟩, 
  ⟨(some (200)), .fieldAddr 1 (.tmp 199), none, []⟩, 
  ⟨none, .store 1 (.tmp 200) (.tmp 198), none, []⟩]
def k_ref03_tick_r17 : List AOper := [
  ⟨(some (201)), .fieldAddr 4 (.tmp 11), none, []⟩, 
  ⟨(some (202)), .fieldAddr 1 (.tmp 201), none, []⟩, 
  ⟨(some (203)), .load none (.tmp 202), none, []⟩, 
  ⟨(some (204)), .fieldAddr 0 (.tmp 4), none, []⟩, 
  ⟨(some (205)), .load none (.tmp 204), none, []⟩, 
  ⟨(some (206)), .minmax false [.tmp 203, .tmp 205], none, []⟩, 
  ⟨(some (207)), .fieldAddr 4 (.tmp 11), none, []⟩, 
  ⟨(some (208)), .fieldAddr 1 (.tmp 207), none, []⟩, 
  ⟨none, .store 1 (.tmp 208) (.tmp 206), none, []⟩]
def k_ref03_tick_r18 : List AOper := [
  ⟨(some (209)), .fieldAddr 6 (.tmp 11), none, []⟩, 
  ⟨(some (210)), .fieldAddr 1 (.tmp 209), none, []⟩, 
  ⟨(some (211)), .load none (.tmp 210), none, []⟩, 
  ⟨(some (212)), .fieldAddr 0 (.tmp 4), none, []⟩, 
  ⟨(some (213)), .load none (.tmp 212), none, []⟩, 
  ⟨(some (214)), .minmax false [.tmp 211, .tmp 213], none, []⟩, 
  ⟨(some (215)), .fieldAddr 6 (.tmp 11), none, []⟩, 
  ⟨(some (216)), .fieldAddr 1 (.tmp 215), none, []⟩, 
  ⟨none, .store 1 (.tmp 216) (.tmp 214), none, []⟩]
def k_ref03_tick_r19 : List AOper := [
  ⟨(some (217)), .fieldAddr 8 (.tmp 11), none, []⟩, 
  ⟨(some (218)), .fieldAddr 1 (.tmp 217), none, []⟩, 
  ⟨(some (219)), .load none (.tmp 218), none, []⟩, 
  ⟨(some (220)), .fieldAddr 0 (.tmp 4), none, []⟩, 
  ⟨(some (221)), .load none (.tmp 220), none, []⟩, 
  ⟨(some (222)), .minmax false [.tmp 219, .tmp 221], none, []⟩, 
  ⟨(some (223)), .fieldAddr 8 (.tmp 11), none, []⟩, 
  ⟨(some (224)), .fieldAddr 1 (.tmp 223), none, []⟩, 
  ⟨none, .store 1 (.tmp 224) (.tmp 222), none, []⟩]
def k_ref03_tick_r20 : List AOper := [
  ⟨(some (225)), .load (some (13)) (.tmp 11), none, []⟩, 
  ⟨none, .store 13 (.tmp 8) (.tmp 225), none, []⟩]
def k_ref03_tick : AFun := { params := 4, ntmps := 226, body := (.seq (.reg k_ref03_tick_r0 false) (.seq (.reg k_ref03_tick_r1 false) (.seq (.reg k_ref03_tick_r2 false) (.seq (.reg k_ref03_tick_r3 false) (.seq (.reg k_ref03_tick_r4 false) (.seq (.reg k_ref03_tick_r5 false) (.seq (.reg k_ref03_tick_r6 true) (.seq (.reg k_ref03_tick_r7 true) (.seq (.reg k_ref03_tick_r8 true) (.seq (.reg k_ref03_tick_r9 true) (.seq (.reg k_ref03_tick_r10 true) (.seq (.reg k_ref03_tick_r11 true) (.seq (.reg k_ref03_tick_r12 true) (.seq (.reg k_ref03_tick_r13 true) (.seq (.reg k_ref03_tick_r14 false) (.seq (.reg k_ref03_tick_r15 false) (.seq (.reg k_ref03_tick_r16 false) (.seq (.reg k_ref03_tick_r17 false) (.seq (.reg k_ref03_tick_r18 false) (.seq (.reg k_ref03_tick_r19 false) (.seq (.reg k_ref03_tick_r20 false) .ret))))))))))))))))))))), res := [.cell 8 (some ((some (13))))] }
theorem k_ref03_tick_ok : cfun Try.prog Try.f82 = k_ref03_tick := by kernel_rfl

def k_ref03_Heat_r0 : List AOper := [
  ⟨(some (3)), .box (.tmp 0), none, []⟩, 
  ⟨(some (6)), .move (.const (.int .i64 0)), none, []⟩]
def k_ref03_Heat_r1 : List AOper := [
  ⟨(some (7)), .move (.tmp 2), none, []⟩, 
  ⟨(some (8)), .move (.tmp 1), none, []⟩, 
  ⟨(some (9)), .bin .plain .gtr (.tmp 7) (.tmp 8), none, []⟩]
def k_ref03_Heat_r2 : List AOper := [
  ⟨(some (10)), .move (.tmp 2), none, []⟩, 
  ⟨(some (11)), .move (.tmp 1), none, []⟩, 
  ⟨(some (12)), .fieldAddr 1 (.tmp 3), none, []⟩, 
  ⟨(some (13)), .load none (.tmp 12), none, []⟩, 
  ⟨(some (14)), .bin .plain .add (.tmp 11) (.tmp 13), none, []⟩, 
  ⟨(some (15)), .minmax false [.tmp 10, .tmp 14], none, []⟩, 
  ⟨(some (6)), .move (.tmp 15), none, []⟩]
def k_ref03_Heat_r3 : List AOper := [
  ⟨(some (16)), .move (.tmp 2), none, []⟩, 
  ⟨(some (17)), .move (.tmp 1), none, []⟩, 
  ⟨(some (18)), .fieldAddr 1 (.tmp 3), none, []⟩, 
  ⟨(some (19)), .load none (.tmp 18), none, []⟩, 
  ⟨(some (20)), .bin .plain .sub (.tmp 17) (.tmp 19), none, []⟩, 
  ⟨(some (21)), .minmax true [.tmp 16, .tmp 20], none, []⟩, 
  ⟨(some (6)), .move (.tmp 21), none, []⟩]
def k_ref03_Heat : AFun := { params := 3, ntmps := 22, body := (.seq (.reg k_ref03_Heat_r0 false) (.seq (.seq (.reg k_ref03_Heat_r1 false) (.cond (.tmp 9) (.seq (.reg k_ref03_Heat_r2 false) .ret) .skip)) (.seq (.reg k_ref03_Heat_r3 false) .ret))), res := [.tmp 6] }
theorem k_ref03_Heat_ok : cfun Try.prog Try.f83 = k_ref03_Heat := by kernel_rfl

def k_ref03_BandOf_r0 : List AOper := [
  ⟨(some (3)), .box (.tmp 0), none, []⟩, 
  ⟨(some (6)), .box (.const (.agg [.int .i64 0, .int .i64 0, .int .i64 0, .int .i64 0, .int .i64 0, .int .i64 0, .int .i64 0, .int .i64 0, .int .i64 0])), none, []⟩]
def k_ref03_BandOf_r1 : List AOper := [
  ⟨(some (9)), .fieldAddr 6 (.tmp 3), none, []⟩, 
  ⟨(some (10)), .load none (.tmp 9), none, []⟩, 
  ⟨(some (11)), .indexAddr 9 (.tmp 10) (.const (.int .i64 0)), none, []⟩, 
  ⟨(some (12)), .load (some (9)) (.tmp 11), none, []⟩, 
  ⟨(some (7)), .box (.const (.agg [.int .i64 0, .int .i64 0, .int .i64 0, .int .i64 0, .int .i64 0, .int .i64 0, .int .i64 0, .int .i64 0, .int .i64 0])), none, []⟩, 
  ⟨none, .store 9 (.tmp 7) (.tmp 12), none, []⟩]
def k_ref03_BandOf_r2 : List AOper := [
  ⟨(some (8)), .move (.const (.int .i64 0)), none, []⟩]
def k_ref03_BandOf_r3 : List AOper := [
  ⟨(some (13)), .move (.tmp 8), none, []⟩, 
  ⟨(some (14)), .fieldAddr 6 (.tmp 3), none, []⟩, 
  ⟨(some (15)), .load none (.tmp 14), none, []⟩, 
  ⟨(some (16)), .len false (.tmp 15), none, []⟩, 
  ⟨(some (17)), .bin .plain .lss (.tmp 13) (.tmp 16), none, []⟩]
def k_ref03_BandOf_r4 : List AOper := [
  ⟨(some (20)), .fieldAddr 6 (.tmp 3), none, []⟩, 
  ⟨(some (21)), .load none (.tmp 20), none, []⟩, 
  ⟨(some (22)), .move (.tmp 8), none, []⟩, 
  ⟨(some (23)), .indexAddr 9 (.tmp 21) (.tmp 22), none, []⟩, 
  ⟨(some (24)), .fieldAddr 0 (.tmp 23), none, []⟩, 
  ⟨(some (25)), .load none (.tmp 24), none, []⟩, 
  ⟨(some (26)), .move (.tmp 1), none, []⟩, 
  ⟨(some (27)), .bin .plain .leq (.tmp 25) (.tmp 26), none, []⟩]
def k_ref03_BandOf_r5 : List AOper := [
  ⟨(some (28)), .fieldAddr 6 (.tmp 3), none, []⟩, 
  ⟨(some (29)), .load none (.tmp 28), none, []⟩, 
  ⟨(some (30)), .move (.tmp 8), none, []⟩, 
  ⟨(some (31)), .indexAddr 9 (.tmp 29) (.tmp 30), none, []⟩, 
  ⟨(some (32)), .load (some (9)) (.tmp 31), none, []⟩, 
  ⟨none, .store 9 (.tmp 7) (.tmp 32), none, []⟩]
def k_ref03_BandOf_r6 : List AOper := [
  ⟨(some (18)), .move (.tmp 8), none, []⟩, 
  ⟨(some (19)), .bin .plain .add (.tmp 18) (.const (.int .i64 1)), none, []⟩, 
  ⟨(some (8)), .move (.tmp 19), none, []⟩]
def k_ref03_BandOf_r7 : ACode := (.seq (.seq (.reg k_ref03_BandOf_r3 false) (.cond (.tmp 17) .skip (.exit 0))) (.seq (.block 1 (.seq (.reg k_ref03_BandOf_r4 false) (.cond (.tmp 27) (.reg k_ref03_BandOf_r5 false) .skip))) (.reg k_ref03_BandOf_r6 false)))
def k_ref03_BandOf_r8 : List AOper := [
  ⟨(some (33)), .fieldAddr 3 (.tmp 7), none, []⟩, 
  ⟨(some (34)), .fieldAddr 0 (.tmp 33), none, []⟩, 
  ⟨(some (35)), .load none (.tmp 34), none, []⟩, 
  ⟨(some (36)), .move (.tmp 2), none, []⟩, 
  ⟨(some (37)), .fieldAddr 2 (.tmp 3), none, []⟩, 
  ⟨(some (38)), .fieldAddr 0 (.tmp 37), none, []⟩, 
  ⟨(some (39)), .load none (.tmp 38), none, []⟩, 
  ⟨(some (40)), .bin .plain .mul (.tmp 36) (.tmp 39), none, []⟩, 
  ⟨(some (41)), .bin .plain .add (.tmp 35) (.tmp 40), none, []⟩, 
  ⟨(some (42)), .minmax false [.const (.int .i64 1000000), .tmp 41], none, []⟩, 
  ⟨(some (43)), .fieldAddr 3 (.tmp 7), none, []⟩, 
  ⟨(some (44)), .fieldAddr 0 (.tmp 43), none, []⟩, 
  ⟨none, .store 1 (.tmp 44) (.tmp 42), none, []⟩]
def k_ref03_BandOf_r9 : List AOper := [
  ⟨(some (45)), .fieldAddr 3 (.tmp 7), none, []⟩, 
  ⟨(some (46)), .fieldAddr 1 (.tmp 45), none, []⟩, 
  ⟨(some (47)), .load none (.tmp 46), none, []⟩, 
  ⟨(some (48)), .move (.tmp 2), none, []⟩, 
  ⟨(some (49)), .fieldAddr 2 (.tmp 3), none, []⟩, 
  ⟨(some (50)), .fieldAddr 1 (.tmp 49), none, []⟩, 
  ⟨(some (51)), .load none (.tmp 50), none, []⟩, 
  ⟨(some (52)), .bin .plain .mul (.tmp 48) (.tmp 51), none, []⟩, 
  ⟨(some (53)), .bin .plain .add (.tmp 47) (.tmp 52), none, []⟩, 
  ⟨(some (54)), .minmax false [.const (.int .i64 1000000), .tmp 53], none, []⟩, 
  ⟨(some (55)), .fieldAddr 3 (.tmp 7), none, []⟩, 
  ⟨(some (56)), .fieldAddr 1 (.tmp 55), none, []⟩, 
  ⟨none, .store 1 (.tmp 56) (.tmp 54), none, []⟩]
def k_ref03_BandOf_r10 : List AOper := [
  ⟨(some (57)), .load (some (9)) (.tmp 7), none, []⟩, 
  ⟨none, .store 9 (.tmp 6) (.tmp 57), none, []⟩]
def k_ref03_BandOf : AFun := { params := 3, ntmps := 58, body := (.seq (.reg k_ref03_BandOf_r0 false) (.seq (.reg k_ref03_BandOf_r1 false) (.seq (.seq (.reg k_ref03_BandOf_r2 false) (.block 0 (.loop k_ref03_BandOf_r7))) (.seq (.reg k_ref03_BandOf_r8 false) (.seq (.reg k_ref03_BandOf_r9 false) (.seq (.reg k_ref03_BandOf_r10 false) .ret)))))), res := [.cell 6 (some ((some (9))))] }
theorem k_ref03_BandOf_ok : cfun Try.prog Try.f84 = k_ref03_BandOf := by kernel_rfl

def k_kit_near_r0 : List AOper := [
  ⟨(some (3)), .box (.tmp 1), none, []⟩, 
  ⟨(some (4)), .move (.const (.int .i64 0)), none, []⟩]
def k_kit_near_r1 : List AOper := [
  ⟨(some (5)), .fieldAddr 0 (.tmp 3), none, []⟩, 
  ⟨(some (6)), .load none (.tmp 5), none, []⟩, 
  ⟨(some (7)), .fieldAddr 1 (.tmp 3), none, [0, 1]⟩, 
  ⟨(some (8)), .load none (.tmp 7), none, [0, 1]⟩, 
  ⟨(some (9)), .move (.tmp 0), none, [0, 1, 2, 3]⟩, 
  ⟨(some (10)), .load (some (2)) (.tmp 3), none, [0, 1, 2, 3, 4]⟩, 
  ⟨(some (11)), .call (.const (.fn (.func 92) [] [])) [.tmp 9, .tmp 10], none, [0, 1, 2, 3]⟩, 
  ⟨(some (12)), .fieldAddr 0 (.tmp 3), none, [0, 1, 2, 3, 4, 5, 6]⟩, 
  ⟨(some (13)), .load none (.tmp 12), none, [0, 1, 2, 3, 4, 5, 6]⟩, 
  ⟨(some (14)), .bin .plain .sub (.tmp 13) (.const (.int .i64 1)), none, [0, 1, 2, 3, 4, 5, 6]⟩, 
  ⟨(some (15)), .minmax true [.const (.int .i64 0), .tmp 14], none, [0, 1, 2, 3, 4, 5, 6]⟩, 
  ⟨(some (16)), .buildSlice 1 [.tmp 6, .tmp 8, .tmp 11, .tmp 15, .const (.int .i64 1099511627776)], none, []⟩, 
  ⟨(some (17)), .move (.tmp 0), none, [0, 1, 2, 3, 4, 5, 6, 7, 8, 9, 10, 11]⟩, 
  ⟨(some (18)), .call (.const (.fn (.func 23) [] [])) [.tmp 17, .const (.int .i64 5)], none, [0, 1, 2, 3, 7, 8, 9, 10, 11]⟩, 
  ⟨(some (19)), .indexAddr 1 (.tmp 16) (.tmp 18), none, []⟩, 
  ⟨(some (20)), .load none (.tmp 19), none, []⟩, 
  ⟨(some (4)), .move (.tmp 20), none, []⟩]
def k_kit_near_r1s : List (List AOper) := [
  [
  ⟨(some (5)), .fieldAddr 0 (.tmp 3), none, []⟩, 
  ⟨(some (6)), .load none (.tmp 5), none, []⟩, 
  ⟨(some (7)), .fieldAddr 1 (.tmp 3), none, [0, 1]⟩, 
  ⟨(some (8)), .load none (.tmp 7), none, [0, 1]⟩, 
  ⟨(some (9)), .move (.tmp 0), none, [0, 1, 2, 3]⟩, 
  ⟨(some (10)), .load (some (2)) (.tmp 3), none, [0, 1, 2, 3, 4]⟩, 
  ⟨(some (11)), .call (.const (.fn (.func 92) [] [])) [.tmp 9, .tmp 10], none, [0, 1, 2, 3]⟩, 
  ⟨(some (12)), .fieldAddr 0 (.tmp 3), none, [0, 1, 2, 3, 4, 5, 6]⟩, 
  ⟨(some (13)), .load none (.tmp 12), none, [0, 1, 2, 3, 4, 5, 6]⟩, 
  ⟨(some (14)), .bin .plain .sub (.tmp 13) (.const (.int .i64 1)), none, [0, 1, 2, 3, 4, 5, 6]⟩, 
  ⟨(some (15)), .minmax true [.const (.int .i64 0), .tmp 14], none, [0, 1, 2, 3, 4, 5, 6]⟩, 
  ⟨(some (16)), .buildSlice 1 [.tmp 6, .tmp 8, .tmp 11, .tmp 15, .const (.int .i64 1099511627776)], none, []⟩, 
  ⟨(some (17)), .move (.tmp 0), none, [0, 1, 2, 3, 4, 5, 6, 7, 8, 9, 10, 11]⟩, 
  ⟨(some (18)), .call (.const (.fn (.func 23) [] [])) [.tmp 17, .const (.int .i64 5)], none, [0, 1, 2, 3, 7, 8, 9, 10, 11]⟩], 
  [
  ⟨(some (19)), .indexAddr 1 (.tmp 16) (.tmp 18), none, []⟩], 
  [
  ⟨(some (20)), .load none (.tmp 19), none, []⟩], 
  [
  ⟨(some (4)), .move (.tmp 20), none, []⟩]]
theorem k_kit_near_r1_sg : segs k_kit_near_r1 = k_kit_near_r1s := by kernel_rfl
theorem k_kit_near_r1_st : statOK k_kit_near_r1 = true := by kernel_rfl
def k_kit_near : AFun := { params := 2, ntmps := 21, body := (.seq (.reg k_kit_near_r0 false) (.seq (.reg k_kit_near_r1 true) .ret)), res := [.tmp 4] }
theorem k_kit_near_ok : cfun Try.prog Try.f91 = k_kit_near := by kernel_rfl

def k_kit_Dice_In_r0 : List AOper := [
  ⟨(some (3)), .box (.tmp 1), none, []⟩, 
  ⟨(some (4)), .move (.const (.int .i64 0)), none, []⟩]
def k_kit_Dice_In_r1 : List AOper := [
  ⟨(some (5)), .move (.tmp 0), none, []⟩, 
  ⟨(some (6)), .fieldAddr 0 (.tmp 3), none, []⟩, 
  ⟨(some (7)), .load none (.tmp 6), none, []⟩, 
  ⟨(some (8)), .fieldAddr 0 (.tmp 3), none, []⟩, 
  ⟨(some (9)), .load none (.tmp 8), none, []⟩, 
  ⟨(some (10)), .fieldAddr 1 (.tmp 3), none, []⟩, 
  ⟨(some (11)), .load none (.tmp 10), none, []⟩, 
  ⟨(some (12)), .minmax true [.tmp 9, .tmp 11], none, []⟩, 
  ⟨(some (13)), .call (.const (.fn (.func 64) [] [])) [.tmp 5, .tmp 7, .tmp 12], none, []⟩, 
  ⟨(some (4)), .move (.tmp 13), none, []⟩]
def k_kit_Dice_In : AFun := { params := 2, ntmps := 14, body := (.seq (.reg k_kit_Dice_In_r0 false) (.seq (.reg k_kit_Dice_In_r1 false) .ret)), res := [.tmp 4] }
theorem k_kit_Dice_In_ok : cfun Try.prog Try.f92 = k_kit_Dice_In := by kernel_rfl

def k_ref03_Down_r0 : List AOper := [
  ⟨(some (4)), .move (.const (.int .i64 0)), none, []⟩]
def k_ref03_Down_r1 : List AOper := [
  ⟨(some (5)), .move (.tmp 0), none, []⟩, 
  ⟨(some (6)), .move (.tmp 1), none, []⟩, 
  ⟨(some (7)), .bin .plain .mul (.tmp 5) (.tmp 6), none, []⟩, 
  ⟨(some (8)), .bin .plain .quo (.tmp 7) (.const (.int .i64 1000000)), none, []⟩, 
  ⟨(some (4)), .move (.tmp 8), none, []⟩]
def k_ref03_Down : AFun := { params := 2, ntmps := 9, body := (.seq (.reg k_ref03_Down_r0 false) (.seq (.reg k_ref03_Down_r1 false) .ret)), res := [.tmp 4] }
theorem k_ref03_Down_ok : cfun Try.prog Try.f111 = k_ref03_Down := by kernel_rfl

def k_ref03_Up_r0 : List AOper := [
  ⟨(some (4)), .move (.const (.int .i64 0)), none, []⟩]
def k_ref03_Up_r1 : List AOper := [
  ⟨(some (5)), .move (.tmp 0), none, []⟩, 
  ⟨(some (6)), .move (.tmp 1), none, []⟩, 
  ⟨(some (7)), .bin .plain .mul (.tmp 5) (.tmp 6), none, []⟩, 
  ⟨(some (8)), .bin .plain .add (.tmp 7) (.const (.int .i64 1000000)), none, []⟩, 
  ⟨(some (9)), .bin .plain .sub (.tmp 8) (.const (.int .i64 1)), none, []⟩, 
  ⟨(some (10)), .bin .plain .quo (.tmp 9) (.const (.int .i64 1000000)), none, []⟩, 
  ⟨(some (4)), .move (.tmp 10), none, []⟩]
def k_ref03_Up : AFun := { params := 2, ntmps := 11, body := (.seq (.reg k_ref03_Up_r0 false) (.seq (.reg k_ref03_Up_r1 false) .ret)), res := [.tmp 4] }
theorem k_ref03_Up_ok : cfun Try.prog Try.f112 = k_ref03_Up := by kernel_rfl


abbrev n_ref03_Check : Nat := 26
theorem e_ref03_Check : EntryOK Try.prog n_ref03_Check k_ref03_Check := ⟨Try.f26, Try.func26, k_ref03_Check_ok, by kernel_rfl⟩
abbrev n_ref03_CheckSchedule : Nat := 30
theorem e_ref03_CheckSchedule : EntryOK Try.prog n_ref03_CheckSchedule k_ref03_CheckSchedule := ⟨Try.f30, Try.func30, k_ref03_CheckSchedule_ok, by kernel_rfl⟩
abbrev n_ref03_Follow : Nat := 34
theorem e_ref03_Follow : EntryOK Try.prog n_ref03_Follow k_ref03_Follow := ⟨Try.f34, Try.func34, k_ref03_Follow_ok, by kernel_rfl⟩
abbrev n_kit_DemandOf : Nat := 45
theorem e_kit_DemandOf : EntryOK Try.prog n_kit_DemandOf k_kit_DemandOf := ⟨Try.f45, Try.func45, k_kit_DemandOf_ok, by kernel_rfl⟩
abbrev n_ref03_beyond : Nat := 69
theorem e_ref03_beyond : EntryOK Try.prog n_ref03_beyond k_ref03_beyond := ⟨Try.f69, Try.func69, k_ref03_beyond_ok, by kernel_rfl⟩
abbrev n_ref03_checkRanges : Nat := 70
theorem e_ref03_checkRanges : EntryOK Try.prog n_ref03_checkRanges k_ref03_checkRanges := ⟨Try.f70, Try.func70, k_ref03_checkRanges_ok, by kernel_rfl⟩
abbrev n_ref03_checkRange : Nat := 71
theorem e_ref03_checkRange : EntryOK Try.prog n_ref03_checkRange k_ref03_checkRange := ⟨Try.f71, Try.func71, k_ref03_checkRange_ok, by kernel_rfl⟩
abbrev n_ref03_ticks : Nat := 77
theorem e_ref03_ticks : EntryOK Try.prog n_ref03_ticks k_ref03_ticks := ⟨Try.f77, Try.func77, k_ref03_ticks_ok, by kernel_rfl⟩
abbrev n_ref03_fresh : Nat := 79
theorem e_ref03_fresh : EntryOK Try.prog n_ref03_fresh k_ref03_fresh := ⟨Try.f79, Try.func79, k_ref03_fresh_ok, by kernel_rfl⟩
abbrev n_ref03_tick : Nat := 82
theorem e_ref03_tick : EntryOK Try.prog n_ref03_tick k_ref03_tick := ⟨Try.f82, Try.func82, k_ref03_tick_ok, by kernel_rfl⟩
abbrev n_ref03_Heat : Nat := 83
theorem e_ref03_Heat : EntryOK Try.prog n_ref03_Heat k_ref03_Heat := ⟨Try.f83, Try.func83, k_ref03_Heat_ok, by kernel_rfl⟩
abbrev n_ref03_BandOf : Nat := 84
theorem e_ref03_BandOf : EntryOK Try.prog n_ref03_BandOf k_ref03_BandOf := ⟨Try.f84, Try.func84, k_ref03_BandOf_ok, by kernel_rfl⟩
abbrev n_kit_near : Nat := 91
theorem e_kit_near : EntryOK Try.prog n_kit_near k_kit_near := ⟨Try.f91, Try.func91, k_kit_near_ok, by kernel_rfl⟩
abbrev n_kit_Dice_In : Nat := 92
theorem e_kit_Dice_In : EntryOK Try.prog n_kit_Dice_In k_kit_Dice_In := ⟨Try.f92, Try.func92, k_kit_Dice_In_ok, by kernel_rfl⟩
abbrev n_ref03_Down : Nat := 111
theorem e_ref03_Down : EntryOK Try.prog n_ref03_Down k_ref03_Down := ⟨Try.f111, Try.func111, k_ref03_Down_ok, by kernel_rfl⟩
abbrev n_ref03_Up : Nat := 112
theorem e_ref03_Up : EntryOK Try.prog n_ref03_Up k_ref03_Up := ⟨Try.f112, Try.func112, k_ref03_Up_ok, by kernel_rfl⟩

attribute [go_sem] k_ref03_Check_r0 k_ref03_Check_r1 k_ref03_Check_r2 k_ref03_Check_r3 k_ref03_Check_r4 k_ref03_Check_r5 k_ref03_Check_r6 k_ref03_Check_r7 k_ref03_Check_r8 k_ref03_Check_r9 k_ref03_Check_r10 k_ref03_Check_r11
attribute [go_sem] k_ref03_Check_r12 k_ref03_Check_r13 k_ref03_Check_r14 k_ref03_Check_r15s k_ref03_Check_r16 k_ref03_Check_r17 k_ref03_Check_r18 k_ref03_Check_r19 k_ref03_Check_r20 k_ref03_Check_r22
attribute [go_sem] k_ref03_CheckSchedule_r0
attribute [go_sem] k_ref03_CheckSchedule_r1 k_ref03_CheckSchedule_r2 k_ref03_CheckSchedule_r3 k_ref03_CheckSchedule_r4 k_ref03_CheckSchedule_r5 k_ref03_CheckSchedule_r6 k_ref03_CheckSchedule_r7 k_ref03_CheckSchedule_r8 k_ref03_CheckSchedule_r9 k_ref03_CheckSchedule_r11 k_ref03_CheckSchedule_r12 k_ref03_CheckSchedule_r13
attribute [go_sem] k_ref03_Follow_r0 k_ref03_Follow_r1 k_ref03_Follow_r2
attribute [go_sem] k_ref03_Follow_r3 k_ref03_Follow_r4 k_ref03_Follow_r5 k_ref03_Follow_r6 k_ref03_Follow_r7 k_ref03_Follow_r8 k_ref03_Follow_r9 k_ref03_Follow_r10 k_ref03_Follow_r11 k_ref03_Follow_r12 k_ref03_Follow_r13 k_ref03_Follow_r14
attribute [go_sem] k_ref03_Follow_r16
attribute [go_sem] k_kit_DemandOf_r0 k_kit_DemandOf_r1 k_kit_DemandOf_r2 k_kit_DemandOf_r3 k_kit_DemandOf_r4
attribute [go_sem] k_kit_DemandOf_r5 k_kit_DemandOf_r6 k_kit_DemandOf_r7 k_kit_DemandOf_r8 k_kit_DemandOf_r9 k_kit_DemandOf_r11s k_ref03_beyond_r0 k_ref03_beyond_r1 k_ref03_checkRanges_r0 k_ref03_checkRanges_r1 k_ref03_checkRanges_r2 k_ref03_checkRanges_r3
attribute [go_sem] k_ref03_checkRanges_r4 k_ref03_checkRanges_r5 k_ref03_checkRanges_r6 k_ref03_checkRanges_r8 k_ref03_checkRange_r0 k_ref03_checkRange_r1 k_ref03_checkRange_r2 k_ref03_checkRange_r3 k_ref03_checkRange_r4 k_ref03_checkRange_r5 k_ref03_ticks_r0 k_ref03_ticks_r1
attribute [go_sem] k_ref03_ticks_r2 k_ref03_ticks_r3 k_ref03_ticks_r4 k_ref03_ticks_r5 k_ref03_ticks_r6s k_ref03_ticks_r7 k_ref03_ticks_r9 k_ref03_ticks_r11 k_ref03_fresh_r0 k_ref03_fresh_r1 k_ref03_tick_r0 k_ref03_tick_r1
attribute [go_sem] k_ref03_tick_r2 k_ref03_tick_r3 k_ref03_tick_r4 k_ref03_tick_r5 k_ref03_tick_r6s k_ref03_tick_r7s k_ref03_tick_r8s k_ref03_tick_r9s k_ref03_tick_r10s k_ref03_tick_r11s k_ref03_tick_r12s k_ref03_tick_r13s
attribute [go_sem] k_ref03_tick_r14 k_ref03_tick_r15 k_ref03_tick_r16 k_ref03_tick_r17 k_ref03_tick_r18 k_ref03_tick_r19 k_ref03_tick_r20 k_ref03_Heat_r0 k_ref03_Heat_r1 k_ref03_Heat_r2 k_ref03_Heat_r3 k_ref03_BandOf_r0
attribute [go_sem] k_ref03_BandOf_r1 k_ref03_BandOf_r2 k_ref03_BandOf_r3 k_ref03_BandOf_r4 k_ref03_BandOf_r5 k_ref03_BandOf_r6 k_ref03_BandOf_r8 k_ref03_BandOf_r9 k_ref03_BandOf_r10
attribute [go_sem] k_kit_near_r0 k_kit_near_r1s k_kit_Dice_In_r0 k_kit_Dice_In_r1 k_ref03_Down_r0 k_ref03_Down_r1 k_ref03_Up_r0
attribute [go_sem] k_ref03_Up_r1 k_ref03_Check_r15_sg k_ref03_tick_r12_sg k_ref03_tick_r10_sg k_kit_DemandOf_r11_sg k_ref03_ticks_r6_sg k_kit_near_r1_sg k_ref03_tick_r11_sg
attribute [go_sem] k_ref03_tick_r7_sg k_ref03_tick_r9_sg k_ref03_tick_r13_sg k_ref03_tick_r8_sg k_ref03_tick_r6_sg k_ref03_Check_r15_st k_ref03_tick_r12_st k_ref03_tick_r10_st k_kit_DemandOf_r11_st
attribute [go_sem] k_ref03_ticks_r6_st k_kit_near_r1_st k_ref03_tick_r11_st k_ref03_tick_r7_st k_ref03_tick_r9_st k_ref03_tick_r13_st k_ref03_tick_r8_st k_ref03_tick_r6_st k_ref03_Check
attribute [go_sem] k_ref03_CheckSchedule k_ref03_Follow k_kit_DemandOf k_ref03_beyond k_ref03_checkRanges k_ref03_checkRange
attribute [go_sem] k_ref03_ticks k_ref03_fresh k_ref03_tick k_ref03_Heat k_ref03_BandOf k_kit_near k_kit_Dice_In k_ref03_Down k_ref03_Up
end Go.Proofs

