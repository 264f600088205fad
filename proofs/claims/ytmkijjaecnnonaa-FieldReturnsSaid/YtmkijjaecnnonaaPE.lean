/- A part of the proof. -/
import Derived.Test.YtmkijjaecnnonaaPD
set_option linter.unusedSimpArgs false
set_option linter.unusedVariables false
namespace Go.Proofs
open Go Go.Sx

-- 12: thermion/thermionlaw01.FieldSums
def k_law01_FieldSums_r0 : List AOper := [
  ⟨(some (6)), .move (.const (.bool false)), none, []⟩]
def k_law01_FieldSums_r1 : List AOper := [
  ⟨(some (24)), .move (.tmp 0), none, []⟩, 
  ⟨(some (25)), .call (.const (.fn (.func 22) [] [])) [.tmp 24], none, []⟩, 
  ⟨(some (7)), .move (.tmp 25), none, []⟩]
def k_law01_FieldSums_r2 : List AOper := [
  ⟨(some (26)), .move (.tmp 7), none, []⟩, 
  ⟨(some (27)), .call (.const (.fn (.func 21) [] [])) [.tmp 26, .const (.int .i64 8), .const (.int .i64 6)], none, []⟩, 
  ⟨(some (8)), .box (.const (.agg [.int .i64 0, .int .i64 0, .bool false, .nilsl])), none, []⟩, 
  ⟨none, .store 4 (.tmp 8) (.tmp 27), none, []⟩]
def k_law01_FieldSums_r3 : List AOper := [
  ⟨(some (28)), .move (.tmp 7), none, []⟩, 
  ⟨(some (29)), .load (some (4)) (.tmp 8), none, [0]⟩, 
  ⟨(some (30)), .call (.const (.fn (.func 37) [] [])) [.tmp 28, .tmp 29], none, []⟩, 
  ⟨(some (31)), .move (.tmp 7), none, [0, 1, 2]⟩, 
  ⟨(some (32)), .load (some (4)) (.tmp 8), none, [0, 1, 2, 3]⟩, 
  ⟨(some (33)), .call (.const (.fn (.func 37) [] [])) [.tmp 31, .tmp 32], none, []⟩, 
  ⟨(some (9)), .move (.tmp 30), none, []⟩, 
  ⟨(some (10)), .move (.tmp 33), none, []⟩]
def k_law01_FieldSums_r3s : List (List AOper) := [
  [
  ⟨(some (28)), .move (.tmp 7), none, []⟩, 
  ⟨(some (29)), .load (some (4)) (.tmp 8), none, [0]⟩, 
  ⟨(some (30)), .call (.const (.fn (.func 37) [] [])) [.tmp 28, .tmp 29], none, []⟩, 
  ⟨(some (31)), .move (.tmp 7), none, [0, 1, 2]⟩, 
  ⟨(some (32)), .load (some (4)) (.tmp 8), none, [0, 1, 2, 3]⟩], 
  [
  ⟨(some (33)), .call (.const (.fn (.func 37) [] [])) [.tmp 31, .tmp 32], none, []⟩], 
  [
  ⟨(some (9)), .move (.tmp 30), none, []⟩], 
  [
  ⟨(some (10)), .move (.tmp 33), none, []⟩]]
theorem k_law01_FieldSums_r3_sg : segs k_law01_FieldSums_r3 = k_law01_FieldSums_r3s := by kernel_rfl
theorem k_law01_FieldSums_r3_st : statOK k_law01_FieldSums_r3 = true := by kernel_rfl
def k_law01_FieldSums_r4 : List AOper := [
  ⟨(some (34)), .move (.tmp 9), none, []⟩, 
  ⟨(some (35)), .len false (.tmp 34), none, []⟩, 
  ⟨(some (36)), .makeSlice (.int .i64 0) 8 (.tmp 35) (.tmp 35), none, []⟩, 
  ⟨(some (11)), .move (.tmp 36), none, []⟩]
def k_law01_FieldSums_r5 : List AOper := [
  ⟨(some (12)), .move (.const (.int .i64 0)), none, []⟩]
def k_law01_FieldSums_r6 : List AOper := [
  ⟨(some (37)), .move (.tmp 12), none, []⟩, 
  ⟨(some (38)), .move (.tmp 9), none, []⟩, 
  ⟨(some (39)), .len false (.tmp 38), none, []⟩, 
  ⟨(some (40)), .bin .plain .lss (.tmp 37) (.tmp 39), none, []⟩]
def k_law01_FieldSums_r7 : List AOper := [
  ⟨(some (43)), .move (.tmp 9), none, []⟩, 
  ⟨(some (44)), .move (.tmp 12), none, [0]⟩, 
  ⟨(some (45)), .move (.tmp 10), none, [0, 1]⟩, 
  ⟨(some (46)), .move (.tmp 12), none, [0, 1, 2]⟩, 
  ⟨(some (47)), .move (.tmp 9), none, [0, 1, 2, 3]⟩, 
  ⟨(some (48)), .move (.tmp 12), none, [0, 1, 2, 3, 4]⟩, 
  ⟨(some (49)), .indexAddr 1 (.tmp 47) (.tmp 48), none, [0, 1, 2, 3]⟩, 
  ⟨(some (50)), .load none (.tmp 49), none, [0, 1, 2, 3]⟩, 
  ⟨(some (51)), .bin .plain .quo (.tmp 50) (.const (.int .i64 2)), none, [0, 1, 2, 3]⟩, 
  ⟨(some (52)), .move (.tmp 10), none, [0, 1, 2, 3, 4, 5, 6, 7, 8]⟩, 
  ⟨(some (53)), .move (.tmp 12), none, [0, 1, 2, 3, 4, 5, 6, 7, 8, 9]⟩, 
  ⟨(some (54)), .indexAddr 1 (.tmp 52) (.tmp 53), none, [0, 1, 2, 3, 4, 5, 6, 7, 8]⟩, 
  ⟨(some (55)), .load none (.tmp 54), none, [0, 1, 2, 3, 4, 5, 6, 7, 8]⟩, 
  ⟨(some (56)), .bin .plain .quo (.tmp 55) (.const (.int .i64 2)), none, [0, 1, 2, 3, 4, 5, 6, 7, 8]⟩, 
  ⟨(some (57)), .indexAddr 1 (.tmp 43) (.tmp 44), none, [2, 3, 13]⟩, 
  ⟨none, .store 1 (.tmp 57) (.tmp 51), none, [2, 3, 13]⟩, 
  ⟨(some (58)), .indexAddr 1 (.tmp 45) (.tmp 46), none, []⟩, 
  ⟨none, .store 1 (.tmp 58) (.tmp 56), none, []⟩]
def k_law01_FieldSums_r7s : List (List AOper) := [
  [
  ⟨(some (43)), .move (.tmp 9), none, []⟩, 
  ⟨(some (44)), .move (.tmp 12), none, [0]⟩, 
  ⟨(some (45)), .move (.tmp 10), none, [0, 1]⟩, 
  ⟨(some (46)), .move (.tmp 12), none, [0, 1, 2]⟩, 
  ⟨(some (47)), .move (.tmp 9), none, [0, 1, 2, 3]⟩, 
  ⟨(some (48)), .move (.tmp 12), none, [0, 1, 2, 3, 4]⟩, 
  ⟨(some (49)), .indexAddr 1 (.tmp 47) (.tmp 48), none, [0, 1, 2, 3]⟩, 
  ⟨(some (50)), .load none (.tmp 49), none, [0, 1, 2, 3]⟩, 
  ⟨(some (51)), .bin .plain .quo (.tmp 50) (.const (.int .i64 2)), none, [0, 1, 2, 3]⟩, 
  ⟨(some (52)), .move (.tmp 10), none, [0, 1, 2, 3, 4, 5, 6, 7, 8]⟩, 
  ⟨(some (53)), .move (.tmp 12), none, [0, 1, 2, 3, 4, 5, 6, 7, 8, 9]⟩, 
  ⟨(some (54)), .indexAddr 1 (.tmp 52) (.tmp 53), none, [0, 1, 2, 3, 4, 5, 6, 7, 8]⟩, 
  ⟨(some (55)), .load none (.tmp 54), none, [0, 1, 2, 3, 4, 5, 6, 7, 8]⟩, 
  ⟨(some (56)), .bin .plain .quo (.tmp 55) (.const (.int .i64 2)), none, [0, 1, 2, 3, 4, 5, 6, 7, 8]⟩, 
  ⟨(some (57)), .indexAddr 1 (.tmp 43) (.tmp 44), none, [2, 3, 13]⟩, 
  ⟨none, .store 1 (.tmp 57) (.tmp 51), none, [2, 3, 13]⟩], 
  [
  ⟨(some (58)), .indexAddr 1 (.tmp 45) (.tmp 46), none, []⟩], 
  [
  ⟨none, .store 1 (.tmp 58) (.tmp 56), none, []⟩]]
theorem k_law01_FieldSums_r7_sg : segs k_law01_FieldSums_r7 = k_law01_FieldSums_r7s := by kernel_rfl
theorem k_law01_FieldSums_r7_st : statOK k_law01_FieldSums_r7 = true := by kernel_rfl
def k_law01_FieldSums_r8 : List AOper := [
  ⟨(some (59)), .move (.tmp 11), none, []⟩, 
  ⟨(some (60)), .move (.tmp 12), none, [0]⟩, 
  ⟨(some (61)), .move (.tmp 9), none, [0, 1]⟩, 
  ⟨(some (62)), .move (.tmp 12), none, [0, 1, 2]⟩, 
  ⟨(some (63)), .indexAddr 1 (.tmp 61) (.tmp 62), none, [0, 1]⟩, 
  ⟨(some (64)), .load none (.tmp 63), none, [0, 1]⟩, 
  ⟨(some (65)), .move (.tmp 10), none, [0, 1, 2, 3, 4, 5]⟩, 
  ⟨(some (66)), .move (.tmp 12), none, [0, 1, 2, 3, 4, 5, 6]⟩, 
  ⟨(some (67)), .indexAddr 1 (.tmp 65) (.tmp 66), none, [0, 1, 2, 3, 4, 5]⟩, 
  ⟨(some (68)), .load none (.tmp 67), none, [0, 1, 2, 3, 4, 5]⟩, 
  ⟨(some (69)), .bin .plain .add (.tmp 64) (.tmp 68), none, [0, 1]⟩, 
  ⟨(some (70)), .indexAddr 1 (.tmp 59) (.tmp 60), none, []⟩, 
  ⟨none, .store 1 (.tmp 70) (.tmp 69), none, []⟩]
def k_law01_FieldSums_r8s : List (List AOper) := [
  [
  ⟨(some (59)), .move (.tmp 11), none, []⟩, 
  ⟨(some (60)), .move (.tmp 12), none, [0]⟩, 
  ⟨(some (61)), .move (.tmp 9), none, [0, 1]⟩, 
  ⟨(some (62)), .move (.tmp 12), none, [0, 1, 2]⟩, 
  ⟨(some (63)), .indexAddr 1 (.tmp 61) (.tmp 62), none, [0, 1]⟩, 
  ⟨(some (64)), .load none (.tmp 63), none, [0, 1]⟩, 
  ⟨(some (65)), .move (.tmp 10), none, [0, 1, 2, 3, 4, 5]⟩, 
  ⟨(some (66)), .move (.tmp 12), none, [0, 1, 2, 3, 4, 5, 6]⟩, 
  ⟨(some (67)), .indexAddr 1 (.tmp 65) (.tmp 66), none, [0, 1, 2, 3, 4, 5]⟩, 
  ⟨(some (68)), .load none (.tmp 67), none, [0, 1, 2, 3, 4, 5]⟩, 
  ⟨(some (69)), .bin .plain .add (.tmp 64) (.tmp 68), none, [0, 1]⟩], 
  [
  ⟨(some (70)), .indexAddr 1 (.tmp 59) (.tmp 60), none, []⟩], 
  [
  ⟨none, .store 1 (.tmp 70) (.tmp 69), none, []⟩]]
theorem k_law01_FieldSums_r8_sg : segs k_law01_FieldSums_r8 = k_law01_FieldSums_r8s := by kernel_rfl
theorem k_law01_FieldSums_r8_st : statOK k_law01_FieldSums_r8 = true := by kernel_rfl
def k_law01_FieldSums_r9 : List AOper := [
  ⟨(some (41)), .move (.tmp 12), none, []⟩, 
  ⟨(some (42)), .bin .plain .add (.tmp 41) (.const (.int .i64 1)), none, []⟩, 
  ⟨(some (12)), .move (.tmp 42), none, []⟩]
def k_law01_FieldSums_r10 : ACode := (.seq (.seq (.reg k_law01_FieldSums_r6 false) (.cond (.tmp 40) .skip (.exit 0))) (.seq (.block 1 (.seq (.reg k_law01_FieldSums_r7 true) (.reg k_law01_FieldSums_r8 true))) (.reg k_law01_FieldSums_r9 false)))
def k_law01_FieldSums_r11 : List AOper := [
  ⟨(some (71)), .move (.tmp 1), none, []⟩, 
  ⟨(some (72)), .call (.const (.fn (.func 23) [] [])) [.tmp 71, .const (.int .i64 31)], none, []⟩, 
  ⟨(some (73)), .move (.tmp 2), none, []⟩, 
  ⟨(some (74)), .call (.const (.fn (.func 23) [] [])) [.tmp 73, .const (.int .i64 31)], none, []⟩, 
  ⟨(some (13)), .move (.tmp 72), none, []⟩, 
  ⟨(some (14)), .move (.tmp 74), none, []⟩]
def k_law01_FieldSums_r12 : List AOper := [
  ⟨(some (76)), .load (some (4)) (.tmp 8), none, []⟩, 
  ⟨(some (77)), .move (.tmp 9), none, []⟩, 
  ⟨(some (78)), .move (.tmp 13), none, []⟩, 
  ⟨(some (79)), .call (.const (.fn (.func 38) [] [])) [.tmp 76, .tmp 77, .tmp 78], none, []⟩, 
  ⟨(some (75)), .move (.tmp 79), none, []⟩, 
  ⟨(some (80)), .extract (.tmp 75) 0, none, []⟩, 
  ⟨(some (81)), .extract (.tmp 75) 1, none, []⟩, 
  ⟨(some (15)), .box (.const (.agg [.nilsl, .nilsl, .int .i64 0, .bool false])), none, []⟩, 
  ⟨none, .store 4 (.tmp 15) (.tmp 80), none, []⟩, 
  ⟨(some (16)), .move (.tmp 81), none, []⟩]
def k_law01_FieldSums_r13 : List AOper := [
  ⟨(some (83)), .load (some (4)) (.tmp 8), none, []⟩, 
  ⟨(some (84)), .move (.tmp 10), none, []⟩, 
  ⟨(some (85)), .move (.tmp 14), none, []⟩, 
  ⟨(some (86)), .call (.const (.fn (.func 38) [] [])) [.tmp 83, .tmp 84, .tmp 85], none, []⟩, 
  ⟨(some (82)), .move (.tmp 86), none, []⟩, 
  ⟨(some (87)), .extract (.tmp 82) 0, none, []⟩, 
  ⟨(some (88)), .extract (.tmp 82) 1, none, []⟩, 
  ⟨(some (17)), .box (.const (.agg [.nilsl, .nilsl, .int .i64 0, .bool false])), none, []⟩, 
  ⟨none, .store 4 (.tmp 17) (.tmp 87), none, []⟩, 
  ⟨(some (18)), .move (.tmp 88), none, []⟩]
def k_law01_FieldSums_r14 : List AOper := [
  ⟨(some (90)), .load (some (4)) (.tmp 8), none, []⟩, 
  ⟨(some (91)), .move (.tmp 11), none, []⟩, 
  ⟨(some (92)), .move (.tmp 13), none, []⟩, 
  ⟨(some (93)), .call (.const (.fn (.func 38) [] [])) [.tmp 90, .tmp 91, .tmp 92], none, []⟩, 
  ⟨(some (89)), .move (.tmp 93), none, []⟩, 
  ⟨(some (94)), .extract (.tmp 89) 0, none, []⟩, 
  ⟨(some (95)), .extract (.tmp 89) 1, none, []⟩, 
  ⟨(some (19)), .box (.const (.agg [.nilsl, .nilsl, .int .i64 0, .bool false])), none, []⟩, 
  ⟨none, .store 4 (.tmp 19) (.tmp 94), none, []⟩, 
  ⟨(some (20)), .move (.tmp 95), none, []⟩]
def k_law01_FieldSums_r15 : List AOper := [
  ⟨(some (96)), .move (.tmp 16), none, []⟩, 
  ⟨(some (97)), .bin .plain .neq (.tmp 96) (.const (.int .i64 0)), none, []⟩, 
  ⟨(some (98)), .move (.tmp 97), none, []⟩, 
  ⟨(some (99)), .move (.tmp 18), (some (98, false)), []⟩, 
  ⟨(some (100)), .bin .plain .neq (.tmp 99) (.const (.int .i64 0)), (some (98, false)), []⟩, 
  ⟨(some (101)), .pick (.tmp 98) (.const (.bool true)) (.tmp 100), none, []⟩, 
  ⟨(some (102)), .move (.tmp 101), none, []⟩, 
  ⟨(some (103)), .move (.tmp 20), (some (102, false)), []⟩, 
  ⟨(some (104)), .bin .plain .neq (.tmp 103) (.const (.int .i64 0)), (some (102, false)), []⟩, 
  ⟨(some (105)), .pick (.tmp 102) (.const (.bool true)) (.tmp 104), none, []⟩]
def k_law01_FieldSums_r16 : List AOper := [
  ⟨(some (6)), .move (.const (.bool false)), none, []⟩]
def k_law01_FieldSums_r17 : List AOper := [
  ⟨(some (106)), .fieldAddr 0 (.tmp 15), none, []⟩, 
  ⟨(some (107)), .load none (.tmp 106), none, []⟩, 
  ⟨(some (108)), .fieldAddr 1 (.tmp 15), none, []⟩, 
  ⟨(some (109)), .load none (.tmp 108), none, []⟩, 
  ⟨(some (110)), .fieldAddr 0 (.tmp 17), none, []⟩, 
  ⟨(some (111)), .load none (.tmp 110), none, []⟩, 
  ⟨(some (112)), .fieldAddr 1 (.tmp 17), none, []⟩, 
  ⟨(some (113)), .load none (.tmp 112), none, []⟩, 
  ⟨(some (114)), .fieldAddr 0 (.tmp 19), none, []⟩, 
  ⟨(some (115)), .load none (.tmp 114), none, []⟩, 
  ⟨(some (116)), .fieldAddr 1 (.tmp 19), none, []⟩, 
  ⟨(some (117)), .load none (.tmp 116), none, []⟩, 
  ⟨(some (118)), .buildSlice 1 [.tmp 107, .tmp 109, .tmp 111, .tmp 113, .tmp 115, .tmp 117], none, []⟩, 
  ⟨(some (21)), .move (.tmp 118), none, []⟩]
def k_law01_FieldSums_r18 : List AOper := [
  ⟨(some (22)), .move (.const (.int .i64 0)), none, []⟩]
def k_law01_FieldSums_r19 : List AOper := [
  ⟨(some (119)), .move (.tmp 22), none, []⟩, 
  ⟨(some (120)), .move (.tmp 21), none, []⟩, 
  ⟨(some (121)), .len false (.tmp 120), none, []⟩, 
  ⟨(some (122)), .bin .plain .lss (.tmp 119) (.tmp 121), none, []⟩]
def k_law01_FieldSums_r20 : List AOper := [
  ⟨(some (125)), .move (.tmp 21), none, []⟩, 
  ⟨(some (126)), .move (.tmp 22), none, [0]⟩, 
  ⟨(some (127)), .indexAddr 1 (.tmp 125) (.tmp 126), none, []⟩, 
  ⟨(some (128)), .load none (.tmp 127), none, []⟩, 
  ⟨(some (129)), .len false (.tmp 128), none, []⟩, 
  ⟨(some (130)), .fieldAddr 3 (.tmp 8), none, [0, 1, 2, 3, 4]⟩, 
  ⟨(some (131)), .load none (.tmp 130), none, [0, 1, 2, 3, 4]⟩, 
  ⟨(some (132)), .len false (.tmp 131), none, [0, 1, 2, 3, 4]⟩, 
  ⟨(some (133)), .bin .plain .neq (.tmp 129) (.tmp 132), none, []⟩]
def k_law01_FieldSums_r20s : List (List AOper) := [
  [
  ⟨(some (125)), .move (.tmp 21), none, []⟩, 
  ⟨(some (126)), .move (.tmp 22), none, [0]⟩, 
  ⟨(some (127)), .indexAddr 1 (.tmp 125) (.tmp 126), none, []⟩, 
  ⟨(some (128)), .load none (.tmp 127), none, []⟩, 
  ⟨(some (129)), .len false (.tmp 128), none, []⟩, 
  ⟨(some (130)), .fieldAddr 3 (.tmp 8), none, [0, 1, 2, 3, 4]⟩, 
  ⟨(some (131)), .load none (.tmp 130), none, [0, 1, 2, 3, 4]⟩, 
  ⟨(some (132)), .len false (.tmp 131), none, [0, 1, 2, 3, 4]⟩], 
  [
  ⟨(some (133)), .bin .plain .neq (.tmp 129) (.tmp 132), none, []⟩]]
theorem k_law01_FieldSums_r20_sg : segs k_law01_FieldSums_r20 = k_law01_FieldSums_r20s := by kernel_rfl
theorem k_law01_FieldSums_r20_st : statOK k_law01_FieldSums_r20 = true := by kernel_rfl
def k_law01_FieldSums_r21 : List AOper := [
  ⟨(some (6)), .move (.const (.bool false)), none, []⟩]
def k_law01_FieldSums_r22 : List AOper := [
  ⟨(some (123)), .move (.tmp 22), none, []⟩, 
  ⟨(some (124)), .bin .plain .add (.tmp 123) (.const (.int .i64 1)), none, []⟩, 
  ⟨(some (22)), .move (.tmp 124), none, []⟩]
def k_law01_FieldSums_r23 : ACode := (.seq (.seq (.reg k_law01_FieldSums_r19 false) (.cond (.tmp 122) .skip (.exit 2))) (.seq (.block 3 (.seq (.reg k_law01_FieldSums_r20 true) (.cond (.tmp 133) (.seq (.reg k_law01_FieldSums_r21 false) .ret) .skip))) (.reg k_law01_FieldSums_r22 false)))
def k_law01_FieldSums_r24 : List AOper := [
  ⟨(some (23)), .move (.const (.int .i64 0)), none, []⟩]
def k_law01_FieldSums_r25 : List AOper := [
  ⟨(some (134)), .move (.tmp 23), none, []⟩, 
  ⟨(some (135)), .fieldAddr 3 (.tmp 8), none, []⟩, 
  ⟨(some (136)), .load none (.tmp 135), none, []⟩, 
  ⟨(some (137)), .len false (.tmp 136), none, []⟩, 
  ⟨(some (138)), .bin .plain .lss (.tmp 134) (.tmp 137), none, []⟩]
def k_law01_FieldSums_r26 : List AOper := [
  ⟨(some (141)), .fieldAddr 0 (.tmp 15), none, []⟩, 
  ⟨(some (142)), .load none (.tmp 141), none, []⟩, 
  ⟨(some (143)), .move (.tmp 23), none, [0, 1]⟩, 
  ⟨(some (144)), .indexAddr 1 (.tmp 142) (.tmp 143), none, []⟩, 
  ⟨(some (145)), .load none (.tmp 144), none, []⟩, 
  ⟨(some (146)), .fieldAddr 0 (.tmp 17), none, [0, 1, 2, 3, 4]⟩, 
  ⟨(some (147)), .load none (.tmp 146), none, [0, 1, 2, 3, 4]⟩, 
  ⟨(some (148)), .move (.tmp 23), none, [0, 1, 2, 3, 4, 5, 6]⟩, 
  ⟨(some (149)), .indexAddr 1 (.tmp 147) (.tmp 148), none, [0, 1, 2, 3, 4]⟩, 
  ⟨(some (150)), .load none (.tmp 149), none, [0, 1, 2, 3, 4]⟩, 
  ⟨(some (151)), .bin .plain .add (.tmp 145) (.tmp 150), none, []⟩, 
  ⟨(some (152)), .fieldAddr 1 (.tmp 19), none, [0, 1, 2, 3, 4, 5, 6, 7, 8, 9, 10]⟩, 
  ⟨(some (153)), .load none (.tmp 152), none, [0, 1, 2, 3, 4, 5, 6, 7, 8, 9, 10]⟩, 
  ⟨(some (154)), .move (.tmp 23), none, [0, 1, 2, 3, 4, 5, 6, 7, 8, 9, 10, 11, 12]⟩, 
  ⟨(some (155)), .indexAddr 1 (.tmp 153) (.tmp 154), none, [0, 1, 2, 3, 4, 5, 6, 7, 8, 9, 10]⟩, 
  ⟨(some (156)), .load none (.tmp 155), none, [0, 1, 2, 3, 4, 5, 6, 7, 8, 9, 10]⟩, 
  ⟨(some (157)), .bin .plain .gtr (.tmp 151) (.tmp 156), none, []⟩, 
  ⟨(some (158)), .move (.tmp 157), none, []⟩, 
  ⟨(some (159)), .fieldAddr 1 (.tmp 15), (some (158, false)), []⟩, 
  ⟨(some (160)), .load none (.tmp 159), (some (158, false)), []⟩, 
  ⟨(some (161)), .move (.tmp 23), (some (158, false)), [18, 19]⟩, 
  ⟨(some (162)), .indexAddr 1 (.tmp 160) (.tmp 161), (some (158, false)), []⟩, 
  ⟨(some (163)), .load none (.tmp 162), (some (158, false)), []⟩, 
  ⟨(some (164)), .fieldAddr 1 (.tmp 17), (some (158, false)), [18, 19, 20, 21, 22]⟩, 
  ⟨(some (165)), .load none (.tmp 164), (some (158, false)), [18, 19, 20, 21, 22]⟩, 
  ⟨(some (166)), .move (.tmp 23), (some (158, false)), [18, 19, 20, 21, 22, 23, 24]⟩, 
  ⟨(some (167)), .indexAddr 1 (.tmp 165) (.tmp 166), (some (158, false)), [18, 19, 20, 21, 22]⟩, 
  ⟨(some (168)), .load none (.tmp 167), (some (158, false)), [18, 19, 20, 21, 22]⟩, 
  ⟨(some (169)), .bin .plain .add (.tmp 163) (.tmp 168), (some (158, false)), []⟩, 
  ⟨(some (170)), .fieldAddr 0 (.tmp 19), (some (158, false)), [18, 19, 20, 21, 22, 23, 24, 25, 26, 27, 28]⟩, 
  ⟨(some (171)), .load none (.tmp 170), (some (158, false)), [18, 19, 20, 21, 22, 23, 24, 25, 26, 27, 28]⟩, 
  ⟨(some (172)), .move (.tmp 23), (some (158, false)), [18, 19, 20, 21, 22, 23, 24, 25, 26, 27, 28, 29, 30]⟩, 
  ⟨(some (173)), .indexAddr 1 (.tmp 171) (.tmp 172), (some (158, false)), [18, 19, 20, 21, 22, 23, 24, 25, 26, 27, 28]⟩, 
  ⟨(some (174)), .load none (.tmp 173), (some (158, false)), [18, 19, 20, 21, 22, 23, 24, 25, 26, 27, 28]⟩, 
  ⟨(some (175)), .bin .plain .lss (.tmp 169) (.tmp 174), (some (158, false)), []⟩, 
  ⟨(some (176)), .pick (.tmp 158) (.const (.bool true)) (.tmp 175), none, []⟩]
def k_law01_FieldSums_r26s : List (List AOper) := [
  [
  ⟨(some (141)), .fieldAddr 0 (.tmp 15), none, []⟩, 
  ⟨(some (142)), .load none (.tmp 141), none, []⟩, 
  ⟨(some (143)), .move (.tmp 23), none, [0, 1]⟩, 
  ⟨(some (144)), .indexAddr 1 (.tmp 142) (.tmp 143), none, []⟩, 
  ⟨(some (145)), .load none (.tmp 144), none, []⟩, 
  ⟨(some (146)), .fieldAddr 0 (.tmp 17), none, [0, 1, 2, 3, 4]⟩, 
  ⟨(some (147)), .load none (.tmp 146), none, [0, 1, 2, 3, 4]⟩, 
  ⟨(some (148)), .move (.tmp 23), none, [0, 1, 2, 3, 4, 5, 6]⟩, 
  ⟨(some (149)), .indexAddr 1 (.tmp 147) (.tmp 148), none, [0, 1, 2, 3, 4]⟩, 
  ⟨(some (150)), .load none (.tmp 149), none, [0, 1, 2, 3, 4]⟩, 
  ⟨(some (151)), .bin .plain .add (.tmp 145) (.tmp 150), none, []⟩, 
  ⟨(some (152)), .fieldAddr 1 (.tmp 19), none, [0, 1, 2, 3, 4, 5, 6, 7, 8, 9, 10]⟩, 
  ⟨(some (153)), .load none (.tmp 152), none, [0, 1, 2, 3, 4, 5, 6, 7, 8, 9, 10]⟩, 
  ⟨(some (154)), .move (.tmp 23), none, [0, 1, 2, 3, 4, 5, 6, 7, 8, 9, 10, 11, 12]⟩, 
  ⟨(some (155)), .indexAddr 1 (.tmp 153) (.tmp 154), none, [0, 1, 2, 3, 4, 5, 6, 7, 8, 9, 10]⟩, 
  ⟨(some (156)), .load none (.tmp 155), none, [0, 1, 2, 3, 4, 5, 6, 7, 8, 9, 10]⟩], 
  [
  ⟨(some (157)), .bin .plain .gtr (.tmp 151) (.tmp 156), none, []⟩], 
  [
  ⟨(some (158)), .move (.tmp 157), none, []⟩], 
  [
  ⟨(some (159)), .fieldAddr 1 (.tmp 15), (some (158, false)), []⟩, 
  ⟨(some (160)), .load none (.tmp 159), (some (158, false)), []⟩, 
  ⟨(some (161)), .move (.tmp 23), (some (158, false)), [18, 19]⟩, 
  ⟨(some (162)), .indexAddr 1 (.tmp 160) (.tmp 161), (some (158, false)), []⟩, 
  ⟨(some (163)), .load none (.tmp 162), (some (158, false)), []⟩, 
  ⟨(some (164)), .fieldAddr 1 (.tmp 17), (some (158, false)), [18, 19, 20, 21, 22]⟩, 
  ⟨(some (165)), .load none (.tmp 164), (some (158, false)), [18, 19, 20, 21, 22]⟩, 
  ⟨(some (166)), .move (.tmp 23), (some (158, false)), [18, 19, 20, 21, 22, 23, 24]⟩, 
  ⟨(some (167)), .indexAddr 1 (.tmp 165) (.tmp 166), (some (158, false)), [18, 19, 20, 21, 22]⟩, 
  ⟨(some (168)), .load none (.tmp 167), (some (158, false)), [18, 19, 20, 21, 22]⟩, 
  ⟨(some (169)), .bin .plain .add (.tmp 163) (.tmp 168), (some (158, false)), []⟩, 
  ⟨(some (170)), .fieldAddr 0 (.tmp 19), (some (158, false)), [18, 19, 20, 21, 22, 23, 24, 25, 26, 27, 28]⟩, 
  ⟨(some (171)), .load none (.tmp 170), (some (158, false)), [18, 19, 20, 21, 22, 23, 24, 25, 26, 27, 28]⟩, 
  ⟨(some (172)), .move (.tmp 23), (some (158, false)), [18, 19, 20, 21, 22, 23, 24, 25, 26, 27, 28, 29, 30]⟩, 
  ⟨(some (173)), .indexAddr 1 (.tmp 171) (.tmp 172), (some (158, false)), [18, 19, 20, 21, 22, 23, 24, 25, 26, 27, 28]⟩, 
  ⟨(some (174)), .load none (.tmp 173), (some (158, false)), [18, 19, 20, 21, 22, 23, 24, 25, 26, 27, 28]⟩], 
  [
  ⟨(some (175)), .bin .plain .lss (.tmp 169) (.tmp 174), (some (158, false)), []⟩], 
  [
  ⟨(some (176)), .pick (.tmp 158) (.const (.bool true)) (.tmp 175), none, []⟩]]
theorem k_law01_FieldSums_r26_sg : segs k_law01_FieldSums_r26 = k_law01_FieldSums_r26s := by kernel_rfl
theorem k_law01_FieldSums_r26_st : statOK k_law01_FieldSums_r26 = true := by kernel_rfl
def k_law01_FieldSums_r27 : List AOper := [
  ⟨(some (6)), .move (.const (.bool false)), none, []⟩]
def k_law01_FieldSums_r28 : List AOper := [
  ⟨(some (139)), .move (.tmp 23), none, []⟩, 
  ⟨(some (140)), .bin .plain .add (.tmp 139) (.const (.int .i64 1)), none, []⟩, 
  ⟨(some (23)), .move (.tmp 140), none, []⟩]
def k_law01_FieldSums_r29 : ACode := (.seq (.seq (.reg k_law01_FieldSums_r25 false) (.cond (.tmp 138) .skip (.exit 4))) (.seq (.block 5 (.seq (.reg k_law01_FieldSums_r26 true) (.cond (.tmp 176) (.seq (.reg k_law01_FieldSums_r27 false) .ret) .skip))) (.reg k_law01_FieldSums_r28 false)))
def k_law01_FieldSums_r30 : List AOper := [
  ⟨(some (177)), .call (.const (.fn (.func 20) [] [])) [], none, []⟩, 
  ⟨(some (6)), .move (.tmp 177), none, []⟩]
def k_law01_FieldSums : AFun := { params := 3, ntmps := 178, body := (.seq (.reg k_law01_FieldSums_r0 false) (.seq (.reg k_law01_FieldSums_r1 false) (.seq (.reg k_law01_FieldSums_r2 false) (.seq (.reg k_law01_FieldSums_r3 true) (.seq (.reg k_law01_FieldSums_r4 false) (.seq (.seq (.reg k_law01_FieldSums_r5 false) (.block 0 (.loop k_law01_FieldSums_r10))) (.seq (.reg k_law01_FieldSums_r11 false) (.seq (.reg k_law01_FieldSums_r12 false) (.seq (.reg k_law01_FieldSums_r13 false) (.seq (.reg k_law01_FieldSums_r14 false) (.seq (.seq (.reg k_law01_FieldSums_r15 false) (.cond (.tmp 105) (.seq (.reg k_law01_FieldSums_r16 false) .ret) .skip)) (.seq (.reg k_law01_FieldSums_r17 false) (.seq (.seq (.reg k_law01_FieldSums_r18 false) (.block 2 (.loop k_law01_FieldSums_r23))) (.seq (.seq (.reg k_law01_FieldSums_r24 false) (.block 4 (.loop k_law01_FieldSums_r29))) (.seq (.reg k_law01_FieldSums_r30 false) .ret))))))))))))))), res := [.tmp 6] }
theorem k_law01_FieldSums_ok : cfun Try.prog Try.f12 = k_law01_FieldSums := by kernel_rfl


abbrev n_law01_FieldSums : Nat := 12
theorem e_law01_FieldSums : EntryOK Try.prog n_law01_FieldSums k_law01_FieldSums := ⟨Try.f12, Try.func12, k_law01_FieldSums_ok, by kernel_rfl⟩

attribute [go_sem] k_law01_FieldSums_r0 k_law01_FieldSums_r1 k_law01_FieldSums_r2 k_law01_FieldSums_r3s k_law01_FieldSums_r4 k_law01_FieldSums_r5 k_law01_FieldSums_r6 k_law01_FieldSums_r7s k_law01_FieldSums_r8s k_law01_FieldSums_r9 k_law01_FieldSums_r11 k_law01_FieldSums_r12
attribute [go_sem] k_law01_FieldSums_r13 k_law01_FieldSums_r14 k_law01_FieldSums_r15 k_law01_FieldSums_r16 k_law01_FieldSums_r17 k_law01_FieldSums_r18 k_law01_FieldSums_r19 k_law01_FieldSums_r20s k_law01_FieldSums_r21 k_law01_FieldSums_r22 k_law01_FieldSums_r24 k_law01_FieldSums_r25
attribute [go_sem] k_law01_FieldSums_r26s k_law01_FieldSums_r27 k_law01_FieldSums_r28 k_law01_FieldSums_r30 k_law01_FieldSums_r8_sg k_law01_FieldSums_r3_sg k_law01_FieldSums_r7_sg k_law01_FieldSums_r20_sg k_law01_FieldSums_r26_sg k_law01_FieldSums_r8_st k_law01_FieldSums_r3_st k_law01_FieldSums_r7_st
attribute [go_sem] k_law01_FieldSums_r20_st k_law01_FieldSums_r26_st k_law01_FieldSums
end Go.Proofs
namespace Go.Proofs
open Go Go.Sx
attribute [local irreducible] Run

def hvs (l : List Int) : List Int := l.map fun x => x.tdiv 2
def sms (a b : List Int) : List Int := List.zipWith (· + ·) a b
theorem hvs_len (l : List Int) : (hvs l).length = l.length := by simp [hvs]
theorem gt_hvs (l : List Int) {i : Nat} (h : i < l.length) : gt (hvs l) i = (gt l i).tdiv 2 := by
  unfold gt hvs
  rw [List.getD_eq_getElem?_getD, List.getD_eq_getElem?_getD, List.getElem?_map, List.getElem?_eq_getElem h]; rfl
theorem tdiv_in {x : Int} (h : -1000000 ≤ x ∧ x ≤ 1000000) : -500000 ≤ x.tdiv 2 ∧ x.tdiv 2 ≤ 500000 := by
  rcases Int.le_total 0 x with h0 | h0
  · rw [Int.tdiv_eq_ediv_of_nonneg h0]; omega
  · obtain ⟨y, rfl⟩ : ∃ y, x = -y := ⟨-x, by omega⟩
    rw [Int.neg_tdiv, Int.tdiv_eq_ediv_of_nonneg (by omega)]; omega
theorem hvs_in {l : List Int} (h : VOK l) (i : Nat) : -500000 ≤ gt (hvs l) i ∧ gt (hvs l) i ≤ 500000 := by
  by_cases hi : i < l.length
  · rw [gt_hvs l hi]; exact tdiv_in (h _ (gt_mem hi))
  · unfold gt
    rw [List.getD_eq_getElem?_getD, List.getElem?_eq_none (by rw [hvs_len]; omega)]
    exact ⟨by show (-500000 : Int) ≤ 0; omega, by show (0 : Int) ≤ 500000; omega⟩
theorem mem_gt {l : List Int} {x : Int} (h : x ∈ l) : ∃ i, i < l.length ∧ gt l i = x := by
  obtain ⟨i, hi, e⟩ := List.mem_iff_getElem.1 h
  exact ⟨i, hi, by unfold gt; rw [List.getD_eq_getElem?_getD, List.getElem?_eq_getElem hi, ← e]; rfl⟩
theorem hvs_vok {l : List Int} (h : VOK l) : VOK (hvs l) := fun x hx => by
  obtain ⟨i, _, rfl⟩ := mem_gt hx
  have := hvs_in h i; omega
theorem sms_len {a b : List Int} (h : a.length = b.length) : (sms a b).length = a.length := by simp [sms, h]
theorem gt_sms {a b : List Int} (h : a.length = b.length) (i : Nat) : gt (sms a b) i = gt a i + gt b i := by
  unfold gt sms
  simp only [List.getD_eq_getElem?_getD, List.getElem?_zipWith]
  by_cases hi : i < a.length
  · rw [List.getElem?_eq_getElem hi, List.getElem?_eq_getElem (show i < b.length by omega)]; rfl
  · rw [List.getElem?_eq_none (by omega), List.getElem?_eq_none (by omega)]; rfl
theorem sms_vok {a b : List Int} (ha : VOK a) (hb : VOK b) (h : a.length = b.length) : VOK (sms (hvs a) (hvs b)) := fun x hx => by
  obtain ⟨i, _, rfl⟩ := mem_gt hx
  rw [gt_sms (by rw [hvs_len, hvs_len, h])]
  have := hvs_in ha i; have := hvs_in hb i; omega
/-- The first i numbers of one list, then those of another one. -/
def mixTo (a b : List Int) (i : Nat) : List Int := a.take i ++ b.drop i
theorem mix_len {a b : List Int} (h : a.length = b.length) {i : Nat} (hi : i ≤ a.length) : (mixTo a b i).length = a.length := by simp [mixTo]; omega
theorem mix_set {a b : List Int} (h : a.length = b.length) {i : Nat} (hi : i < a.length) : (mixTo a b i).set i (gt a i) = mixTo a b (i + 1) := by
  unfold mixTo
  rw [List.set_append_right _ _ (by simp; omega)]
  have e1 : i - (a.take i).length = 0 := by simp; omega
  have e2 : b.drop i = gt b i :: b.drop (i + 1) := drop_step (by omega)
  rw [e1, e2, List.set_cons_zero, List.take_add_one, gt_get hi]
  simp
theorem mix_gt {a b : List Int} (h : a.length = b.length) {i : Nat} (hi : i < a.length) : gt (mixTo a b i) i = gt b i := by
  unfold mixTo gt
  rw [List.getD_eq_getElem?_getD, List.getD_eq_getElem?_getD, List.getElem?_append_right (by simp; omega), List.getElem?_drop]
  congr 2
  simp; omega
theorem mix_end {a b : List Int} (h : a.length = b.length) : mixTo a b a.length = a := by rw [mixTo, h, List.drop_length, List.append_nil, ← h, List.take_length]

/-- Bounds of sums and sums of bounds meet. -/
theorem sums_meet {p : Pl} (hp : PlOK p) {a b c : List Int} (k l m : Nat) (h : ∀ e, vo c e = vo a e + vo b e) (i : Nat) (hi : i < p.w * p.h) :
    gt (lowB p a k) i + gt (lowB p b l) i ≤ gt (highB p c m) i ∧ gt (lowB p c m) i ≤ gt (highB p a k) i + gt (highB p b l) i := by
  have A := low_ok hp a k
  have B := low_ok hp b l
  have C := low_ok hp c m
  have A' := high_ok hp a k
  have B' := high_ok hp b l
  have C' := high_ok hp c m
  refine ⟨compare hp.w.2 (A.sub.add B.sub) C'.sup hp.some (fun j hj hE => ?_) i hi, compare hp.w.2 C.sub (A'.sup.add B'.sup) hp.some (fun j hj hE => ?_) i hi⟩
  · rw [A.elec j hj hE, B.elec j hj hE, C'.elec j hj hE, h]; exact Int.le_refl _
  · rw [A'.elec j hj hE, B'.elec j hj hE, C.elec j hj hE, h]; exact Int.le_refl _

set_option maxHeartbeats 8000000 in
set_option maxRecDepth 10000 in
theorem sums_law (zs : List Int) (hl : zs.length ≤ 9223372036854775807) (a1 a2 : Int) : Ans Try.prog n_law01_FieldSums [.view (zs.map (.int .i64)), .int .i64 a1, .int .i64 a2] [] (.bool true) [] := by
  have m1 := mod_in a1 31 (by omega)
  have e1 := mod_pos a1 31 (by omega)
  have m2 := mod_in a2 31 (by omega)
  have e2 := mod_pos a2 31 (by omega)
  generalize a1 % 31 = n1 at *
  generalize a2 % 31 = n2 at *
  obtain ⟨n, rfl⟩ : ∃ n : Nat, n1 = n := ⟨n1.toNat, by omega⟩
  obtain ⟨m, rfl⟩ : ∃ m : Nat, n2 = m := ⟨n2.toNat, by omega⟩
  refine spec_run e_law01_FieldSums fun G => ?_
  simp only [go_sem]
  refine callN1 (newdice_ok zs hl) (by simp only [go_sem]) (dr_bel _ _) (by simp) (by simp) ?_
  generalize seedW zs = w
  simp only [go_sem]
  refine callDN (PlanOf_ok w 8 6 (by omega) (by omega)) rfl (by simp only [go_sem]) (dr_bel _ _) (fun q hq => ⟨pla_bel _ _ _ _ rfl, dr_bel _ _, iv_row _ _ _⟩) (by simp) (by simp) ?_
  rintro ⟨w1, p⟩ hp
  dsimp only at hp ⊢
  have hpo := hp.ok
  have hpl : p.cs.length ≤ 1000000 := by
    rw [hpo.len]; have := Nat.mul_le_mul hpo.w.2 hpo.h.2; omega
  have hmx := hpo.max
  simp only [go_sem, Pl.a, Pl.c4, ren, rens]
  have hg0 : 0 ≤ gmax p.cs := by omega
  have V1 := volsD_of w1 hg0
  have C1 := VoltsD_ok w1 hpl hg0 true
  generalize volsD w1 (gmax p.cs) = Y1 at *
  obtain ⟨w2, v⟩ := Y1
  dsimp only at V1 C1
  refine dR1 C1 (j0 := 0) (j1 := 1) rfl (by simp [go_sem, Pl.a, Pl.c4]) rfl rfl (dr_bel _ _) (iv_row _ _ _) (by decide) (by simp [go_sem]) (dr_bel _ _) (iv_row _ _ _) (by simp) (by simp [go_sem]) ?_
  simp only [go_sem, ren, rens, Pl.a, Pl.c4]
  refine callR1 (VoltsOf_ok w2 hpl (by omega) true) (j0 := 0) (j1 := 1) rfl (by simp [go_sem, Pl.a, Pl.c4]) rfl rfl (dr_bel _ _) (iv_row _ _ _) (by decide) (fun q hq => ⟨by simp [go_sem], dr_bel _ _, iv_row _ _ _⟩) (by simp) (by simp) ?_
  rintro ⟨w3, u⟩ V2
  dsimp only at V2 ⊢
  have hvl := V1.len hp
  have hul := V2.len hp
  have hv := V1.2
  have hu := V2.2
  simp only [go_sem, ren, rens]
  have q1 : (0 : Int) ≤ v.length := by omega
  have q2 : (v.length : Int) ≤ 2 ^ 44 := by omega
  have q3 : (v.length : Int) * 8 ≤ 2 ^ 44 := by omega
  have hv8 : v.length ≤ 8 := by omega
  have huv : u.length = v.length := by omega
  simp only [go_sem, iv_len, q1, q2, q3, Int.toNat_natCast]
  refine ⟨Int.le_refl _, ?_⟩
  have hle : (hvs v).length = (hvs u).length := by rw [hvs_len, hvs_len, huv]
  have hsl : (sms (hvs v) (hvs u)).length = v.length := by rw [sms_len hle, hvs_len]
  have hs0 : List.replicate v.length (AVal.int IntKind.i64 0) = iv (fillTo (sms (hvs v) (hvs u)) 0) := by simp [fillTo, iv, hsl]
  have hv0 : v = mixTo (hvs v) v 0 := by simp [mixTo]
  have hu0 : u = mixTo (hvs u) u 0 := by simp [mixTo]
  refine loop_ind k_law01_FieldSums_r10.eq_1 (fun i : Nat => i ≤ v.length) (fun i => v.length - i)
    (fun i => (tsets 178 [(1, .int .i64 a1), (2, .int .i64 a2), (8, .ptr 2 0 0 1), (9, .sl 3 0 v.length), (10, .sl 4 0 u.length), (11, .sl 5 0 v.length), (12, .int .i64 i)],
      [some (Dr w3), some (.cells true 1 (iv p.cs)), some (.cells false 4 [p.a (.sl 1 0 p.cs.length)]), some (.cells false 1 (iv (mixTo (hvs v) v i))), some (.cells false 1 (iv (mixTo (hvs u) u i))), some (.cells false 1 (iv (fillTo (sms (hvs v) (hvs u)) i)))])) 0 (Nat.zero_le _) (by simp [go_sem]) (by rw [← hs0, ← hv0, ← hu0]; rfl) ?_
  intro i hi ih
  dsimp only at hi ih ⊢
  by_cases h1 : i < v.length
  · have h2 : (i : Int) < v.length := by omega
    have h3 := idx_next h1 (by omega)
    have n0 : ¬ (i : Int) < 0 := by omega
    have h2u : (i : Int) < u.length := by omega
    have f1 := mix_len (a := hvs v) (b := v) (hvs_len v) (i := i) (by rw [hvs_len]; omega)
    have f2 := mix_len (a := hvs u) (b := u) (hvs_len u) (i := i) (by rw [hvs_len]; omega)
    have f3 := fill_len (sms (hvs v) (hvs u)) (i := i) (by omega)
    have s1 := mix_set (a := hvs v) (b := v) (hvs_len v) (i := i) (by rw [hvs_len]; omega)
    have s2 := mix_set (a := hvs u) (b := u) (hvs_len u) (i := i) (by rw [hvs_len]; omega)
    have s3 := fill_set (sms (hvs v) (hvs u)) (i := i) (by omega)
    have g1 := mix_gt (a := hvs v) (b := v) (hvs_len v) (i := i) (by rw [hvs_len]; omega)
    have g2 := mix_gt (a := hvs u) (b := u) (hvs_len u) (i := i) (by rw [hvs_len]; omega)
    have r1 := iv_get (l := mixTo (hvs v) v i) (i := i) (by rw [f1, hvs_len]; omega)
    have r2 := iv_get (l := mixTo (hvs u) u i) (i := i) (by rw [f2, hvs_len]; omega)
    have r3 := iv_get (l := mixTo (hvs v) v (i + 1)) (i := i) (by rw [mix_len (hvs_len v) (by rw [hvs_len]; omega), hvs_len]; omega)
    have r4 := iv_get (l := mixTo (hvs u) u (i + 1)) (i := i) (by rw [mix_len (hvs_len u) (by rw [hvs_len]; omega), hvs_len]; omega)
    have b1 := hvs_in hv i
    have b2 := hvs_in hu i
    have k1 := gt_hvs v h1
    have k2 := gt_hvs u (i := i) (by omega)
    rw [gt_sms hle] at s3
    rw [k1] at s1 b1 s3
    rw [k2] at s2 b2 s3
    rw [g1] at r1
    rw [g2] at r2
    have x1 : (iv (mixTo (hvs v) v (i + 1)))[i]? = some (.int .i64 ((gt v i).tdiv 2)) := by
      rw [r3, ← s1, gt_set _ _ _ _ (by rw [f1, hvs_len]; omega), if_pos rfl]
    have x2 : (iv (mixTo (hvs u) u (i + 1)))[i]? = some (.int .i64 ((gt u i).tdiv 2)) := by
      rw [r4, ← s2, gt_set _ _ _ _ (by rw [f2, hvs_len]; omega), if_pos rfl]
    rw [hvs_len] at f1 f2
    have z1 : IntKind.i64.wrap ((gt v i).tdiv 2) = (gt v i).tdiv 2 := w64 (by omega)
    have z2 : IntKind.i64.wrap ((gt u i).tdiv 2) = (gt u i).tdiv 2 := w64 (by omega)
    have z3 : IntKind.i64.wrap ((gt v i).tdiv 2 + (gt u i).tdiv 2) = (gt v i).tdiv 2 + (gt u i).tdiv 2 := w64 (by omega)
    have z4 : (1 : Int) ≤ 2 := by omega
    have ihn := ih (i + 1) (by omega) h1
    clear ih
    clear k1 k2 g1 g2 r3 r4
    have g5 := iv_get (l := fillTo (sms (hvs v) (hvs u)) i) (i := i) (by omega)
    simp only [go_sem, h2, h2u, n0, r1, r2, iv_len, f1, f2, z1, z2, iv_set, s1, s2, x1, x2, z3, f3, hsl, s3, h3, huv, hvs_len, mix_len, h1, g5]
    exact ihn _ (by simp [go_sem, huv])
  · have h2 : ¬ (i : Int) < v.length := by omega
    have hie : i = v.length := by omega
    have hf1 : mixTo (hvs v) v i = hvs v := by have := mix_end (hvs_len v); rwa [hvs_len, ← hie] at this
    have hf2 : mixTo (hvs u) u i = hvs u := by have := mix_end (hvs_len u); rwa [hvs_len, huv, ← hie] at this
    have hf3 : fillTo (sms (hvs v) (hvs u)) i = sms (hvs v) (hvs u) := by have := fill_end (sms (hvs v) (hvs u)); rwa [hsl, ← hie] at this
    rw [hf1, hf2, hf3]
    clear ih hs0 hv0 hu0 hf1 hf2 hf3
    have s1 := Solve_ok hpo (hvs_vok hv) (by rw [hvs_len]; exact hvl) (n := n) (by omega)
    have s2 := Solve_ok hpo (hvs_vok hu) (by rw [hvs_len]; exact hul) (n := m) (by omega)
    have s3 := Solve_ok hpo (sms_vok hv hu huv.symm) (by rw [hsl]; exact hvl) (n := n) (by omega)
    have hvo : ∀ e, vo (sms (hvs v) (hvs u)) e = vo (hvs v) e + vo (hvs u) e := fun e => gt_sms hle _
    have meet := fun j (hj : j < p.w * p.h) => sums_meet hpo (cnt p (hvs v) n) (cnt p (hvs u) m) (cnt p (sms (hvs v) (hvs u)) n) hvo j hj
    have la := hvs_vok hv; have lb := hvs_vok hu
    have B1 : ∀ j, j < p.w * p.h → -1000000 ≤ gt (lowB p (hvs v) (cnt p (hvs v) n)) j ∧ gt (lowB p (hvs v) (cnt p (hvs v) n)) j ≤ 1000000 := fun j hj => by
      have := (low_ok hpo (hvs v) (cnt p (hvs v) n)).bd j hj; have := endL_in la p; have := endM_in la p; omega
    have B2 : ∀ j, j < p.w * p.h → -1000000 ≤ gt (highB p (hvs v) (cnt p (hvs v) n)) j ∧ gt (highB p (hvs v) (cnt p (hvs v) n)) j ≤ 1000000 := fun j hj => by
      have := (high_ok hpo (hvs v) (cnt p (hvs v) n)).bd j hj; have := endL_in la p; have := endM_in la p; omega
    have B3 : ∀ j, j < p.w * p.h → -1000000 ≤ gt (lowB p (hvs u) (cnt p (hvs u) m)) j ∧ gt (lowB p (hvs u) (cnt p (hvs u) m)) j ≤ 1000000 := fun j hj => by
      have := (low_ok hpo (hvs u) (cnt p (hvs u) m)).bd j hj; have := endL_in lb p; have := endM_in lb p; omega
    have B4 : ∀ j, j < p.w * p.h → -1000000 ≤ gt (highB p (hvs u) (cnt p (hvs u) m)) j ∧ gt (highB p (hvs u) (cnt p (hvs u) m)) j ≤ 1000000 := fun j hj => by
      have := (high_ok hpo (hvs u) (cnt p (hvs u) m)).bd j hj; have := endL_in lb p; have := endM_in lb p; omega
    have L1 := (low_ok hpo (hvs v) (cnt p (hvs v) n)).len; have L2 := (high_ok hpo (hvs v) (cnt p (hvs v) n)).len
    have L3 := (low_ok hpo (hvs u) (cnt p (hvs u) m)).len; have L4 := (high_ok hpo (hvs u) (cnt p (hvs u) m)).len
    have L5 := (low_ok hpo (sms (hvs v) (hvs u)) (cnt p (sms (hvs v) (hvs u)) n)).len; have L6 := (high_ok hpo (sms (hvs v) (hvs u)) (cnt p (sms (hvs v) (hvs u)) n)).len
    rw [← hpo.len] at L1 L2 L3 L4 L5 L6
    clear la lb hvo
    simp only [go_sem, h2]
    refine cP e1 ?_
    simp only [go_sem]
    refine cP e2 ?_
    simp only [go_sem, Pl.a, Pl.c4]
    refine cFN2 s1 6 ⟨.inl (pla_frz 3 (j := 1) (g := true) rfl rfl), .inl (iv_frz_sl (d := 4) (j := 3) (g := false) rfl (hvs_len v).symm), .inl rfl, trivial⟩ ?_ (by simp [go_sem, fldV]) (by simp only [go_sem, fldV]) (iv_row _ _ _) (iv_nv _ _) (iv_row _ _ _) (iv_nv _ _)
    simp only [go_sem, ren, rens, fldV, Pl.a, Pl.c4]
    refine cFN2 s2 6 ⟨.inl (pla_frz 3 (j := 1) (g := true) rfl rfl), .inl (iv_frz_sl (d := 4) (j := 4) (g := false) rfl (hvs_len u).symm), .inl rfl, trivial⟩ ?_ (by simp [go_sem, fldV]) (by simp only [go_sem, fldV]) (iv_row _ _ _) (iv_nv _ _) (iv_row _ _ _) (iv_nv _ _)
    simp only [go_sem, ren, rens, fldV, Pl.a, Pl.c4]
    refine cFN2 s3 6 ⟨.inl (pla_frz 3 (j := 1) (g := true) rfl rfl), .inl (iv_frz_sl (d := 4) (j := 5) (g := false) rfl hsl.symm), .inl rfl, trivial⟩ ?_ (by simp [go_sem, fldV]) (by simp only [go_sem, fldV]) (iv_row _ _ _) (iv_nv _ _) (iv_row _ _ _) (iv_nv _ _)
    simp only [go_sem, ren, rens, fldV, Pl.a, Pl.c4]
    clear s1 s2 s3
    generalize hvs v = v' at *
    generalize hvs u = u' at *
    generalize sms v' u' = z at *
    generalize lowB p v' (cnt p v' n) = la at *
    generalize highB p v' (cnt p v' n) = ha at *
    generalize lowB p u' (cnt p u' m) = lb at *
    generalize highB p u' (cnt p u' m) = hb at *
    generalize lowB p z (cnt p z n) = lc at *
    generalize highB p z (cnt p z n) = hc at *
    generalize stl p v' (cnt p v' n) = t1 at *
    generalize cnt p v' n = c1 at *
    generalize stl p u' (cnt p u' m) = t2 at *
    generalize cnt p u' m = c2 at *
    generalize stl p z (cnt p z n) = t3 at *
    generalize cnt p z n = c3 at *
    try simp only [go_sem, ren, rens, fldV, bne_self_eq_false]
    have u1 : IntKind.i64.wrap 1 = 1 := rfl
    have u2 : IntKind.i64.wrap 2 = 2 := rfl
    have u3 : IntKind.i64.wrap 3 = 3 := rfl
    have u4 : IntKind.i64.wrap 4 = 4 := rfl
    have u5 : IntKind.i64.wrap 5 = 5 := rfl
    have u6 : IntKind.i64.wrap 6 = 6 := rfl
    refine loop_body 3000 k_law01_FieldSums_r23.eq_1 ?_
    simp only [go_sem, fldV, Pl.a, Pl.c4, iv_len, L1, L2, L3, L4, L5, L6, bne_self_eq_false, u1, u2, u3, u4, u5, u6]
    refine loop_body 3000 k_law01_FieldSums_r23.eq_1 ?_
    simp only [go_sem, fldV, Pl.a, Pl.c4, iv_len, L1, L2, L3, L4, L5, L6, bne_self_eq_false, u1, u2, u3, u4, u5, u6]
    refine loop_body 3000 k_law01_FieldSums_r23.eq_1 ?_
    simp only [go_sem, fldV, Pl.a, Pl.c4, iv_len, L1, L2, L3, L4, L5, L6, bne_self_eq_false, u1, u2, u3, u4, u5, u6]
    refine loop_body 3000 k_law01_FieldSums_r23.eq_1 ?_
    simp only [go_sem, fldV, Pl.a, Pl.c4, iv_len, L1, L2, L3, L4, L5, L6, bne_self_eq_false, u1, u2, u3, u4, u5, u6]
    refine loop_body 3000 k_law01_FieldSums_r23.eq_1 ?_
    simp only [go_sem, fldV, Pl.a, Pl.c4, iv_len, L1, L2, L3, L4, L5, L6, bne_self_eq_false, u1, u2, u3, u4, u5, u6]
    refine loop_body 3000 k_law01_FieldSums_r23.eq_1 ?_
    simp only [go_sem, fldV, Pl.a, Pl.c4, iv_len, L1, L2, L3, L4, L5, L6, bne_self_eq_false, u1, u2, u3, u4, u5, u6]
    refine loop_body 3000 k_law01_FieldSums_r23.eq_1 ?_
    simp only [go_sem, fldV, Pl.a, Pl.c4, iv_len, L1, L2, L3, L4, L5, L6, bne_self_eq_false, u1, u2, u3, u4, u5, u6]
    clear u1 u2 u3 u4 u5 u6
    refine loop_ind k_law01_FieldSums_r29.eq_1 (fun a : Nat => a ≤ p.cs.length) (fun a => p.cs.length - a)
      (fun a => (tsets 178 [(8, .ptr 2 0 0 1), (15, .ptr 8 0 0 1), (17, .ptr 11 0 0 1), (19, .ptr 14 0 0 1), (23, .int .i64 a)],
        [some (Dr w3), some (.cells true 1 (iv p.cs)), some (.cells false 4 [p.a (.sl 1 0 p.cs.length)]), some (.cells false 1 (iv v')), some (.cells false 1 (iv u')), some (.cells false 1 (iv z)),
         some (.cells false 1 (iv la)), some (.cells false 1 (iv ha)), some (.cells false 4 [fldV p.cs.length c1 t1 6 7]),
         some (.cells false 1 (iv lb)), some (.cells false 1 (iv hb)), some (.cells false 4 [fldV p.cs.length c2 t2 9 10]),
         some (.cells false 1 (iv lc)), some (.cells false 1 (iv hc)), some (.cells false 4 [fldV p.cs.length c3 t3 12 13]),
         some (.cells false 1 [.sl 6 0 p.cs.length, .sl 7 0 p.cs.length, .sl 9 0 p.cs.length, .sl 10 0 p.cs.length, .sl 12 0 p.cs.length, .sl 13 0 p.cs.length])])) 0 (Nat.zero_le _) (by simp [go_sem]) rfl ?_
    clear i hi h1 h2 hie
    intro j hj ih
    dsimp only at hj ih ⊢
    by_cases h4 : j < p.cs.length
    · have h5 : (j : Int) < p.cs.length := by omega
      have h6 := idx_next h4 (by omega)
      have n0 : ¬ (j : Int) < 0 := by omega
      have hjN : j < p.w * p.h := by rw [← hpo.len]; exact h4
      have ga := iv_get (l := la) (i := j) (by omega)
      have gb := iv_get (l := ha) (i := j) (by omega)
      have gc := iv_get (l := lb) (i := j) (by omega)
      have gd := iv_get (l := hb) (i := j) (by omega)
      have ge := iv_get (l := lc) (i := j) (by omega)
      have gf := iv_get (l := hc) (i := j) (by omega)
      have q1 := B1 j hjN
      have q2 := B2 j hjN
      have q3 := B3 j hjN
      have q4 := B4 j hjN
      have q5 := meet j hjN
      generalize gt la j = y1 at *
      generalize gt ha j = y2 at *
      generalize gt lb j = y3 at *
      generalize gt hb j = y4 at *
      generalize gt lc j = y5 at *
      generalize gt hc j = y6 at *
      have r1 : IntKind.i64.wrap (y1 + y3) = y1 + y3 := w64 (by omega)
      have r2 : IntKind.i64.wrap (y2 + y4) = y2 + y4 := w64 (by omega)
      have r3 : ¬ y6 < y1 + y3 := by omega
      have r4 : ¬ y2 + y4 < y5 := by omega
      simp only [go_sem, fldV, Pl.a, Pl.c4, iv_len, h5, n0, ga, gb, gc, gd, ge, gf, r1, r2, r3, r4, L1, L2, L3, L4, L5, L6, h6]
      exact ih (j + 1) (by omega) h4 _ (by simp [go_sem])
    · have h5 : ¬ (j : Int) < p.cs.length := by omega
      simp only [go_sem, fldV, Pl.a, Pl.c4, iv_len, h5]
      refine cP awake_ok ?_
      simp only [go_sem]
end Go.Proofs
namespace Go.Proofs
open Go Go.Sx

-- 13: thermion/thermionlaw01.FieldMirrors
def k_law01_FieldMirrors_r0 : List AOper := [
  ⟨(some (6)), .move (.const (.bool false)), none, []⟩]
def k_law01_FieldMirrors_r1 : List AOper := [
  ⟨(some (18)), .move (.tmp 0), none, []⟩, 
  ⟨(some (19)), .call (.const (.fn (.func 22) [] [])) [.tmp 18], none, []⟩, 
  ⟨(some (7)), .move (.tmp 19), none, []⟩]
def k_law01_FieldMirrors_r2 : List AOper := [
  ⟨(some (20)), .move (.tmp 7), none, []⟩, 
  ⟨(some (21)), .call (.const (.fn (.func 21) [] [])) [.tmp 20, .const (.int .i64 8), .const (.int .i64 6)], none, []⟩, 
  ⟨(some (8)), .box (.const (.agg [.int .i64 0, .int .i64 0, .bool false, .nilsl])), none, []⟩, 
  ⟨none, .store 4 (.tmp 8) (.tmp 21), none, []⟩]
def k_law01_FieldMirrors_r3 : List AOper := [
  ⟨(some (22)), .move (.tmp 7), none, []⟩, 
  ⟨(some (23)), .load (some (4)) (.tmp 8), none, []⟩, 
  ⟨(some (24)), .call (.const (.fn (.func 37) [] [])) [.tmp 22, .tmp 23], none, []⟩, 
  ⟨(some (9)), .move (.tmp 24), none, []⟩]
def k_law01_FieldMirrors_r4 : List AOper := [
  ⟨(some (26)), .load (some (4)) (.tmp 8), none, []⟩, 
  ⟨(some (27)), .move (.tmp 2), none, []⟩, 
  ⟨(some (28)), .move (.tmp 27), none, []⟩, 
  ⟨(some (29)), .fieldAddr 2 (.tmp 8), (some (28, false)), []⟩, 
  ⟨(some (30)), .load none (.tmp 29), (some (28, false)), []⟩, 
  ⟨(some (31)), .pick (.tmp 28) (.const (.bool true)) (.tmp 30), none, []⟩, 
  ⟨(some (32)), .call (.const (.fn (.func 57) [] [])) [.tmp 26, .tmp 31], none, []⟩, 
  ⟨(some (25)), .move (.tmp 32), none, []⟩, 
  ⟨(some (33)), .extract (.tmp 25) 0, none, []⟩, 
  ⟨(some (34)), .extract (.tmp 25) 1, none, []⟩, 
  ⟨(some (10)), .box (.const (.agg [.int .i64 0, .int .i64 0, .bool false, .nilsl])), none, []⟩, 
  ⟨none, .store 4 (.tmp 10) (.tmp 33), none, []⟩, 
  ⟨(some (11)), .move (.tmp 34), none, []⟩]
def k_law01_FieldMirrors_r5 : List AOper := [
  ⟨(some (35)), .move (.tmp 1), none, []⟩, 
  ⟨(some (36)), .call (.const (.fn (.func 23) [] [])) [.tmp 35, .const (.int .i64 41)], none, []⟩, 
  ⟨(some (12)), .move (.tmp 36), none, []⟩]
def k_law01_FieldMirrors_r6 : List AOper := [
  ⟨(some (38)), .load (some (4)) (.tmp 8), none, []⟩, 
  ⟨(some (39)), .move (.tmp 9), none, []⟩, 
  ⟨(some (40)), .move (.tmp 12), none, []⟩, 
  ⟨(some (41)), .call (.const (.fn (.func 38) [] [])) [.tmp 38, .tmp 39, .tmp 40], none, []⟩, 
  ⟨(some (37)), .move (.tmp 41), none, []⟩, 
  ⟨(some (42)), .extract (.tmp 37) 0, none, []⟩, 
  ⟨(some (43)), .extract (.tmp 37) 1, none, []⟩, 
  ⟨(some (13)), .box (.const (.agg [.nilsl, .nilsl, .int .i64 0, .bool false])), none, []⟩, 
  ⟨none, .store 4 (.tmp 13) (.tmp 42), none, []⟩, 
  ⟨(some (14)), .move (.tmp 43), none, []⟩]
def k_law01_FieldMirrors_r7 : List AOper := [
  ⟨(some (45)), .load (some (4)) (.tmp 10), none, []⟩, 
  ⟨(some (46)), .move (.tmp 9), none, []⟩, 
  ⟨(some (47)), .move (.tmp 12), none, []⟩, 
  ⟨(some (48)), .call (.const (.fn (.func 38) [] [])) [.tmp 45, .tmp 46, .tmp 47], none, []⟩, 
  ⟨(some (44)), .move (.tmp 48), none, []⟩, 
  ⟨(some (49)), .extract (.tmp 44) 0, none, []⟩, 
  ⟨(some (50)), .extract (.tmp 44) 1, none, []⟩, 
  ⟨(some (15)), .box (.const (.agg [.nilsl, .nilsl, .int .i64 0, .bool false])), none, []⟩, 
  ⟨none, .store 4 (.tmp 15) (.tmp 49), none, []⟩, 
  ⟨(some (16)), .move (.tmp 50), none, []⟩]
def k_law01_FieldMirrors_r8 : List AOper := [
  ⟨(some (51)), .move (.tmp 14), none, []⟩, 
  ⟨(some (52)), .bin .plain .neq (.tmp 51) (.const (.int .i64 0)), none, []⟩, 
  ⟨(some (53)), .move (.tmp 52), none, []⟩, 
  ⟨(some (54)), .move (.tmp 16), (some (53, false)), []⟩, 
  ⟨(some (55)), .bin .plain .neq (.tmp 54) (.const (.int .i64 0)), (some (53, false)), []⟩, 
  ⟨(some (56)), .pick (.tmp 53) (.const (.bool true)) (.tmp 55), none, []⟩, 
  ⟨(some (57)), .move (.tmp 56), none, []⟩, 
  ⟨(some (58)), .fieldAddr 0 (.tmp 13), (some (57, false)), []⟩, 
  ⟨(some (59)), .load none (.tmp 58), (some (57, false)), []⟩, 
  ⟨(some (60)), .len false (.tmp 59), (some (57, false)), []⟩, 
  ⟨(some (61)), .fieldAddr 3 (.tmp 8), (some (57, false)), []⟩, 
  ⟨(some (62)), .load none (.tmp 61), (some (57, false)), []⟩, 
  ⟨(some (63)), .len false (.tmp 62), (some (57, false)), []⟩, 
  ⟨(some (64)), .bin .plain .neq (.tmp 60) (.tmp 63), (some (57, false)), []⟩, 
  ⟨(some (65)), .pick (.tmp 57) (.const (.bool true)) (.tmp 64), none, []⟩, 
  ⟨(some (66)), .move (.tmp 65), none, []⟩, 
  ⟨(some (67)), .fieldAddr 1 (.tmp 13), (some (66, false)), []⟩, 
  ⟨(some (68)), .load none (.tmp 67), (some (66, false)), []⟩, 
  ⟨(some (69)), .len false (.tmp 68), (some (66, false)), []⟩, 
  ⟨(some (70)), .fieldAddr 3 (.tmp 8), (some (66, false)), []⟩, 
  ⟨(some (71)), .load none (.tmp 70), (some (66, false)), []⟩, 
  ⟨(some (72)), .len false (.tmp 71), (some (66, false)), []⟩, 
  ⟨(some (73)), .bin .plain .neq (.tmp 69) (.tmp 72), (some (66, false)), []⟩, 
  ⟨(some (74)), .pick (.tmp 66) (.const (.bool true)) (.tmp 73), none, []⟩, 
  ⟨(some (75)), .move (.tmp 74), none, []⟩, 
  ⟨(some (76)), .fieldAddr 0 (.tmp 15), (some (75, false)), []⟩, 
  ⟨(some (77)), .load none (.tmp 76), (some (75, false)), []⟩, 
  ⟨(some (78)), .len false (.tmp 77), (some (75, false)), []⟩, 
  ⟨(some (79)), .fieldAddr 3 (.tmp 8), (some (75, false)), []⟩, 
  ⟨(some (80)), .load none (.tmp 79), (some (75, false)), []⟩, 
  ⟨(some (81)), .len false (.tmp 80), (some (75, false)), []⟩, 
  ⟨(some (82)), .bin .plain .neq (.tmp 78) (.tmp 81), (some (75, false)), []⟩, 
  ⟨(some (83)), .pick (.tmp 75) (.const (.bool true)) (.tmp 82), none, []⟩, 
  ⟨(some (84)), .move (.tmp 83), none, []⟩, 
  ⟨(some (85)), .fieldAddr 1 (.tmp 15), (some (84, false)), []⟩, 
  ⟨(some (86)), .load none (.tmp 85), (some (84, false)), []⟩, 
  ⟨(some (87)), .len false (.tmp 86), (some (84, false)), []⟩, 
  ⟨(some (88)), .fieldAddr 3 (.tmp 8), (some (84, false)), []⟩, 
  ⟨(some (89)), .load none (.tmp 88), (some (84, false)), []⟩, 
  ⟨(some (90)), .len false (.tmp 89), (some (84, false)), []⟩, 
  ⟨(some (91)), .bin .plain .neq (.tmp 87) (.tmp 90), (some (84, false)), []⟩, 
  ⟨(some (92)), .pick (.tmp 84) (.const (.bool true)) (.tmp 91), none, []⟩]
def k_law01_FieldMirrors_r9 : List AOper := [
  ⟨(some (6)), .move (.const (.bool false)), none, []⟩]
def k_law01_FieldMirrors_r10 : List AOper := [
  ⟨(some (17)), .move (.const (.int .i64 0)), none, []⟩]
def k_law01_FieldMirrors_r11 : List AOper := [
  ⟨(some (93)), .move (.tmp 17), none, []⟩, 
  ⟨(some (94)), .move (.tmp 11), none, []⟩, 
  ⟨(some (95)), .len false (.tmp 94), none, []⟩, 
  ⟨(some (96)), .bin .plain .lss (.tmp 93) (.tmp 95), none, []⟩]
def k_law01_FieldMirrors_r12 : List AOper := [
  ⟨(some (99)), .fieldAddr 0 (.tmp 13), none, []⟩, 
  ⟨(some (100)), .load none (.tmp 99), none, []⟩, 
  ⟨(some (101)), .move (.tmp 11), none, [0, 1]⟩, 
  ⟨(some (102)), .move (.tmp 17), none, [0, 1, 2]⟩, 
  ⟨(some (103)), .indexAddr 1 (.tmp 101) (.tmp 102), none, [0, 1]⟩, 
  ⟨(some (104)), .load none (.tmp 103), none, [0, 1]⟩, 
  ⟨(some (105)), .indexAddr 1 (.tmp 100) (.tmp 104), none, []⟩, 
  ⟨(some (106)), .load none (.tmp 105), none, []⟩, 
  ⟨(some (107)), .fieldAddr 1 (.tmp 15), none, [0, 1, 2, 3, 4, 5, 6, 7]⟩, 
  ⟨(some (108)), .load none (.tmp 107), none, [0, 1, 2, 3, 4, 5, 6, 7]⟩, 
  ⟨(some (109)), .move (.tmp 17), none, [0, 1, 2, 3, 4, 5, 6, 7, 8, 9]⟩, 
  ⟨(some (110)), .indexAddr 1 (.tmp 108) (.tmp 109), none, [0, 1, 2, 3, 4, 5, 6, 7]⟩, 
  ⟨(some (111)), .load none (.tmp 110), none, [0, 1, 2, 3, 4, 5, 6, 7]⟩, 
  ⟨(some (112)), .bin .plain .gtr (.tmp 106) (.tmp 111), none, []⟩, 
  ⟨(some (113)), .move (.tmp 112), none, []⟩, 
  ⟨(some (114)), .fieldAddr 0 (.tmp 15), (some (113, false)), []⟩, 
  ⟨(some (115)), .load none (.tmp 114), (some (113, false)), []⟩, 
  ⟨(some (116)), .move (.tmp 17), (some (113, false)), [15, 16]⟩, 
  ⟨(some (117)), .indexAddr 1 (.tmp 115) (.tmp 116), (some (113, false)), []⟩, 
  ⟨(some (118)), .load none (.tmp 117), (some (113, false)), []⟩, 
  ⟨(some (119)), .fieldAddr 1 (.tmp 13), (some (113, false)), [15, 16, 17, 18, 19]⟩, 
  ⟨(some (120)), .load none (.tmp 119), (some (113, false)), [15, 16, 17, 18, 19]⟩, 
  ⟨(some (121)), .move (.tmp 11), (some (113, false)), [15, 16, 17, 18, 19, 20, 21]⟩, 
  ⟨(some (122)), .move (.tmp 17), (some (113, false)), [15, 16, 17, 18, 19, 20, 21, 22]⟩, 
  ⟨(some (123)), .indexAddr 1 (.tmp 121) (.tmp 122), (some (113, false)), [15, 16, 17, 18, 19, 20, 21]⟩, 
  ⟨(some (124)), .load none (.tmp 123), (some (113, false)), [15, 16, 17, 18, 19, 20, 21]⟩, 
  ⟨(some (125)), .indexAddr 1 (.tmp 120) (.tmp 124), (some (113, false)), [15, 16, 17, 18, 19]⟩, 
  ⟨(some (126)), .load none (.tmp 125), (some (113, false)), [15, 16, 17, 18, 19]⟩, 
  ⟨(some (127)), .bin .plain .gtr (.tmp 118) (.tmp 126), (some (113, false)), []⟩, 
  ⟨(some (128)), .pick (.tmp 113) (.const (.bool true)) (.tmp 127), none, []⟩]
def k_law01_FieldMirrors_r12s : List (List AOper) := [
  [
  ⟨(some (99)), .fieldAddr 0 (.tmp 13), none, []⟩, 
  ⟨(some (100)), .load none (.tmp 99), none, []⟩, 
  ⟨(some (101)), .move (.tmp 11), none, [0, 1]⟩, 
  ⟨(some (102)), .move (.tmp 17), none, [0, 1, 2]⟩, 
  ⟨(some (103)), .indexAddr 1 (.tmp 101) (.tmp 102), none, [0, 1]⟩, 
  ⟨(some (104)), .load none (.tmp 103), none, [0, 1]⟩, 
  ⟨(some (105)), .indexAddr 1 (.tmp 100) (.tmp 104), none, []⟩, 
  ⟨(some (106)), .load none (.tmp 105), none, []⟩, 
  ⟨(some (107)), .fieldAddr 1 (.tmp 15), none, [0, 1, 2, 3, 4, 5, 6, 7]⟩, 
  ⟨(some (108)), .load none (.tmp 107), none, [0, 1, 2, 3, 4, 5, 6, 7]⟩, 
  ⟨(some (109)), .move (.tmp 17), none, [0, 1, 2, 3, 4, 5, 6, 7, 8, 9]⟩, 
  ⟨(some (110)), .indexAddr 1 (.tmp 108) (.tmp 109), none, [0, 1, 2, 3, 4, 5, 6, 7]⟩, 
  ⟨(some (111)), .load none (.tmp 110), none, [0, 1, 2, 3, 4, 5, 6, 7]⟩], 
  [
  ⟨(some (112)), .bin .plain .gtr (.tmp 106) (.tmp 111), none, []⟩], 
  [
  ⟨(some (113)), .move (.tmp 112), none, []⟩], 
  [
  ⟨(some (114)), .fieldAddr 0 (.tmp 15), (some (113, false)), []⟩, 
  ⟨(some (115)), .load none (.tmp 114), (some (113, false)), []⟩, 
  ⟨(some (116)), .move (.tmp 17), (some (113, false)), [15, 16]⟩, 
  ⟨(some (117)), .indexAddr 1 (.tmp 115) (.tmp 116), (some (113, false)), []⟩, 
  ⟨(some (118)), .load none (.tmp 117), (some (113, false)), []⟩, 
  ⟨(some (119)), .fieldAddr 1 (.tmp 13), (some (113, false)), [15, 16, 17, 18, 19]⟩, 
  ⟨(some (120)), .load none (.tmp 119), (some (113, false)), [15, 16, 17, 18, 19]⟩, 
  ⟨(some (121)), .move (.tmp 11), (some (113, false)), [15, 16, 17, 18, 19, 20, 21]⟩, 
  ⟨(some (122)), .move (.tmp 17), (some (113, false)), [15, 16, 17, 18, 19, 20, 21, 22]⟩, 
  ⟨(some (123)), .indexAddr 1 (.tmp 121) (.tmp 122), (some (113, false)), [15, 16, 17, 18, 19, 20, 21]⟩, 
  ⟨(some (124)), .load none (.tmp 123), (some (113, false)), [15, 16, 17, 18, 19, 20, 21]⟩, 
  ⟨(some (125)), .indexAddr 1 (.tmp 120) (.tmp 124), (some (113, false)), [15, 16, 17, 18, 19]⟩, 
  ⟨(some (126)), .load none (.tmp 125), (some (113, false)), [15, 16, 17, 18, 19]⟩], 
  [
  ⟨(some (127)), .bin .plain .gtr (.tmp 118) (.tmp 126), (some (113, false)), []⟩], 
  [
  ⟨(some (128)), .pick (.tmp 113) (.const (.bool true)) (.tmp 127), none, []⟩]]
theorem k_law01_FieldMirrors_r12_sg : segs k_law01_FieldMirrors_r12 = k_law01_FieldMirrors_r12s := by kernel_rfl
theorem k_law01_FieldMirrors_r12_st : statOK k_law01_FieldMirrors_r12 = true := by kernel_rfl
def k_law01_FieldMirrors_r13 : List AOper := [
  ⟨(some (6)), .move (.const (.bool false)), none, []⟩]
def k_law01_FieldMirrors_r14 : List AOper := [
  ⟨(some (97)), .move (.tmp 17), none, []⟩, 
  ⟨(some (98)), .bin .plain .add (.tmp 97) (.const (.int .i64 1)), none, []⟩, 
  ⟨(some (17)), .move (.tmp 98), none, []⟩]
def k_law01_FieldMirrors_r15 : ACode := (.seq (.seq (.reg k_law01_FieldMirrors_r11 false) (.cond (.tmp 96) .skip (.exit 0))) (.seq (.block 1 (.seq (.reg k_law01_FieldMirrors_r12 true) (.cond (.tmp 128) (.seq (.reg k_law01_FieldMirrors_r13 false) .ret) .skip))) (.reg k_law01_FieldMirrors_r14 false)))
def k_law01_FieldMirrors_r16 : List AOper := [
  ⟨(some (129)), .call (.const (.fn (.func 20) [] [])) [], none, []⟩, 
  ⟨(some (6)), .move (.tmp 129), none, []⟩]
def k_law01_FieldMirrors : AFun := { params := 3, ntmps := 130, body := (.seq (.reg k_law01_FieldMirrors_r0 false) (.seq (.reg k_law01_FieldMirrors_r1 false) (.seq (.reg k_law01_FieldMirrors_r2 false) (.seq (.reg k_law01_FieldMirrors_r3 false) (.seq (.reg k_law01_FieldMirrors_r4 false) (.seq (.reg k_law01_FieldMirrors_r5 false) (.seq (.reg k_law01_FieldMirrors_r6 false) (.seq (.reg k_law01_FieldMirrors_r7 false) (.seq (.seq (.reg k_law01_FieldMirrors_r8 false) (.cond (.tmp 92) (.seq (.reg k_law01_FieldMirrors_r9 false) .ret) .skip)) (.seq (.seq (.reg k_law01_FieldMirrors_r10 false) (.block 0 (.loop k_law01_FieldMirrors_r15))) (.seq (.reg k_law01_FieldMirrors_r16 false) .ret))))))))))), res := [.tmp 6] }
theorem k_law01_FieldMirrors_ok : cfun Try.prog Try.f13 = k_law01_FieldMirrors := by kernel_rfl

-- 57: thermion/thermionlaw01.mirrored
def k_law01_mirrored_r0 : List AOper := [
  ⟨(some (2)), .box (.tmp 0), none, []⟩, 
  ⟨(some (4)), .box (.const (.agg [.int .i64 0, .int .i64 0, .bool false, .nilsl])), none, []⟩, 
  ⟨(some (5)), .move (.const (.nilsl)), none, []⟩]
def k_law01_mirrored_r1 : List AOper := [
  ⟨(some (11)), .load (some (4)) (.tmp 2), none, []⟩, 
  ⟨(some (12)), .call (.const (.fn (.func 24) [] [])) [.tmp 11], none, []⟩, 
  ⟨(some (6)), .box (.const (.agg [.int .i64 0, .int .i64 0, .bool false, .nilsl])), none, []⟩, 
  ⟨none, .store 4 (.tmp 6) (.tmp 12), none, []⟩]
def k_law01_mirrored_r2 : List AOper := [
  ⟨(some (7)), .move (.const (.nilsl)), none, []⟩]
def k_law01_mirrored_r3 : List AOper := [
  ⟨(some (8)), .move (.const (.int .i64 0)), none, []⟩]
def k_law01_mirrored_r4 : List AOper := [
  ⟨(some (13)), .move (.tmp 8), none, []⟩, 
  ⟨(some (14)), .fieldAddr 3 (.tmp 2), none, []⟩, 
  ⟨(some (15)), .load none (.tmp 14), none, []⟩, 
  ⟨(some (16)), .len false (.tmp 15), none, []⟩, 
  ⟨(some (17)), .bin .plain .lss (.tmp 13) (.tmp 16), none, []⟩]
def k_law01_mirrored_r5 : List AOper := [
  ⟨(some (20)), .fieldAddr 0 (.tmp 2), none, []⟩, 
  ⟨(some (21)), .load none (.tmp 20), none, []⟩, 
  ⟨(some (22)), .bin .plain .sub (.tmp 21) (.const (.int .i64 1)), none, []⟩, 
  ⟨(some (23)), .move (.tmp 8), none, [0, 1, 2]⟩, 
  ⟨(some (24)), .fieldAddr 0 (.tmp 2), none, [0, 1, 2, 3]⟩, 
  ⟨(some (25)), .load none (.tmp 24), none, [0, 1, 2, 3]⟩, 
  ⟨(some (26)), .bin .plain .rem (.tmp 23) (.tmp 25), none, [0, 1, 2]⟩, 
  ⟨(some (27)), .bin .plain .sub (.tmp 22) (.tmp 26), none, []⟩, 
  ⟨(some (28)), .move (.tmp 8), none, [0, 1, 2, 3, 4, 5, 6, 7]⟩, 
  ⟨(some (29)), .fieldAddr 0 (.tmp 2), none, [0, 1, 2, 3, 4, 5, 6, 7, 8]⟩, 
  ⟨(some (30)), .load none (.tmp 29), none, [0, 1, 2, 3, 4, 5, 6, 7, 8]⟩, 
  ⟨(some (31)), .bin .plain .quo (.tmp 28) (.tmp 30), none, [0, 1, 2, 3, 4, 5, 6, 7]⟩, 
  ⟨(some (9)), .move (.tmp 27), none, [8, 9, 10, 11]⟩, 
  ⟨(some (10)), .move (.tmp 31), none, []⟩]
def k_law01_mirrored_r5s : List (List AOper) := [
  [
  ⟨(some (20)), .fieldAddr 0 (.tmp 2), none, []⟩, 
  ⟨(some (21)), .load none (.tmp 20), none, []⟩, 
  ⟨(some (22)), .bin .plain .sub (.tmp 21) (.const (.int .i64 1)), none, []⟩, 
  ⟨(some (23)), .move (.tmp 8), none, [0, 1, 2]⟩, 
  ⟨(some (24)), .fieldAddr 0 (.tmp 2), none, [0, 1, 2, 3]⟩, 
  ⟨(some (25)), .load none (.tmp 24), none, [0, 1, 2, 3]⟩, 
  ⟨(some (26)), .bin .plain .rem (.tmp 23) (.tmp 25), none, [0, 1, 2]⟩, 
  ⟨(some (27)), .bin .plain .sub (.tmp 22) (.tmp 26), none, []⟩, 
  ⟨(some (28)), .move (.tmp 8), none, [0, 1, 2, 3, 4, 5, 6, 7]⟩, 
  ⟨(some (29)), .fieldAddr 0 (.tmp 2), none, [0, 1, 2, 3, 4, 5, 6, 7, 8]⟩, 
  ⟨(some (30)), .load none (.tmp 29), none, [0, 1, 2, 3, 4, 5, 6, 7, 8]⟩, 
  ⟨(some (31)), .bin .plain .quo (.tmp 28) (.tmp 30), none, [0, 1, 2, 3, 4, 5, 6, 7]⟩, 
  ⟨(some (9)), .move (.tmp 27), none, [8, 9, 10, 11]⟩], 
  [
  ⟨(some (10)), .move (.tmp 31), none, []⟩]]
theorem k_law01_mirrored_r5_sg : segs k_law01_mirrored_r5 = k_law01_mirrored_r5s := by kernel_rfl
theorem k_law01_mirrored_r5_st : statOK k_law01_mirrored_r5 = true := by kernel_rfl
def k_law01_mirrored_r6 : List AOper := [
  ⟨(some (32)), .move (.tmp 1), none, []⟩]
def k_law01_mirrored_r7 : List AOper := [
  ⟨(some (33)), .move (.tmp 8), none, []⟩, 
  ⟨(some (34)), .fieldAddr 0 (.tmp 2), none, [0]⟩, 
  ⟨(some (35)), .load none (.tmp 34), none, [0]⟩, 
  ⟨(some (36)), .bin .plain .rem (.tmp 33) (.tmp 35), none, []⟩, 
  ⟨(some (37)), .fieldAddr 1 (.tmp 2), none, [0, 1, 2, 3]⟩, 
  ⟨(some (38)), .load none (.tmp 37), none, [0, 1, 2, 3]⟩, 
  ⟨(some (39)), .bin .plain .sub (.tmp 38) (.const (.int .i64 1)), none, [0, 1, 2, 3]⟩, 
  ⟨(some (40)), .move (.tmp 8), none, [0, 1, 2, 3, 4, 5, 6]⟩, 
  ⟨(some (41)), .fieldAddr 0 (.tmp 2), none, [0, 1, 2, 3, 4, 5, 6, 7]⟩, 
  ⟨(some (42)), .load none (.tmp 41), none, [0, 1, 2, 3, 4, 5, 6, 7]⟩, 
  ⟨(some (43)), .bin .plain .quo (.tmp 40) (.tmp 42), none, [0, 1, 2, 3, 4, 5, 6]⟩, 
  ⟨(some (44)), .bin .plain .sub (.tmp 39) (.tmp 43), none, [0, 1, 2, 3]⟩, 
  ⟨(some (9)), .move (.tmp 36), none, [4, 5, 6, 7, 8, 9, 10, 11]⟩, 
  ⟨(some (10)), .move (.tmp 44), none, []⟩]
def k_law01_mirrored_r7s : List (List AOper) := [
  [
  ⟨(some (33)), .move (.tmp 8), none, []⟩, 
  ⟨(some (34)), .fieldAddr 0 (.tmp 2), none, [0]⟩, 
  ⟨(some (35)), .load none (.tmp 34), none, [0]⟩, 
  ⟨(some (36)), .bin .plain .rem (.tmp 33) (.tmp 35), none, []⟩, 
  ⟨(some (37)), .fieldAddr 1 (.tmp 2), none, [0, 1, 2, 3]⟩, 
  ⟨(some (38)), .load none (.tmp 37), none, [0, 1, 2, 3]⟩, 
  ⟨(some (39)), .bin .plain .sub (.tmp 38) (.const (.int .i64 1)), none, [0, 1, 2, 3]⟩, 
  ⟨(some (40)), .move (.tmp 8), none, [0, 1, 2, 3, 4, 5, 6]⟩, 
  ⟨(some (41)), .fieldAddr 0 (.tmp 2), none, [0, 1, 2, 3, 4, 5, 6, 7]⟩, 
  ⟨(some (42)), .load none (.tmp 41), none, [0, 1, 2, 3, 4, 5, 6, 7]⟩, 
  ⟨(some (43)), .bin .plain .quo (.tmp 40) (.tmp 42), none, [0, 1, 2, 3, 4, 5, 6]⟩, 
  ⟨(some (44)), .bin .plain .sub (.tmp 39) (.tmp 43), none, [0, 1, 2, 3]⟩, 
  ⟨(some (9)), .move (.tmp 36), none, [4, 5, 6, 7, 8, 9, 10, 11]⟩], 
  [
  ⟨(some (10)), .move (.tmp 44), none, []⟩]]
theorem k_law01_mirrored_r7_sg : segs k_law01_mirrored_r7 = k_law01_mirrored_r7s := by kernel_rfl
theorem k_law01_mirrored_r7_st : statOK k_law01_mirrored_r7 = true := by kernel_rfl
def k_law01_mirrored_r8 : List AOper := [
  ⟨(some (45)), .move (.tmp 7), none, []⟩, 
  ⟨(some (46)), .move (.tmp 10), none, []⟩, 
  ⟨(some (47)), .fieldAddr 0 (.tmp 2), none, []⟩, 
  ⟨(some (48)), .load none (.tmp 47), none, []⟩, 
  ⟨(some (49)), .bin .plain .mul (.tmp 46) (.tmp 48), none, []⟩, 
  ⟨(some (50)), .move (.tmp 9), none, []⟩, 
  ⟨(some (51)), .bin .plain .add (.tmp 49) (.tmp 50), none, []⟩, 
  ⟨(some (52)), .buildSlice 1 [.tmp 51], none, []⟩, 
  ⟨(some (53)), .append 1 8 false (.tmp 45) (.tmp 52), none, []⟩, 
  ⟨(some (7)), .move (.tmp 53), none, []⟩]
def k_law01_mirrored_r9 : List AOper := [
  ⟨(some (54)), .fieldAddr 3 (.tmp 6), none, []⟩, 
  ⟨(some (55)), .load none (.tmp 54), none, []⟩, 
  ⟨(some (56)), .move (.tmp 8), none, [0, 1]⟩, 
  ⟨(some (57)), .fieldAddr 3 (.tmp 2), none, [0, 1, 2]⟩, 
  ⟨(some (58)), .load none (.tmp 57), none, [0, 1, 2]⟩, 
  ⟨(some (59)), .move (.tmp 10), none, [0, 1, 2, 3, 4]⟩, 
  ⟨(some (60)), .fieldAddr 0 (.tmp 2), none, [0, 1, 2, 3, 4, 5]⟩, 
  ⟨(some (61)), .load none (.tmp 60), none, [0, 1, 2, 3, 4, 5]⟩, 
  ⟨(some (62)), .bin .plain .mul (.tmp 59) (.tmp 61), none, [0, 1, 2, 3, 4]⟩, 
  ⟨(some (63)), .move (.tmp 9), none, [0, 1, 2, 3, 4, 5, 6, 7, 8]⟩, 
  ⟨(some (64)), .bin .plain .add (.tmp 62) (.tmp 63), none, [0, 1, 2, 3, 4]⟩, 
  ⟨(some (65)), .indexAddr 1 (.tmp 58) (.tmp 64), none, [0, 1, 2]⟩, 
  ⟨(some (66)), .load none (.tmp 65), none, [0, 1, 2]⟩, 
  ⟨(some (67)), .indexAddr 1 (.tmp 55) (.tmp 56), none, []⟩, 
  ⟨none, .store 1 (.tmp 67) (.tmp 66), none, []⟩]
def k_law01_mirrored_r9s : List (List AOper) := [
  [
  ⟨(some (54)), .fieldAddr 3 (.tmp 6), none, []⟩, 
  ⟨(some (55)), .load none (.tmp 54), none, []⟩, 
  ⟨(some (56)), .move (.tmp 8), none, [0, 1]⟩, 
  ⟨(some (57)), .fieldAddr 3 (.tmp 2), none, [0, 1, 2]⟩, 
  ⟨(some (58)), .load none (.tmp 57), none, [0, 1, 2]⟩, 
  ⟨(some (59)), .move (.tmp 10), none, [0, 1, 2, 3, 4]⟩, 
  ⟨(some (60)), .fieldAddr 0 (.tmp 2), none, [0, 1, 2, 3, 4, 5]⟩, 
  ⟨(some (61)), .load none (.tmp 60), none, [0, 1, 2, 3, 4, 5]⟩, 
  ⟨(some (62)), .bin .plain .mul (.tmp 59) (.tmp 61), none, [0, 1, 2, 3, 4]⟩, 
  ⟨(some (63)), .move (.tmp 9), none, [0, 1, 2, 3, 4, 5, 6, 7, 8]⟩, 
  ⟨(some (64)), .bin .plain .add (.tmp 62) (.tmp 63), none, [0, 1, 2, 3, 4]⟩, 
  ⟨(some (65)), .indexAddr 1 (.tmp 58) (.tmp 64), none, [0, 1, 2]⟩, 
  ⟨(some (66)), .load none (.tmp 65), none, [0, 1, 2]⟩], 
  [
  ⟨(some (67)), .indexAddr 1 (.tmp 55) (.tmp 56), none, []⟩], 
  [
  ⟨none, .store 1 (.tmp 67) (.tmp 66), none, []⟩]]
theorem k_law01_mirrored_r9_sg : segs k_law01_mirrored_r9 = k_law01_mirrored_r9s := by kernel_rfl
theorem k_law01_mirrored_r9_st : statOK k_law01_mirrored_r9 = true := by kernel_rfl
def k_law01_mirrored_r10 : List AOper := [
  ⟨(some (18)), .move (.tmp 8), none, []⟩, 
  ⟨(some (19)), .bin .plain .add (.tmp 18) (.const (.int .i64 1)), none, []⟩, 
  ⟨(some (8)), .move (.tmp 19), none, []⟩]
def k_law01_mirrored_r11 : ACode := (.seq (.seq (.reg k_law01_mirrored_r4 false) (.cond (.tmp 17) .skip (.exit 0))) (.seq (.block 1 (.seq (.reg k_law01_mirrored_r5 true) (.seq (.seq (.reg k_law01_mirrored_r6 false) (.cond (.tmp 32) (.reg k_law01_mirrored_r7 true) .skip)) (.seq (.reg k_law01_mirrored_r8 false) (.reg k_law01_mirrored_r9 true))))) (.reg k_law01_mirrored_r10 false)))
def k_law01_mirrored_r12 : List AOper := [
  ⟨(some (68)), .load (some (4)) (.tmp 6), none, []⟩, 
  ⟨(some (69)), .move (.tmp 7), none, []⟩, 
  ⟨none, .store 4 (.tmp 4) (.tmp 68), none, []⟩, 
  ⟨(some (5)), .move (.tmp 69), none, []⟩]
def k_law01_mirrored : AFun := { params := 2, ntmps := 70, body := (.seq (.reg k_law01_mirrored_r0 false) (.seq (.reg k_law01_mirrored_r1 false) (.seq (.reg k_law01_mirrored_r2 false) (.seq (.seq (.reg k_law01_mirrored_r3 false) (.block 0 (.loop k_law01_mirrored_r11))) (.seq (.reg k_law01_mirrored_r12 false) .ret))))), res := [.cell 4 (some ((some (4)))), .tmp 5] }
theorem k_law01_mirrored_ok : cfun Try.prog Try.f57 = k_law01_mirrored := by kernel_rfl


abbrev n_law01_FieldMirrors : Nat := 13
theorem e_law01_FieldMirrors : EntryOK Try.prog n_law01_FieldMirrors k_law01_FieldMirrors := ⟨Try.f13, Try.func13, k_law01_FieldMirrors_ok, by kernel_rfl⟩
abbrev n_law01_mirrored : Nat := 57
theorem e_law01_mirrored : EntryOK Try.prog n_law01_mirrored k_law01_mirrored := ⟨Try.f57, Try.func57, k_law01_mirrored_ok, by kernel_rfl⟩

attribute [go_sem] k_law01_FieldMirrors_r0 k_law01_FieldMirrors_r1 k_law01_FieldMirrors_r2 k_law01_FieldMirrors_r3 k_law01_FieldMirrors_r4 k_law01_FieldMirrors_r5 k_law01_FieldMirrors_r6 k_law01_FieldMirrors_r7 k_law01_FieldMirrors_r8 k_law01_FieldMirrors_r9 k_law01_FieldMirrors_r10 k_law01_FieldMirrors_r11
attribute [go_sem] k_law01_FieldMirrors_r12s k_law01_FieldMirrors_r13 k_law01_FieldMirrors_r14 k_law01_FieldMirrors_r16 k_law01_mirrored_r0 k_law01_mirrored_r1 k_law01_mirrored_r2 k_law01_mirrored_r3 k_law01_mirrored_r4 k_law01_mirrored_r5s k_law01_mirrored_r6 k_law01_mirrored_r7s
attribute [go_sem] k_law01_mirrored_r8 k_law01_mirrored_r9s k_law01_mirrored_r10 k_law01_mirrored_r12 k_law01_FieldMirrors_r12_sg k_law01_mirrored_r5_sg k_law01_mirrored_r9_sg k_law01_mirrored_r7_sg k_law01_FieldMirrors_r12_st k_law01_mirrored_r5_st k_law01_mirrored_r9_st k_law01_mirrored_r7_st
attribute [go_sem] k_law01_FieldMirrors k_law01_mirrored
end Go.Proofs
namespace Go.Proofs
open Go Go.Sx
attribute [local irreducible] Run

/-- A plan that has a cell is copied. -/
theorem Copy_ok {p : Pl} (hlen : p.cs.length ≤ 1000000) (hne : 1 ≤ p.cs.length) : Ans Try.prog n_ref01_Copy [p.v] [] (p.a (.sl 0 0 p.cs.length)) [some (.cells true 1 (iv p.cs))] := by
  refine Ans.keep (run_fn e_ref01_Copy fun G => ?_) (by simp) (by simp [go_sem, Pl.a, Pl.c4]) ⟨iv_row _ _ _, trivial⟩
  have hnz : p.cs ≠ [] := fun h => by rw [h] at hne; simp at hne
  simp only [go_sem, Pl.v, Pl.a, Pl.c4, vw]
  have hs : sizedAll 1 (List.map (AVal.int IntKind.i64) p.cs) = true := by simp [sizedAll, acells, AVal.one]
  refine ⟨by rw [hs]; simp, by omega, ?_⟩
  exact kept_new (A := []) 0 2 rfl rfl (by omega) (by simp [ren, rens]) (fun i x hx => by simp at hx) (iv_row _ _ _) rfl

/-- What the cell of a mirrored plan was. -/
def mir (p : Pl) (r : Bool) (i : Nat) : Nat := if r then (p.h - 1 - i / p.w) * p.w + i % p.w else i / p.w * p.w + (p.w - 1 - i % p.w)
def mirL (p : Pl) (r : Bool) : List Int := (List.range p.cs.length).map fun i => gt p.cs (mir p r i)
def frm (p : Pl) (r : Bool) : List Int := (List.range p.cs.length).map fun i => (mir p r i : Int)
def Pl.mirror (p : Pl) (r : Bool) : Pl := { p with cs := mirL p r }
theorem mirL_len (p : Pl) (r : Bool) : (mirL p r).length = p.cs.length := by simp [mirL]
theorem frm_len (p : Pl) (r : Bool) : (frm p r).length = p.cs.length := by simp [frm]
theorem gt_mirL (p : Pl) (r : Bool) {i : Nat} (h : i < p.cs.length) : gt (mirL p r) i = gt p.cs (mir p r i) := by
  unfold mirL; conv => lhs; unfold gt
  rw [List.getD_eq_getElem?_getD, List.getElem?_map, List.getElem?_range h]; rfl
theorem gt_frm (p : Pl) (r : Bool) {i : Nat} (h : i < p.cs.length) : gt (frm p r) i = mir p r i := by
  unfold frm gt
  rw [List.getD_eq_getElem?_getD, List.getElem?_map, List.getElem?_range h]; rfl
theorem mir_at (p : Pl) (r : Bool) {x y : Nat} (hx : x < p.w) : mir p r (y * p.w + x) = if r then (p.h - 1 - y) * p.w + x else y * p.w + (p.w - 1 - x) := by
  obtain ⟨e1, e2⟩ := cell_at (y := y) hx
  unfold mir; rw [e1, e2]
theorem mir_lt (p : Pl) (r : Bool) {i : Nat} (hi : i < p.w * p.h) : mir p r i < p.w * p.h := by
  obtain ⟨h1, h2, _⟩ := cell_lt hi
  unfold mir
  generalize i % p.w = x at *
  generalize i / p.w = y at *
  split
  · exact cell_in h1 (by omega)
  · exact cell_in (by omega) h2
theorem mir_mir (p : Pl) (r : Bool) {i : Nat} (hi : i < p.w * p.h) : mir p r (mir p r i) = i := by
  obtain ⟨h1, h2, h3⟩ := cell_lt hi
  generalize i % p.w = x at *
  generalize i / p.w = y at *
  subst h3
  rw [mir_at p r h1]
  split
  · rename_i hr
    rw [mir_at p r h1, if_pos hr, show p.h - 1 - (p.h - 1 - y) = y by omega]
  · rename_i hr
    rw [mir_at p r (by omega), if_neg hr, show p.w - 1 - (p.w - 1 - x) = x by omega]

theorem wsum_if (c : Prop) [Decidable c] (n : Nat) (k : Int) (f : Nat → Int) : wsum (if c then [(n, k)] else []) f = if c then k * f n else 0 := by
  split <;> simp [wsum]
theorem wsum_nbs (p : Pl) {x y : Nat} (hx : x < p.w) (f : Nat → Int) : wsum (nbs p (y * p.w + x)) f =
    (if 0 < x then besW p.rd (x - 1) * f (y * p.w + (x - 1)) else 0) + ((if x + 1 < p.w then besW p.rd x * f (y * p.w + (x + 1)) else 0) +
    ((if 0 < y then abvW p.rd x * f ((y - 1) * p.w + x) else 0) + (if y + 1 < p.h then abvW p.rd x * f ((y + 1) * p.w + x) else 0))) := by
  rw [nbs_at p hx, wsum_append, wsum_append, wsum_append, wsum_if, wsum_if, wsum_if, wsum_if]

/-- Neighbours of a mirrored cell are the mirrored neighbours. -/
theorem wsum_mir (p : Pl) (r : Bool) (hr : r = true ∨ p.rd = false) {i : Nat} (hi : i < p.w * p.h) (f : Nat → Int) : wsum (nbs p (mir p r i)) f = wsum (nbs p i) fun j => f (mir p r j) := by
  obtain ⟨h1, h2, h3⟩ := cell_lt hi
  rw [← h3]
  generalize i % p.w = x at *
  generalize i / p.w = y at *
  rw [mir_at p r h1]
  cases r with
  | true =>
    simp only [if_true]
    rw [wsum_nbs p h1, wsum_nbs p h1]
    have a1 : 0 < x → mir p true (y * p.w + (x - 1)) = (p.h - 1 - y) * p.w + (x - 1) := fun h => by rw [mir_at p true (by omega)]; rfl
    have a2 : x + 1 < p.w → mir p true (y * p.w + (x + 1)) = (p.h - 1 - y) * p.w + (x + 1) := fun h => by rw [mir_at p true h]; rfl
    have a3 : 0 < y → mir p true ((y - 1) * p.w + x) = (p.h - 1 - y + 1) * p.w + x := fun h => by rw [mir_at p true h1, show p.h - 1 - (y - 1) = p.h - 1 - y + 1 by omega]; rfl
    have a4 : y + 1 < p.h → mir p true ((y + 1) * p.w + x) = (p.h - 1 - y - 1) * p.w + x := fun h => by rw [mir_at p true h1, show p.h - 1 - (y + 1) = p.h - 1 - y - 1 by omega]; rfl
    have c3 : (0 < p.h - 1 - y) ↔ y + 1 < p.h := by omega
    have c4 : (p.h - 1 - y + 1 < p.h) ↔ 0 < y := by omega
    by_cases b1 : 0 < x <;> by_cases b2 : x + 1 < p.w <;> by_cases b3 : 0 < y <;> by_cases b4 : y + 1 < p.h <;> simp only [b1, b2, b3, b4, c3, c4, a1, a2, a3, a4, if_true, if_false] <;> omega
  | false =>
    have hrd : p.rd = false := by simpa using hr
    simp only [Bool.false_eq_true, if_false]
    rw [wsum_nbs p (x := p.w - 1 - x) (by omega), wsum_nbs p h1, hrd]
    simp only [besW, abvW, Bool.false_eq_true, if_false, Int.one_mul]
    have a1 : 0 < x → mir p false (y * p.w + (x - 1)) = y * p.w + (p.w - 1 - x + 1) := fun h => by rw [mir_at p false (by omega), show p.w - 1 - (x - 1) = p.w - 1 - x + 1 by omega]; rfl
    have a2 : x + 1 < p.w → mir p false (y * p.w + (x + 1)) = y * p.w + (p.w - 1 - x - 1) := fun h => by rw [mir_at p false h, show p.w - 1 - (x + 1) = p.w - 1 - x - 1 by omega]; rfl
    have a3 : 0 < y → mir p false ((y - 1) * p.w + x) = (y - 1) * p.w + (p.w - 1 - x) := fun h => by rw [mir_at p false h1]; rfl
    have a4 : y + 1 < p.h → mir p false ((y + 1) * p.w + x) = (y + 1) * p.w + (p.w - 1 - x) := fun h => by rw [mir_at p false h1]; rfl
    have c1 : (0 < p.w - 1 - x) ↔ x + 1 < p.w := by omega
    have c2 : (p.w - 1 - x + 1 < p.w) ↔ 0 < x := by omega
    by_cases b1 : 0 < x <;> by_cases b2 : x + 1 < p.w <;> by_cases b3 : 0 < y <;> by_cases b4 : y + 1 < p.h <;> simp only [b1, b2, b3, b4, c1, c2, a1, a2, a3, a4, if_true, if_false] <;> omega

theorem mirror_ok {p : Pl} (hp : PlOK p) (r : Bool) : PlOK (p.mirror r) := by
  refine ⟨hp.w, hp.h, by show (mirL p r).length = _; rw [mirL_len, hp.len]; rfl, fun c hc => ?_, ?_⟩
  · obtain ⟨i, hi, rfl⟩ := mem_gt (l := mirL p r) hc
    rw [mirL_len] at hi
    rw [gt_mirL p r hi]
    exact hp.cell _ (hp.mem (mir_lt p r (by rw [← hp.len]; exact hi)))
  · obtain ⟨i, hi, he⟩ := hp.some
    have hm := mir_lt p r hi
    refine ⟨mir p r i, hm, ?_⟩
    show gt (mirL p r) (mir p r i) ≠ 0
    rw [gt_mirL p r (by rw [hp.len]; exact hm), mir_mir p r hi]
    exact he
theorem mirror_el {p : Pl} (hp : PlOK p) (r : Bool) {i : Nat} (hi : i < p.w * p.h) : gt (p.mirror r).cs (mir p r i) = gt p.cs i := by
  show gt (mirL p r) (mir p r i) = _
  rw [gt_mirL p r (by rw [hp.len]; exact mir_lt p r hi), mir_mir p r hi]
theorem SubH.mirror {p : Pl} (hp : PlOK p) {r : Bool} (hr : r = true ∨ p.rd = false) {f : Nat → Int} (h : SubH (p.mirror r) (p.mirror r).el f) : SubH p p.el fun i => f (mir p r i) := fun i hi hE => by
  have h1 := h (mir p r i) (mir_lt p r hi) (by show ¬ gt (p.mirror r).cs (mir p r i) ≠ 0; rw [mirror_el hp r hi]; exact hE)
  have h2 : nbs (p.mirror r) (mir p r i) = nbs p (mir p r i) := rfl
  rw [h2, wsum_mir p r hr hi, wtot, wsum_mir p r hr hi] at h1
  exact h1
theorem SupH.mirror {p : Pl} (hp : PlOK p) {r : Bool} (hr : r = true ∨ p.rd = false) {f : Nat → Int} (h : SupH (p.mirror r) (p.mirror r).el f) : SupH p p.el fun i => f (mir p r i) := fun i hi hE => by
  have h1 := h (mir p r i) (mir_lt p r hi) (by show ¬ gt (p.mirror r).cs (mir p r i) ≠ 0; rw [mirror_el hp r hi]; exact hE)
  have h2 : nbs (p.mirror r) (mir p r i) = nbs p (mir p r i) := rfl
  rw [h2, wsum_mir p r hr hi, wtot, wsum_mir p r hr hi] at h1
  exact h1
theorem mirrors_meet {p : Pl} (hp : PlOK p) {r : Bool} (hr : r = true ∨ p.rd = false) (v : List Int) (k l : Nat) {i : Nat} (hi : i < p.w * p.h) :
    gt (lowB p v k) (mir p r i) ≤ gt (highB (p.mirror r) v l) i ∧ gt (lowB (p.mirror r) v l) i ≤ gt (highB p v k) (mir p r i) := by
  have A := low_ok hp v k
  have A' := high_ok hp v k
  have B := low_ok (mirror_ok hp r) v l
  have B' := high_ok (mirror_ok hp r) v l
  have hm := mir_lt p r hi
  have h1 := compare hp.w.2 A.sub (B'.sup.mirror hp hr) hp.some (fun j hj hE => by
    show _ ≤ gt (highB (p.mirror r) v l) (mir p r j)
    rw [A.elec j hj hE, B'.elec _ (mir_lt p r hj) (by show gt (p.mirror r).cs _ ≠ 0; rw [mirror_el hp r hj]; exact hE), mirror_el hp r hj]; exact Int.le_refl _) _ hm
  have h2 := compare hp.w.2 (B.sub.mirror hp hr) A'.sup hp.some (fun j hj hE => by
    show gt (lowB (p.mirror r) v l) (mir p r j) ≤ _
    rw [A'.elec j hj hE, B.elec _ (mir_lt p r hj) (by show gt (p.mirror r).cs _ ≠ 0; rw [mirror_el hp r hj]; exact hE), mirror_el hp r hj]; exact Int.le_refl _) _ hm
  rw [mir_mir p r hi] at h1 h2
  exact ⟨h1, h2⟩
end Go.Proofs
