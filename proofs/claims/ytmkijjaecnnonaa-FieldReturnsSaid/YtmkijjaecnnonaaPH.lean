/- The compiled code of functions of the program. -/
import Derived.Test.YtmkijjaecnnonaaPG
set_option linter.unusedSimpArgs false
set_option linter.unusedVariables false
namespace Go.Proofs
open Go Go.Sx

-- 17: thermion/thermionlaw01.FieldReturns
def k_law01_FieldReturns_r0 : List AOper := [
  ⟨(some (10)), .move (.const (.bool false)), none, []⟩]
def k_law01_FieldReturns_r1 : List AOper := [
  ⟨(some (28)), .move (.tmp 0), none, []⟩, 
  ⟨(some (29)), .call (.const (.fn (.func 22) [] [])) [.tmp 28], none, []⟩, 
  ⟨(some (11)), .move (.tmp 29), none, []⟩]
def k_law01_FieldReturns_r2 : List AOper := [
  ⟨(some (30)), .move (.tmp 11), none, []⟩, 
  ⟨(some (31)), .call (.const (.fn (.func 21) [] [])) [.tmp 30, .const (.int .i64 8), .const (.int .i64 6)], none, []⟩, 
  ⟨(some (32)), .move (.tmp 11), none, []⟩, 
  ⟨(some (33)), .call (.const (.fn (.func 46) [] [])) [.tmp 32, .const (.int .i64 7), .const (.int .i64 4)], none, []⟩, 
  ⟨(some (12)), .box (.const (.agg [.int .i64 0, .int .i64 0, .bool false, .nilsl])), none, []⟩, 
  ⟨(some (13)), .box (.const (.agg [.int .i64 0, .int .i64 0, .bool false, .nilsl])), none, []⟩, 
  ⟨none, .store 4 (.tmp 12) (.tmp 31), none, []⟩, 
  ⟨none, .store 4 (.tmp 13) (.tmp 33), none, []⟩]
def k_law01_FieldReturns_r3 : List AOper := [
  ⟨(some (34)), .move (.tmp 1), none, []⟩, 
  ⟨(some (35)), .call (.const (.fn (.func 23) [] [])) [.tmp 34, .const (.int .i64 3)], none, []⟩, 
  ⟨(some (36)), .bin .plain .add (.const (.int .i64 1)) (.tmp 35), none, []⟩, 
  ⟨(some (37)), .move (.tmp 2), none, []⟩, 
  ⟨(some (38)), .call (.const (.fn (.func 23) [] [])) [.tmp 37, .const (.int .i64 5)], none, []⟩, 
  ⟨(some (39)), .bin .plain .sub (.tmp 38) (.const (.int .i64 2)), none, []⟩, 
  ⟨(some (40)), .move (.tmp 3), none, []⟩, 
  ⟨(some (41)), .call (.const (.fn (.func 23) [] [])) [.tmp 40, .const (.int .i64 5)], none, []⟩, 
  ⟨(some (42)), .bin .plain .sub (.tmp 41) (.const (.int .i64 2)), none, []⟩, 
  ⟨(some (1)), .move (.tmp 36), none, []⟩, 
  ⟨(some (2)), .move (.tmp 39), none, []⟩, 
  ⟨(some (3)), .move (.tmp 42), none, []⟩]
def k_law01_FieldReturns_r4 : List AOper := [
  ⟨(some (44)), .load (some (4)) (.tmp 12), none, []⟩, 
  ⟨(some (45)), .move (.tmp 1), none, []⟩, 
  ⟨(some (46)), .move (.tmp 2), none, []⟩, 
  ⟨(some (47)), .move (.tmp 3), none, []⟩, 
  ⟨(some (48)), .call (.const (.fn (.func 51) [] [])) [.tmp 44, .tmp 45, .tmp 46, .tmp 47], none, []⟩, 
  ⟨(some (43)), .move (.tmp 48), none, []⟩, 
  ⟨(some (49)), .extract (.tmp 43) 0, none, []⟩, 
  ⟨(some (50)), .extract (.tmp 43) 1, none, []⟩, 
  ⟨(some (14)), .box (.const (.agg [.int .i64 0, .int .i64 0, .bool false, .nilsl])), none, []⟩, 
  ⟨none, .store 4 (.tmp 14) (.tmp 49), none, []⟩, 
  ⟨(some (15)), .move (.tmp 50), none, []⟩]
def k_law01_FieldReturns_r5 : List AOper := [
  ⟨(some (51)), .move (.tmp 15), none, []⟩, 
  ⟨(some (52)), .bin .plain .eql (.tmp 51) (.const (.int .i64 0)), none, []⟩]
def k_law01_FieldReturns_r6 : List AOper := [
  ⟨(some (54)), .load (some (4)) (.tmp 14), none, []⟩, 
  ⟨(some (55)), .move (.tmp 1), none, []⟩, 
  ⟨(some (56)), .move (.tmp 2), none, []⟩, 
  ⟨(some (57)), .neg (.tmp 56), none, []⟩, 
  ⟨(some (58)), .move (.tmp 3), none, []⟩, 
  ⟨(some (59)), .neg (.tmp 58), none, []⟩, 
  ⟨(some (60)), .call (.const (.fn (.func 51) [] [])) [.tmp 54, .tmp 55, .tmp 57, .tmp 59], none, []⟩, 
  ⟨(some (53)), .move (.tmp 60), none, []⟩, 
  ⟨(some (61)), .extract (.tmp 53) 0, none, []⟩, 
  ⟨(some (62)), .extract (.tmp 53) 1, none, []⟩, 
  ⟨(some (16)), .box (.const (.agg [.int .i64 0, .int .i64 0, .bool false, .nilsl])), none, []⟩, 
  ⟨none, .store 4 (.tmp 16) (.tmp 61), none, []⟩, 
  ⟨(some (17)), .move (.tmp 62), none, []⟩]
def k_law01_FieldReturns_r7 : List AOper := [
  ⟨(some (63)), .move (.tmp 17), none, []⟩, 
  ⟨(some (64)), .bin .plain .neq (.tmp 63) (.const (.int .i64 0)), none, []⟩, 
  ⟨(some (65)), .move (.tmp 64), none, []⟩, 
  ⟨(some (66)), .load (some (4)) (.tmp 16), (some (65, false)), []⟩, 
  ⟨(some (67)), .load (some (4)) (.tmp 12), (some (65, false)), []⟩, 
  ⟨(some (68)), .call (.const (.fn (.func 34) [] [])) [.tmp 66, .tmp 67], (some (65, false)), []⟩, 
  ⟨(some (69)), .not (.tmp 68), (some (65, false)), []⟩, 
  ⟨(some (70)), .pick (.tmp 65) (.const (.bool true)) (.tmp 69), none, []⟩]
def k_law01_FieldReturns_r8 : List AOper := [
  ⟨(some (10)), .move (.const (.bool false)), none, []⟩]
def k_law01_FieldReturns_r9 : List AOper := [
  ⟨(some (71)), .move (.tmp 4), none, []⟩, 
  ⟨(some (72)), .call (.const (.fn (.func 23) [] [])) [.tmp 71, .const (.int .i64 21)], none, []⟩, 
  ⟨(some (18)), .move (.tmp 72), none, []⟩]
def k_law01_FieldReturns_r10 : List AOper := [
  ⟨(some (74)), .load (some (4)) (.tmp 13), none, []⟩, 
  ⟨(some (75)), .move (.tmp 18), none, []⟩, 
  ⟨(some (76)), .call (.const (.fn (.func 61) [] [])) [.tmp 74, .tmp 75, .const (.int .i64 1), .const (.int .i64 2), .const (.int .i64 3)], none, []⟩, 
  ⟨(some (73)), .move (.tmp 76), none, []⟩, 
  ⟨(some (77)), .extract (.tmp 73) 0, none, []⟩, 
  ⟨(some (78)), .extract (.tmp 73) 1, none, []⟩, 
  ⟨(some (19)), .move (.tmp 77), none, []⟩, 
  ⟨(some (15)), .move (.tmp 78), none, []⟩]
def k_law01_FieldReturns_r11 : List AOper := [
  ⟨(some (80)), .load (some (4)) (.tmp 13), none, []⟩, 
  ⟨(some (81)), .move (.tmp 18), none, []⟩, 
  ⟨(some (82)), .call (.const (.fn (.func 49) [] [])) [.tmp 80, .tmp 81, .const (.int .i64 1), .const (.int .i64 2), .const (.int .i64 3)], none, []⟩, 
  ⟨(some (79)), .move (.tmp 82), none, []⟩, 
  ⟨(some (83)), .extract (.tmp 79) 0, none, []⟩, 
  ⟨(some (84)), .extract (.tmp 79) 1, none, []⟩, 
  ⟨(some (20)), .box (.const (.agg [.int .i64 0, .int .i64 0])), none, []⟩, 
  ⟨none, .store 2 (.tmp 20) (.tmp 83), none, []⟩, 
  ⟨(some (21)), .move (.tmp 84), none, []⟩]
def k_law01_FieldReturns_r12 : List AOper := [
  ⟨(some (85)), .move (.tmp 15), none, []⟩, 
  ⟨(some (86)), .move (.tmp 21), none, []⟩, 
  ⟨(some (87)), .bin .plain .neq (.tmp 85) (.tmp 86), none, []⟩, 
  ⟨(some (88)), .move (.tmp 87), none, []⟩, 
  ⟨(some (89)), .move (.tmp 15), (some (88, false)), []⟩, 
  ⟨(some (90)), .bin .plain .eql (.tmp 89) (.const (.int .i64 0)), (some (88, false)), []⟩, 
  ⟨(some (91)), .move (.tmp 90), (some (88, false)), []⟩, 
  ⟨(some (92)), .move (.tmp 19), (some (91, true)), []⟩, 
  ⟨(some (93)), .bin .plain .lss (.tmp 92) (.const (.int .i64 0)), (some (91, true)), []⟩, 
  ⟨(some (94)), .pick (.tmp 91) (.tmp 93) (.const (.bool false)), (some (88, false)), []⟩, 
  ⟨(some (95)), .pick (.tmp 88) (.const (.bool true)) (.tmp 94), none, []⟩]
def k_law01_FieldReturns_r13 : List AOper := [
  ⟨(some (10)), .move (.const (.bool false)), none, []⟩]
def k_law01_FieldReturns_r14 : List AOper := [
  ⟨(some (96)), .move (.tmp 15), none, []⟩, 
  ⟨(some (97)), .bin .plain .neq (.tmp 96) (.const (.int .i64 0)), none, []⟩, 
  ⟨(some (98)), .move (.tmp 97), none, []⟩, 
  ⟨(some (99)), .move (.tmp 19), (some (98, false)), []⟩, 
  ⟨(some (100)), .bin .plain .gtr (.tmp 99) (.const (.int .i64 0)), (some (98, false)), []⟩, 
  ⟨(some (101)), .pick (.tmp 98) (.const (.bool true)) (.tmp 100), none, []⟩]
def k_law01_FieldReturns_r15 : List AOper := [
  ⟨(some (102)), .call (.const (.fn (.func 20) [] [])) [], none, []⟩, 
  ⟨(some (10)), .move (.tmp 102), none, []⟩]
def k_law01_FieldReturns_r16 : List AOper := [
  ⟨(some (103)), .buildSlice 1 [.const (.int .i64 1), .const (.int .i64 0)], none, []⟩, 
  ⟨(some (104)), .buildSlice 1 [.const (.int .i64 (-1)), .const (.int .i64 0)], none, []⟩, 
  ⟨(some (105)), .buildSlice 1 [.const (.int .i64 0), .const (.int .i64 1)], none, []⟩, 
  ⟨(some (106)), .buildSlice 1 [.const (.int .i64 0), .const (.int .i64 (-1))], none, []⟩, 
  ⟨(some (107)), .buildSlice 1 [.tmp 103, .tmp 104, .tmp 105, .tmp 106], none, []⟩, 
  ⟨(some (22)), .move (.tmp 107), none, []⟩]
def k_law01_FieldReturns_r17 : List AOper := [
  ⟨(some (23)), .move (.const (.int .i64 0)), none, []⟩]
def k_law01_FieldReturns_r18 : List AOper := [
  ⟨(some (108)), .move (.tmp 23), none, []⟩, 
  ⟨(some (109)), .move (.tmp 22), none, []⟩, 
  ⟨(some (110)), .len false (.tmp 109), none, []⟩, 
  ⟨(some (111)), .bin .plain .lss (.tmp 108) (.tmp 110), none, []⟩]
def k_law01_FieldReturns_r19 : List AOper := [
  ⟨(some (115)), .load (some (4)) (.tmp 13), none, []⟩, 
  ⟨(some (116)), .move (.tmp 22), none, [0]⟩, 
  ⟨(some (117)), .move (.tmp 23), none, [0, 1]⟩, 
  ⟨(some (118)), .indexAddr 1 (.tmp 116) (.tmp 117), none, [0]⟩, 
  ⟨(some (119)), .load none (.tmp 118), none, [0]⟩, 
  ⟨(some (120)), .indexAddr 1 (.tmp 119) (.const (.int .i64 0)), none, [0]⟩, 
  ⟨(some (121)), .load none (.tmp 120), none, [0]⟩, 
  ⟨(some (122)), .move (.tmp 22), none, [0, 1, 2, 3, 4, 5, 6]⟩, 
  ⟨(some (123)), .move (.tmp 23), none, [0, 1, 2, 3, 4, 5, 6, 7]⟩, 
  ⟨(some (124)), .indexAddr 1 (.tmp 122) (.tmp 123), none, [0, 1, 2, 3, 4, 5, 6]⟩, 
  ⟨(some (125)), .load none (.tmp 124), none, [0, 1, 2, 3, 4, 5, 6]⟩, 
  ⟨(some (126)), .indexAddr 1 (.tmp 125) (.const (.int .i64 1)), none, [0, 1, 2, 3, 4, 5, 6]⟩, 
  ⟨(some (127)), .load none (.tmp 126), none, [0, 1, 2, 3, 4, 5, 6]⟩, 
  ⟨(some (128)), .call (.const (.fn (.func 51) [] [])) [.tmp 115, .const (.int .i64 2), .tmp 121, .tmp 127], none, []⟩, 
  ⟨(some (114)), .move (.tmp 128), none, []⟩, 
  ⟨(some (129)), .extract (.tmp 114) 0, none, []⟩, 
  ⟨(some (130)), .extract (.tmp 114) 1, none, [15]⟩, 
  ⟨(some (24)), .box (.const (.agg [.int .i64 0, .int .i64 0, .bool false, .nilsl])), none, [0, 1, 2, 3, 4, 5, 6, 7, 8, 9, 10, 11, 12, 13, 14, 15, 16]⟩, 
  ⟨none, .store 4 (.tmp 24) (.tmp 129), none, [16]⟩, 
  ⟨(some (25)), .move (.tmp 130), none, []⟩]
def k_law01_FieldReturns_r19s : List (List AOper) := [
  [
  ⟨(some (115)), .load (some (4)) (.tmp 13), none, []⟩, 
  ⟨(some (116)), .move (.tmp 22), none, [0]⟩, 
  ⟨(some (117)), .move (.tmp 23), none, [0, 1]⟩, 
  ⟨(some (118)), .indexAddr 1 (.tmp 116) (.tmp 117), none, [0]⟩, 
  ⟨(some (119)), .load none (.tmp 118), none, [0]⟩, 
  ⟨(some (120)), .indexAddr 1 (.tmp 119) (.const (.int .i64 0)), none, [0]⟩, 
  ⟨(some (121)), .load none (.tmp 120), none, [0]⟩, 
  ⟨(some (122)), .move (.tmp 22), none, [0, 1, 2, 3, 4, 5, 6]⟩, 
  ⟨(some (123)), .move (.tmp 23), none, [0, 1, 2, 3, 4, 5, 6, 7]⟩, 
  ⟨(some (124)), .indexAddr 1 (.tmp 122) (.tmp 123), none, [0, 1, 2, 3, 4, 5, 6]⟩, 
  ⟨(some (125)), .load none (.tmp 124), none, [0, 1, 2, 3, 4, 5, 6]⟩, 
  ⟨(some (126)), .indexAddr 1 (.tmp 125) (.const (.int .i64 1)), none, [0, 1, 2, 3, 4, 5, 6]⟩, 
  ⟨(some (127)), .load none (.tmp 126), none, [0, 1, 2, 3, 4, 5, 6]⟩, 
  ⟨(some (128)), .call (.const (.fn (.func 51) [] [])) [.tmp 115, .const (.int .i64 2), .tmp 121, .tmp 127], none, []⟩, 
  ⟨(some (114)), .move (.tmp 128), none, []⟩, 
  ⟨(some (129)), .extract (.tmp 114) 0, none, []⟩, 
  ⟨(some (130)), .extract (.tmp 114) 1, none, [15]⟩, 
  ⟨(some (24)), .box (.const (.agg [.int .i64 0, .int .i64 0, .bool false, .nilsl])), none, [0, 1, 2, 3, 4, 5, 6, 7, 8, 9, 10, 11, 12, 13, 14, 15, 16]⟩, 
  ⟨none, .store 4 (.tmp 24) (.tmp 129), none, [16]⟩], 
  [
  ⟨(some (25)), .move (.tmp 130), none, []⟩]]
theorem k_law01_FieldReturns_r19_sg : segs k_law01_FieldReturns_r19 = k_law01_FieldReturns_r19s := by kernel_rfl
theorem k_law01_FieldReturns_r19_st : statOK k_law01_FieldReturns_r19 = true := by kernel_rfl
def k_law01_FieldReturns_r20 : List AOper := [
  ⟨(some (132)), .load (some (4)) (.tmp 24), none, []⟩, 
  ⟨(some (133)), .move (.tmp 18), none, []⟩, 
  ⟨(some (134)), .call (.const (.fn (.func 49) [] [])) [.tmp 132, .tmp 133, .const (.int .i64 1), .const (.int .i64 2), .const (.int .i64 3)], none, []⟩, 
  ⟨(some (131)), .move (.tmp 134), none, []⟩, 
  ⟨(some (135)), .extract (.tmp 131) 0, none, []⟩, 
  ⟨(some (136)), .extract (.tmp 131) 1, none, []⟩, 
  ⟨(some (26)), .box (.const (.agg [.int .i64 0, .int .i64 0])), none, []⟩, 
  ⟨none, .store 2 (.tmp 26) (.tmp 135), none, []⟩, 
  ⟨(some (27)), .move (.tmp 136), none, []⟩]
def k_law01_FieldReturns_r21 : List AOper := [
  ⟨(some (137)), .move (.tmp 25), none, []⟩, 
  ⟨(some (138)), .bin .plain .eql (.tmp 137) (.const (.int .i64 0)), none, []⟩, 
  ⟨(some (139)), .move (.tmp 138), none, []⟩, 
  ⟨(some (140)), .move (.tmp 27), (some (139, true)), []⟩, 
  ⟨(some (141)), .bin .plain .eql (.tmp 140) (.const (.int .i64 0)), (some (139, true)), []⟩, 
  ⟨(some (142)), .pick (.tmp 139) (.tmp 141) (.const (.bool false)), none, []⟩, 
  ⟨(some (143)), .move (.tmp 142), none, []⟩, 
  ⟨(some (144)), .load (some (2)) (.tmp 26), (some (143, true)), []⟩, 
  ⟨(some (145)), .load (some (2)) (.tmp 20), (some (143, true)), []⟩, 
  ⟨(some (146)), .eqAgg true [.int, .int] (.tmp 144) (.tmp 145), (some (143, true)), []⟩, 
  ⟨(some (147)), .move (.tmp 146), (some (143, true)), []⟩, 
  ⟨(some (148)), .fieldAddr 0 (.tmp 20), (some (147, false)), []⟩, 
  ⟨(some (149)), .load none (.tmp 148), (some (147, false)), []⟩, 
  ⟨(some (150)), .fieldAddr 1 (.tmp 20), (some (147, false)), []⟩, 
  ⟨(some (151)), .load none (.tmp 150), (some (147, false)), []⟩, 
  ⟨(some (152)), .bin .plain .neq (.tmp 149) (.tmp 151), (some (147, false)), []⟩, 
  ⟨(some (153)), .pick (.tmp 147) (.const (.bool true)) (.tmp 152), (some (143, true)), []⟩, 
  ⟨(some (154)), .pick (.tmp 143) (.tmp 153) (.const (.bool false)), none, []⟩]
def k_law01_FieldReturns_r22 : List AOper := [
  ⟨(some (10)), .move (.const (.bool false)), none, []⟩]
def k_law01_FieldReturns_r23 : List AOper := [
  ⟨(some (112)), .move (.tmp 23), none, []⟩, 
  ⟨(some (113)), .bin .plain .add (.tmp 112) (.const (.int .i64 1)), none, []⟩, 
  ⟨(some (23)), .move (.tmp 113), none, []⟩]
def k_law01_FieldReturns_r24 : ACode := (.seq (.seq (.reg k_law01_FieldReturns_r18 false) (.cond (.tmp 111) .skip (.exit 0))) (.seq (.block 1 (.seq (.reg k_law01_FieldReturns_r19 true) (.seq (.reg k_law01_FieldReturns_r20 false) (.seq (.reg k_law01_FieldReturns_r21 false) (.cond (.tmp 154) (.seq (.reg k_law01_FieldReturns_r22 false) .ret) .skip))))) (.reg k_law01_FieldReturns_r23 false)))
def k_law01_FieldReturns_r25 : List AOper := [
  ⟨(some (155)), .call (.const (.fn (.func 20) [] [])) [], none, []⟩, 
  ⟨(some (10)), .move (.tmp 155), none, []⟩]
def k_law01_FieldReturns : AFun := { params := 5, ntmps := 156, body := (.seq (.reg k_law01_FieldReturns_r0 false) (.seq (.reg k_law01_FieldReturns_r1 false) (.seq (.reg k_law01_FieldReturns_r2 false) (.seq (.reg k_law01_FieldReturns_r3 false) (.seq (.reg k_law01_FieldReturns_r4 false) (.seq (.seq (.reg k_law01_FieldReturns_r5 false) (.cond (.tmp 52) (.seq (.reg k_law01_FieldReturns_r6 false) (.seq (.reg k_law01_FieldReturns_r7 false) (.cond (.tmp 70) (.seq (.reg k_law01_FieldReturns_r8 false) .ret) .skip))) .skip)) (.seq (.reg k_law01_FieldReturns_r9 false) (.seq (.reg k_law01_FieldReturns_r10 false) (.seq (.reg k_law01_FieldReturns_r11 false) (.seq (.seq (.reg k_law01_FieldReturns_r12 false) (.cond (.tmp 95) (.seq (.reg k_law01_FieldReturns_r13 false) .ret) .skip)) (.seq (.seq (.reg k_law01_FieldReturns_r14 false) (.cond (.tmp 101) (.seq (.reg k_law01_FieldReturns_r15 false) .ret) .skip)) (.seq (.reg k_law01_FieldReturns_r16 false) (.seq (.seq (.reg k_law01_FieldReturns_r17 false) (.block 0 (.loop k_law01_FieldReturns_r24))) (.seq (.reg k_law01_FieldReturns_r25 false) .ret)))))))))))))), res := [.tmp 10] }
theorem k_law01_FieldReturns_ok : cfun Try.prog Try.f17 = k_law01_FieldReturns := by kernel_rfl

-- 33: thermion/field.Copy
def k_field_Copy_r0 : List AOper := [
  ⟨(some (1)), .box (.tmp 0), none, []⟩, 
  ⟨(some (2)), .box (.const (.agg [.int .i64 0, .int .i64 0, .bool false, .nilsl])), none, []⟩]
def k_field_Copy_r1 : List AOper := [
  ⟨(some (3)), .fieldAddr 3 (.tmp 1), none, []⟩, 
  ⟨(some (4)), .load none (.tmp 3), none, []⟩, 
  ⟨(some (5)), .append 1 8 false (.const (.nilsl)) (.tmp 4), none, []⟩, 
  ⟨(some (6)), .fieldAddr 3 (.tmp 1), none, []⟩, 
  ⟨none, .store 1 (.tmp 6) (.tmp 5), none, []⟩]
def k_field_Copy_r2 : List AOper := [
  ⟨(some (7)), .load (some (4)) (.tmp 1), none, []⟩, 
  ⟨none, .store 4 (.tmp 2) (.tmp 7), none, []⟩]
def k_field_Copy : AFun := { params := 1, ntmps := 8, body := (.seq (.reg k_field_Copy_r0 false) (.seq (.reg k_field_Copy_r1 false) (.seq (.reg k_field_Copy_r2 false) .ret))), res := [.cell 2 (some ((some (4))))] }
theorem k_field_Copy_ok : cfun Try.prog Try.f33 = k_field_Copy := by kernel_rfl

-- 34: thermion/thermionref01.Same
def k_ref01_Same_r0 : List AOper := [
  ⟨(some (2)), .box (.tmp 0), none, []⟩, 
  ⟨(some (3)), .box (.tmp 1), none, []⟩, 
  ⟨(some (4)), .move (.const (.bool false)), none, []⟩]
def k_ref01_Same_r1 : List AOper := [
  ⟨(some (5)), .fieldAddr 0 (.tmp 2), none, []⟩, 
  ⟨(some (6)), .load none (.tmp 5), none, []⟩, 
  ⟨(some (7)), .fieldAddr 0 (.tmp 3), none, []⟩, 
  ⟨(some (8)), .load none (.tmp 7), none, []⟩, 
  ⟨(some (9)), .bin .plain .eql (.tmp 6) (.tmp 8), none, []⟩, 
  ⟨(some (10)), .move (.tmp 9), none, []⟩, 
  ⟨(some (11)), .fieldAddr 1 (.tmp 2), (some (10, true)), []⟩, 
  ⟨(some (12)), .load none (.tmp 11), (some (10, true)), []⟩, 
  ⟨(some (13)), .fieldAddr 1 (.tmp 3), (some (10, true)), []⟩, 
  ⟨(some (14)), .load none (.tmp 13), (some (10, true)), []⟩, 
  ⟨(some (15)), .bin .plain .eql (.tmp 12) (.tmp 14), (some (10, true)), []⟩, 
  ⟨(some (16)), .pick (.tmp 10) (.tmp 15) (.const (.bool false)), none, []⟩, 
  ⟨(some (17)), .move (.tmp 16), none, []⟩, 
  ⟨(some (18)), .fieldAddr 2 (.tmp 2), (some (17, true)), []⟩, 
  ⟨(some (19)), .load none (.tmp 18), (some (17, true)), []⟩, 
  ⟨(some (20)), .fieldAddr 2 (.tmp 3), (some (17, true)), []⟩, 
  ⟨(some (21)), .load none (.tmp 20), (some (17, true)), []⟩, 
  ⟨(some (22)), .bin .bool .eql (.tmp 19) (.tmp 21), (some (17, true)), []⟩, 
  ⟨(some (23)), .pick (.tmp 17) (.tmp 22) (.const (.bool false)), none, []⟩, 
  ⟨(some (24)), .move (.tmp 23), none, []⟩, 
  ⟨(some (25)), .fieldAddr 3 (.tmp 2), (some (24, true)), []⟩, 
  ⟨(some (26)), .load none (.tmp 25), (some (24, true)), []⟩, 
  ⟨(some (27)), .fieldAddr 3 (.tmp 3), (some (24, true)), []⟩, 
  ⟨(some (28)), .load none (.tmp 27), (some (24, true)), []⟩, 
  ⟨(some (29)), .call (.const (.fn (.func 77) [] [])) [.tmp 26, .tmp 28], (some (24, true)), []⟩, 
  ⟨(some (30)), .pick (.tmp 24) (.tmp 29) (.const (.bool false)), none, []⟩, 
  ⟨(some (4)), .move (.tmp 30), none, []⟩]
def k_ref01_Same : AFun := { params := 2, ntmps := 31, body := (.seq (.reg k_ref01_Same_r0 false) (.seq (.reg k_ref01_Same_r1 false) .ret)), res := [.tmp 4] }
theorem k_ref01_Same_ok : cfun Try.prog Try.f34 = k_ref01_Same := by kernel_rfl

-- 46: thermion/thermionkit.Tube
def k_kit_Tube_r0 : List AOper := [
  ⟨(some (6)), .box (.const (.agg [.int .i64 0, .int .i64 0, .bool false, .nilsl])), none, []⟩]
def k_kit_Tube_r1 : List AOper := [
  ⟨(some (14)), .move (.tmp 0), none, []⟩, 
  ⟨(some (15)), .move (.tmp 1), none, []⟩, 
  ⟨(some (16)), .minmax true [.const (.int .i64 4), .tmp 15], none, []⟩, 
  ⟨(some (17)), .call (.const (.fn (.func 54) [] [])) [.tmp 14, .const (.int .i64 4), .tmp 16], none, []⟩, 
  ⟨(some (18)), .move (.tmp 0), none, []⟩, 
  ⟨(some (19)), .move (.tmp 2), none, []⟩, 
  ⟨(some (20)), .call (.const (.fn (.func 54) [] [])) [.tmp 18, .const (.int .i64 1), .tmp 19], none, []⟩, 
  ⟨(some (21)), .move (.tmp 0), none, []⟩, 
  ⟨(some (22)), .call (.const (.fn (.func 65) [] [])) [.tmp 21, .const (.int .i64 2)], none, []⟩, 
  ⟨(some (23)), .build [.int .i64 0, .int .i64 0, .bool false, .nilsl] [(0, 1, .tmp 17), (1, 1, .tmp 20), (2, 1, .tmp 22)], none, []⟩, 
  ⟨(some (7)), .box (.const (.agg [.int .i64 0, .int .i64 0, .bool false, .nilsl])), none, []⟩, 
  ⟨none, .store 4 (.tmp 7) (.tmp 23), none, []⟩]
def k_kit_Tube_r2 : List AOper := [
  ⟨(some (24)), .move (.tmp 0), none, []⟩, 
  ⟨(some (25)), .fieldAddr 0 (.tmp 7), none, []⟩, 
  ⟨(some (26)), .load none (.tmp 25), none, []⟩, 
  ⟨(some (27)), .bin .plain .sub (.tmp 26) (.const (.int .i64 2)), none, []⟩, 
  ⟨(some (28)), .call (.const (.fn (.func 54) [] [])) [.tmp 24, .const (.int .i64 1), .tmp 27], none, []⟩, 
  ⟨(some (8)), .move (.tmp 28), none, []⟩]
def k_kit_Tube_r3 : List AOper := [
  ⟨(some (29)), .move (.tmp 0), none, []⟩, 
  ⟨(some (30)), .fieldAddr 1 (.tmp 7), none, []⟩, 
  ⟨(some (31)), .load none (.tmp 30), none, []⟩, 
  ⟨(some (32)), .call (.const (.fn (.func 41) [] [])) [.tmp 29, .tmp 31], none, []⟩, 
  ⟨(some (9)), .move (.tmp 32), none, []⟩]
def k_kit_Tube_r4 : List AOper := [
  ⟨(some (10)), .move (.const (.int .i64 0)), none, []⟩]
def k_kit_Tube_r5 : List AOper := [
  ⟨(some (33)), .move (.tmp 10), none, []⟩, 
  ⟨(some (34)), .fieldAddr 0 (.tmp 7), none, []⟩, 
  ⟨(some (35)), .load none (.tmp 34), none, []⟩, 
  ⟨(some (36)), .fieldAddr 1 (.tmp 7), none, []⟩, 
  ⟨(some (37)), .load none (.tmp 36), none, []⟩, 
  ⟨(some (38)), .bin .plain .mul (.tmp 35) (.tmp 37), none, []⟩, 
  ⟨(some (39)), .bin .plain .lss (.tmp 33) (.tmp 38), none, []⟩]
def k_kit_Tube_r6 : List AOper := [
  ⟨(some (42)), .move (.tmp 10), none, []⟩, 
  ⟨(some (43)), .fieldAddr 0 (.tmp 7), none, [0]⟩, 
  ⟨(some (44)), .load none (.tmp 43), none, [0]⟩, 
  ⟨(some (45)), .bin .plain .rem (.tmp 42) (.tmp 44), none, []⟩, 
  ⟨(some (46)), .move (.tmp 10), none, [0, 1, 2, 3]⟩, 
  ⟨(some (47)), .fieldAddr 0 (.tmp 7), none, [0, 1, 2, 3, 4]⟩, 
  ⟨(some (48)), .load none (.tmp 47), none, [0, 1, 2, 3, 4]⟩, 
  ⟨(some (49)), .bin .plain .quo (.tmp 46) (.tmp 48), none, [0, 1, 2, 3]⟩, 
  ⟨(some (11)), .move (.tmp 45), none, [4, 5, 6, 7]⟩, 
  ⟨(some (12)), .move (.tmp 49), none, []⟩]
def k_kit_Tube_r6s : List (List AOper) := [
  [
  ⟨(some (42)), .move (.tmp 10), none, []⟩, 
  ⟨(some (43)), .fieldAddr 0 (.tmp 7), none, [0]⟩, 
  ⟨(some (44)), .load none (.tmp 43), none, [0]⟩, 
  ⟨(some (45)), .bin .plain .rem (.tmp 42) (.tmp 44), none, []⟩, 
  ⟨(some (46)), .move (.tmp 10), none, [0, 1, 2, 3]⟩, 
  ⟨(some (47)), .fieldAddr 0 (.tmp 7), none, [0, 1, 2, 3, 4]⟩, 
  ⟨(some (48)), .load none (.tmp 47), none, [0, 1, 2, 3, 4]⟩, 
  ⟨(some (49)), .bin .plain .quo (.tmp 46) (.tmp 48), none, [0, 1, 2, 3]⟩, 
  ⟨(some (11)), .move (.tmp 45), none, [4, 5, 6, 7]⟩], 
  [
  ⟨(some (12)), .move (.tmp 49), none, []⟩]]
theorem k_kit_Tube_r6_sg : segs k_kit_Tube_r6 = k_kit_Tube_r6s := by kernel_rfl
theorem k_kit_Tube_r6_st : statOK k_kit_Tube_r6 = true := by kernel_rfl
def k_kit_Tube_r7 : List AOper := [
  ⟨(some (13)), .move (.const (.int .i64 0)), none, []⟩]
def k_kit_Tube_r8 : List AOper := [
  ⟨(some (51)), .move (.tmp 11), none, []⟩, 
  ⟨(some (52)), .bin .plain .eql (.tmp 51) (.const (.int .i64 0)), none, []⟩, 
  ⟨(some (50)), .move (.tmp 52), none, []⟩]
def k_kit_Tube_r9 : List AOper := [
  ⟨(some (13)), .move (.const (.int .i64 1)), none, []⟩]
def k_kit_Tube_r10 : List AOper := [
  ⟨(some (54)), .move (.tmp 11), none, []⟩, 
  ⟨(some (55)), .fieldAddr 0 (.tmp 7), none, []⟩, 
  ⟨(some (56)), .load none (.tmp 55), none, []⟩, 
  ⟨(some (57)), .bin .plain .sub (.tmp 56) (.const (.int .i64 1)), none, []⟩, 
  ⟨(some (58)), .bin .plain .eql (.tmp 54) (.tmp 57), none, []⟩, 
  ⟨(some (53)), .move (.tmp 58), none, []⟩]
def k_kit_Tube_r11 : List AOper := [
  ⟨(some (13)), .move (.const (.int .i64 3)), none, []⟩]
def k_kit_Tube_r12 : List AOper := [
  ⟨(some (60)), .move (.tmp 11), none, []⟩, 
  ⟨(some (61)), .move (.tmp 8), none, []⟩, 
  ⟨(some (62)), .bin .plain .eql (.tmp 60) (.tmp 61), none, []⟩, 
  ⟨(some (63)), .move (.tmp 62), none, []⟩, 
  ⟨(some (64)), .move (.tmp 12), (some (63, true)), []⟩, 
  ⟨(some (65)), .move (.tmp 9), (some (63, true)), []⟩, 
  ⟨(some (66)), .bin .plain .eql (.tmp 64) (.tmp 65), (some (63, true)), []⟩, 
  ⟨(some (67)), .move (.tmp 66), (some (63, true)), []⟩, 
  ⟨(some (68)), .move (.tmp 0), (some (67, false)), []⟩, 
  ⟨(some (69)), .call (.const (.fn (.func 65) [] [])) [.tmp 68, .const (.int .i64 3)], (some (67, false)), []⟩, 
  ⟨(some (70)), .pick (.tmp 67) (.const (.bool true)) (.tmp 69), (some (63, true)), []⟩, 
  ⟨(some (71)), .pick (.tmp 63) (.tmp 70) (.const (.bool false)), none, []⟩, 
  ⟨(some (72)), .move (.tmp 71), none, []⟩, 
  ⟨(some (73)), .fieldAddr 1 (.tmp 7), (some (72, true)), []⟩, 
  ⟨(some (74)), .load none (.tmp 73), (some (72, true)), []⟩, 
  ⟨(some (75)), .bin .plain .gtr (.tmp 74) (.const (.int .i64 1)), (some (72, true)), []⟩, 
  ⟨(some (76)), .pick (.tmp 72) (.tmp 75) (.const (.bool false)), none, []⟩, 
  ⟨(some (59)), .move (.tmp 76), none, []⟩]
def k_kit_Tube_r13 : List AOper := [
  ⟨(some (13)), .move (.const (.int .i64 2)), none, []⟩]
def k_kit_Tube_r14 : List AOper := [
  ⟨(some (77)), .fieldAddr 3 (.tmp 7), none, []⟩, 
  ⟨(some (78)), .load none (.tmp 77), none, []⟩, 
  ⟨(some (79)), .move (.tmp 13), none, []⟩, 
  ⟨(some (80)), .buildSlice 1 [.tmp 79], none, []⟩, 
  ⟨(some (81)), .append 1 8 false (.tmp 78) (.tmp 80), none, []⟩, 
  ⟨(some (82)), .fieldAddr 3 (.tmp 7), none, []⟩, 
  ⟨none, .store 1 (.tmp 82) (.tmp 81), none, []⟩]
def k_kit_Tube_r15 : List AOper := [
  ⟨(some (40)), .move (.tmp 10), none, []⟩, 
  ⟨(some (41)), .bin .plain .add (.tmp 40) (.const (.int .i64 1)), none, []⟩, 
  ⟨(some (10)), .move (.tmp 41), none, []⟩]
def k_kit_Tube_r16 : ACode := (.seq (.seq (.reg k_kit_Tube_r5 false) (.cond (.tmp 39) .skip (.exit 0))) (.seq (.block 1 (.seq (.reg k_kit_Tube_r6 true) (.seq (.reg k_kit_Tube_r7 false) (.seq (.block 2 (.seq (.reg k_kit_Tube_r8 false) (.cond (.tmp 50) (.reg k_kit_Tube_r9 false) (.seq (.reg k_kit_Tube_r10 false) (.cond (.tmp 53) (.reg k_kit_Tube_r11 false) (.seq (.reg k_kit_Tube_r12 false) (.cond (.tmp 59) (.reg k_kit_Tube_r13 false) .skip))))))) (.reg k_kit_Tube_r14 false))))) (.reg k_kit_Tube_r15 false)))
def k_kit_Tube_r17 : List AOper := [
  ⟨(some (83)), .load (some (4)) (.tmp 7), none, []⟩, 
  ⟨none, .store 4 (.tmp 6) (.tmp 83), none, []⟩]
def k_kit_Tube : AFun := { params := 3, ntmps := 84, body := (.seq (.reg k_kit_Tube_r0 false) (.seq (.reg k_kit_Tube_r1 false) (.seq (.reg k_kit_Tube_r2 false) (.seq (.reg k_kit_Tube_r3 false) (.seq (.seq (.reg k_kit_Tube_r4 false) (.block 0 (.loop k_kit_Tube_r16))) (.seq (.reg k_kit_Tube_r17 false) .ret)))))), res := [.cell 6 (some ((some (4))))] }
theorem k_kit_Tube_ok : cfun Try.prog Try.f46 = k_kit_Tube := by kernel_rfl

-- 49: thermion/field.Amplification
def k_field_Amplification_r0 : List AOper := [
  ⟨(some (5)), .box (.tmp 0), none, []⟩, 
  ⟨(some (10)), .box (.const (.agg [.int .i64 0, .int .i64 0])), none, []⟩, 
  ⟨(some (11)), .move (.const (.int .i64 0)), none, []⟩]
def k_field_Amplification_r1 : List AOper := [
  ⟨(some (15)), .load (some (4)) (.tmp 5), none, []⟩, 
  ⟨(some (16)), .move (.tmp 1), none, []⟩, 
  ⟨(some (17)), .move (.tmp 2), none, []⟩, 
  ⟨(some (18)), .move (.tmp 3), none, []⟩, 
  ⟨(some (19)), .move (.tmp 4), none, []⟩, 
  ⟨(some (20)), .buildSlice 1 [.tmp 17, .tmp 18, .tmp 19], none, []⟩, 
  ⟨(some (21)), .call (.const (.fn (.func 88) [] [])) [.tmp 15, .tmp 16, .tmp 20], none, []⟩, 
  ⟨(some (12)), .move (.tmp 21), none, []⟩]
def k_field_Amplification_r2 : List AOper := [
  ⟨(some (22)), .move (.tmp 12), none, []⟩, 
  ⟨(some (23)), .bin .plain .neq (.tmp 22) (.const (.int .i64 0)), none, []⟩]
def k_field_Amplification_r3 : List AOper := [
  ⟨(some (24)), .build [.int .i64 0, .int .i64 0] [], none, []⟩, 
  ⟨(some (25)), .move (.tmp 12), none, []⟩, 
  ⟨none, .store 2 (.tmp 10) (.tmp 24), none, []⟩, 
  ⟨(some (11)), .move (.tmp 25), none, []⟩]
def k_field_Amplification_r4 : List AOper := [
  ⟨(some (26)), .load (some (4)) (.tmp 5), none, []⟩, 
  ⟨(some (27)), .move (.tmp 1), none, []⟩, 
  ⟨(some (28)), .move (.tmp 4), none, []⟩, 
  ⟨(some (29)), .move (.tmp 2), none, []⟩, 
  ⟨(some (30)), .call (.const (.fn (.func 89) [] [])) [.tmp 26, .tmp 27, .tmp 28, .tmp 29], none, []⟩, 
  ⟨(some (13)), .box (.const (.agg [.int .i64 0, .int .i64 0])), none, []⟩, 
  ⟨none, .store 2 (.tmp 13) (.tmp 30), none, []⟩]
def k_field_Amplification_r5 : List AOper := [
  ⟨(some (31)), .fieldAddr 0 (.tmp 13), none, []⟩, 
  ⟨(some (32)), .load none (.tmp 31), none, []⟩, 
  ⟨(some (33)), .bin .plain .lss (.tmp 32) (.const (.int .i64 1)), none, []⟩]
def k_field_Amplification_r6 : List AOper := [
  ⟨(some (34)), .build [.int .i64 0, .int .i64 0] [], none, []⟩, 
  ⟨none, .store 2 (.tmp 10) (.tmp 34), none, []⟩, 
  ⟨(some (11)), .move (.const (.int .i64 10)), none, []⟩]
def k_field_Amplification_r7 : List AOper := [
  ⟨(some (35)), .load (some (4)) (.tmp 5), none, []⟩, 
  ⟨(some (36)), .move (.tmp 1), none, []⟩, 
  ⟨(some (37)), .move (.tmp 3), none, []⟩, 
  ⟨(some (38)), .move (.tmp 2), none, []⟩, 
  ⟨(some (39)), .call (.const (.fn (.func 89) [] [])) [.tmp 35, .tmp 36, .tmp 37, .tmp 38], none, []⟩, 
  ⟨(some (14)), .box (.const (.agg [.int .i64 0, .int .i64 0])), none, []⟩, 
  ⟨none, .store 2 (.tmp 14) (.tmp 39), none, []⟩]
def k_field_Amplification_r8 : List AOper := [
  ⟨(some (40)), .fieldAddr 0 (.tmp 14), none, []⟩, 
  ⟨(some (41)), .load none (.tmp 40), none, []⟩, 
  ⟨(some (42)), .bin .plain .mul (.const (.int .i64 1000)) (.tmp 41), none, []⟩, 
  ⟨(some (43)), .fieldAddr 1 (.tmp 13), none, [0, 1, 2]⟩, 
  ⟨(some (44)), .load none (.tmp 43), none, [0, 1, 2]⟩, 
  ⟨(some (45)), .call (.const (.fn (.func 92) [] [])) [.tmp 42, .tmp 44], none, []⟩, 
  ⟨(some (46)), .fieldAddr 1 (.tmp 14), none, [0, 1, 2, 3, 4, 5]⟩, 
  ⟨(some (47)), .load none (.tmp 46), none, [0, 1, 2, 3, 4, 5]⟩, 
  ⟨(some (48)), .bin .plain .mul (.const (.int .i64 1000)) (.tmp 47), none, [0, 1, 2, 3, 4, 5]⟩, 
  ⟨(some (49)), .fieldAddr 0 (.tmp 13), none, [0, 1, 2, 3, 4, 5, 6, 7, 8]⟩, 
  ⟨(some (50)), .load none (.tmp 49), none, [0, 1, 2, 3, 4, 5, 6, 7, 8]⟩, 
  ⟨(some (51)), .call (.const (.fn (.func 93) [] [])) [.tmp 48, .tmp 50], none, []⟩, 
  ⟨(some (52)), .build [.int .i64 0, .int .i64 0] [(0, 1, .tmp 45), (1, 1, .tmp 51)], none, []⟩, 
  ⟨none, .store 2 (.tmp 10) (.tmp 52), none, []⟩, 
  ⟨(some (11)), .move (.const (.int .i64 0)), none, []⟩]
def k_field_Amplification_r8s : List (List AOper) := [
  [
  ⟨(some (40)), .fieldAddr 0 (.tmp 14), none, []⟩, 
  ⟨(some (41)), .load none (.tmp 40), none, []⟩, 
  ⟨(some (42)), .bin .plain .mul (.const (.int .i64 1000)) (.tmp 41), none, []⟩, 
  ⟨(some (43)), .fieldAddr 1 (.tmp 13), none, [0, 1, 2]⟩, 
  ⟨(some (44)), .load none (.tmp 43), none, [0, 1, 2]⟩, 
  ⟨(some (45)), .call (.const (.fn (.func 92) [] [])) [.tmp 42, .tmp 44], none, []⟩, 
  ⟨(some (46)), .fieldAddr 1 (.tmp 14), none, [0, 1, 2, 3, 4, 5]⟩, 
  ⟨(some (47)), .load none (.tmp 46), none, [0, 1, 2, 3, 4, 5]⟩, 
  ⟨(some (48)), .bin .plain .mul (.const (.int .i64 1000)) (.tmp 47), none, [0, 1, 2, 3, 4, 5]⟩, 
  ⟨(some (49)), .fieldAddr 0 (.tmp 13), none, [0, 1, 2, 3, 4, 5, 6, 7, 8]⟩, 
  ⟨(some (50)), .load none (.tmp 49), none, [0, 1, 2, 3, 4, 5, 6, 7, 8]⟩], 
  [
  ⟨(some (51)), .call (.const (.fn (.func 93) [] [])) [.tmp 48, .tmp 50], none, []⟩], 
  [
  ⟨(some (52)), .build [.int .i64 0, .int .i64 0] [(0, 1, .tmp 45), (1, 1, .tmp 51)], none, []⟩], 
  [
  ⟨none, .store 2 (.tmp 10) (.tmp 52), none, []⟩], 
  [
  ⟨(some (11)), .move (.const (.int .i64 0)), none, []⟩]]
theorem k_field_Amplification_r8_sg : segs k_field_Amplification_r8 = k_field_Amplification_r8s := by kernel_rfl
theorem k_field_Amplification_r8_st : statOK k_field_Amplification_r8 = true := by kernel_rfl
def k_field_Amplification : AFun := { params := 5, ntmps := 53, body := (.seq (.reg k_field_Amplification_r0 false) (.seq (.seq (.reg k_field_Amplification_r1 false) (.seq (.reg k_field_Amplification_r2 false) (.cond (.tmp 23) (.seq (.reg k_field_Amplification_r3 false) .ret) .skip))) (.seq (.reg k_field_Amplification_r4 false) (.seq (.seq (.reg k_field_Amplification_r5 false) (.cond (.tmp 33) (.seq (.reg k_field_Amplification_r6 false) .ret) .skip)) (.seq (.reg k_field_Amplification_r7 false) (.seq (.reg k_field_Amplification_r8 true) .ret)))))), res := [.cell 10 (some ((some (2)))), .tmp 11] }
theorem k_field_Amplification_ok : cfun Try.prog Try.f49 = k_field_Amplification := by kernel_rfl

-- 51: thermion/field.Shift
def k_field_Shift_r0 : List AOper := [
  ⟨(some (4)), .box (.tmp 0), none, []⟩, 
  ⟨(some (8)), .box (.const (.agg [.int .i64 0, .int .i64 0, .bool false, .nilsl])), none, []⟩, 
  ⟨(some (9)), .move (.const (.int .i64 0)), none, []⟩]
def k_field_Shift_r1 : List AOper := [
  ⟨(some (16)), .load (some (4)) (.tmp 4), none, []⟩, 
  ⟨(some (17)), .call (.const (.fn (.func 26) [] [])) [.tmp 16], none, []⟩, 
  ⟨(some (10)), .move (.tmp 17), none, []⟩]
def k_field_Shift_r2 : List AOper := [
  ⟨(some (18)), .move (.tmp 10), none, []⟩, 
  ⟨(some (19)), .bin .plain .neq (.tmp 18) (.const (.int .i64 0)), none, []⟩]
def k_field_Shift_r3 : List AOper := [
  ⟨(some (20)), .build [.int .i64 0, .int .i64 0, .bool false, .nilsl] [], none, []⟩, 
  ⟨(some (21)), .move (.tmp 10), none, []⟩, 
  ⟨none, .store 4 (.tmp 8) (.tmp 20), none, []⟩, 
  ⟨(some (9)), .move (.tmp 21), none, []⟩]
def k_field_Shift_r4 : List AOper := [
  ⟨(some (22)), .load (some (4)) (.tmp 4), none, []⟩, 
  ⟨(some (23)), .move (.tmp 1), none, []⟩, 
  ⟨(some (24)), .call (.const (.fn (.func 75) [] [])) [.tmp 22, .tmp 23], none, []⟩, 
  ⟨(some (25)), .not (.tmp 24), none, []⟩]
def k_field_Shift_r5 : List AOper := [
  ⟨(some (26)), .build [.int .i64 0, .int .i64 0, .bool false, .nilsl] [], none, []⟩, 
  ⟨none, .store 4 (.tmp 8) (.tmp 26), none, []⟩, 
  ⟨(some (9)), .move (.const (.int .i64 7)), none, []⟩]
def k_field_Shift_r6 : List AOper := [
  ⟨(some (27)), .load (some (4)) (.tmp 4), none, []⟩, 
  ⟨(some (28)), .move (.tmp 1), none, []⟩, 
  ⟨(some (29)), .move (.tmp 2), none, []⟩, 
  ⟨(some (30)), .move (.tmp 3), none, []⟩, 
  ⟨(some (31)), .call (.const (.fn (.func 96) [] [])) [.tmp 27, .tmp 28, .tmp 29, .tmp 30], none, []⟩]
def k_field_Shift_r7 : List AOper := [
  ⟨(some (32)), .build [.int .i64 0, .int .i64 0, .bool false, .nilsl] [], none, []⟩, 
  ⟨none, .store 4 (.tmp 8) (.tmp 32), none, []⟩, 
  ⟨(some (9)), .move (.const (.int .i64 2)), none, []⟩]
def k_field_Shift_r8 : List AOper := [
  ⟨(some (33)), .load (some (4)) (.tmp 4), none, []⟩, 
  ⟨(some (34)), .move (.tmp 1), none, []⟩, 
  ⟨(some (35)), .call (.const (.fn (.func 97) [] [])) [.tmp 33, .tmp 34], none, []⟩, 
  ⟨(some (11)), .box (.const (.agg [.int .i64 0, .int .i64 0, .bool false, .nilsl])), none, []⟩, 
  ⟨none, .store 4 (.tmp 11) (.tmp 35), none, []⟩]
def k_field_Shift_r9 : List AOper := [
  ⟨(some (36)), .fieldAddr 3 (.tmp 4), none, []⟩, 
  ⟨(some (37)), .load none (.tmp 36), none, []⟩, 
  ⟨(some (38)), .len false (.tmp 37), none, []⟩, 
  ⟨(some (39)), .move (.const (.int .i64 0)), none, []⟩]
def k_field_Shift_r10 : List AOper := [
  ⟨(some (40)), .bin .plain .lss (.tmp 39) (.tmp 38), none, []⟩]
def k_field_Shift_r11 : List AOper := [
  ⟨(some (41)), .move (.tmp 39), none, []⟩, 
  ⟨(some (42)), .indexAddr 1 (.tmp 37) (.tmp 39), none, []⟩, 
  ⟨(some (43)), .load none (.tmp 42), none, []⟩, 
  ⟨(some (12)), .move (.tmp 41), none, []⟩, 
  ⟨(some (13)), .move (.tmp 43), none, []⟩]
def k_field_Shift_r12 : List AOper := [
  ⟨(some (44)), .move (.tmp 13), none, []⟩, 
  ⟨(some (45)), .move (.tmp 1), none, []⟩, 
  ⟨(some (46)), .bin .plain .neq (.tmp 44) (.tmp 45), none, []⟩]
def k_field_Shift_r13 : List AOper := [
  ⟨(some (47)), .move (.tmp 12), none, []⟩, 
  ⟨(some (48)), .move (.tmp 3), none, []⟩, 
  ⟨(some (49)), .fieldAddr 0 (.tmp 4), none, []⟩, 
  ⟨(some (50)), .load none (.tmp 49), none, []⟩, 
  ⟨(some (51)), .bin .plain .mul (.tmp 48) (.tmp 50), none, []⟩, 
  ⟨(some (52)), .bin .plain .add (.tmp 47) (.tmp 51), none, []⟩, 
  ⟨(some (53)), .move (.tmp 2), none, []⟩, 
  ⟨(some (54)), .bin .plain .add (.tmp 52) (.tmp 53), none, []⟩, 
  ⟨(some (14)), .move (.tmp 54), none, []⟩]
def k_field_Shift_r14 : List AOper := [
  ⟨(some (55)), .fieldAddr 3 (.tmp 11), none, []⟩, 
  ⟨(some (56)), .load none (.tmp 55), none, []⟩, 
  ⟨(some (57)), .move (.tmp 14), none, []⟩, 
  ⟨(some (58)), .indexAddr 1 (.tmp 56) (.tmp 57), none, []⟩, 
  ⟨(some (59)), .load none (.tmp 58), none, []⟩, 
  ⟨(some (60)), .bin .plain .neq (.tmp 59) (.const (.int .i64 0)), none, []⟩]
def k_field_Shift_r15 : List AOper := [
  ⟨(some (61)), .build [.int .i64 0, .int .i64 0, .bool false, .nilsl] [], none, []⟩, 
  ⟨none, .store 4 (.tmp 8) (.tmp 61), none, []⟩, 
  ⟨(some (9)), .move (.const (.int .i64 9)), none, []⟩]
def k_field_Shift_r16 : List AOper := [
  ⟨(some (62)), .fieldAddr 3 (.tmp 11), none, []⟩, 
  ⟨(some (63)), .load none (.tmp 62), none, []⟩, 
  ⟨(some (64)), .move (.tmp 14), none, []⟩, 
  ⟨(some (65)), .move (.tmp 1), none, []⟩, 
  ⟨(some (66)), .indexAddr 1 (.tmp 63) (.tmp 64), none, []⟩, 
  ⟨none, .store 1 (.tmp 66) (.tmp 65), none, []⟩]
def k_field_Shift_r17 : List AOper := [
  ⟨(some (67)), .bin .plain .add (.tmp 39) (.const (.int .i64 1)), none, []⟩, 
  ⟨(some (39)), .move (.tmp 67), none, []⟩]
def k_field_Shift_r18 : ACode := (.seq (.reg k_field_Shift_r10 false) (.seq (.cond (.tmp 40) .skip (.exit 0)) (.seq (.block 1 (.seq (.reg k_field_Shift_r11 false) (.seq (.seq (.reg k_field_Shift_r12 false) (.cond (.tmp 46) (.exit 1) .skip)) (.seq (.reg k_field_Shift_r13 false) (.seq (.seq (.reg k_field_Shift_r14 false) (.cond (.tmp 60) (.seq (.reg k_field_Shift_r15 false) .ret) .skip)) (.reg k_field_Shift_r16 false)))))) (.reg k_field_Shift_r17 false))))
def k_field_Shift_r19 : List AOper := [
  ⟨(some (68)), .load (some (4)) (.tmp 11), none, []⟩, 
  ⟨(some (69)), .call (.const (.fn (.func 26) [] [])) [.tmp 68], none, []⟩, 
  ⟨(some (15)), .move (.tmp 69), none, []⟩]
def k_field_Shift_r20 : List AOper := [
  ⟨(some (70)), .move (.tmp 15), none, []⟩, 
  ⟨(some (71)), .bin .plain .neq (.tmp 70) (.const (.int .i64 0)), none, []⟩]
def k_field_Shift_r21 : List AOper := [
  ⟨(some (72)), .build [.int .i64 0, .int .i64 0, .bool false, .nilsl] [], none, []⟩, 
  ⟨(some (73)), .move (.tmp 15), none, []⟩, 
  ⟨none, .store 4 (.tmp 8) (.tmp 72), none, []⟩, 
  ⟨(some (9)), .move (.tmp 73), none, []⟩]
def k_field_Shift_r22 : List AOper := [
  ⟨(some (74)), .load (some (4)) (.tmp 11), none, []⟩, 
  ⟨none, .store 4 (.tmp 8) (.tmp 74), none, []⟩, 
  ⟨(some (9)), .move (.const (.int .i64 0)), none, []⟩]
def k_field_Shift : AFun := { params := 4, ntmps := 75, body := (.seq (.reg k_field_Shift_r0 false) (.seq (.seq (.reg k_field_Shift_r1 false) (.seq (.reg k_field_Shift_r2 false) (.cond (.tmp 19) (.seq (.reg k_field_Shift_r3 false) .ret) .skip))) (.seq (.seq (.reg k_field_Shift_r4 false) (.cond (.tmp 25) (.seq (.reg k_field_Shift_r5 false) .ret) .skip)) (.seq (.seq (.reg k_field_Shift_r6 false) (.cond (.tmp 31) (.seq (.reg k_field_Shift_r7 false) .ret) .skip)) (.seq (.reg k_field_Shift_r8 false) (.seq (.seq (.reg k_field_Shift_r9 false) (.block 0 (.loop k_field_Shift_r18))) (.seq (.seq (.reg k_field_Shift_r19 false) (.seq (.reg k_field_Shift_r20 false) (.cond (.tmp 71) (.seq (.reg k_field_Shift_r21 false) .ret) .skip))) (.seq (.reg k_field_Shift_r22 false) .ret)))))))), res := [.cell 8 (some ((some (4)))), .tmp 9] }
theorem k_field_Shift_ok : cfun Try.prog Try.f51 = k_field_Shift := by kernel_rfl

-- 61: thermion/field.Play
def k_field_Play_r0 : List AOper := [
  ⟨(some (5)), .box (.tmp 0), none, []⟩, 
  ⟨(some (10)), .move (.const (.int .i64 0)), none, []⟩, 
  ⟨(some (11)), .move (.const (.int .i64 0)), none, []⟩]
def k_field_Play_r1 : List AOper := [
  ⟨(some (22)), .load (some (4)) (.tmp 5), none, []⟩, 
  ⟨(some (23)), .move (.tmp 1), none, []⟩, 
  ⟨(some (24)), .move (.tmp 2), none, []⟩, 
  ⟨(some (25)), .move (.tmp 3), none, []⟩, 
  ⟨(some (26)), .move (.tmp 4), none, []⟩, 
  ⟨(some (27)), .call (.const (.fn (.func 49) [] [])) [.tmp 22, .tmp 23, .tmp 24, .tmp 25, .tmp 26], none, []⟩, 
  ⟨(some (21)), .move (.tmp 27), none, []⟩, 
  ⟨(some (28)), .extract (.tmp 21) 0, none, []⟩, 
  ⟨(some (29)), .extract (.tmp 21) 1, none, []⟩, 
  ⟨(some (12)), .box (.const (.agg [.int .i64 0, .int .i64 0])), none, []⟩, 
  ⟨none, .store 2 (.tmp 12) (.tmp 28), none, []⟩, 
  ⟨(some (13)), .move (.tmp 29), none, []⟩]
def k_field_Play_r2 : List AOper := [
  ⟨(some (30)), .move (.tmp 13), none, []⟩, 
  ⟨(some (31)), .bin .plain .neq (.tmp 30) (.const (.int .i64 0)), none, []⟩]
def k_field_Play_r3 : List AOper := [
  ⟨(some (32)), .move (.tmp 13), none, []⟩, 
  ⟨(some (10)), .move (.const (.int .i64 0)), none, []⟩, 
  ⟨(some (11)), .move (.tmp 32), none, []⟩]
def k_field_Play_r4 : List AOper := [
  ⟨(some (14)), .move (.const (.int .i64 0)), none, []⟩]
def k_field_Play_r5 : List AOper := [
  ⟨(some (33)), .build [.int .i64 0, .int .i64 0] [(0, 1, .const (.int .i64 1)), (1, 1, .const (.int .i64 0))], none, []⟩, 
  ⟨(some (34)), .build [.int .i64 0, .int .i64 0] [(0, 1, .const (.int .i64 (-1))), (1, 1, .const (.int .i64 0))], none, []⟩, 
  ⟨(some (35)), .build [.int .i64 0, .int .i64 0] [(0, 1, .const (.int .i64 0)), (1, 1, .const (.int .i64 1))], none, []⟩, 
  ⟨(some (36)), .build [.int .i64 0, .int .i64 0] [(0, 1, .const (.int .i64 0)), (1, 1, .const (.int .i64 (-1)))], none, []⟩, 
  ⟨(some (37)), .build [.int .i64 0, .int .i64 0, .int .i64 0, .int .i64 0, .int .i64 0, .int .i64 0, .int .i64 0, .int .i64 0] [(0, 2, .tmp 33), (2, 2, .tmp 34), (4, 2, .tmp 35), (6, 2, .tmp 36)], none, []⟩, 
  ⟨(some (38)), .move (.const (.int .i64 0)), none, []⟩]
def k_field_Play_r6 : List AOper := [
  ⟨(some (39)), .bin .plain .lss (.tmp 38) (.const (.int .i64 4)), none, []⟩]
def k_field_Play_r7 : List AOper := [
  ⟨(some (40)), .indexAgg 4 2 true (.tmp 37) (.tmp 38), none, []⟩, 
  ⟨(some (16)), .box (.const (.agg [.int .i64 0, .int .i64 0])), none, []⟩, 
  ⟨none, .store 2 (.tmp 16) (.tmp 40), none, []⟩]
def k_field_Play_r8 : List AOper := [
  ⟨(some (42)), .load (some (4)) (.tmp 5), none, []⟩, 
  ⟨(some (43)), .move (.tmp 3), none, []⟩, 
  ⟨(some (44)), .indexArr 2 1 (.tmp 16) (.const (.int .i64 0)), none, []⟩, 
  ⟨(some (45)), .load none (.tmp 44), none, []⟩, 
  ⟨(some (46)), .indexArr 2 1 (.tmp 16) (.const (.int .i64 1)), none, []⟩, 
  ⟨(some (47)), .load none (.tmp 46), none, []⟩, 
  ⟨(some (48)), .call (.const (.fn (.func 51) [] [])) [.tmp 42, .tmp 43, .tmp 45, .tmp 47], none, []⟩, 
  ⟨(some (41)), .move (.tmp 48), none, []⟩, 
  ⟨(some (49)), .extract (.tmp 41) 0, none, []⟩, 
  ⟨(some (50)), .extract (.tmp 41) 1, none, []⟩, 
  ⟨(some (17)), .box (.const (.agg [.int .i64 0, .int .i64 0, .bool false, .nilsl])), none, []⟩, 
  ⟨none, .store 4 (.tmp 17) (.tmp 49), none, []⟩, 
  ⟨(some (18)), .move (.tmp 50), none, []⟩]
def k_field_Play_r9 : List AOper := [
  ⟨(some (51)), .move (.tmp 18), none, []⟩, 
  ⟨(some (52)), .bin .plain .neq (.tmp 51) (.const (.int .i64 0)), none, []⟩]
def k_field_Play_r10 : List AOper := [
  ⟨(some (54)), .load (some (4)) (.tmp 17), none, []⟩, 
  ⟨(some (55)), .move (.tmp 1), none, []⟩, 
  ⟨(some (56)), .move (.tmp 2), none, []⟩, 
  ⟨(some (57)), .move (.tmp 3), none, []⟩, 
  ⟨(some (58)), .move (.tmp 4), none, []⟩, 
  ⟨(some (59)), .call (.const (.fn (.func 49) [] [])) [.tmp 54, .tmp 55, .tmp 56, .tmp 57, .tmp 58], none, []⟩, 
  ⟨(some (53)), .move (.tmp 59), none, []⟩, 
  ⟨(some (60)), .extract (.tmp 53) 0, none, []⟩, 
  ⟨(some (61)), .extract (.tmp 53) 1, none, []⟩, 
  ⟨(some (19)), .box (.const (.agg [.int .i64 0, .int .i64 0])), none, []⟩, 
  ⟨none, .store 2 (.tmp 19) (.tmp 60), none, []⟩, 
  ⟨(some (20)), .move (.tmp 61), none, []⟩]
def k_field_Play_r11 : List AOper := [
  ⟨(some (62)), .move (.tmp 20), none, []⟩, 
  ⟨(some (63)), .bin .plain .eql (.tmp 62) (.const (.int .i64 0)), none, []⟩]
def k_field_Play_r12 : List AOper := [
  ⟨(some (64)), .move (.tmp 14), none, []⟩, 
  ⟨(some (65)), .fieldAddr 1 (.tmp 19), none, []⟩, 
  ⟨(some (66)), .load none (.tmp 65), none, []⟩, 
  ⟨(some (67)), .fieldAddr 0 (.tmp 12), none, []⟩, 
  ⟨(some (68)), .load none (.tmp 67), none, []⟩, 
  ⟨(some (69)), .bin .plain .sub (.tmp 66) (.tmp 68), none, []⟩, 
  ⟨(some (70)), .fieldAddr 1 (.tmp 12), none, []⟩, 
  ⟨(some (71)), .load none (.tmp 70), none, []⟩, 
  ⟨(some (72)), .fieldAddr 0 (.tmp 19), none, []⟩, 
  ⟨(some (73)), .load none (.tmp 72), none, []⟩, 
  ⟨(some (74)), .bin .plain .sub (.tmp 71) (.tmp 73), none, []⟩, 
  ⟨(some (75)), .minmax true [.tmp 64, .tmp 69, .tmp 74], none, []⟩, 
  ⟨(some (14)), .move (.tmp 75), none, []⟩]
def k_field_Play_r13 : List AOper := [
  ⟨(some (76)), .bin .plain .add (.tmp 38) (.const (.int .i64 1)), none, []⟩, 
  ⟨(some (38)), .move (.tmp 76), none, []⟩]
def k_field_Play_r14 : ACode := (.seq (.reg k_field_Play_r6 false) (.seq (.cond (.tmp 39) .skip (.exit 0)) (.seq (.block 1 (.seq (.reg k_field_Play_r7 false) (.seq (.reg k_field_Play_r8 false) (.seq (.seq (.reg k_field_Play_r9 false) (.cond (.tmp 52) (.exit 1) .skip)) (.seq (.reg k_field_Play_r10 false) (.seq (.reg k_field_Play_r11 false) (.cond (.tmp 63) (.reg k_field_Play_r12 false) .skip))))))) (.reg k_field_Play_r13 false))))
def k_field_Play_r15 : List AOper := [
  ⟨(some (77)), .move (.tmp 14), none, []⟩, 
  ⟨(some (10)), .move (.tmp 77), none, []⟩, 
  ⟨(some (11)), .move (.const (.int .i64 0)), none, []⟩]
def k_field_Play : AFun := { params := 5, ntmps := 78, body := (.seq (.reg k_field_Play_r0 false) (.seq (.reg k_field_Play_r1 false) (.seq (.seq (.reg k_field_Play_r2 false) (.cond (.tmp 31) (.seq (.reg k_field_Play_r3 false) .ret) .skip)) (.seq (.reg k_field_Play_r4 false) (.seq (.seq (.reg k_field_Play_r5 false) (.block 0 (.loop k_field_Play_r14))) (.seq (.reg k_field_Play_r15 false) .ret)))))), res := [.tmp 10, .tmp 11] }
theorem k_field_Play_ok : cfun Try.prog Try.f61 = k_field_Play := by kernel_rfl

-- 77: thermion/thermionref01.SameInts
def k_ref01_SameInts_r0 : List AOper := [
  ⟨(some (4)), .move (.const (.bool false)), none, []⟩]
def k_ref01_SameInts_r1 : List AOper := [
  ⟨(some (6)), .move (.tmp 0), none, []⟩, 
  ⟨(some (7)), .len false (.tmp 6), none, []⟩, 
  ⟨(some (8)), .move (.tmp 1), none, []⟩, 
  ⟨(some (9)), .len false (.tmp 8), none, []⟩, 
  ⟨(some (10)), .bin .plain .neq (.tmp 7) (.tmp 9), none, []⟩]
def k_ref01_SameInts_r2 : List AOper := [
  ⟨(some (4)), .move (.const (.bool false)), none, []⟩]
def k_ref01_SameInts_r3 : List AOper := [
  ⟨(some (5)), .move (.const (.int .i64 0)), none, []⟩]
def k_ref01_SameInts_r4 : List AOper := [
  ⟨(some (11)), .move (.tmp 5), none, []⟩, 
  ⟨(some (12)), .move (.tmp 0), none, []⟩, 
  ⟨(some (13)), .len false (.tmp 12), none, []⟩, 
  ⟨(some (14)), .bin .plain .lss (.tmp 11) (.tmp 13), none, []⟩]
def k_ref01_SameInts_r5 : List AOper := [
  ⟨(some (17)), .move (.tmp 0), none, []⟩, 
  ⟨(some (18)), .move (.tmp 5), none, [0]⟩, 
  ⟨(some (19)), .indexAddr 1 (.tmp 17) (.tmp 18), none, []⟩, 
  ⟨(some (20)), .load none (.tmp 19), none, []⟩, 
  ⟨(some (21)), .move (.tmp 1), none, [0, 1, 2, 3]⟩, 
  ⟨(some (22)), .move (.tmp 5), none, [0, 1, 2, 3, 4]⟩, 
  ⟨(some (23)), .indexAddr 1 (.tmp 21) (.tmp 22), none, [0, 1, 2, 3]⟩, 
  ⟨(some (24)), .load none (.tmp 23), none, [0, 1, 2, 3]⟩, 
  ⟨(some (25)), .bin .plain .neq (.tmp 20) (.tmp 24), none, []⟩]
def k_ref01_SameInts_r5s : List (List AOper) := [
  [
  ⟨(some (17)), .move (.tmp 0), none, []⟩, 
  ⟨(some (18)), .move (.tmp 5), none, [0]⟩, 
  ⟨(some (19)), .indexAddr 1 (.tmp 17) (.tmp 18), none, []⟩, 
  ⟨(some (20)), .load none (.tmp 19), none, []⟩, 
  ⟨(some (21)), .move (.tmp 1), none, [0, 1, 2, 3]⟩, 
  ⟨(some (22)), .move (.tmp 5), none, [0, 1, 2, 3, 4]⟩, 
  ⟨(some (23)), .indexAddr 1 (.tmp 21) (.tmp 22), none, [0, 1, 2, 3]⟩, 
  ⟨(some (24)), .load none (.tmp 23), none, [0, 1, 2, 3]⟩], 
  [
  ⟨(some (25)), .bin .plain .neq (.tmp 20) (.tmp 24), none, []⟩]]
theorem k_ref01_SameInts_r5_sg : segs k_ref01_SameInts_r5 = k_ref01_SameInts_r5s := by kernel_rfl
theorem k_ref01_SameInts_r5_st : statOK k_ref01_SameInts_r5 = true := by kernel_rfl
def k_ref01_SameInts_r6 : List AOper := [
  ⟨(some (4)), .move (.const (.bool false)), none, []⟩]
def k_ref01_SameInts_r7 : List AOper := [
  ⟨(some (15)), .move (.tmp 5), none, []⟩, 
  ⟨(some (16)), .bin .plain .add (.tmp 15) (.const (.int .i64 1)), none, []⟩, 
  ⟨(some (5)), .move (.tmp 16), none, []⟩]
def k_ref01_SameInts_r8 : ACode := (.seq (.seq (.reg k_ref01_SameInts_r4 false) (.cond (.tmp 14) .skip (.exit 0))) (.seq (.block 1 (.seq (.reg k_ref01_SameInts_r5 true) (.cond (.tmp 25) (.seq (.reg k_ref01_SameInts_r6 false) .ret) .skip))) (.reg k_ref01_SameInts_r7 false)))
def k_ref01_SameInts_r9 : List AOper := [
  ⟨(some (4)), .move (.const (.bool true)), none, []⟩]
def k_ref01_SameInts : AFun := { params := 2, ntmps := 26, body := (.seq (.reg k_ref01_SameInts_r0 false) (.seq (.seq (.reg k_ref01_SameInts_r1 false) (.cond (.tmp 10) (.seq (.reg k_ref01_SameInts_r2 false) .ret) .skip)) (.seq (.seq (.reg k_ref01_SameInts_r3 false) (.block 0 (.loop k_ref01_SameInts_r8))) (.seq (.reg k_ref01_SameInts_r9 false) .ret)))), res := [.tmp 4] }
theorem k_ref01_SameInts_ok : cfun Try.prog Try.f77 = k_ref01_SameInts := by kernel_rfl

-- 96: thermion/field.leaves
def k_field_leaves_r0 : List AOper := [
  ⟨(some (4)), .box (.tmp 0), none, []⟩, 
  ⟨(some (8)), .move (.const (.bool false)), none, []⟩]
def k_field_leaves_r1 : List AOper := [
  ⟨(some (13)), .fieldAddr 3 (.tmp 4), none, []⟩, 
  ⟨(some (14)), .load none (.tmp 13), none, []⟩, 
  ⟨(some (15)), .len false (.tmp 14), none, []⟩, 
  ⟨(some (16)), .move (.const (.int .i64 0)), none, []⟩]
def k_field_leaves_r2 : List AOper := [
  ⟨(some (17)), .bin .plain .lss (.tmp 16) (.tmp 15), none, []⟩]
def k_field_leaves_r3 : List AOper := [
  ⟨(some (18)), .move (.tmp 16), none, []⟩, 
  ⟨(some (19)), .indexAddr 1 (.tmp 14) (.tmp 16), none, []⟩, 
  ⟨(some (20)), .load none (.tmp 19), none, []⟩, 
  ⟨(some (9)), .move (.tmp 18), none, []⟩, 
  ⟨(some (10)), .move (.tmp 20), none, []⟩]
def k_field_leaves_r4 : List AOper := [
  ⟨(some (21)), .move (.tmp 9), none, []⟩, 
  ⟨(some (22)), .fieldAddr 0 (.tmp 4), none, [0]⟩, 
  ⟨(some (23)), .load none (.tmp 22), none, [0]⟩, 
  ⟨(some (24)), .bin .plain .rem (.tmp 21) (.tmp 23), none, []⟩, 
  ⟨(some (25)), .move (.tmp 9), none, [0, 1, 2, 3]⟩, 
  ⟨(some (26)), .fieldAddr 0 (.tmp 4), none, [0, 1, 2, 3, 4]⟩, 
  ⟨(some (27)), .load none (.tmp 26), none, [0, 1, 2, 3, 4]⟩, 
  ⟨(some (28)), .bin .plain .quo (.tmp 25) (.tmp 27), none, [0, 1, 2, 3]⟩, 
  ⟨(some (11)), .move (.tmp 24), none, [4, 5, 6, 7]⟩, 
  ⟨(some (12)), .move (.tmp 28), none, []⟩]
def k_field_leaves_r4s : List (List AOper) := [
  [
  ⟨(some (21)), .move (.tmp 9), none, []⟩, 
  ⟨(some (22)), .fieldAddr 0 (.tmp 4), none, [0]⟩, 
  ⟨(some (23)), .load none (.tmp 22), none, [0]⟩, 
  ⟨(some (24)), .bin .plain .rem (.tmp 21) (.tmp 23), none, []⟩, 
  ⟨(some (25)), .move (.tmp 9), none, [0, 1, 2, 3]⟩, 
  ⟨(some (26)), .fieldAddr 0 (.tmp 4), none, [0, 1, 2, 3, 4]⟩, 
  ⟨(some (27)), .load none (.tmp 26), none, [0, 1, 2, 3, 4]⟩, 
  ⟨(some (28)), .bin .plain .quo (.tmp 25) (.tmp 27), none, [0, 1, 2, 3]⟩, 
  ⟨(some (11)), .move (.tmp 24), none, [4, 5, 6, 7]⟩], 
  [
  ⟨(some (12)), .move (.tmp 28), none, []⟩]]
theorem k_field_leaves_r4_sg : segs k_field_leaves_r4 = k_field_leaves_r4s := by kernel_rfl
theorem k_field_leaves_r4_st : statOK k_field_leaves_r4 = true := by kernel_rfl
def k_field_leaves_r5 : List AOper := [
  ⟨(some (29)), .move (.tmp 10), none, []⟩, 
  ⟨(some (30)), .move (.tmp 1), none, []⟩, 
  ⟨(some (31)), .bin .plain .eql (.tmp 29) (.tmp 30), none, []⟩, 
  ⟨(some (32)), .move (.tmp 31), none, []⟩, 
  ⟨(some (33)), .move (.tmp 2), (some (32, true)), []⟩, 
  ⟨(some (34)), .move (.tmp 11), (some (32, true)), []⟩, 
  ⟨(some (35)), .neg (.tmp 34), (some (32, true)), []⟩, 
  ⟨(some (36)), .fieldAddr 0 (.tmp 4), (some (32, true)), []⟩, 
  ⟨(some (37)), .load none (.tmp 36), (some (32, true)), []⟩, 
  ⟨(some (38)), .bin .plain .sub (.tmp 37) (.const (.int .i64 1)), (some (32, true)), []⟩, 
  ⟨(some (39)), .move (.tmp 11), (some (32, true)), []⟩, 
  ⟨(some (40)), .bin .plain .sub (.tmp 38) (.tmp 39), (some (32, true)), []⟩, 
  ⟨(some (41)), .call (.const (.fn (.func 68) [] [])) [.tmp 33, .tmp 35, .tmp 40], (some (32, true)), []⟩, 
  ⟨(some (42)), .not (.tmp 41), (some (32, true)), []⟩, 
  ⟨(some (43)), .move (.tmp 42), (some (32, true)), []⟩, 
  ⟨(some (44)), .move (.tmp 3), (some (43, false)), []⟩, 
  ⟨(some (45)), .move (.tmp 12), (some (43, false)), []⟩, 
  ⟨(some (46)), .neg (.tmp 45), (some (43, false)), []⟩, 
  ⟨(some (47)), .fieldAddr 1 (.tmp 4), (some (43, false)), []⟩, 
  ⟨(some (48)), .load none (.tmp 47), (some (43, false)), []⟩, 
  ⟨(some (49)), .bin .plain .sub (.tmp 48) (.const (.int .i64 1)), (some (43, false)), []⟩, 
  ⟨(some (50)), .move (.tmp 12), (some (43, false)), []⟩, 
  ⟨(some (51)), .bin .plain .sub (.tmp 49) (.tmp 50), (some (43, false)), []⟩, 
  ⟨(some (52)), .call (.const (.fn (.func 68) [] [])) [.tmp 44, .tmp 46, .tmp 51], (some (43, false)), []⟩, 
  ⟨(some (53)), .not (.tmp 52), (some (43, false)), []⟩, 
  ⟨(some (54)), .pick (.tmp 43) (.const (.bool true)) (.tmp 53), (some (32, true)), []⟩, 
  ⟨(some (55)), .pick (.tmp 32) (.tmp 54) (.const (.bool false)), none, []⟩]
def k_field_leaves_r6 : List AOper := [
  ⟨(some (8)), .move (.const (.bool true)), none, []⟩]
def k_field_leaves_r7 : List AOper := [
  ⟨(some (56)), .bin .plain .add (.tmp 16) (.const (.int .i64 1)), none, []⟩, 
  ⟨(some (16)), .move (.tmp 56), none, []⟩]
def k_field_leaves_r8 : ACode := (.seq (.reg k_field_leaves_r2 false) (.seq (.cond (.tmp 17) .skip (.exit 0)) (.seq (.block 1 (.seq (.reg k_field_leaves_r3 false) (.seq (.reg k_field_leaves_r4 true) (.seq (.reg k_field_leaves_r5 false) (.cond (.tmp 55) (.seq (.reg k_field_leaves_r6 false) .ret) .skip))))) (.reg k_field_leaves_r7 false))))
def k_field_leaves_r9 : List AOper := [
  ⟨(some (8)), .move (.const (.bool false)), none, []⟩]
def k_field_leaves : AFun := { params := 4, ntmps := 57, body := (.seq (.reg k_field_leaves_r0 false) (.seq (.seq (.reg k_field_leaves_r1 false) (.block 0 (.loop k_field_leaves_r8))) (.seq (.reg k_field_leaves_r9 false) .ret))), res := [.tmp 8] }
theorem k_field_leaves_ok : cfun Try.prog Try.f96 = k_field_leaves := by kernel_rfl

-- 97: thermion/field.without
def k_field_without_r0 : List AOper := [
  ⟨(some (2)), .box (.tmp 0), none, []⟩, 
  ⟨(some (4)), .box (.const (.agg [.int .i64 0, .int .i64 0, .bool false, .nilsl])), none, []⟩]
def k_field_without_r1 : List AOper := [
  ⟨(some (8)), .load (some (4)) (.tmp 2), none, []⟩, 
  ⟨(some (9)), .call (.const (.fn (.func 33) [] [])) [.tmp 8], none, []⟩, 
  ⟨(some (5)), .box (.const (.agg [.int .i64 0, .int .i64 0, .bool false, .nilsl])), none, []⟩, 
  ⟨none, .store 4 (.tmp 5) (.tmp 9), none, []⟩]
def k_field_without_r2 : List AOper := [
  ⟨(some (10)), .fieldAddr 3 (.tmp 5), none, []⟩, 
  ⟨(some (11)), .load none (.tmp 10), none, []⟩, 
  ⟨(some (12)), .len false (.tmp 11), none, []⟩, 
  ⟨(some (13)), .move (.const (.int .i64 0)), none, []⟩]
def k_field_without_r3 : List AOper := [
  ⟨(some (14)), .bin .plain .lss (.tmp 13) (.tmp 12), none, []⟩]
def k_field_without_r4 : List AOper := [
  ⟨(some (15)), .move (.tmp 13), none, []⟩, 
  ⟨(some (16)), .indexAddr 1 (.tmp 11) (.tmp 13), none, []⟩, 
  ⟨(some (17)), .load none (.tmp 16), none, []⟩, 
  ⟨(some (6)), .move (.tmp 15), none, []⟩, 
  ⟨(some (7)), .move (.tmp 17), none, []⟩]
def k_field_without_r5 : List AOper := [
  ⟨(some (18)), .move (.tmp 7), none, []⟩, 
  ⟨(some (19)), .move (.tmp 1), none, []⟩, 
  ⟨(some (20)), .bin .plain .eql (.tmp 18) (.tmp 19), none, []⟩]
def k_field_without_r6 : List AOper := [
  ⟨(some (21)), .fieldAddr 3 (.tmp 5), none, []⟩, 
  ⟨(some (22)), .load none (.tmp 21), none, []⟩, 
  ⟨(some (23)), .move (.tmp 6), none, []⟩, 
  ⟨(some (24)), .indexAddr 1 (.tmp 22) (.tmp 23), none, []⟩, 
  ⟨none, .store 1 (.tmp 24) (.const (.int .i64 0)), none, []⟩]
def k_field_without_r7 : List AOper := [
  ⟨(some (25)), .bin .plain .add (.tmp 13) (.const (.int .i64 1)), none, []⟩, 
  ⟨(some (13)), .move (.tmp 25), none, []⟩]
def k_field_without_r8 : ACode := (.seq (.reg k_field_without_r3 false) (.seq (.cond (.tmp 14) .skip (.exit 0)) (.seq (.block 1 (.seq (.reg k_field_without_r4 false) (.seq (.reg k_field_without_r5 false) (.cond (.tmp 20) (.reg k_field_without_r6 false) .skip)))) (.reg k_field_without_r7 false))))
def k_field_without_r9 : List AOper := [
  ⟨(some (26)), .load (some (4)) (.tmp 5), none, []⟩, 
  ⟨none, .store 4 (.tmp 4) (.tmp 26), none, []⟩]
def k_field_without : AFun := { params := 2, ntmps := 27, body := (.seq (.reg k_field_without_r0 false) (.seq (.reg k_field_without_r1 false) (.seq (.seq (.reg k_field_without_r2 false) (.block 0 (.loop k_field_without_r8))) (.seq (.reg k_field_without_r9 false) .ret)))), res := [.cell 4 (some ((some (4))))] }
theorem k_field_without_ok : cfun Try.prog Try.f97 = k_field_without := by kernel_rfl


abbrev n_law01_FieldReturns : Nat := 17
theorem e_law01_FieldReturns : EntryOK Try.prog n_law01_FieldReturns k_law01_FieldReturns := ⟨Try.f17, Try.func17, k_law01_FieldReturns_ok, by kernel_rfl⟩
abbrev n_field_Copy : Nat := 33
theorem e_field_Copy : EntryOK Try.prog n_field_Copy k_field_Copy := ⟨Try.f33, Try.func33, k_field_Copy_ok, by kernel_rfl⟩
abbrev n_ref01_Same : Nat := 34
theorem e_ref01_Same : EntryOK Try.prog n_ref01_Same k_ref01_Same := ⟨Try.f34, Try.func34, k_ref01_Same_ok, by kernel_rfl⟩
abbrev n_kit_Tube : Nat := 46
theorem e_kit_Tube : EntryOK Try.prog n_kit_Tube k_kit_Tube := ⟨Try.f46, Try.func46, k_kit_Tube_ok, by kernel_rfl⟩
abbrev n_field_Amplification : Nat := 49
theorem e_field_Amplification : EntryOK Try.prog n_field_Amplification k_field_Amplification := ⟨Try.f49, Try.func49, k_field_Amplification_ok, by kernel_rfl⟩
abbrev n_field_Shift : Nat := 51
theorem e_field_Shift : EntryOK Try.prog n_field_Shift k_field_Shift := ⟨Try.f51, Try.func51, k_field_Shift_ok, by kernel_rfl⟩
abbrev n_field_Play : Nat := 61
theorem e_field_Play : EntryOK Try.prog n_field_Play k_field_Play := ⟨Try.f61, Try.func61, k_field_Play_ok, by kernel_rfl⟩
abbrev n_ref01_SameInts : Nat := 77
theorem e_ref01_SameInts : EntryOK Try.prog n_ref01_SameInts k_ref01_SameInts := ⟨Try.f77, Try.func77, k_ref01_SameInts_ok, by kernel_rfl⟩
abbrev n_field_leaves : Nat := 96
theorem e_field_leaves : EntryOK Try.prog n_field_leaves k_field_leaves := ⟨Try.f96, Try.func96, k_field_leaves_ok, by kernel_rfl⟩
abbrev n_field_without : Nat := 97
theorem e_field_without : EntryOK Try.prog n_field_without k_field_without := ⟨Try.f97, Try.func97, k_field_without_ok, by kernel_rfl⟩

attribute [go_sem] k_law01_FieldReturns_r0 k_law01_FieldReturns_r1 k_law01_FieldReturns_r2 k_law01_FieldReturns_r3 k_law01_FieldReturns_r4 k_law01_FieldReturns_r5 k_law01_FieldReturns_r6 k_law01_FieldReturns_r7 k_law01_FieldReturns_r8 k_law01_FieldReturns_r9 k_law01_FieldReturns_r10 k_law01_FieldReturns_r11
attribute [go_sem] k_law01_FieldReturns_r12 k_law01_FieldReturns_r13 k_law01_FieldReturns_r14 k_law01_FieldReturns_r15 k_law01_FieldReturns_r16 k_law01_FieldReturns_r17 k_law01_FieldReturns_r18 k_law01_FieldReturns_r19s k_law01_FieldReturns_r20 k_law01_FieldReturns_r21 k_law01_FieldReturns_r22 k_law01_FieldReturns_r23
attribute [go_sem] k_law01_FieldReturns_r25 k_field_Copy_r0 k_field_Copy_r1 k_field_Copy_r2 k_ref01_Same_r0 k_ref01_Same_r1 k_kit_Tube_r0 k_kit_Tube_r1 k_kit_Tube_r2 k_kit_Tube_r3 k_kit_Tube_r4 k_kit_Tube_r5
attribute [go_sem] k_kit_Tube_r6s k_kit_Tube_r7 k_kit_Tube_r8 k_kit_Tube_r9 k_kit_Tube_r10 k_kit_Tube_r11 k_kit_Tube_r12 k_kit_Tube_r13 k_kit_Tube_r14 k_kit_Tube_r15 k_kit_Tube_r17 k_field_Amplification_r0
attribute [go_sem] k_field_Amplification_r1 k_field_Amplification_r2 k_field_Amplification_r3 k_field_Amplification_r4 k_field_Amplification_r5 k_field_Amplification_r6 k_field_Amplification_r7 k_field_Amplification_r8s k_field_Shift_r0 k_field_Shift_r1 k_field_Shift_r2 k_field_Shift_r3
attribute [go_sem] k_field_Shift_r4 k_field_Shift_r5 k_field_Shift_r6 k_field_Shift_r7 k_field_Shift_r8 k_field_Shift_r9 k_field_Shift_r10 k_field_Shift_r11 k_field_Shift_r12 k_field_Shift_r13 k_field_Shift_r14 k_field_Shift_r15
attribute [go_sem] k_field_Shift_r16 k_field_Shift_r17 k_field_Shift_r19 k_field_Shift_r20 k_field_Shift_r21 k_field_Shift_r22 k_field_Play_r0 k_field_Play_r1 k_field_Play_r2 k_field_Play_r3 k_field_Play_r4 k_field_Play_r5
attribute [go_sem] k_field_Play_r6 k_field_Play_r7 k_field_Play_r8 k_field_Play_r9 k_field_Play_r10 k_field_Play_r11 k_field_Play_r12 k_field_Play_r13 k_field_Play_r15 k_ref01_SameInts_r0 k_ref01_SameInts_r1 k_ref01_SameInts_r2
attribute [go_sem] k_ref01_SameInts_r3 k_ref01_SameInts_r4 k_ref01_SameInts_r5s k_ref01_SameInts_r6 k_ref01_SameInts_r7 k_ref01_SameInts_r9 k_field_leaves_r0 k_field_leaves_r1 k_field_leaves_r2 k_field_leaves_r3 k_field_leaves_r4s k_field_leaves_r5
attribute [go_sem] k_field_leaves_r6 k_field_leaves_r7 k_field_leaves_r9 k_field_without_r0 k_field_without_r1 k_field_without_r2 k_field_without_r3 k_field_without_r4 k_field_without_r5 k_field_without_r6 k_field_without_r7 k_field_without_r9
attribute [go_sem] k_law01_FieldReturns_r19_sg k_kit_Tube_r6_sg k_field_Amplification_r8_sg k_ref01_SameInts_r5_sg k_field_leaves_r4_sg k_law01_FieldReturns_r19_st k_kit_Tube_r6_st k_field_Amplification_r8_st k_ref01_SameInts_r5_st k_field_leaves_r4_st k_law01_FieldReturns k_field_Copy
attribute [go_sem] k_ref01_Same k_kit_Tube k_field_Amplification k_field_Shift k_field_Play k_ref01_SameInts k_field_leaves k_field_without
end Go.Proofs
