/- The compiled code of functions of the program. -/
import Derived.Test.YtgikocfbedopmaaYcCode
import Derived.Test.YtgikocfbedopmaaYdCode
namespace Go.Proofs
open Go Go.Sx

-- 16: thermion/thermionlaw03.CathodeFirst
def k_law03_CathodeFirst_r0 : List AOper := [
  ⟨(some (4)), .move (.const (.bool false)), none, []⟩]
def k_law03_CathodeFirst_r1 : List AOper := [
  ⟨(some (29)), .move (.tmp 0), none, []⟩, 
  ⟨(some (30)), .call (.const (.fn (.func 19) [] [])) [.tmp 29], none, []⟩, 
  ⟨(some (5)), .move (.tmp 30), none, []⟩]
def k_law03_CathodeFirst_r2 : List AOper := [
  ⟨(some (31)), .move (.tmp 5), none, []⟩, 
  ⟨(some (32)), .call (.const (.fn (.func 20) [] [])) [.tmp 31], none, []⟩, 
  ⟨(some (6)), .box (.const (.agg [.int .i64 0, .int .i64 0, .int .i64 0, .int .i64 0, .int .i64 0, .int .i64 0, .nilsl])), none, []⟩, 
  ⟨none, .store 7 (.tmp 6) (.tmp 32), none, []⟩]
def k_law03_CathodeFirst_r3 : List AOper := [
  ⟨(some (33)), .move (.tmp 5), none, []⟩, 
  ⟨(some (34)), .call (.const (.fn (.func 21) [] [])) [.tmp 33, .const (.int .i64 2), .const (.int .i64 9)], none, []⟩, 
  ⟨(some (35)), .move (.tmp 5), none, []⟩, 
  ⟨(some (36)), .call (.const (.fn (.func 64) [] [])) [.tmp 35, .const (.int .i64 1), .const (.int .i64 5)], none, []⟩, 
  ⟨(some (37)), .move (.tmp 5), none, []⟩, 
  ⟨(some (38)), .call (.const (.fn (.func 64) [] [])) [.tmp 37, .const (.int .i64 500), .const (.int .i64 1500)], none, []⟩, 
  ⟨(some (39)), .build [.int .i64 0, .int .i64 0, .int .i64 0] [(0, 1, .tmp 36), (1, 1, .tmp 38)], none, []⟩, 
  ⟨(some (40)), .buildSlice 3 [.tmp 39], none, []⟩, 
  ⟨(some (41)), .append 3 24 true (.tmp 34) (.tmp 40), none, []⟩, 
  ⟨(some (7)), .move (.tmp 41), none, []⟩]
def k_law03_CathodeFirst_r4 : List AOper := [
  ⟨(some (42)), .move (.tmp 5), none, []⟩, 
  ⟨(some (43)), .load (some (7)) (.tmp 6), none, [0]⟩, 
  ⟨(some (44)), .buildSlice 3 [], none, [0, 1]⟩, 
  ⟨(some (45)), .move (.tmp 7), none, [0, 1, 2]⟩, 
  ⟨(some (46)), .append 3 24 true (.tmp 44) (.tmp 45), none, [0, 1]⟩, 
  ⟨(some (47)), .move (.tmp 7), none, [0, 1, 2, 3, 4]⟩, 
  ⟨(some (48)), .indexAddr 3 (.tmp 47) (.const (.int .i64 0)), none, [0, 1, 2, 3, 4]⟩, 
  ⟨(some (49)), .load (some (3)) (.tmp 48), none, [0, 1, 2, 3, 4]⟩, 
  ⟨(some (50)), .buildSlice 3 [.tmp 49], none, [0, 1, 2, 3, 4]⟩, 
  ⟨(some (51)), .append 3 24 true (.tmp 46) (.tmp 50), none, [0, 1]⟩, 
  ⟨(some (52)), .call (.const (.fn (.func 45) [] [])) [.tmp 42, .tmp 43, .tmp 51], none, []⟩, 
  ⟨(some (8)), .box (.const (.agg [.int .i64 0, .int .i64 0, .int .i64 0, .int .i64 0, .int .i64 0])), none, [0, 1, 2, 3, 4, 5, 6, 7, 8, 9, 10]⟩, 
  ⟨none, .store 5 (.tmp 8) (.tmp 52), none, []⟩]
def k_law03_CathodeFirst_r4s : List (List AOper) := [
  [
  ⟨(some (42)), .move (.tmp 5), none, []⟩, 
  ⟨(some (43)), .load (some (7)) (.tmp 6), none, [0]⟩, 
  ⟨(some (44)), .buildSlice 3 [], none, [0, 1]⟩, 
  ⟨(some (45)), .move (.tmp 7), none, [0, 1, 2]⟩, 
  ⟨(some (46)), .append 3 24 true (.tmp 44) (.tmp 45), none, [0, 1]⟩, 
  ⟨(some (47)), .move (.tmp 7), none, [0, 1, 2, 3, 4]⟩, 
  ⟨(some (48)), .indexAddr 3 (.tmp 47) (.const (.int .i64 0)), none, [0, 1, 2, 3, 4]⟩, 
  ⟨(some (49)), .load (some (3)) (.tmp 48), none, [0, 1, 2, 3, 4]⟩, 
  ⟨(some (50)), .buildSlice 3 [.tmp 49], none, [0, 1, 2, 3, 4]⟩, 
  ⟨(some (51)), .append 3 24 true (.tmp 46) (.tmp 50), none, [0, 1]⟩, 
  ⟨(some (52)), .call (.const (.fn (.func 45) [] [])) [.tmp 42, .tmp 43, .tmp 51], none, []⟩, 
  ⟨(some (8)), .box (.const (.agg [.int .i64 0, .int .i64 0, .int .i64 0, .int .i64 0, .int .i64 0])), none, [0, 1, 2, 3, 4, 5, 6, 7, 8, 9, 10]⟩], 
  [
  ⟨none, .store 5 (.tmp 8) (.tmp 52), none, []⟩]]
theorem k_law03_CathodeFirst_r4_sg : segs k_law03_CathodeFirst_r4 = k_law03_CathodeFirst_r4s := by kernel_rfl
theorem k_law03_CathodeFirst_r4_st : statOK k_law03_CathodeFirst_r4 = true := by kernel_rfl
def k_law03_CathodeFirst_r5 : List AOper := [
  ⟨(some (53)), .move (.tmp 1), none, []⟩, 
  ⟨(some (54)), .call (.const (.fn (.func 42) [] [])) [.tmp 53, .const (.int .i64 3)], none, []⟩, 
  ⟨(some (55)), .bin .plain .add (.const (.int .i64 1)) (.tmp 54), none, []⟩, 
  ⟨(some (1)), .move (.tmp 55), none, []⟩]
def k_law03_CathodeFirst_r6 : List AOper := [
  ⟨(some (57)), .load (some (7)) (.tmp 6), none, []⟩, 
  ⟨(some (58)), .load (some (5)) (.tmp 8), none, []⟩, 
  ⟨(some (59)), .move (.tmp 7), none, []⟩, 
  ⟨(some (60)), .move (.tmp 1), none, []⟩, 
  ⟨(some (61)), .call (.const (.fn (.func 48) [] [])) [.tmp 57, .tmp 58, .tmp 59, .tmp 60], none, []⟩, 
  ⟨(some (56)), .move (.tmp 61), none, []⟩, 
  ⟨(some (62)), .extract (.tmp 56) 0, none, []⟩, 
  ⟨(some (63)), .extract (.tmp 56) 1, none, []⟩, 
  ⟨(some (64)), .extract (.tmp 56) 2, none, []⟩, 
  ⟨(some (9)), .move (.tmp 62), none, []⟩, 
  ⟨(some (10)), .move (.tmp 63), none, []⟩, 
  ⟨(some (11)), .move (.tmp 64), none, []⟩]
def k_law03_CathodeFirst_r7 : List AOper := [
  ⟨(some (65)), .move (.tmp 7), none, []⟩, 
  ⟨(some (66)), .len false (.tmp 65), none, []⟩, 
  ⟨(some (12)), .move (.tmp 66), none, []⟩]
def k_law03_CathodeFirst_r8 : List AOper := [
  ⟨(some (13)), .move (.const (.nilsl)), none, []⟩]
def k_law03_CathodeFirst_r9 : List AOper := [
  ⟨(some (14)), .move (.const (.int .i64 0)), none, []⟩]
def k_law03_CathodeFirst_r10 : List AOper := [
  ⟨(some (15)), .move (.const (.int .i64 1)), none, []⟩]
def k_law03_CathodeFirst_r11 : List AOper := [
  ⟨(some (67)), .move (.tmp 15), none, []⟩, 
  ⟨(some (68)), .move (.tmp 1), none, []⟩, 
  ⟨(some (69)), .bin .plain .leq (.tmp 67) (.tmp 68), none, []⟩]
def k_law03_CathodeFirst_r12 : List AOper := [
  ⟨(some (16)), .move (.const (.int .i64 1)), none, []⟩]
def k_law03_CathodeFirst_r13 : List AOper := [
  ⟨(some (17)), .move (.const (.int .i64 0)), none, []⟩]
def k_law03_CathodeFirst_r14 : List AOper := [
  ⟨(some (72)), .move (.tmp 17), none, []⟩, 
  ⟨(some (73)), .move (.tmp 15), none, []⟩, 
  ⟨(some (74)), .bin .plain .lss (.tmp 72) (.tmp 73), none, []⟩]
def k_law03_CathodeFirst_r15 : List AOper := [
  ⟨(some (77)), .move (.tmp 16), none, []⟩, 
  ⟨(some (78)), .move (.tmp 12), none, []⟩, 
  ⟨(some (79)), .bin .plain .mul (.tmp 77) (.tmp 78), none, []⟩, 
  ⟨(some (16)), .move (.tmp 79), none, []⟩]
def k_law03_CathodeFirst_r16 : List AOper := [
  ⟨(some (75)), .move (.tmp 17), none, []⟩, 
  ⟨(some (76)), .bin .plain .add (.tmp 75) (.const (.int .i64 1)), none, []⟩, 
  ⟨(some (17)), .move (.tmp 76), none, []⟩]
def k_law03_CathodeFirst_r17 : ACode := (.seq (.seq (.reg k_law03_CathodeFirst_r14 false) (.cond (.tmp 74) .skip (.exit 2))) (.seq (.block 3 (.reg k_law03_CathodeFirst_r15 false)) (.reg k_law03_CathodeFirst_r16 false)))
def k_law03_CathodeFirst_r18 : List AOper := [
  ⟨(some (18)), .move (.const (.int .i64 0)), none, []⟩]
def k_law03_CathodeFirst_r19 : List AOper := [
  ⟨(some (80)), .move (.tmp 18), none, []⟩, 
  ⟨(some (81)), .move (.tmp 16), none, []⟩, 
  ⟨(some (82)), .bin .plain .lss (.tmp 80) (.tmp 81), none, []⟩]
def k_law03_CathodeFirst_r20 : List AOper := [
  ⟨(some (19)), .move (.const (.nilsl)), none, []⟩]
def k_law03_CathodeFirst_r21 : List AOper := [
  ⟨(some (20)), .move (.const (.nilsl)), none, []⟩]
def k_law03_CathodeFirst_r22 : List AOper := [
  ⟨(some (85)), .move (.tmp 18), none, []⟩, 
  ⟨(some (21)), .move (.tmp 85), none, []⟩, 
  ⟨(some (22)), .move (.const (.int .i64 0)), none, []⟩]
def k_law03_CathodeFirst_r23 : List AOper := [
  ⟨(some (86)), .move (.tmp 15), none, []⟩, 
  ⟨(some (23)), .move (.tmp 86), none, []⟩]
def k_law03_CathodeFirst_r24 : List AOper := [
  ⟨(some (87)), .move (.tmp 23), none, []⟩, 
  ⟨(some (88)), .bin .plain .gtr (.tmp 87) (.const (.int .i64 0)), none, []⟩]
def k_law03_CathodeFirst_r25 : List AOper := [
  ⟨(some (24)), .move (.const (.int .i64 1)), none, []⟩]
def k_law03_CathodeFirst_r26 : List AOper := [
  ⟨(some (25)), .move (.const (.int .i64 1)), none, []⟩]
def k_law03_CathodeFirst_r27 : List AOper := [
  ⟨(some (91)), .move (.tmp 25), none, []⟩, 
  ⟨(some (92)), .move (.tmp 23), none, []⟩, 
  ⟨(some (93)), .bin .plain .lss (.tmp 91) (.tmp 92), none, []⟩]
def k_law03_CathodeFirst_r28 : List AOper := [
  ⟨(some (96)), .move (.tmp 24), none, []⟩, 
  ⟨(some (97)), .move (.tmp 12), none, []⟩, 
  ⟨(some (98)), .bin .plain .mul (.tmp 96) (.tmp 97), none, []⟩, 
  ⟨(some (24)), .move (.tmp 98), none, []⟩]
def k_law03_CathodeFirst_r29 : List AOper := [
  ⟨(some (94)), .move (.tmp 25), none, []⟩, 
  ⟨(some (95)), .bin .plain .add (.tmp 94) (.const (.int .i64 1)), none, []⟩, 
  ⟨(some (25)), .move (.tmp 95), none, []⟩]
def k_law03_CathodeFirst_r30 : ACode := (.seq (.seq (.reg k_law03_CathodeFirst_r27 false) (.cond (.tmp 93) .skip (.exit 8))) (.seq (.block 9 (.reg k_law03_CathodeFirst_r28 false)) (.reg k_law03_CathodeFirst_r29 false)))
def k_law03_CathodeFirst_r31 : List AOper := [
  ⟨(some (99)), .move (.tmp 19), none, []⟩, 
  ⟨(some (100)), .move (.tmp 7), none, []⟩, 
  ⟨(some (101)), .move (.tmp 21), none, []⟩, 
  ⟨(some (102)), .move (.tmp 24), none, []⟩, 
  ⟨(some (103)), .bin .plain .quo (.tmp 101) (.tmp 102), none, []⟩, 
  ⟨(some (104)), .indexAddr 3 (.tmp 100) (.tmp 103), none, []⟩, 
  ⟨(some (105)), .load (some (3)) (.tmp 104), none, []⟩, 
  ⟨(some (106)), .buildSlice 3 [.tmp 105], none, []⟩, 
  ⟨(some (107)), .append 3 24 true (.tmp 99) (.tmp 106), none, []⟩, 
  ⟨(some (19)), .move (.tmp 107), none, []⟩]
def k_law03_CathodeFirst_r32 : List AOper := [
  ⟨(some (108)), .move (.tmp 20), none, []⟩, 
  ⟨(some (109)), .move (.tmp 21), none, []⟩, 
  ⟨(some (110)), .move (.tmp 24), none, []⟩, 
  ⟨(some (111)), .bin .plain .quo (.tmp 109) (.tmp 110), none, []⟩, 
  ⟨(some (112)), .buildSlice 1 [.tmp 111], none, []⟩, 
  ⟨(some (113)), .append 1 8 false (.tmp 108) (.tmp 112), none, []⟩, 
  ⟨(some (20)), .move (.tmp 113), none, []⟩]
def k_law03_CathodeFirst_r33 : List AOper := [
  ⟨(some (114)), .move (.tmp 22), none, []⟩, 
  ⟨(some (115)), .move (.tmp 7), none, []⟩, 
  ⟨(some (116)), .move (.tmp 21), none, []⟩, 
  ⟨(some (117)), .move (.tmp 24), none, []⟩, 
  ⟨(some (118)), .bin .plain .quo (.tmp 116) (.tmp 117), none, []⟩, 
  ⟨(some (119)), .indexAddr 3 (.tmp 115) (.tmp 118), none, []⟩, 
  ⟨(some (120)), .fieldAddr 0 (.tmp 119), none, []⟩, 
  ⟨(some (121)), .load none (.tmp 120), none, []⟩, 
  ⟨(some (122)), .bin .plain .add (.tmp 114) (.tmp 121), none, []⟩, 
  ⟨(some (22)), .move (.tmp 122), none, []⟩]
def k_law03_CathodeFirst_r34 : List AOper := [
  ⟨(some (123)), .move (.tmp 21), none, []⟩, 
  ⟨(some (124)), .move (.tmp 24), none, []⟩, 
  ⟨(some (125)), .bin .plain .rem (.tmp 123) (.tmp 124), none, []⟩, 
  ⟨(some (21)), .move (.tmp 125), none, []⟩]
def k_law03_CathodeFirst_r35 : List AOper := [
  ⟨(some (89)), .move (.tmp 23), none, []⟩, 
  ⟨(some (90)), .bin .plain .sub (.tmp 89) (.const (.int .i64 1)), none, []⟩, 
  ⟨(some (23)), .move (.tmp 90), none, []⟩]
def k_law03_CathodeFirst_r36 : ACode := (.seq (.seq (.reg k_law03_CathodeFirst_r24 false) (.cond (.tmp 88) .skip (.exit 6))) (.seq (.block 7 (.seq (.reg k_law03_CathodeFirst_r25 false) (.seq (.seq (.reg k_law03_CathodeFirst_r26 false) (.block 8 (.loop k_law03_CathodeFirst_r30))) (.seq (.reg k_law03_CathodeFirst_r31 false) (.seq (.reg k_law03_CathodeFirst_r32 false) (.seq (.reg k_law03_CathodeFirst_r33 false) (.reg k_law03_CathodeFirst_r34 false))))))) (.reg k_law03_CathodeFirst_r35 false)))
def k_law03_CathodeFirst_r37 : List AOper := [
  ⟨(some (127)), .load (some (7)) (.tmp 6), none, []⟩, 
  ⟨(some (128)), .load (some (5)) (.tmp 8), none, []⟩, 
  ⟨(some (129)), .move (.tmp 19), none, []⟩, 
  ⟨(some (130)), .call (.const (.fn (.func 46) [] [])) [.tmp 127, .tmp 128, .tmp 129], none, []⟩, 
  ⟨(some (126)), .move (.tmp 130), none, []⟩, 
  ⟨(some (131)), .extract (.tmp 126) 0, none, []⟩, 
  ⟨(some (132)), .extract (.tmp 126) 1, none, []⟩, 
  ⟨(some (133)), .extract (.tmp 126) 2, none, []⟩, 
  ⟨(some (26)), .move (.tmp 131), none, []⟩, 
  ⟨(some (27)), .move (.tmp 132), none, []⟩, 
  ⟨(some (28)), .move (.tmp 133), none, []⟩]
def k_law03_CathodeFirst_r38 : List AOper := [
  ⟨(some (134)), .move (.tmp 28), none, []⟩, 
  ⟨(some (135)), .bin .plain .eql (.tmp 134) (.const (.int .i64 0)), none, []⟩, 
  ⟨(some (136)), .move (.tmp 135), none, []⟩, 
  ⟨(some (137)), .move (.tmp 26), (some (136, true)), []⟩, 
  ⟨(some (138)), .bin .plain .eql (.tmp 137) (.const (.int .i64 1)), (some (136, true)), []⟩, 
  ⟨(some (139)), .pick (.tmp 136) (.tmp 138) (.const (.bool false)), none, []⟩, 
  ⟨(some (140)), .move (.tmp 139), none, []⟩, 
  ⟨(some (141)), .move (.tmp 13), (some (140, true)), []⟩, 
  ⟨(some (142)), .len false (.tmp 141), (some (140, true)), []⟩, 
  ⟨(some (143)), .bin .plain .eql (.tmp 142) (.const (.int .i64 0)), (some (140, true)), []⟩, 
  ⟨(some (144)), .move (.tmp 143), (some (140, true)), []⟩, 
  ⟨(some (145)), .move (.tmp 22), (some (144, false)), []⟩, 
  ⟨(some (146)), .move (.tmp 14), (some (144, false)), []⟩, 
  ⟨(some (147)), .bin .plain .lss (.tmp 145) (.tmp 146), (some (144, false)), []⟩, 
  ⟨(some (148)), .pick (.tmp 144) (.const (.bool true)) (.tmp 147), (some (140, true)), []⟩, 
  ⟨(some (149)), .pick (.tmp 140) (.tmp 148) (.const (.bool false)), none, []⟩]
def k_law03_CathodeFirst_r39 : List AOper := [
  ⟨(some (150)), .move (.tmp 20), none, []⟩, 
  ⟨(some (151)), .move (.tmp 22), none, []⟩, 
  ⟨(some (13)), .move (.tmp 150), none, []⟩, 
  ⟨(some (14)), .move (.tmp 151), none, []⟩]
def k_law03_CathodeFirst_r40 : List AOper := [
  ⟨(some (83)), .move (.tmp 18), none, []⟩, 
  ⟨(some (84)), .bin .plain .add (.tmp 83) (.const (.int .i64 1)), none, []⟩, 
  ⟨(some (18)), .move (.tmp 84), none, []⟩]
def k_law03_CathodeFirst_r41 : ACode := (.seq (.seq (.reg k_law03_CathodeFirst_r19 false) (.cond (.tmp 82) .skip (.exit 4))) (.seq (.block 5 (.seq (.reg k_law03_CathodeFirst_r20 false) (.seq (.reg k_law03_CathodeFirst_r21 false) (.seq (.reg k_law03_CathodeFirst_r22 false) (.seq (.seq (.reg k_law03_CathodeFirst_r23 false) (.block 6 (.loop k_law03_CathodeFirst_r36))) (.seq (.reg k_law03_CathodeFirst_r37 false) (.seq (.reg k_law03_CathodeFirst_r38 false) (.cond (.tmp 149) (.reg k_law03_CathodeFirst_r39 false) .skip)))))))) (.reg k_law03_CathodeFirst_r40 false)))
def k_law03_CathodeFirst_r42 : List AOper := [
  ⟨(some (70)), .move (.tmp 15), none, []⟩, 
  ⟨(some (71)), .bin .plain .add (.tmp 70) (.const (.int .i64 1)), none, []⟩, 
  ⟨(some (15)), .move (.tmp 71), none, []⟩]
def k_law03_CathodeFirst_r43 : ACode := (.seq (.seq (.reg k_law03_CathodeFirst_r11 false) (.cond (.tmp 69) .skip (.exit 0))) (.seq (.block 1 (.seq (.reg k_law03_CathodeFirst_r12 false) (.seq (.seq (.reg k_law03_CathodeFirst_r13 false) (.block 2 (.loop k_law03_CathodeFirst_r17))) (.seq (.reg k_law03_CathodeFirst_r18 false) (.block 4 (.loop k_law03_CathodeFirst_r41)))))) (.reg k_law03_CathodeFirst_r42 false)))
def k_law03_CathodeFirst_r44 : List AOper := [
  ⟨(some (152)), .move (.tmp 13), none, []⟩, 
  ⟨(some (153)), .len false (.tmp 152), none, []⟩, 
  ⟨(some (154)), .bin .plain .eql (.tmp 153) (.const (.int .i64 0)), none, []⟩]
def k_law03_CathodeFirst_r45 : List AOper := [
  ⟨(some (155)), .move (.tmp 11), none, []⟩, 
  ⟨(some (156)), .bin .plain .eql (.tmp 155) (.const (.int .i64 7)), none, []⟩, 
  ⟨(some (157)), .move (.tmp 156), none, []⟩, 
  ⟨(some (158)), .move (.tmp 9), (some (157, true)), []⟩, 
  ⟨(some (159)), .len false (.tmp 158), (some (157, true)), []⟩, 
  ⟨(some (160)), .bin .plain .eql (.tmp 159) (.const (.int .i64 0)), (some (157, true)), []⟩, 
  ⟨(some (161)), .pick (.tmp 157) (.tmp 160) (.const (.bool false)), none, []⟩, 
  ⟨(some (162)), .move (.tmp 161), none, []⟩, 
  ⟨(some (163)), .call (.const (.fn (.func 18) [] [])) [], (some (162, true)), []⟩, 
  ⟨(some (164)), .pick (.tmp 162) (.tmp 163) (.const (.bool false)), none, []⟩, 
  ⟨(some (4)), .move (.tmp 164), none, []⟩]
def k_law03_CathodeFirst_r46 : List AOper := [
  ⟨(some (165)), .move (.tmp 11), none, []⟩, 
  ⟨(some (166)), .bin .plain .eql (.tmp 165) (.const (.int .i64 0)), none, []⟩, 
  ⟨(some (167)), .move (.tmp 166), none, []⟩, 
  ⟨(some (168)), .move (.tmp 9), (some (167, true)), []⟩, 
  ⟨(some (169)), .move (.tmp 13), (some (167, true)), []⟩, 
  ⟨(some (170)), .call (.const (.fn (.func 50) [] [])) [.tmp 168, .tmp 169], (some (167, true)), []⟩, 
  ⟨(some (171)), .pick (.tmp 167) (.tmp 170) (.const (.bool false)), none, []⟩, 
  ⟨(some (172)), .move (.tmp 171), none, []⟩, 
  ⟨(some (173)), .move (.tmp 10), (some (172, true)), []⟩, 
  ⟨(some (174)), .move (.tmp 14), (some (172, true)), []⟩, 
  ⟨(some (175)), .bin .plain .eql (.tmp 173) (.tmp 174), (some (172, true)), []⟩, 
  ⟨(some (176)), .pick (.tmp 172) (.tmp 175) (.const (.bool false)), none, []⟩, 
  ⟨(some (177)), .move (.tmp 176), none, []⟩, 
  ⟨(some (178)), .call (.const (.fn (.func 18) [] [])) [], (some (177, true)), []⟩, 
  ⟨(some (179)), .pick (.tmp 177) (.tmp 178) (.const (.bool false)), none, []⟩, 
  ⟨(some (4)), .move (.tmp 179), none, []⟩]
def k_law03_CathodeFirst : AFun := { params := 2, ntmps := 180, body := (.seq (.reg k_law03_CathodeFirst_r0 false) (.seq (.reg k_law03_CathodeFirst_r1 false) (.seq (.reg k_law03_CathodeFirst_r2 false) (.seq (.reg k_law03_CathodeFirst_r3 false) (.seq (.reg k_law03_CathodeFirst_r4 true) (.seq (.reg k_law03_CathodeFirst_r5 false) (.seq (.reg k_law03_CathodeFirst_r6 false) (.seq (.reg k_law03_CathodeFirst_r7 false) (.seq (.reg k_law03_CathodeFirst_r8 false) (.seq (.reg k_law03_CathodeFirst_r9 false) (.seq (.seq (.reg k_law03_CathodeFirst_r10 false) (.block 0 (.loop k_law03_CathodeFirst_r43))) (.seq (.seq (.reg k_law03_CathodeFirst_r44 false) (.cond (.tmp 154) (.seq (.reg k_law03_CathodeFirst_r45 false) .ret) .skip)) (.seq (.reg k_law03_CathodeFirst_r46 false) .ret))))))))))))), res := [.tmp 4] }
theorem k_law03_CathodeFirst_ok : cfun Try.prog Try.f16 = k_law03_CathodeFirst := by kernel_rfl

-- 48: thermion/cathode.Shortest
def k_cathode_Shortest_r0 : List AOper := [
  ⟨(some (4)), .box (.tmp 0), none, []⟩, 
  ⟨(some (5)), .box (.tmp 1), none, []⟩, 
  ⟨(some (6)), .box (.tmp 2), none, []⟩, 
  ⟨(some (8)), .box (.const (.nilsl)), none, []⟩, 
  ⟨(some (9)), .box (.const (.int .i64 0)), none, []⟩, 
  ⟨(some (10)), .move (.const (.int .i64 0)), none, []⟩]
def k_cathode_Shortest_r1 : List AOper := [
  ⟨(some (18)), .load (some (7)) (.tmp 4), none, []⟩, 
  ⟨(some (19)), .load (some (5)) (.tmp 5), none, []⟩, 
  ⟨(some (20)), .call (.const (.fn (.func 93) [] [])) [.tmp 18, .tmp 19], none, []⟩, 
  ⟨(some (11)), .move (.tmp 20), none, []⟩]
def k_cathode_Shortest_r2 : List AOper := [
  ⟨(some (21)), .move (.tmp 11), none, []⟩, 
  ⟨(some (22)), .bin .plain .neq (.tmp 21) (.const (.int .i64 0)), none, []⟩]
def k_cathode_Shortest_r3 : List AOper := [
  ⟨(some (23)), .move (.tmp 11), none, []⟩, 
  ⟨none, .store 1 (.tmp 8) (.const (.nilsl)), none, []⟩, 
  ⟨none, .store 1 (.tmp 9) (.const (.int .i64 0)), none, []⟩, 
  ⟨(some (10)), .move (.tmp 23), none, []⟩]
def k_cathode_Shortest_r4 : List AOper := [
  ⟨(some (24)), .load none (.tmp 6), none, []⟩, 
  ⟨(some (25)), .move (.tmp 3), none, []⟩, 
  ⟨(some (26)), .call (.const (.fn (.func 97) [] [])) [.tmp 24, .tmp 25], none, []⟩, 
  ⟨(some (12)), .move (.tmp 26), none, []⟩]
def k_cathode_Shortest_r5 : List AOper := [
  ⟨(some (27)), .move (.tmp 12), none, []⟩, 
  ⟨(some (28)), .bin .plain .neq (.tmp 27) (.const (.int .i64 0)), none, []⟩]
def k_cathode_Shortest_r6 : List AOper := [
  ⟨(some (29)), .move (.tmp 12), none, []⟩, 
  ⟨none, .store 1 (.tmp 8) (.const (.nilsl)), none, []⟩, 
  ⟨none, .store 1 (.tmp 9) (.const (.int .i64 0)), none, []⟩, 
  ⟨(some (10)), .move (.tmp 29), none, []⟩]
def k_cathode_Shortest_r7 : List AOper := [
  ⟨(some (30)), .load none (.tmp 6), none, []⟩, 
  ⟨(some (31)), .len false (.tmp 30), none, []⟩, 
  ⟨(some (32)), .move (.tmp 3), none, []⟩, 
  ⟨(some (33)), .call (.const (.fn (.func 98) [] [])) [.tmp 31, .tmp 32], none, []⟩]
def k_cathode_Shortest_r8 : List AOper := [
  ⟨(some (13)), .move (.tmp 34), none, []⟩]
def k_cathode_Shortest_r9 : List AOper := [
  ⟨(some (35)), .load none (.tmp 6), none, []⟩, 
  ⟨(some (36)), .move (.tmp 13), none, []⟩, 
  ⟨(some (37)), .call (.const (.fn (.func 99) [] [])) [.tmp 35, .tmp 36], none, []⟩, 
  ⟨(some (14)), .move (.tmp 37), none, []⟩]
def k_cathode_Shortest_r10 : List AOper := [
  ⟨(some (38)), .move (.tmp 14), none, []⟩, 
  ⟨(some (39)), .call (.const (.fn (.func 74) [] [])) [.tmp 38], none, []⟩, 
  ⟨(some (15)), .move (.tmp 39), none, []⟩]
def k_cathode_Shortest_r11 : List AOper := [
  ⟨(some (40)), .load none (.tmp 8), none, []⟩, 
  ⟨(some (41)), .bin .slice .neq (.tmp 40) (.const (.nilsl)), none, []⟩, 
  ⟨(some (42)), .move (.tmp 41), none, []⟩, 
  ⟨(some (43)), .move (.tmp 15), (some (42, true)), []⟩, 
  ⟨(some (44)), .load none (.tmp 9), (some (42, true)), []⟩, 
  ⟨(some (45)), .bin .plain .geq (.tmp 43) (.tmp 44), (some (42, true)), []⟩, 
  ⟨(some (46)), .pick (.tmp 42) (.tmp 45) (.const (.bool false)), none, []⟩]
def k_cathode_Shortest_r12 : List AOper := [
  ⟨(some (48)), .load (some (7)) (.tmp 4), none, []⟩, 
  ⟨(some (49)), .load (some (5)) (.tmp 5), none, []⟩, 
  ⟨(some (50)), .move (.tmp 14), none, []⟩, 
  ⟨(some (51)), .call (.const (.fn (.func 94) [] [])) [.tmp 48, .tmp 49, .tmp 50], none, []⟩, 
  ⟨(some (47)), .move (.tmp 51), none, []⟩, 
  ⟨(some (52)), .extract (.tmp 47) 0, none, []⟩, 
  ⟨(some (53)), .extract (.tmp 47) 1, none, []⟩, 
  ⟨(some (16)), .move (.tmp 52), none, []⟩, 
  ⟨(some (17)), .move (.tmp 53), none, []⟩]
def k_cathode_Shortest_r13 : List AOper := [
  ⟨(some (54)), .move (.tmp 16), none, []⟩, 
  ⟨(some (55)), .bin .plain .eql (.tmp 54) (.const (.int .i64 1)), none, []⟩]
def k_cathode_Shortest_r14 : List AOper := [
  ⟨(some (56)), .move (.tmp 13), none, []⟩, 
  ⟨(some (57)), .call (.const (.fn (.func 100) [] [])) [.tmp 56], none, []⟩, 
  ⟨(some (58)), .move (.tmp 15), none, []⟩, 
  ⟨none, .store 1 (.tmp 8) (.tmp 57), none, []⟩, 
  ⟨none, .store 1 (.tmp 9) (.tmp 58), none, []⟩]
def k_cathode_Shortest_r15 : ACode := (.reg k_cathode_Shortest_r8 false)
def k_cathode_Shortest_r16 : ACode := (.block 1 (.seq (.reg k_cathode_Shortest_r9 false) (.seq (.reg k_cathode_Shortest_r10 false) (.seq (.seq (.reg k_cathode_Shortest_r11 false) (.cond (.tmp 46) (.exit 1) .skip)) (.seq (.reg k_cathode_Shortest_r12 false) (.seq (.reg k_cathode_Shortest_r13 false) (.cond (.tmp 55) (.reg k_cathode_Shortest_r14 false) .skip)))))))
def k_cathode_Shortest_r17 : List AOper := [
  ⟨(some (59)), .load none (.tmp 8), none, []⟩, 
  ⟨(some (60)), .bin .slice .eql (.tmp 59) (.const (.nilsl)), none, []⟩]
def k_cathode_Shortest_r18 : List AOper := [
  ⟨none, .store 1 (.tmp 8) (.const (.nilsl)), none, []⟩, 
  ⟨none, .store 1 (.tmp 9) (.const (.int .i64 0)), none, []⟩, 
  ⟨(some (10)), .move (.const (.int .i64 7)), none, []⟩]
def k_cathode_Shortest_r19 : List AOper := [
  ⟨(some (61)), .load none (.tmp 8), none, []⟩, 
  ⟨(some (62)), .load none (.tmp 9), none, [0]⟩, 
  ⟨none, .store 1 (.tmp 8) (.tmp 61), none, [1]⟩, 
  ⟨none, .store 1 (.tmp 9) (.tmp 62), none, []⟩, 
  ⟨(some (10)), .move (.const (.int .i64 0)), none, []⟩]
def k_cathode_Shortest_r19s : List (List AOper) := [
  [
  ⟨(some (61)), .load none (.tmp 8), none, []⟩, 
  ⟨(some (62)), .load none (.tmp 9), none, [0]⟩, 
  ⟨none, .store 1 (.tmp 8) (.tmp 61), none, [1]⟩], 
  [
  ⟨none, .store 1 (.tmp 9) (.tmp 62), none, []⟩], 
  [
  ⟨(some (10)), .move (.const (.int .i64 0)), none, []⟩]]
theorem k_cathode_Shortest_r19_sg : segs k_cathode_Shortest_r19 = k_cathode_Shortest_r19s := by kernel_rfl
theorem k_cathode_Shortest_r19_st : statOK k_cathode_Shortest_r19 = true := by kernel_rfl
def k_cathode_Shortest : AFun := { params := 4, ntmps := 63, body := (.seq (.reg k_cathode_Shortest_r0 false) (.seq (.seq (.reg k_cathode_Shortest_r1 false) (.seq (.reg k_cathode_Shortest_r2 false) (.cond (.tmp 22) (.seq (.reg k_cathode_Shortest_r3 false) .ret) .skip))) (.seq (.seq (.reg k_cathode_Shortest_r4 false) (.seq (.reg k_cathode_Shortest_r5 false) (.cond (.tmp 28) (.seq (.reg k_cathode_Shortest_r6 false) .ret) .skip))) (.seq (.seq (.reg k_cathode_Shortest_r7 false) (.block 0 (.rng (.tmp 33) [34] k_cathode_Shortest_r15 k_cathode_Shortest_r16))) (.seq (.seq (.reg k_cathode_Shortest_r17 false) (.cond (.tmp 60) (.seq (.reg k_cathode_Shortest_r18 false) .ret) .skip)) (.seq (.reg k_cathode_Shortest_r19 true) .ret)))))), res := [.cell 8 (some (none)), .cell 9 (some (none)), .tmp 10] }
theorem k_cathode_Shortest_ok : cfun Try.prog Try.f48 = k_cathode_Shortest := by kernel_rfl

-- 50: thermion/thermionkit.Same
def k_kit_Same_r0 : List AOper := [
  ⟨(some (4)), .move (.const (.bool false)), none, []⟩]
def k_kit_Same_r1 : List AOper := [
  ⟨(some (6)), .move (.tmp 0), none, []⟩, 
  ⟨(some (7)), .len false (.tmp 6), none, []⟩, 
  ⟨(some (8)), .move (.tmp 1), none, []⟩, 
  ⟨(some (9)), .len false (.tmp 8), none, []⟩, 
  ⟨(some (10)), .bin .plain .neq (.tmp 7) (.tmp 9), none, []⟩]
def k_kit_Same_r2 : List AOper := [
  ⟨(some (4)), .move (.const (.bool false)), none, []⟩]
def k_kit_Same_r3 : List AOper := [
  ⟨(some (5)), .move (.const (.int .i64 0)), none, []⟩]
def k_kit_Same_r4 : List AOper := [
  ⟨(some (11)), .move (.tmp 5), none, []⟩, 
  ⟨(some (12)), .move (.tmp 0), none, []⟩, 
  ⟨(some (13)), .len false (.tmp 12), none, []⟩, 
  ⟨(some (14)), .bin .plain .lss (.tmp 11) (.tmp 13), none, []⟩]
def k_kit_Same_r5 : List AOper := [
  ⟨(some (17)), .move (.tmp 0), none, []⟩, 
  ⟨(some (18)), .move (.tmp 5), none, [0]⟩, 
  ⟨(some (19)), .indexAddr 1 (.tmp 17) (.tmp 18), none, []⟩, 
  ⟨(some (20)), .load none (.tmp 19), none, []⟩, 
  ⟨(some (21)), .move (.tmp 1), none, [0, 1, 2, 3]⟩, 
  ⟨(some (22)), .move (.tmp 5), none, [0, 1, 2, 3, 4]⟩, 
  ⟨(some (23)), .indexAddr 1 (.tmp 21) (.tmp 22), none, [0, 1, 2, 3]⟩, 
  ⟨(some (24)), .load none (.tmp 23), none, [0, 1, 2, 3]⟩, 
  ⟨(some (25)), .bin .plain .neq (.tmp 20) (.tmp 24), none, []⟩]
def k_kit_Same_r5s : List (List AOper) := [
  [
  ⟨(some (17)), .move (.tmp 0), none, []⟩, 
  ⟨(some (18)), .move (.tmp 5), none, [0]⟩, 
  ⟨(some (19)), .indexAddr 1 (.tmp 17) (.tmp 18), none, []⟩, 
  ⟨(some (20)), .load none (.tmp 19), none, []⟩, 
  ⟨(some (21)), .move (.tmp 1), none, [0, 1, 2, 3]⟩, 
  ⟨(some (22)), .move (.tmp 5), none, [0, 1, 2, 3, 4]⟩, 
  ⟨(some (23)), .indexAddr 1 (.tmp 21) (.tmp 22), none, [0, 1, 2, 3]⟩, 
  ⟨(some (24)), .load none (.tmp 23), none, [0, 1, 2, 3]⟩], 
  [
  ⟨(some (25)), .bin .plain .neq (.tmp 20) (.tmp 24), none, []⟩]]
theorem k_kit_Same_r5_sg : segs k_kit_Same_r5 = k_kit_Same_r5s := by kernel_rfl
theorem k_kit_Same_r5_st : statOK k_kit_Same_r5 = true := by kernel_rfl
def k_kit_Same_r6 : List AOper := [
  ⟨(some (4)), .move (.const (.bool false)), none, []⟩]
def k_kit_Same_r7 : List AOper := [
  ⟨(some (15)), .move (.tmp 5), none, []⟩, 
  ⟨(some (16)), .bin .plain .add (.tmp 15) (.const (.int .i64 1)), none, []⟩, 
  ⟨(some (5)), .move (.tmp 16), none, []⟩]
def k_kit_Same_r8 : ACode := (.seq (.seq (.reg k_kit_Same_r4 false) (.cond (.tmp 14) .skip (.exit 0))) (.seq (.block 1 (.seq (.reg k_kit_Same_r5 true) (.cond (.tmp 25) (.seq (.reg k_kit_Same_r6 false) .ret) .skip))) (.reg k_kit_Same_r7 false)))
def k_kit_Same_r9 : List AOper := [
  ⟨(some (4)), .move (.const (.bool true)), none, []⟩]
def k_kit_Same : AFun := { params := 2, ntmps := 26, body := (.seq (.reg k_kit_Same_r0 false) (.seq (.seq (.reg k_kit_Same_r1 false) (.cond (.tmp 10) (.seq (.reg k_kit_Same_r2 false) .ret) .skip)) (.seq (.seq (.reg k_kit_Same_r3 false) (.block 0 (.loop k_kit_Same_r8))) (.seq (.reg k_kit_Same_r9 false) .ret)))), res := [.tmp 4] }
theorem k_kit_Same_ok : cfun Try.prog Try.f50 = k_kit_Same := by kernel_rfl

-- 97: thermion/cathode.checkMenu
def k_cathode_checkMenu_r0 : List AOper := [
  ⟨(some (4)), .move (.const (.int .i64 0)), none, []⟩]
def k_cathode_checkMenu_r1 : List AOper := [
  ⟨(some (8)), .move (.tmp 0), none, []⟩, 
  ⟨(some (9)), .len false (.tmp 8), none, []⟩, 
  ⟨(some (10)), .bin .plain .eql (.tmp 9) (.const (.int .i64 0)), none, []⟩]
def k_cathode_checkMenu_r2 : List AOper := [
  ⟨(some (4)), .move (.const (.int .i64 6)), none, []⟩]
def k_cathode_checkMenu_r3 : List AOper := [
  ⟨(some (11)), .move (.tmp 0), none, []⟩, 
  ⟨(some (12)), .len false (.tmp 11), none, []⟩, 
  ⟨(some (13)), .bin .plain .gtr (.tmp 12) (.const (.int .i64 4)), none, []⟩]
def k_cathode_checkMenu_r4 : List AOper := [
  ⟨(some (4)), .move (.const (.int .i64 8)), none, []⟩]
def k_cathode_checkMenu_r5 : List AOper := [
  ⟨(some (14)), .move (.tmp 0), none, []⟩, 
  ⟨(some (15)), .call (.const (.fn (.func 29) [] [])) [.tmp 14], none, []⟩, 
  ⟨(some (5)), .move (.tmp 15), none, []⟩]
def k_cathode_checkMenu_r6 : List AOper := [
  ⟨(some (16)), .move (.tmp 5), none, []⟩, 
  ⟨(some (17)), .bin .plain .neq (.tmp 16) (.const (.int .i64 0)), none, []⟩]
def k_cathode_checkMenu_r7 : List AOper := [
  ⟨(some (18)), .move (.tmp 5), none, []⟩, 
  ⟨(some (4)), .move (.tmp 18), none, []⟩]
def k_cathode_checkMenu_r8 : List AOper := [
  ⟨(some (19)), .move (.tmp 0), none, []⟩, 
  ⟨(some (20)), .len false (.tmp 19), none, []⟩, 
  ⟨(some (21)), .move (.const (.int .i64 0)), none, []⟩]
def k_cathode_checkMenu_r9 : List AOper := [
  ⟨(some (22)), .bin .plain .lss (.tmp 21) (.tmp 20), none, []⟩]
def k_cathode_checkMenu_r10 : List AOper := [
  ⟨(some (23)), .indexAddr 3 (.tmp 19) (.tmp 21), none, []⟩, 
  ⟨(some (24)), .load (some (3)) (.tmp 23), none, []⟩, 
  ⟨(some (7)), .box (.const (.agg [.int .i64 0, .int .i64 0, .int .i64 0])), none, []⟩, 
  ⟨none, .store 3 (.tmp 7) (.tmp 24), none, []⟩]
def k_cathode_checkMenu_r11 : List AOper := [
  ⟨(some (25)), .fieldAddr 0 (.tmp 7), none, []⟩, 
  ⟨(some (26)), .load none (.tmp 25), none, []⟩, 
  ⟨(some (27)), .bin .plain .gtr (.tmp 26) (.const (.int .i64 100)), none, []⟩]
def k_cathode_checkMenu_r12 : List AOper := [
  ⟨(some (4)), .move (.const (.int .i64 2)), none, []⟩]
def k_cathode_checkMenu_r13 : List AOper := [
  ⟨(some (28)), .bin .plain .add (.tmp 21) (.const (.int .i64 1)), none, []⟩, 
  ⟨(some (21)), .move (.tmp 28), none, []⟩]
def k_cathode_checkMenu_r14 : ACode := (.seq (.reg k_cathode_checkMenu_r9 false) (.seq (.cond (.tmp 22) .skip (.exit 0)) (.seq (.block 1 (.seq (.reg k_cathode_checkMenu_r10 false) (.seq (.reg k_cathode_checkMenu_r11 false) (.cond (.tmp 27) (.seq (.reg k_cathode_checkMenu_r12 false) .ret) .skip)))) (.reg k_cathode_checkMenu_r13 false))))
def k_cathode_checkMenu_r15 : List AOper := [
  ⟨(some (29)), .move (.tmp 1), none, []⟩, 
  ⟨(some (30)), .call (.const (.fn (.func 67) [] [])) [.tmp 29, .const (.int .i64 1), .const (.int .i64 5)], none, []⟩, 
  ⟨(some (31)), .not (.tmp 30), none, []⟩]
def k_cathode_checkMenu_r16 : List AOper := [
  ⟨(some (4)), .move (.const (.int .i64 2)), none, []⟩]
def k_cathode_checkMenu_r17 : List AOper := [
  ⟨(some (4)), .move (.const (.int .i64 0)), none, []⟩]
def k_cathode_checkMenu : AFun := { params := 2, ntmps := 32, body := (.seq (.reg k_cathode_checkMenu_r0 false) (.seq (.seq (.reg k_cathode_checkMenu_r1 false) (.cond (.tmp 10) (.seq (.reg k_cathode_checkMenu_r2 false) .ret) .skip)) (.seq (.seq (.reg k_cathode_checkMenu_r3 false) (.cond (.tmp 13) (.seq (.reg k_cathode_checkMenu_r4 false) .ret) .skip)) (.seq (.seq (.reg k_cathode_checkMenu_r5 false) (.seq (.reg k_cathode_checkMenu_r6 false) (.cond (.tmp 17) (.seq (.reg k_cathode_checkMenu_r7 false) .ret) .skip))) (.seq (.seq (.reg k_cathode_checkMenu_r8 false) (.block 0 (.loop k_cathode_checkMenu_r14))) (.seq (.seq (.reg k_cathode_checkMenu_r15 false) (.cond (.tmp 31) (.seq (.reg k_cathode_checkMenu_r16 false) .ret) .skip)) (.seq (.reg k_cathode_checkMenu_r17 false) .ret))))))), res := [.tmp 4] }
theorem k_cathode_checkMenu_ok : cfun Try.prog Try.f97 = k_cathode_checkMenu := by kernel_rfl

-- 98: thermion/cathode.lists
def k_cathode_lists_r0 : List AOper := [
  ⟨(some (2)), .box (.tmp 0), none, []⟩, 
  ⟨(some (3)), .box (.tmp 1), none, []⟩, 
  ⟨(some (4)), .move (.const (.nilfn)), none, []⟩]
def k_cathode_lists_r1 : List AOper := [
  ⟨(some (5)), .makeFunc (.func 126) [] [.tmp 3, .tmp 2], none, []⟩, 
  ⟨(some (4)), .move (.tmp 5), none, []⟩]
def k_cathode_lists : AFun := { params := 2, ntmps := 6, body := (.seq (.reg k_cathode_lists_r0 false) (.seq (.reg k_cathode_lists_r1 false) .ret)), res := [.tmp 4] }
theorem k_cathode_lists_ok : cfun Try.prog Try.f98 = k_cathode_lists := by kernel_rfl

-- 99: thermion/cathode.chosen
def k_cathode_chosen_r0 : List AOper := [
  ⟨(some (4)), .move (.const (.nilsl)), none, []⟩]
def k_cathode_chosen_r1 : List AOper := [
  ⟨(some (5)), .move (.const (.nilsl)), none, []⟩]
def k_cathode_chosen_r2 : List AOper := [
  ⟨(some (8)), .move (.tmp 1), none, []⟩, 
  ⟨(some (9)), .len false (.tmp 8), none, []⟩, 
  ⟨(some (10)), .move (.const (.int .i64 0)), none, []⟩]
def k_cathode_chosen_r3 : List AOper := [
  ⟨(some (11)), .bin .plain .lss (.tmp 10) (.tmp 9), none, []⟩]
def k_cathode_chosen_r4 : List AOper := [
  ⟨(some (12)), .indexAddr 1 (.tmp 8) (.tmp 10), none, []⟩, 
  ⟨(some (13)), .load none (.tmp 12), none, []⟩, 
  ⟨(some (7)), .move (.tmp 13), none, []⟩]
def k_cathode_chosen_r5 : List AOper := [
  ⟨(some (14)), .move (.tmp 5), none, []⟩, 
  ⟨(some (15)), .move (.tmp 0), none, []⟩, 
  ⟨(some (16)), .move (.tmp 7), none, []⟩, 
  ⟨(some (17)), .indexAddr 3 (.tmp 15) (.tmp 16), none, []⟩, 
  ⟨(some (18)), .load (some (3)) (.tmp 17), none, []⟩, 
  ⟨(some (19)), .buildSlice 3 [.tmp 18], none, []⟩, 
  ⟨(some (20)), .append 3 24 true (.tmp 14) (.tmp 19), none, []⟩, 
  ⟨(some (5)), .move (.tmp 20), none, []⟩]
def k_cathode_chosen_r6 : List AOper := [
  ⟨(some (21)), .bin .plain .add (.tmp 10) (.const (.int .i64 1)), none, []⟩, 
  ⟨(some (10)), .move (.tmp 21), none, []⟩]
def k_cathode_chosen_r7 : ACode := (.seq (.reg k_cathode_chosen_r3 false) (.seq (.cond (.tmp 11) .skip (.exit 0)) (.seq (.block 1 (.seq (.reg k_cathode_chosen_r4 false) (.reg k_cathode_chosen_r5 false))) (.reg k_cathode_chosen_r6 false))))
def k_cathode_chosen_r8 : List AOper := [
  ⟨(some (22)), .move (.tmp 5), none, []⟩, 
  ⟨(some (4)), .move (.tmp 22), none, []⟩]
def k_cathode_chosen : AFun := { params := 2, ntmps := 23, body := (.seq (.reg k_cathode_chosen_r0 false) (.seq (.reg k_cathode_chosen_r1 false) (.seq (.seq (.reg k_cathode_chosen_r2 false) (.block 0 (.loop k_cathode_chosen_r7))) (.seq (.reg k_cathode_chosen_r8 false) .ret)))), res := [.tmp 4] }
theorem k_cathode_chosen_ok : cfun Try.prog Try.f99 = k_cathode_chosen := by kernel_rfl

-- 100: slices.Clone[[]int,int]
def k_slices_Clone_int_int_r0 : List AOper := [
  ⟨(some (2)), .move (.const (.nilsl)), none, []⟩]
def k_slices_Clone_int_int_r1 : List AOper := [
  ⟨(some (3)), .move (.tmp 0), none, []⟩, 
  ⟨(some (4)), .bin .slice .eql (.tmp 3) (.const (.nilsl)), none, []⟩]
def k_slices_Clone_int_int_r2 : List AOper := [
  ⟨(some (2)), .move (.const (.nilsl)), none, []⟩]
def k_slices_Clone_int_int_r3 : List AOper := [
  ⟨(some (5)), .buildSlice 1 [], none, []⟩, 
  ⟨(some (6)), .move (.tmp 0), none, []⟩, 
  ⟨(some (7)), .append 1 8 false (.tmp 5) (.tmp 6), none, []⟩, 
  ⟨(some (2)), .move (.tmp 7), none, []⟩]
def k_slices_Clone_int_int : AFun := { params := 1, ntmps := 8, body := (.seq (.reg k_slices_Clone_int_int_r0 false) (.seq (.seq (.reg k_slices_Clone_int_int_r1 false) (.cond (.tmp 4) (.seq (.reg k_slices_Clone_int_int_r2 false) .ret) .skip)) (.seq (.reg k_slices_Clone_int_int_r3 false) .ret))), res := [.tmp 2] }
theorem k_slices_Clone_int_int_ok : cfun Try.prog Try.f100 = k_slices_Clone_int_int := by kernel_rfl

-- 126: thermion/cathode.lists$1
def k_cathode_lists_1_r0 : List AOper := [
  ⟨(some (4)), .move (.const (.int .i64 1)), none, []⟩]
def k_cathode_lists_1_r1 : List AOper := [
  ⟨(some (7)), .move (.tmp 4), none, []⟩, 
  ⟨(some (8)), .load none (.tmp 1), none, []⟩, 
  ⟨(some (9)), .bin .plain .leq (.tmp 7) (.tmp 8), none, []⟩]
def k_cathode_lists_1_r2 : List AOper := [
  ⟨(some (12)), .move (.tmp 4), none, []⟩, 
  ⟨(some (13)), .makeSlice (.int .i64 0) 8 (.tmp 12) (.tmp 12), none, []⟩, 
  ⟨(some (5)), .move (.tmp 13), none, []⟩]
def k_cathode_lists_1_r3 : List AOper := [
  ⟨(some (6)), .move (.const (.bool true)), none, []⟩]
def k_cathode_lists_1_r4 : List AOper := [
  ⟨(some (14)), .move (.tmp 6), none, []⟩]
def k_cathode_lists_1_r5 : List AOper := [
  ⟨(some (18)), .move (.tmp 0), none, []⟩, 
  ⟨(some (19)), .move (.tmp 5), none, []⟩, 
  ⟨(some (20)), .call (.tmp 18) [.tmp 19], none, []⟩, 
  ⟨(some (21)), .not (.tmp 20), none, []⟩]
def k_cathode_lists_1_r6 : List AOper := [
  ⟨(some (15)), .move (.tmp 5), none, []⟩, 
  ⟨(some (16)), .load none (.tmp 2), none, []⟩, 
  ⟨(some (17)), .call (.const (.fn (.func 127) [] [])) [.tmp 15, .tmp 16], none, []⟩, 
  ⟨(some (6)), .move (.tmp 17), none, []⟩]
def k_cathode_lists_1_r7 : ACode := (.seq (.seq (.reg k_cathode_lists_1_r4 false) (.cond (.tmp 14) .skip (.exit 2))) (.seq (.block 3 (.seq (.reg k_cathode_lists_1_r5 false) (.cond (.tmp 21) .ret .skip))) (.reg k_cathode_lists_1_r6 false)))
def k_cathode_lists_1_r8 : List AOper := [
  ⟨(some (10)), .move (.tmp 4), none, []⟩, 
  ⟨(some (11)), .bin .plain .add (.tmp 10) (.const (.int .i64 1)), none, []⟩, 
  ⟨(some (4)), .move (.tmp 11), none, []⟩]
def k_cathode_lists_1_r9 : ACode := (.seq (.seq (.reg k_cathode_lists_1_r1 false) (.cond (.tmp 9) .skip (.exit 0))) (.seq (.block 1 (.seq (.reg k_cathode_lists_1_r2 false) (.seq (.reg k_cathode_lists_1_r3 false) (.block 2 (.loop k_cathode_lists_1_r7))))) (.reg k_cathode_lists_1_r8 false)))
def k_cathode_lists_1 : AFun := { params := 3, ntmps := 22, body := (.seq (.reg k_cathode_lists_1_r0 false) (.block 0 (.loop k_cathode_lists_1_r9))), res := [] }
theorem k_cathode_lists_1_ok : cfun Try.prog Try.f126 = k_cathode_lists_1 := by kernel_rfl

-- 127: thermion/cathode.advance
def k_cathode_advance_r0 : List AOper := [
  ⟨(some (2)), .box (.tmp 0), none, []⟩, 
  ⟨(some (3)), .box (.tmp 1), none, []⟩, 
  ⟨(some (4)), .box (.const (.bool false)), none, []⟩]
def k_cathode_advance_r1 : List AOper := [
  ⟨(some (7)), .load none (.tmp 2), none, []⟩, 
  ⟨(some (8)), .call (.const (.fn (.func 137) [] [])) [.tmp 7], none, []⟩]
def k_cathode_advance_r2 : List AOper := [
  ⟨(some (5)), .move (.tmp 9), none, []⟩]
def k_cathode_advance_r3 : List AOper := [
  ⟨(some (6)), .move (.tmp 10), none, []⟩]
def k_cathode_advance_r4 : List AOper := [
  ⟨(some (11)), .move (.tmp 6), none, []⟩, 
  ⟨(some (12)), .bin .plain .add (.tmp 11) (.const (.int .i64 1)), none, []⟩, 
  ⟨(some (13)), .load none (.tmp 3), none, []⟩, 
  ⟨(some (14)), .bin .plain .lss (.tmp 12) (.tmp 13), none, []⟩]
def k_cathode_advance_r5 : List AOper := [
  ⟨(some (15)), .load none (.tmp 2), none, []⟩, 
  ⟨(some (16)), .move (.tmp 5), none, []⟩, 
  ⟨(some (17)), .indexAddr 1 (.tmp 15) (.tmp 16), none, []⟩, 
  ⟨(some (18)), .load none (.tmp 17), none, []⟩, 
  ⟨(some (19)), .bin .plain .add (.tmp 18) (.const (.int .i64 1)), none, []⟩, 
  ⟨(some (20)), .indexAddr 1 (.tmp 15) (.tmp 16), none, []⟩, 
  ⟨none, .store 1 (.tmp 20) (.tmp 19), none, []⟩]
def k_cathode_advance_r6 : List AOper := [
  ⟨none, .store 1 (.tmp 4) (.const (.bool true)), none, []⟩]
def k_cathode_advance_r7 : List AOper := [
  ⟨(some (21)), .load none (.tmp 2), none, []⟩, 
  ⟨(some (22)), .move (.tmp 5), none, []⟩, 
  ⟨(some (23)), .indexAddr 1 (.tmp 21) (.tmp 22), none, []⟩, 
  ⟨none, .store 1 (.tmp 23) (.const (.int .i64 0)), none, []⟩]
def k_cathode_advance_r8 : ACode := (.seq (.reg k_cathode_advance_r2 false) (.reg k_cathode_advance_r3 false))
def k_cathode_advance_r9 : ACode := (.block 1 (.seq (.seq (.reg k_cathode_advance_r4 false) (.cond (.tmp 14) (.seq (.reg k_cathode_advance_r5 false) (.seq (.reg k_cathode_advance_r6 false) .ret)) .skip)) (.reg k_cathode_advance_r7 false)))
def k_cathode_advance_r10 : List AOper := [
  ⟨none, .store 1 (.tmp 4) (.const (.bool false)), none, []⟩]
def k_cathode_advance : AFun := { params := 2, ntmps := 24, body := (.seq (.reg k_cathode_advance_r0 false) (.seq (.seq (.reg k_cathode_advance_r1 false) (.block 0 (.rng (.tmp 8) [9, 10] k_cathode_advance_r8 k_cathode_advance_r9))) (.seq (.reg k_cathode_advance_r10 false) .ret))), res := [.cell 4 (some (none))] }
theorem k_cathode_advance_ok : cfun Try.prog Try.f127 = k_cathode_advance := by kernel_rfl

-- 137: slices.Backward[[]int,int]
def k_slices_Backward_int_int_r0 : List AOper := [
  ⟨(some (1)), .box (.tmp 0), none, []⟩, 
  ⟨(some (2)), .move (.const (.nilfn)), none, []⟩]
def k_slices_Backward_int_int_r1 : List AOper := [
  ⟨(some (3)), .makeFunc (.func 138) [] [.tmp 1], none, []⟩, 
  ⟨(some (2)), .move (.tmp 3), none, []⟩]
def k_slices_Backward_int_int : AFun := { params := 1, ntmps := 4, body := (.seq (.reg k_slices_Backward_int_int_r0 false) (.seq (.reg k_slices_Backward_int_int_r1 false) .ret)), res := [.tmp 2] }
theorem k_slices_Backward_int_int_ok : cfun Try.prog Try.f137 = k_slices_Backward_int_int := by kernel_rfl

-- 138: slices.Backward[[]int,int]$1
def k_slices_Backward_int_int_1_r0 : List AOper := [
  ⟨(some (4)), .load none (.tmp 1), none, []⟩, 
  ⟨(some (5)), .len false (.tmp 4), none, []⟩, 
  ⟨(some (6)), .bin .plain .sub (.tmp 5) (.const (.int .i64 1)), none, []⟩, 
  ⟨(some (3)), .move (.tmp 6), none, []⟩]
def k_slices_Backward_int_int_1_r1 : List AOper := [
  ⟨(some (7)), .move (.tmp 3), none, []⟩, 
  ⟨(some (8)), .bin .plain .geq (.tmp 7) (.const (.int .i64 0)), none, []⟩]
def k_slices_Backward_int_int_1_r2 : List AOper := [
  ⟨(some (11)), .move (.tmp 0), none, []⟩, 
  ⟨(some (12)), .move (.tmp 3), none, []⟩, 
  ⟨(some (13)), .load none (.tmp 1), none, []⟩, 
  ⟨(some (14)), .move (.tmp 3), none, []⟩, 
  ⟨(some (15)), .indexAddr 1 (.tmp 13) (.tmp 14), none, []⟩, 
  ⟨(some (16)), .load none (.tmp 15), none, []⟩, 
  ⟨(some (17)), .call (.tmp 11) [.tmp 12, .tmp 16], none, []⟩, 
  ⟨(some (18)), .not (.tmp 17), none, []⟩]
def k_slices_Backward_int_int_1_r3 : List AOper := [
  ⟨(some (9)), .move (.tmp 3), none, []⟩, 
  ⟨(some (10)), .bin .plain .sub (.tmp 9) (.const (.int .i64 1)), none, []⟩, 
  ⟨(some (3)), .move (.tmp 10), none, []⟩]
def k_slices_Backward_int_int_1_r4 : ACode := (.seq (.seq (.reg k_slices_Backward_int_int_1_r1 false) (.cond (.tmp 8) .skip (.exit 0))) (.seq (.block 1 (.seq (.reg k_slices_Backward_int_int_1_r2 false) (.cond (.tmp 18) .ret .skip))) (.reg k_slices_Backward_int_int_1_r3 false)))
def k_slices_Backward_int_int_1 : AFun := { params := 2, ntmps := 19, body := (.seq (.reg k_slices_Backward_int_int_1_r0 false) (.block 0 (.loop k_slices_Backward_int_int_1_r4))), res := [] }
theorem k_slices_Backward_int_int_1_ok : cfun Try.prog Try.f138 = k_slices_Backward_int_int_1 := by kernel_rfl


abbrev n_law03_CathodeFirst : Nat := 16
theorem e_law03_CathodeFirst : EntryOK Try.prog n_law03_CathodeFirst k_law03_CathodeFirst := ⟨Try.f16, Try.func16, k_law03_CathodeFirst_ok, by kernel_rfl⟩
abbrev n_cathode_Shortest : Nat := 48
theorem e_cathode_Shortest : EntryOK Try.prog n_cathode_Shortest k_cathode_Shortest := ⟨Try.f48, Try.func48, k_cathode_Shortest_ok, by kernel_rfl⟩
abbrev n_kit_Same : Nat := 50
theorem e_kit_Same : EntryOK Try.prog n_kit_Same k_kit_Same := ⟨Try.f50, Try.func50, k_kit_Same_ok, by kernel_rfl⟩
abbrev n_cathode_checkMenu : Nat := 97
theorem e_cathode_checkMenu : EntryOK Try.prog n_cathode_checkMenu k_cathode_checkMenu := ⟨Try.f97, Try.func97, k_cathode_checkMenu_ok, by kernel_rfl⟩
abbrev n_cathode_lists : Nat := 98
theorem e_cathode_lists : EntryOK Try.prog n_cathode_lists k_cathode_lists := ⟨Try.f98, Try.func98, k_cathode_lists_ok, by kernel_rfl⟩
abbrev n_cathode_chosen : Nat := 99
theorem e_cathode_chosen : EntryOK Try.prog n_cathode_chosen k_cathode_chosen := ⟨Try.f99, Try.func99, k_cathode_chosen_ok, by kernel_rfl⟩
abbrev n_slices_Clone_int_int : Nat := 100
theorem e_slices_Clone_int_int : EntryOK Try.prog n_slices_Clone_int_int k_slices_Clone_int_int := ⟨Try.f100, Try.func100, k_slices_Clone_int_int_ok, by kernel_rfl⟩
abbrev n_cathode_lists_1 : Nat := 126
theorem e_cathode_lists_1 : EntryOK Try.prog n_cathode_lists_1 k_cathode_lists_1 := ⟨Try.f126, Try.func126, k_cathode_lists_1_ok, by kernel_rfl⟩
abbrev n_cathode_advance : Nat := 127
theorem e_cathode_advance : EntryOK Try.prog n_cathode_advance k_cathode_advance := ⟨Try.f127, Try.func127, k_cathode_advance_ok, by kernel_rfl⟩
abbrev n_slices_Backward_int_int : Nat := 137
theorem e_slices_Backward_int_int : EntryOK Try.prog n_slices_Backward_int_int k_slices_Backward_int_int := ⟨Try.f137, Try.func137, k_slices_Backward_int_int_ok, by kernel_rfl⟩
abbrev n_slices_Backward_int_int_1 : Nat := 138
theorem e_slices_Backward_int_int_1 : EntryOK Try.prog n_slices_Backward_int_int_1 k_slices_Backward_int_int_1 := ⟨Try.f138, Try.func138, k_slices_Backward_int_int_1_ok, by kernel_rfl⟩

attribute [go_sem] k_law03_CathodeFirst_r0 k_law03_CathodeFirst_r1 k_law03_CathodeFirst_r2 k_law03_CathodeFirst_r3 k_law03_CathodeFirst_r4s k_law03_CathodeFirst_r5 k_law03_CathodeFirst_r6 k_law03_CathodeFirst_r7 k_law03_CathodeFirst_r8 k_law03_CathodeFirst_r9 k_law03_CathodeFirst_r10 k_law03_CathodeFirst_r11
attribute [go_sem] k_law03_CathodeFirst_r12 k_law03_CathodeFirst_r13 k_law03_CathodeFirst_r14 k_law03_CathodeFirst_r15 k_law03_CathodeFirst_r16 k_law03_CathodeFirst_r18 k_law03_CathodeFirst_r19 k_law03_CathodeFirst_r20 k_law03_CathodeFirst_r21 k_law03_CathodeFirst_r22 k_law03_CathodeFirst_r23 k_law03_CathodeFirst_r24
attribute [go_sem] k_law03_CathodeFirst_r25 k_law03_CathodeFirst_r26 k_law03_CathodeFirst_r27 k_law03_CathodeFirst_r28 k_law03_CathodeFirst_r29 k_law03_CathodeFirst_r31 k_law03_CathodeFirst_r32 k_law03_CathodeFirst_r33 k_law03_CathodeFirst_r34 k_law03_CathodeFirst_r35 k_law03_CathodeFirst_r37 k_law03_CathodeFirst_r38
attribute [go_sem] k_law03_CathodeFirst_r39 k_law03_CathodeFirst_r40 k_law03_CathodeFirst_r42 k_law03_CathodeFirst_r44 k_law03_CathodeFirst_r45 k_law03_CathodeFirst_r46 k_cathode_Shortest_r0 k_cathode_Shortest_r1 k_cathode_Shortest_r2 k_cathode_Shortest_r3 k_cathode_Shortest_r4 k_cathode_Shortest_r5
attribute [go_sem] k_cathode_Shortest_r6 k_cathode_Shortest_r7 k_cathode_Shortest_r8 k_cathode_Shortest_r9 k_cathode_Shortest_r10 k_cathode_Shortest_r11 k_cathode_Shortest_r12 k_cathode_Shortest_r13 k_cathode_Shortest_r14 k_cathode_Shortest_r17 k_cathode_Shortest_r18 k_cathode_Shortest_r19s
attribute [go_sem] k_kit_Same_r0 k_kit_Same_r1 k_kit_Same_r2 k_kit_Same_r3 k_kit_Same_r4 k_kit_Same_r5s k_kit_Same_r6 k_kit_Same_r7 k_kit_Same_r9 k_cathode_checkMenu_r0 k_cathode_checkMenu_r1 k_cathode_checkMenu_r2
attribute [go_sem] k_cathode_checkMenu_r3 k_cathode_checkMenu_r4 k_cathode_checkMenu_r5 k_cathode_checkMenu_r6 k_cathode_checkMenu_r7 k_cathode_checkMenu_r8 k_cathode_checkMenu_r9 k_cathode_checkMenu_r10 k_cathode_checkMenu_r11 k_cathode_checkMenu_r12 k_cathode_checkMenu_r13 k_cathode_checkMenu_r15
attribute [go_sem] k_cathode_checkMenu_r16 k_cathode_checkMenu_r17 k_cathode_lists_r0 k_cathode_lists_r1 k_cathode_chosen_r0 k_cathode_chosen_r1 k_cathode_chosen_r2 k_cathode_chosen_r3 k_cathode_chosen_r4 k_cathode_chosen_r5 k_cathode_chosen_r6 k_cathode_chosen_r8
attribute [go_sem] k_slices_Clone_int_int_r0 k_slices_Clone_int_int_r1 k_slices_Clone_int_int_r2 k_slices_Clone_int_int_r3 k_cathode_lists_1_r0 k_cathode_lists_1_r1 k_cathode_lists_1_r2 k_cathode_lists_1_r3 k_cathode_lists_1_r4 k_cathode_lists_1_r5 k_cathode_lists_1_r6 k_cathode_lists_1_r8
attribute [go_sem] k_cathode_advance_r0 k_cathode_advance_r1 k_cathode_advance_r2 k_cathode_advance_r3 k_cathode_advance_r4 k_cathode_advance_r5 k_cathode_advance_r6 k_cathode_advance_r7 k_cathode_advance_r10 k_slices_Backward_int_int_r0 k_slices_Backward_int_int_r1 k_slices_Backward_int_int_1_r0
attribute [go_sem] k_slices_Backward_int_int_1_r1 k_slices_Backward_int_int_1_r2 k_slices_Backward_int_int_1_r3 k_kit_Same_r5_sg k_cathode_Shortest_r19_sg k_law03_CathodeFirst_r4_sg k_kit_Same_r5_st k_cathode_Shortest_r19_st k_law03_CathodeFirst_r4_st k_law03_CathodeFirst k_cathode_Shortest k_kit_Same
attribute [go_sem] k_cathode_checkMenu k_cathode_lists k_cathode_chosen k_slices_Clone_int_int k_cathode_lists_1 k_cathode_advance k_slices_Backward_int_int k_slices_Backward_int_int_1
end Go.Proofs
