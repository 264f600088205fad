/- The compiled code of functions of the program. -/
import Derived.Test.YtgikocfbedopmaaYcCode
import Derived.Test.YtgikocfbedopmaaYdCode
namespace Go.Proofs
open Go Go.Sx

-- 10: thermion/thermionlaw03.CathodeBounds
def k_law03_CathodeBounds_r0 : List AOper := [
  ⟨(some (2)), .move (.const (.bool false)), none, []⟩]
def k_law03_CathodeBounds_r1 : List AOper := [
  ⟨(some (16)), .move (.tmp 0), none, []⟩, 
  ⟨(some (17)), .call (.const (.fn (.func 19) [] [])) [.tmp 16], none, []⟩, 
  ⟨(some (3)), .move (.tmp 17), none, []⟩]
def k_law03_CathodeBounds_r2 : List AOper := [
  ⟨(some (18)), .move (.tmp 3), none, []⟩, 
  ⟨(some (19)), .call (.const (.fn (.func 20) [] [])) [.tmp 18], none, []⟩, 
  ⟨(some (4)), .box (.const (.agg [.int .i64 0, .int .i64 0, .int .i64 0, .int .i64 0, .int .i64 0, .int .i64 0, .nilsl])), none, []⟩, 
  ⟨none, .store 7 (.tmp 4) (.tmp 19), none, []⟩]
def k_law03_CathodeBounds_r3 : List AOper := [
  ⟨(some (20)), .move (.tmp 3), none, []⟩, 
  ⟨(some (21)), .call (.const (.fn (.func 21) [] [])) [.tmp 20, .const (.int .i64 4), .const (.int .i64 9)], none, []⟩, 
  ⟨(some (5)), .move (.tmp 21), none, []⟩]
def k_law03_CathodeBounds_r4 : List AOper := [
  ⟨(some (22)), .move (.tmp 3), none, []⟩, 
  ⟨(some (23)), .load (some (7)) (.tmp 4), none, []⟩, 
  ⟨(some (24)), .move (.tmp 5), none, []⟩, 
  ⟨(some (25)), .call (.const (.fn (.func 41) [] [])) [.tmp 22, .tmp 23, .tmp 24], none, []⟩, 
  ⟨(some (6)), .move (.tmp 25), none, []⟩]
def k_law03_CathodeBounds_r5 : List AOper := [
  ⟨(some (27)), .load (some (7)) (.tmp 4), none, []⟩, 
  ⟨(some (28)), .call (.const (.fn (.func 35) [] [])) [.tmp 27], none, []⟩, 
  ⟨(some (26)), .move (.tmp 28), none, []⟩, 
  ⟨(some (29)), .extract (.tmp 26) 0, none, []⟩, 
  ⟨(some (30)), .extract (.tmp 26) 1, none, []⟩, 
  ⟨(some (7)), .box (.const (.agg [.int .i64 0, .int .i64 0, .int .i64 0, .int .i64 0, .int .i64 0, .int .i64 0, .int .i64 0, .int .i64 0, .int .i64 0, .int .i64 0, .int .i64 0, .int .i64 0, .int .i64 0])), none, []⟩, 
  ⟨none, .store 13 (.tmp 7) (.tmp 29), none, []⟩, 
  ⟨(some (8)), .move (.tmp 30), none, []⟩]
def k_law03_CathodeBounds_r6 : List AOper := [
  ⟨(some (31)), .move (.tmp 8), none, []⟩, 
  ⟨(some (32)), .bin .plain .neq (.tmp 31) (.const (.int .i64 0)), none, []⟩, 
  ⟨(some (33)), .move (.tmp 32), none, []⟩, 
  ⟨(some (34)), .load (some (7)) (.tmp 4), (some (33, false)), []⟩, 
  ⟨(some (35)), .move (.tmp 5), (some (33, false)), []⟩, 
  ⟨(some (36)), .move (.tmp 6), (some (33, false)), []⟩, 
  ⟨(some (37)), .call (.const (.fn (.func 43) [] [])) [.tmp 34, .tmp 35, .tmp 36], (some (33, false)), []⟩, 
  ⟨(some (38)), .not (.tmp 37), (some (33, false)), []⟩, 
  ⟨(some (39)), .pick (.tmp 33) (.const (.bool true)) (.tmp 38), none, []⟩]
def k_law03_CathodeBounds_r7 : List AOper := [
  ⟨(some (2)), .move (.const (.bool false)), none, []⟩]
def k_law03_CathodeBounds_r8 : List AOper := [
  ⟨(some (9)), .move (.const (.int .i64 0)), none, []⟩]
def k_law03_CathodeBounds_r9 : List AOper := [
  ⟨(some (10)), .move (.const (.int .i64 0)), none, []⟩]
def k_law03_CathodeBounds_r10 : List AOper := [
  ⟨(some (40)), .move (.tmp 10), none, []⟩, 
  ⟨(some (41)), .move (.tmp 5), none, []⟩, 
  ⟨(some (42)), .len false (.tmp 41), none, []⟩, 
  ⟨(some (43)), .bin .plain .lss (.tmp 40) (.tmp 42), none, []⟩]
def k_law03_CathodeBounds_r11 : List AOper := [
  ⟨(some (11)), .move (.const (.int .i64 0)), none, []⟩]
def k_law03_CathodeBounds_r12 : List AOper := [
  ⟨(some (46)), .move (.tmp 11), none, []⟩, 
  ⟨(some (47)), .move (.tmp 5), none, []⟩, 
  ⟨(some (48)), .move (.tmp 10), none, []⟩, 
  ⟨(some (49)), .indexAddr 3 (.tmp 47) (.tmp 48), none, []⟩, 
  ⟨(some (50)), .fieldAddr 0 (.tmp 49), none, []⟩, 
  ⟨(some (51)), .load none (.tmp 50), none, []⟩, 
  ⟨(some (52)), .bin .plain .lss (.tmp 46) (.tmp 51), none, []⟩]
def k_law03_CathodeBounds_r13 : List AOper := [
  ⟨(some (56)), .load (some (7)) (.tmp 4), none, []⟩, 
  ⟨(some (57)), .load (some (13)) (.tmp 7), none, [0]⟩, 
  ⟨(some (58)), .move (.tmp 5), none, [0, 1]⟩, 
  ⟨(some (59)), .move (.tmp 10), none, [0, 1, 2]⟩, 
  ⟨(some (60)), .indexAddr 3 (.tmp 58) (.tmp 59), none, [0, 1]⟩, 
  ⟨(some (61)), .fieldAddr 1 (.tmp 60), none, [0, 1]⟩, 
  ⟨(some (62)), .load none (.tmp 61), none, [0, 1]⟩, 
  ⟨(some (63)), .move (.tmp 5), none, [0, 1, 2, 3, 4, 5, 6]⟩, 
  ⟨(some (64)), .move (.tmp 10), none, [0, 1, 2, 3, 4, 5, 6, 7]⟩, 
  ⟨(some (65)), .indexAddr 3 (.tmp 63) (.tmp 64), none, [0, 1, 2, 3, 4, 5, 6]⟩, 
  ⟨(some (66)), .fieldAddr 2 (.tmp 65), none, [0, 1, 2, 3, 4, 5, 6]⟩, 
  ⟨(some (67)), .load none (.tmp 66), none, [0, 1, 2, 3, 4, 5, 6]⟩, 
  ⟨(some (68)), .call (.const (.fn (.func 37) [] [])) [.tmp 56, .tmp 57, .tmp 62, .tmp 67], none, []⟩, 
  ⟨(some (55)), .move (.tmp 68), none, []⟩, 
  ⟨(some (69)), .extract (.tmp 55) 0, none, []⟩, 
  ⟨(some (70)), .extract (.tmp 55) 1, none, [14]⟩, 
  ⟨none, .store 13 (.tmp 7) (.tmp 69), none, [15]⟩, 
  ⟨(some (8)), .move (.tmp 70), none, []⟩]
def k_law03_CathodeBounds_r13s : List (List AOper) := [
  [
  ⟨(some (56)), .load (some (7)) (.tmp 4), none, []⟩, 
  ⟨(some (57)), .load (some (13)) (.tmp 7), none, [0]⟩, 
  ⟨(some (58)), .move (.tmp 5), none, [0, 1]⟩, 
  ⟨(some (59)), .move (.tmp 10), none, [0, 1, 2]⟩, 
  ⟨(some (60)), .indexAddr 3 (.tmp 58) (.tmp 59), none, [0, 1]⟩, 
  ⟨(some (61)), .fieldAddr 1 (.tmp 60), none, [0, 1]⟩, 
  ⟨(some (62)), .load none (.tmp 61), none, [0, 1]⟩, 
  ⟨(some (63)), .move (.tmp 5), none, [0, 1, 2, 3, 4, 5, 6]⟩, 
  ⟨(some (64)), .move (.tmp 10), none, [0, 1, 2, 3, 4, 5, 6, 7]⟩, 
  ⟨(some (65)), .indexAddr 3 (.tmp 63) (.tmp 64), none, [0, 1, 2, 3, 4, 5, 6]⟩, 
  ⟨(some (66)), .fieldAddr 2 (.tmp 65), none, [0, 1, 2, 3, 4, 5, 6]⟩, 
  ⟨(some (67)), .load none (.tmp 66), none, [0, 1, 2, 3, 4, 5, 6]⟩], 
  [
  ⟨(some (68)), .call (.const (.fn (.func 37) [] [])) [.tmp 56, .tmp 57, .tmp 62, .tmp 67], none, []⟩], 
  [
  ⟨(some (55)), .move (.tmp 68), none, []⟩], 
  [
  ⟨(some (69)), .extract (.tmp 55) 0, none, []⟩, 
  ⟨(some (70)), .extract (.tmp 55) 1, none, [14]⟩, 
  ⟨none, .store 13 (.tmp 7) (.tmp 69), none, [15]⟩], 
  [
  ⟨(some (8)), .move (.tmp 70), none, []⟩]]
theorem k_law03_CathodeBounds_r13_sg : segs k_law03_CathodeBounds_r13 = k_law03_CathodeBounds_r13s := by kernel_rfl
theorem k_law03_CathodeBounds_r13_st : statOK k_law03_CathodeBounds_r13 = true := by kernel_rfl
def k_law03_CathodeBounds_r14 : List AOper := [
  ⟨(some (71)), .move (.tmp 9), none, []⟩, 
  ⟨(some (72)), .bin .plain .add (.tmp 71) (.const (.int .i64 1)), none, []⟩, 
  ⟨(some (9)), .move (.tmp 72), none, []⟩]
def k_law03_CathodeBounds_r15 : List AOper := [
  ⟨(some (73)), .move (.tmp 6), none, []⟩, 
  ⟨(some (74)), .move (.tmp 9), none, [0]⟩, 
  ⟨(some (75)), .bin .plain .sub (.tmp 74) (.const (.int .i64 1)), none, [0]⟩, 
  ⟨(some (76)), .indexAddr 4 (.tmp 73) (.tmp 75), none, []⟩, 
  ⟨(some (77)), .fieldAddr 0 (.tmp 76), none, []⟩, 
  ⟨(some (78)), .load none (.tmp 77), none, []⟩, 
  ⟨(some (79)), .move (.tmp 6), none, [0, 1, 2, 3, 4, 5]⟩, 
  ⟨(some (80)), .move (.tmp 9), none, [0, 1, 2, 3, 4, 5, 6]⟩, 
  ⟨(some (81)), .indexAddr 4 (.tmp 79) (.tmp 80), none, [0, 1, 2, 3, 4, 5]⟩, 
  ⟨(some (82)), .fieldAddr 0 (.tmp 81), none, [0, 1, 2, 3, 4, 5]⟩, 
  ⟨(some (83)), .load none (.tmp 82), none, [0, 1, 2, 3, 4, 5]⟩, 
  ⟨(some (84)), .bin .plain .sub (.tmp 78) (.tmp 83), none, []⟩, 
  ⟨(some (12)), .move (.tmp 84), none, []⟩]
def k_law03_CathodeBounds_r15s : List (List AOper) := [
  [
  ⟨(some (73)), .move (.tmp 6), none, []⟩, 
  ⟨(some (74)), .move (.tmp 9), none, [0]⟩, 
  ⟨(some (75)), .bin .plain .sub (.tmp 74) (.const (.int .i64 1)), none, [0]⟩, 
  ⟨(some (76)), .indexAddr 4 (.tmp 73) (.tmp 75), none, []⟩, 
  ⟨(some (77)), .fieldAddr 0 (.tmp 76), none, []⟩, 
  ⟨(some (78)), .load none (.tmp 77), none, []⟩, 
  ⟨(some (79)), .move (.tmp 6), none, [0, 1, 2, 3, 4, 5]⟩, 
  ⟨(some (80)), .move (.tmp 9), none, [0, 1, 2, 3, 4, 5, 6]⟩, 
  ⟨(some (81)), .indexAddr 4 (.tmp 79) (.tmp 80), none, [0, 1, 2, 3, 4, 5]⟩, 
  ⟨(some (82)), .fieldAddr 0 (.tmp 81), none, [0, 1, 2, 3, 4, 5]⟩, 
  ⟨(some (83)), .load none (.tmp 82), none, [0, 1, 2, 3, 4, 5]⟩], 
  [
  ⟨(some (84)), .bin .plain .sub (.tmp 78) (.tmp 83), none, []⟩], 
  [
  ⟨(some (12)), .move (.tmp 84), none, []⟩]]
theorem k_law03_CathodeBounds_r15_sg : segs k_law03_CathodeBounds_r15 = k_law03_CathodeBounds_r15s := by kernel_rfl
theorem k_law03_CathodeBounds_r15_st : statOK k_law03_CathodeBounds_r15 = true := by kernel_rfl
def k_law03_CathodeBounds_r16 : List AOper := [
  ⟨(some (85)), .move (.tmp 6), none, []⟩, 
  ⟨(some (86)), .move (.tmp 9), none, []⟩, 
  ⟨(some (87)), .indexAddr 4 (.tmp 85) (.tmp 86), none, []⟩, 
  ⟨(some (88)), .load (some (4)) (.tmp 87), none, []⟩, 
  ⟨(some (13)), .box (.const (.agg [.int .i64 0, .int .i64 0, .int .i64 0, .int .i64 0])), none, []⟩, 
  ⟨none, .store 4 (.tmp 13) (.tmp 88), none, []⟩]
def k_law03_CathodeBounds_r17 : List AOper := [
  ⟨(some (89)), .move (.tmp 8), none, []⟩, 
  ⟨(some (90)), .bin .plain .neq (.tmp 89) (.const (.int .i64 0)), none, []⟩, 
  ⟨(some (91)), .move (.tmp 90), none, []⟩, 
  ⟨(some (92)), .load (some (13)) (.tmp 7), (some (91, false)), []⟩, 
  ⟨(some (93)), .load (some (4)) (.tmp 13), (some (91, false)), []⟩, 
  ⟨(some (94)), .call (.const (.fn (.func 58) [] [])) [.tmp 92, .tmp 93], (some (91, false)), []⟩, 
  ⟨(some (95)), .not (.tmp 94), (some (91, false)), []⟩, 
  ⟨(some (96)), .pick (.tmp 91) (.const (.bool true)) (.tmp 95), none, []⟩, 
  ⟨(some (97)), .move (.tmp 96), none, []⟩, 
  ⟨(some (98)), .move (.tmp 12), (some (97, false)), []⟩, 
  ⟨(some (99)), .fieldAddr 8 (.tmp 7), (some (97, false)), []⟩, 
  ⟨(some (100)), .fieldAddr 0 (.tmp 99), (some (97, false)), []⟩, 
  ⟨(some (101)), .load none (.tmp 100), (some (97, false)), []⟩, 
  ⟨(some (102)), .bin .plain .lss (.tmp 98) (.tmp 101), (some (97, false)), []⟩, 
  ⟨(some (103)), .pick (.tmp 97) (.const (.bool true)) (.tmp 102), none, []⟩, 
  ⟨(some (104)), .move (.tmp 103), none, []⟩, 
  ⟨(some (105)), .move (.tmp 12), (some (104, false)), []⟩, 
  ⟨(some (106)), .fieldAddr 8 (.tmp 7), (some (104, false)), []⟩, 
  ⟨(some (107)), .fieldAddr 1 (.tmp 106), (some (104, false)), []⟩, 
  ⟨(some (108)), .load none (.tmp 107), (some (104, false)), []⟩, 
  ⟨(some (109)), .bin .plain .gtr (.tmp 105) (.tmp 108), (some (104, false)), []⟩, 
  ⟨(some (110)), .pick (.tmp 104) (.const (.bool true)) (.tmp 109), none, []⟩, 
  ⟨(some (111)), .move (.tmp 110), none, []⟩, 
  ⟨(some (112)), .fieldAddr 0 (.tmp 13), (some (111, false)), []⟩, 
  ⟨(some (113)), .load none (.tmp 112), (some (111, false)), []⟩, 
  ⟨(some (114)), .fieldAddr 1 (.tmp 13), (some (111, false)), []⟩, 
  ⟨(some (115)), .load none (.tmp 114), (some (111, false)), []⟩, 
  ⟨(some (116)), .bin .plain .add (.tmp 113) (.tmp 115), (some (111, false)), []⟩, 
  ⟨(some (117)), .fieldAddr 2 (.tmp 13), (some (111, false)), []⟩, 
  ⟨(some (118)), .load none (.tmp 117), (some (111, false)), []⟩, 
  ⟨(some (119)), .bin .plain .add (.tmp 116) (.tmp 118), (some (111, false)), []⟩, 
  ⟨(some (120)), .fieldAddr 3 (.tmp 13), (some (111, false)), []⟩, 
  ⟨(some (121)), .load none (.tmp 120), (some (111, false)), []⟩, 
  ⟨(some (122)), .bin .plain .add (.tmp 119) (.tmp 121), (some (111, false)), []⟩, 
  ⟨(some (123)), .fieldAddr 0 (.tmp 4), (some (111, false)), []⟩, 
  ⟨(some (124)), .load none (.tmp 123), (some (111, false)), []⟩, 
  ⟨(some (125)), .bin .plain .neq (.tmp 122) (.tmp 124), (some (111, false)), []⟩, 
  ⟨(some (126)), .pick (.tmp 111) (.const (.bool true)) (.tmp 125), none, []⟩]
def k_law03_CathodeBounds_r18 : List AOper := [
  ⟨(some (2)), .move (.const (.bool false)), none, []⟩]
def k_law03_CathodeBounds_r19 : List AOper := [
  ⟨(some (53)), .move (.tmp 11), none, []⟩, 
  ⟨(some (54)), .bin .plain .add (.tmp 53) (.const (.int .i64 1)), none, []⟩, 
  ⟨(some (11)), .move (.tmp 54), none, []⟩]
def k_law03_CathodeBounds_r20 : ACode := (.seq (.seq (.reg k_law03_CathodeBounds_r12 false) (.cond (.tmp 52) .skip (.exit 2))) (.seq (.block 3 (.seq (.reg k_law03_CathodeBounds_r13 true) (.seq (.reg k_law03_CathodeBounds_r14 false) (.seq (.reg k_law03_CathodeBounds_r15 true) (.seq (.reg k_law03_CathodeBounds_r16 false) (.seq (.reg k_law03_CathodeBounds_r17 false) (.cond (.tmp 126) (.seq (.reg k_law03_CathodeBounds_r18 false) .ret) .skip))))))) (.reg k_law03_CathodeBounds_r19 false)))
def k_law03_CathodeBounds_r21 : List AOper := [
  ⟨(some (44)), .move (.tmp 10), none, []⟩, 
  ⟨(some (45)), .bin .plain .add (.tmp 44) (.const (.int .i64 1)), none, []⟩, 
  ⟨(some (10)), .move (.tmp 45), none, []⟩]
def k_law03_CathodeBounds_r22 : ACode := (.seq (.seq (.reg k_law03_CathodeBounds_r10 false) (.cond (.tmp 43) .skip (.exit 0))) (.seq (.block 1 (.seq (.reg k_law03_CathodeBounds_r11 false) (.block 2 (.loop k_law03_CathodeBounds_r20)))) (.reg k_law03_CathodeBounds_r21 false)))
def k_law03_CathodeBounds_r23 : List AOper := [
  ⟨(some (128)), .load (some (7)) (.tmp 4), none, []⟩, 
  ⟨(some (129)), .move (.tmp 5), none, []⟩, 
  ⟨(some (130)), .call (.const (.fn (.func 39) [] [])) [.tmp 128, .tmp 129], none, []⟩, 
  ⟨(some (127)), .move (.tmp 130), none, []⟩, 
  ⟨(some (131)), .extract (.tmp 127) 0, none, []⟩, 
  ⟨(some (132)), .extract (.tmp 127) 1, none, []⟩, 
  ⟨(some (14)), .move (.tmp 131), none, []⟩, 
  ⟨(some (15)), .move (.tmp 132), none, []⟩]
def k_law03_CathodeBounds_r24 : List AOper := [
  ⟨(some (133)), .move (.tmp 15), none, []⟩, 
  ⟨(some (134)), .bin .plain .eql (.tmp 133) (.const (.int .i64 0)), none, []⟩, 
  ⟨(some (135)), .move (.tmp 134), none, []⟩, 
  ⟨(some (136)), .move (.tmp 14), (some (135, true)), []⟩, 
  ⟨(some (137)), .len false (.tmp 136), (some (135, true)), []⟩, 
  ⟨(some (138)), .move (.tmp 5), (some (135, true)), [3, 4]⟩, 
  ⟨(some (139)), .len false (.tmp 138), (some (135, true)), [3, 4]⟩, 
  ⟨(some (140)), .bin .plain .eql (.tmp 137) (.tmp 139), (some (135, true)), []⟩, 
  ⟨(some (141)), .pick (.tmp 135) (.tmp 140) (.const (.bool false)), none, []⟩, 
  ⟨(some (142)), .move (.tmp 141), none, []⟩, 
  ⟨(some (143)), .move (.tmp 5), (some (142, true)), []⟩, 
  ⟨(some (144)), .len false (.tmp 143), (some (142, true)), []⟩, 
  ⟨(some (145)), .bin .plain .eql (.tmp 144) (.const (.int .i64 0)), (some (142, true)), []⟩, 
  ⟨(some (146)), .move (.tmp 145), (some (142, true)), []⟩, 
  ⟨(some (147)), .move (.tmp 14), (some (146, false)), []⟩, 
  ⟨(some (148)), .move (.tmp 5), (some (146, false)), [14]⟩, 
  ⟨(some (149)), .len false (.tmp 148), (some (146, false)), [14]⟩, 
  ⟨(some (150)), .bin .plain .sub (.tmp 149) (.const (.int .i64 1)), (some (146, false)), [14]⟩, 
  ⟨(some (151)), .indexAddr 13 (.tmp 147) (.tmp 150), (some (146, false)), []⟩, 
  ⟨(some (152)), .load (some (13)) (.tmp 151), (some (146, false)), []⟩, 
  ⟨(some (153)), .load (some (13)) (.tmp 7), (some (146, false)), [14, 15, 16, 17, 18, 19]⟩, 
  ⟨(some (154)), .eqAgg false [.int, .int, .int, .int, .int, .int, .int, .int, .int, .int, .int, .int, .int] (.tmp 152) (.tmp 153), (some (146, false)), []⟩, 
  ⟨(some (155)), .pick (.tmp 146) (.const (.bool true)) (.tmp 154), (some (142, true)), []⟩, 
  ⟨(some (156)), .pick (.tmp 142) (.tmp 155) (.const (.bool false)), none, []⟩, 
  ⟨(some (157)), .move (.tmp 156), none, []⟩, 
  ⟨(some (158)), .call (.const (.fn (.func 18) [] [])) [], (some (157, true)), []⟩, 
  ⟨(some (159)), .pick (.tmp 157) (.tmp 158) (.const (.bool false)), none, []⟩, 
  ⟨(some (2)), .move (.tmp 159), none, []⟩]
def k_law03_CathodeBounds_r24s : List (List AOper) := [
  [
  ⟨(some (133)), .move (.tmp 15), none, []⟩], 
  [
  ⟨(some (134)), .bin .plain .eql (.tmp 133) (.const (.int .i64 0)), none, []⟩], 
  [
  ⟨(some (135)), .move (.tmp 134), none, []⟩], 
  [
  ⟨(some (136)), .move (.tmp 14), (some (135, true)), []⟩, 
  ⟨(some (137)), .len false (.tmp 136), (some (135, true)), []⟩, 
  ⟨(some (138)), .move (.tmp 5), (some (135, true)), [3, 4]⟩, 
  ⟨(some (139)), .len false (.tmp 138), (some (135, true)), [3, 4]⟩], 
  [
  ⟨(some (140)), .bin .plain .eql (.tmp 137) (.tmp 139), (some (135, true)), []⟩], 
  [
  ⟨(some (141)), .pick (.tmp 135) (.tmp 140) (.const (.bool false)), none, []⟩], 
  [
  ⟨(some (142)), .move (.tmp 141), none, []⟩], 
  [
  ⟨(some (143)), .move (.tmp 5), (some (142, true)), []⟩], 
  [
  ⟨(some (144)), .len false (.tmp 143), (some (142, true)), []⟩], 
  [
  ⟨(some (145)), .bin .plain .eql (.tmp 144) (.const (.int .i64 0)), (some (142, true)), []⟩], 
  [
  ⟨(some (146)), .move (.tmp 145), (some (142, true)), []⟩], 
  [
  ⟨(some (147)), .move (.tmp 14), (some (146, false)), []⟩, 
  ⟨(some (148)), .move (.tmp 5), (some (146, false)), [14]⟩, 
  ⟨(some (149)), .len false (.tmp 148), (some (146, false)), [14]⟩, 
  ⟨(some (150)), .bin .plain .sub (.tmp 149) (.const (.int .i64 1)), (some (146, false)), [14]⟩, 
  ⟨(some (151)), .indexAddr 13 (.tmp 147) (.tmp 150), (some (146, false)), []⟩, 
  ⟨(some (152)), .load (some (13)) (.tmp 151), (some (146, false)), []⟩, 
  ⟨(some (153)), .load (some (13)) (.tmp 7), (some (146, false)), [14, 15, 16, 17, 18, 19]⟩], 
  [
  ⟨(some (154)), .eqAgg false [.int, .int, .int, .int, .int, .int, .int, .int, .int, .int, .int, .int, .int] (.tmp 152) (.tmp 153), (some (146, false)), []⟩], 
  [
  ⟨(some (155)), .pick (.tmp 146) (.const (.bool true)) (.tmp 154), (some (142, true)), []⟩], 
  [
  ⟨(some (156)), .pick (.tmp 142) (.tmp 155) (.const (.bool false)), none, []⟩], 
  [
  ⟨(some (157)), .move (.tmp 156), none, []⟩], 
  [
  ⟨(some (158)), .call (.const (.fn (.func 18) [] [])) [], (some (157, true)), []⟩], 
  [
  ⟨(some (159)), .pick (.tmp 157) (.tmp 158) (.const (.bool false)), none, []⟩], 
  [
  ⟨(some (2)), .move (.tmp 159), none, []⟩]]
theorem k_law03_CathodeBounds_r24_sg : segs k_law03_CathodeBounds_r24 = k_law03_CathodeBounds_r24s := by kernel_rfl
theorem k_law03_CathodeBounds_r24_st : statOK k_law03_CathodeBounds_r24 = true := by kernel_rfl
def k_law03_CathodeBounds : AFun := { params := 1, ntmps := 160, body := (.seq (.reg k_law03_CathodeBounds_r0 false) (.seq (.reg k_law03_CathodeBounds_r1 false) (.seq (.reg k_law03_CathodeBounds_r2 false) (.seq (.reg k_law03_CathodeBounds_r3 false) (.seq (.reg k_law03_CathodeBounds_r4 false) (.seq (.reg k_law03_CathodeBounds_r5 false) (.seq (.seq (.reg k_law03_CathodeBounds_r6 false) (.cond (.tmp 39) (.seq (.reg k_law03_CathodeBounds_r7 false) .ret) .skip)) (.seq (.reg k_law03_CathodeBounds_r8 false) (.seq (.seq (.reg k_law03_CathodeBounds_r9 false) (.block 0 (.loop k_law03_CathodeBounds_r22))) (.seq (.reg k_law03_CathodeBounds_r23 false) (.seq (.reg k_law03_CathodeBounds_r24 true) .ret))))))))))), res := [.tmp 2] }
theorem k_law03_CathodeBounds_ok : cfun Try.prog Try.f10 = k_law03_CathodeBounds := by kernel_rfl

-- 58: thermion/thermionlaw03.holds
def k_law03_holds_r0 : List AOper := [
  ⟨(some (2)), .box (.tmp 0), none, []⟩, 
  ⟨(some (3)), .box (.tmp 1), none, []⟩, 
  ⟨(some (4)), .move (.const (.bool false)), none, []⟩]
def k_law03_holds_r1 : List AOper := [
  ⟨(some (5)), .fieldAddr 0 (.tmp 3), none, []⟩, 
  ⟨(some (6)), .load none (.tmp 5), none, []⟩, 
  ⟨(some (7)), .fieldAddr 0 (.tmp 2), none, []⟩, 
  ⟨(some (8)), .fieldAddr 0 (.tmp 7), none, []⟩, 
  ⟨(some (9)), .load none (.tmp 8), none, []⟩, 
  ⟨(some (10)), .bin .plain .geq (.tmp 6) (.tmp 9), none, []⟩, 
  ⟨(some (11)), .move (.tmp 10), none, []⟩, 
  ⟨(some (12)), .fieldAddr 0 (.tmp 3), (some (11, true)), []⟩, 
  ⟨(some (13)), .load none (.tmp 12), (some (11, true)), []⟩, 
  ⟨(some (14)), .fieldAddr 0 (.tmp 2), (some (11, true)), []⟩, 
  ⟨(some (15)), .fieldAddr 1 (.tmp 14), (some (11, true)), []⟩, 
  ⟨(some (16)), .load none (.tmp 15), (some (11, true)), []⟩, 
  ⟨(some (17)), .bin .plain .leq (.tmp 13) (.tmp 16), (some (11, true)), []⟩, 
  ⟨(some (18)), .pick (.tmp 11) (.tmp 17) (.const (.bool false)), none, []⟩, 
  ⟨(some (19)), .move (.tmp 18), none, []⟩, 
  ⟨(some (20)), .fieldAddr 1 (.tmp 3), (some (19, true)), []⟩, 
  ⟨(some (21)), .load none (.tmp 20), (some (19, true)), []⟩, 
  ⟨(some (22)), .fieldAddr 2 (.tmp 2), (some (19, true)), []⟩, 
  ⟨(some (23)), .fieldAddr 0 (.tmp 22), (some (19, true)), []⟩, 
  ⟨(some (24)), .load none (.tmp 23), (some (19, true)), []⟩, 
  ⟨(some (25)), .bin .plain .geq (.tmp 21) (.tmp 24), (some (19, true)), []⟩, 
  ⟨(some (26)), .pick (.tmp 19) (.tmp 25) (.const (.bool false)), none, []⟩, 
  ⟨(some (27)), .move (.tmp 26), none, []⟩, 
  ⟨(some (28)), .fieldAddr 1 (.tmp 3), (some (27, true)), []⟩, 
  ⟨(some (29)), .load none (.tmp 28), (some (27, true)), []⟩, 
  ⟨(some (30)), .fieldAddr 2 (.tmp 2), (some (27, true)), []⟩, 
  ⟨(some (31)), .fieldAddr 1 (.tmp 30), (some (27, true)), []⟩, 
  ⟨(some (32)), .load none (.tmp 31), (some (27, true)), []⟩, 
  ⟨(some (33)), .bin .plain .leq (.tmp 29) (.tmp 32), (some (27, true)), []⟩, 
  ⟨(some (34)), .pick (.tmp 27) (.tmp 33) (.const (.bool false)), none, []⟩, 
  ⟨(some (35)), .move (.tmp 34), none, []⟩, 
  ⟨(some (36)), .fieldAddr 2 (.tmp 3), (some (35, true)), []⟩, 
  ⟨(some (37)), .load none (.tmp 36), (some (35, true)), []⟩, 
  ⟨(some (38)), .fieldAddr 4 (.tmp 2), (some (35, true)), []⟩, 
  ⟨(some (39)), .fieldAddr 0 (.tmp 38), (some (35, true)), []⟩, 
  ⟨(some (40)), .load none (.tmp 39), (some (35, true)), []⟩, 
  ⟨(some (41)), .bin .plain .geq (.tmp 37) (.tmp 40), (some (35, true)), []⟩, 
  ⟨(some (42)), .pick (.tmp 35) (.tmp 41) (.const (.bool false)), none, []⟩, 
  ⟨(some (43)), .move (.tmp 42), none, []⟩, 
  ⟨(some (44)), .fieldAddr 2 (.tmp 3), (some (43, true)), []⟩, 
  ⟨(some (45)), .load none (.tmp 44), (some (43, true)), []⟩, 
  ⟨(some (46)), .fieldAddr 4 (.tmp 2), (some (43, true)), []⟩, 
  ⟨(some (47)), .fieldAddr 1 (.tmp 46), (some (43, true)), []⟩, 
  ⟨(some (48)), .load none (.tmp 47), (some (43, true)), []⟩, 
  ⟨(some (49)), .bin .plain .leq (.tmp 45) (.tmp 48), (some (43, true)), []⟩, 
  ⟨(some (50)), .pick (.tmp 43) (.tmp 49) (.const (.bool false)), none, []⟩, 
  ⟨(some (51)), .move (.tmp 50), none, []⟩, 
  ⟨(some (52)), .fieldAddr 3 (.tmp 3), (some (51, true)), []⟩, 
  ⟨(some (53)), .load none (.tmp 52), (some (51, true)), []⟩, 
  ⟨(some (54)), .fieldAddr 6 (.tmp 2), (some (51, true)), []⟩, 
  ⟨(some (55)), .fieldAddr 0 (.tmp 54), (some (51, true)), []⟩, 
  ⟨(some (56)), .load none (.tmp 55), (some (51, true)), []⟩, 
  ⟨(some (57)), .bin .plain .geq (.tmp 53) (.tmp 56), (some (51, true)), []⟩, 
  ⟨(some (58)), .pick (.tmp 51) (.tmp 57) (.const (.bool false)), none, []⟩, 
  ⟨(some (59)), .move (.tmp 58), none, []⟩, 
  ⟨(some (60)), .fieldAddr 3 (.tmp 3), (some (59, true)), []⟩, 
  ⟨(some (61)), .load none (.tmp 60), (some (59, true)), []⟩, 
  ⟨(some (62)), .fieldAddr 6 (.tmp 2), (some (59, true)), []⟩, 
  ⟨(some (63)), .fieldAddr 1 (.tmp 62), (some (59, true)), []⟩, 
  ⟨(some (64)), .load none (.tmp 63), (some (59, true)), []⟩, 
  ⟨(some (65)), .bin .plain .leq (.tmp 61) (.tmp 64), (some (59, true)), []⟩, 
  ⟨(some (66)), .pick (.tmp 59) (.tmp 65) (.const (.bool false)), none, []⟩, 
  ⟨(some (4)), .move (.tmp 66), none, []⟩]
def k_law03_holds : AFun := { params := 2, ntmps := 67, body := (.seq (.reg k_law03_holds_r0 false) (.seq (.reg k_law03_holds_r1 false) .ret)), res := [.tmp 4] }
theorem k_law03_holds_ok : cfun Try.prog Try.f58 = k_law03_holds := by kernel_rfl


abbrev n_law03_CathodeBounds : Nat := 10
theorem e_law03_CathodeBounds : EntryOK Try.prog n_law03_CathodeBounds k_law03_CathodeBounds := ⟨Try.f10, Try.func10, k_law03_CathodeBounds_ok, by kernel_rfl⟩
abbrev n_law03_holds : Nat := 58
theorem e_law03_holds : EntryOK Try.prog n_law03_holds k_law03_holds := ⟨Try.f58, Try.func58, k_law03_holds_ok, by kernel_rfl⟩

attribute [go_sem] k_law03_CathodeBounds_r0 k_law03_CathodeBounds_r1 k_law03_CathodeBounds_r2 k_law03_CathodeBounds_r3 k_law03_CathodeBounds_r4 k_law03_CathodeBounds_r5 k_law03_CathodeBounds_r6 k_law03_CathodeBounds_r7 k_law03_CathodeBounds_r8 k_law03_CathodeBounds_r9 k_law03_CathodeBounds_r10 k_law03_CathodeBounds_r11
attribute [go_sem] k_law03_CathodeBounds_r12 k_law03_CathodeBounds_r13s k_law03_CathodeBounds_r14 k_law03_CathodeBounds_r15s k_law03_CathodeBounds_r16 k_law03_CathodeBounds_r17 k_law03_CathodeBounds_r18 k_law03_CathodeBounds_r19 k_law03_CathodeBounds_r21 k_law03_CathodeBounds_r23 k_law03_CathodeBounds_r24s k_law03_holds_r0
attribute [go_sem] k_law03_holds_r1 k_law03_CathodeBounds_r13_sg k_law03_CathodeBounds_r15_sg k_law03_CathodeBounds_r24_sg k_law03_CathodeBounds_r13_st k_law03_CathodeBounds_r15_st k_law03_CathodeBounds_r24_st k_law03_CathodeBounds k_law03_holds
end Go.Proofs
