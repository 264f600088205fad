/- The compiled code of functions of the program. -/
import Derived.Test.YtigaafcllfjniaaYcCode
import Derived.Test.YtigaafcllfjniaaYdCode
namespace Go.Proofs
open Go Go.Sx

-- 4: thermion/thermionlaw03.CathodeTicks
def k_law03_CathodeTicks_r0 : List AOper := [
  ⟨(some (5)), .box (.tmp 0), none, []⟩, 
  ⟨(some (6)), .box (.tmp 1), none, []⟩, 
  ⟨(some (10)), .move (.const (.bool false)), none, []⟩]
def k_law03_CathodeTicks_r1 : List AOper := [
  ⟨(some (27)), .fieldAddr 6 (.tmp 5), none, []⟩, 
  ⟨(some (28)), .load none (.tmp 27), none, []⟩, 
  ⟨(some (29)), .len false (.tmp 28), none, []⟩, 
  ⟨(some (30)), .bin .plain .gtr (.tmp 29) (.const (.int .i64 30)), none, []⟩]
def k_law03_CathodeTicks_r2 : List AOper := [
  ⟨(some (31)), .call (.const (.fn (.func 18) [] [])) [], none, []⟩, 
  ⟨(some (10)), .move (.tmp 31), none, []⟩]
def k_law03_CathodeTicks_r3 : List AOper := [
  ⟨(some (32)), .move (.tmp 4), none, []⟩, 
  ⟨(some (33)), .call (.const (.fn (.func 19) [] [])) [.tmp 32], none, []⟩, 
  ⟨(some (11)), .move (.tmp 33), none, []⟩]
def k_law03_CathodeTicks_r4 : List AOper := [
  ⟨(some (34)), .move (.tmp 11), none, []⟩, 
  ⟨(some (35)), .call (.const (.fn (.func 20) [] [])) [.tmp 34], none, []⟩, 
  ⟨(some (12)), .box (.const (.agg [.int .i64 0, .int .i64 0, .int .i64 0, .int .i64 0, .int .i64 0, .int .i64 0, .nilsl])), none, []⟩, 
  ⟨none, .store 7 (.tmp 12) (.tmp 35), none, []⟩]
def k_law03_CathodeTicks_r5 : List AOper := [
  ⟨(some (37)), .load (some (7)) (.tmp 12), none, []⟩, 
  ⟨(some (38)), .move (.tmp 11), none, [0]⟩, 
  ⟨(some (39)), .call (.const (.fn (.func 21) [] [])) [.tmp 38, .const (.int .i64 6), .const (.int .i64 9)], none, [0]⟩, 
  ⟨(some (40)), .call (.const (.fn (.func 34) [] [])) [.tmp 37, .tmp 39], none, []⟩, 
  ⟨(some (36)), .move (.tmp 40), none, []⟩, 
  ⟨(some (41)), .extract (.tmp 36) 0, none, []⟩, 
  ⟨(some (42)), .extract (.tmp 36) 1, none, [5]⟩, 
  ⟨(some (13)), .move (.tmp 41), none, [6]⟩, 
  ⟨(some (14)), .move (.tmp 42), none, []⟩]
def k_law03_CathodeTicks_r5s : List (List AOper) := [
  [
  ⟨(some (37)), .load (some (7)) (.tmp 12), none, []⟩, 
  ⟨(some (38)), .move (.tmp 11), none, [0]⟩, 
  ⟨(some (39)), .call (.const (.fn (.func 21) [] [])) [.tmp 38, .const (.int .i64 6), .const (.int .i64 9)], none, [0]⟩], 
  [
  ⟨(some (40)), .call (.const (.fn (.func 34) [] [])) [.tmp 37, .tmp 39], none, []⟩], 
  [
  ⟨(some (36)), .move (.tmp 40), none, []⟩], 
  [
  ⟨(some (41)), .extract (.tmp 36) 0, none, []⟩, 
  ⟨(some (42)), .extract (.tmp 36) 1, none, [5]⟩, 
  ⟨(some (13)), .move (.tmp 41), none, [6]⟩], 
  [
  ⟨(some (14)), .move (.tmp 42), none, []⟩]]
theorem k_law03_CathodeTicks_r5_sg : segs k_law03_CathodeTicks_r5 = k_law03_CathodeTicks_r5s := by kernel_rfl
theorem k_law03_CathodeTicks_r5_st : statOK k_law03_CathodeTicks_r5 = true := by kernel_rfl
def k_law03_CathodeTicks_r6 : List AOper := [
  ⟨(some (43)), .load (some (13)) (.tmp 6), none, []⟩, 
  ⟨(some (15)), .box (.const (.agg [.int .i64 0, .int .i64 0, .int .i64 0, .int .i64 0, .int .i64 0, .int .i64 0, .int .i64 0, .int .i64 0, .int .i64 0, .int .i64 0, .int .i64 0, .int .i64 0, .int .i64 0])), none, []⟩, 
  ⟨none, .store 13 (.tmp 15) (.tmp 43), none, []⟩]
def k_law03_CathodeTicks_r7 : List AOper := [
  ⟨(some (44)), .move (.tmp 13), none, []⟩, 
  ⟨(some (45)), .len false (.tmp 44), none, []⟩, 
  ⟨(some (46)), .bin .plain .gtr (.tmp 45) (.const (.int .i64 0)), none, []⟩]
def k_law03_CathodeTicks_r8 : List AOper := [
  ⟨(some (47)), .move (.tmp 13), none, []⟩, 
  ⟨(some (48)), .move (.tmp 13), none, []⟩, 
  ⟨(some (49)), .len false (.tmp 48), none, []⟩, 
  ⟨(some (50)), .bin .plain .sub (.tmp 49) (.const (.int .i64 1)), none, []⟩, 
  ⟨(some (51)), .indexAddr 13 (.tmp 47) (.tmp 50), none, []⟩, 
  ⟨(some (52)), .load (some (13)) (.tmp 51), none, []⟩, 
  ⟨none, .store 13 (.tmp 15) (.tmp 52), none, []⟩]
def k_law03_CathodeTicks_r9 : List AOper := [
  ⟨(some (53)), .move (.tmp 11), none, []⟩, 
  ⟨(some (54)), .call (.const (.fn (.func 22) [] [])) [.tmp 53, .const (.int .i64 20)], none, []⟩]
def k_law03_CathodeTicks_r10 : List AOper := [
  ⟨(some (55)), .fieldAddr 10 (.tmp 15), none, []⟩, 
  ⟨(some (56)), .fieldAddr 1 (.tmp 55), none, []⟩, 
  ⟨none, .store 1 (.tmp 56) (.const (.int .i64 1099511627776)), none, []⟩]
def k_law03_CathodeTicks_r11 : List AOper := [
  ⟨(some (57)), .load (some (7)) (.tmp 5), none, []⟩, 
  ⟨(some (58)), .load (some (7)) (.tmp 12), none, [0]⟩, 
  ⟨(some (59)), .load (some (7)) (.tmp 12), none, [0, 1]⟩, 
  ⟨(some (60)), .buildSlice 7 [.tmp 57, .tmp 58, .tmp 59], none, []⟩, 
  ⟨(some (61)), .load (some (13)) (.tmp 6), none, [0, 1, 2, 3]⟩, 
  ⟨(some (62)), .load (some (13)) (.tmp 6), none, [0, 1, 2, 3, 4]⟩, 
  ⟨(some (63)), .load (some (13)) (.tmp 15), none, [0, 1, 2, 3, 4, 5]⟩, 
  ⟨(some (64)), .buildSlice 13 [.tmp 61, .tmp 62, .tmp 63], none, [0, 1, 2, 3]⟩, 
  ⟨(some (16)), .move (.tmp 60), none, [4, 5, 6, 7]⟩, 
  ⟨(some (17)), .move (.tmp 64), none, []⟩]
def k_law03_CathodeTicks_r11s : List (List AOper) := [
  [
  ⟨(some (57)), .load (some (7)) (.tmp 5), none, []⟩, 
  ⟨(some (58)), .load (some (7)) (.tmp 12), none, [0]⟩, 
  ⟨(some (59)), .load (some (7)) (.tmp 12), none, [0, 1]⟩, 
  ⟨(some (60)), .buildSlice 7 [.tmp 57, .tmp 58, .tmp 59], none, []⟩, 
  ⟨(some (61)), .load (some (13)) (.tmp 6), none, [0, 1, 2, 3]⟩, 
  ⟨(some (62)), .load (some (13)) (.tmp 6), none, [0, 1, 2, 3, 4]⟩, 
  ⟨(some (63)), .load (some (13)) (.tmp 15), none, [0, 1, 2, 3, 4, 5]⟩, 
  ⟨(some (64)), .buildSlice 13 [.tmp 61, .tmp 62, .tmp 63], none, [0, 1, 2, 3]⟩, 
  ⟨(some (16)), .move (.tmp 60), none, [4, 5, 6, 7]⟩], 
  [
  ⟨(some (17)), .move (.tmp 64), none, []⟩]]
theorem k_law03_CathodeTicks_r11_sg : segs k_law03_CathodeTicks_r11 = k_law03_CathodeTicks_r11s := by kernel_rfl
theorem k_law03_CathodeTicks_r11_st : statOK k_law03_CathodeTicks_r11 = true := by kernel_rfl
def k_law03_CathodeTicks_r12 : List AOper := [
  ⟨(some (18)), .move (.const (.int .i64 0)), none, []⟩]
def k_law03_CathodeTicks_r13 : List AOper := [
  ⟨(some (65)), .move (.tmp 18), none, []⟩, 
  ⟨(some (66)), .move (.tmp 16), none, []⟩, 
  ⟨(some (67)), .len false (.tmp 66), none, []⟩, 
  ⟨(some (68)), .bin .plain .lss (.tmp 65) (.tmp 67), none, []⟩]
def k_law03_CathodeTicks_r14 : List AOper := [
  ⟨(some (72)), .move (.tmp 16), none, []⟩, 
  ⟨(some (73)), .move (.tmp 18), none, []⟩, 
  ⟨(some (74)), .indexAddr 7 (.tmp 72) (.tmp 73), none, []⟩, 
  ⟨(some (75)), .load (some (7)) (.tmp 74), none, []⟩, 
  ⟨(some (76)), .call (.const (.fn (.func 35) [] [])) [.tmp 75], none, []⟩, 
  ⟨(some (71)), .move (.tmp 76), none, []⟩, 
  ⟨(some (77)), .extract (.tmp 71) 0, none, []⟩, 
  ⟨(some (78)), .extract (.tmp 71) 1, none, []⟩, 
  ⟨(some (19)), .box (.const (.agg [.int .i64 0, .int .i64 0, .int .i64 0, .int .i64 0, .int .i64 0, .int .i64 0, .int .i64 0, .int .i64 0, .int .i64 0, .int .i64 0, .int .i64 0, .int .i64 0, .int .i64 0])), none, []⟩, 
  ⟨none, .store 13 (.tmp 19) (.tmp 77), none, []⟩, 
  ⟨(some (20)), .move (.tmp 78), none, []⟩]
def k_law03_CathodeTicks_r15 : List AOper := [
  ⟨(some (80)), .move (.tmp 16), none, []⟩, 
  ⟨(some (81)), .move (.tmp 18), none, []⟩, 
  ⟨(some (82)), .indexAddr 7 (.tmp 80) (.tmp 81), none, []⟩, 
  ⟨(some (83)), .load (some (7)) (.tmp 82), none, []⟩, 
  ⟨(some (84)), .call (.const (.fn (.func 36) [] [])) [.tmp 83], none, []⟩, 
  ⟨(some (79)), .move (.tmp 84), none, []⟩, 
  ⟨(some (85)), .extract (.tmp 79) 0, none, []⟩, 
  ⟨(some (86)), .extract (.tmp 79) 1, none, []⟩, 
  ⟨(some (21)), .box (.const (.agg [.int .i64 0, .int .i64 0, .int .i64 0, .int .i64 0, .int .i64 0, .int .i64 0, .int .i64 0, .int .i64 0, .int .i64 0, .int .i64 0, .int .i64 0, .int .i64 0, .int .i64 0])), none, []⟩, 
  ⟨none, .store 13 (.tmp 21) (.tmp 85), none, []⟩, 
  ⟨(some (22)), .move (.tmp 86), none, []⟩]
def k_law03_CathodeTicks_r16 : List AOper := [
  ⟨(some (88)), .move (.tmp 16), none, []⟩, 
  ⟨(some (89)), .move (.tmp 18), none, [0]⟩, 
  ⟨(some (90)), .indexAddr 7 (.tmp 88) (.tmp 89), none, []⟩, 
  ⟨(some (91)), .load (some (7)) (.tmp 90), none, []⟩, 
  ⟨(some (92)), .move (.tmp 17), none, [0, 1, 2, 3]⟩, 
  ⟨(some (93)), .move (.tmp 18), none, [0, 1, 2, 3, 4]⟩, 
  ⟨(some (94)), .indexAddr 13 (.tmp 92) (.tmp 93), none, [0, 1, 2, 3]⟩, 
  ⟨(some (95)), .load (some (13)) (.tmp 94), none, [0, 1, 2, 3]⟩, 
  ⟨(some (96)), .move (.tmp 2), none, [0, 1, 2, 3, 4, 5, 6, 7]⟩, 
  ⟨(some (97)), .move (.tmp 3), none, [0, 1, 2, 3, 4, 5, 6, 7, 8]⟩, 
  ⟨(some (98)), .call (.const (.fn (.func 37) [] [])) [.tmp 91, .tmp 95, .tmp 96, .tmp 97], none, []⟩, 
  ⟨(some (87)), .move (.tmp 98), none, []⟩, 
  ⟨(some (99)), .extract (.tmp 87) 0, none, []⟩, 
  ⟨(some (100)), .extract (.tmp 87) 1, none, [12]⟩, 
  ⟨(some (23)), .box (.const (.agg [.int .i64 0, .int .i64 0, .int .i64 0, .int .i64 0, .int .i64 0, .int .i64 0, .int .i64 0, .int .i64 0, .int .i64 0, .int .i64 0, .int .i64 0, .int .i64 0, .int .i64 0])), none, [0, 1, 2, 3, 4, 5, 6, 7, 8, 9, 10, 11, 12, 13]⟩, 
  ⟨none, .store 13 (.tmp 23) (.tmp 99), none, [13]⟩, 
  ⟨(some (24)), .move (.tmp 100), none, []⟩]
def k_law03_CathodeTicks_r16s : List (List AOper) := [
  [
  ⟨(some (88)), .move (.tmp 16), none, []⟩, 
  ⟨(some (89)), .move (.tmp 18), none, [0]⟩, 
  ⟨(some (90)), .indexAddr 7 (.tmp 88) (.tmp 89), none, []⟩, 
  ⟨(some (91)), .load (some (7)) (.tmp 90), none, []⟩, 
  ⟨(some (92)), .move (.tmp 17), none, [0, 1, 2, 3]⟩, 
  ⟨(some (93)), .move (.tmp 18), none, [0, 1, 2, 3, 4]⟩, 
  ⟨(some (94)), .indexAddr 13 (.tmp 92) (.tmp 93), none, [0, 1, 2, 3]⟩, 
  ⟨(some (95)), .load (some (13)) (.tmp 94), none, [0, 1, 2, 3]⟩, 
  ⟨(some (96)), .move (.tmp 2), none, [0, 1, 2, 3, 4, 5, 6, 7]⟩, 
  ⟨(some (97)), .move (.tmp 3), none, [0, 1, 2, 3, 4, 5, 6, 7, 8]⟩, 
  ⟨(some (98)), .call (.const (.fn (.func 37) [] [])) [.tmp 91, .tmp 95, .tmp 96, .tmp 97], none, []⟩, 
  ⟨(some (87)), .move (.tmp 98), none, []⟩, 
  ⟨(some (99)), .extract (.tmp 87) 0, none, []⟩, 
  ⟨(some (100)), .extract (.tmp 87) 1, none, [12]⟩, 
  ⟨(some (23)), .box (.const (.agg [.int .i64 0, .int .i64 0, .int .i64 0, .int .i64 0, .int .i64 0, .int .i64 0, .int .i64 0, .int .i64 0, .int .i64 0, .int .i64 0, .int .i64 0, .int .i64 0, .int .i64 0])), none, [0, 1, 2, 3, 4, 5, 6, 7, 8, 9, 10, 11, 12, 13]⟩, 
  ⟨none, .store 13 (.tmp 23) (.tmp 99), none, [13]⟩], 
  [
  ⟨(some (24)), .move (.tmp 100), none, []⟩]]
theorem k_law03_CathodeTicks_r16_sg : segs k_law03_CathodeTicks_r16 = k_law03_CathodeTicks_r16s := by kernel_rfl
theorem k_law03_CathodeTicks_r16_st : statOK k_law03_CathodeTicks_r16 = true := by kernel_rfl
def k_law03_CathodeTicks_r17 : List AOper := [
  ⟨(some (102)), .move (.tmp 16), none, []⟩, 
  ⟨(some (103)), .move (.tmp 18), none, [0]⟩, 
  ⟨(some (104)), .indexAddr 7 (.tmp 102) (.tmp 103), none, []⟩, 
  ⟨(some (105)), .load (some (7)) (.tmp 104), none, []⟩, 
  ⟨(some (106)), .move (.tmp 17), none, [0, 1, 2, 3]⟩, 
  ⟨(some (107)), .move (.tmp 18), none, [0, 1, 2, 3, 4]⟩, 
  ⟨(some (108)), .indexAddr 13 (.tmp 106) (.tmp 107), none, [0, 1, 2, 3]⟩, 
  ⟨(some (109)), .load (some (13)) (.tmp 108), none, [0, 1, 2, 3]⟩, 
  ⟨(some (110)), .move (.tmp 2), none, [0, 1, 2, 3, 4, 5, 6, 7]⟩, 
  ⟨(some (111)), .move (.tmp 3), none, [0, 1, 2, 3, 4, 5, 6, 7, 8]⟩, 
  ⟨(some (112)), .call (.const (.fn (.func 38) [] [])) [.tmp 105, .tmp 109, .tmp 110, .tmp 111], none, []⟩, 
  ⟨(some (101)), .move (.tmp 112), none, []⟩, 
  ⟨(some (113)), .extract (.tmp 101) 0, none, []⟩, 
  ⟨(some (114)), .extract (.tmp 101) 1, none, [12]⟩, 
  ⟨(some (25)), .box (.const (.agg [.int .i64 0, .int .i64 0, .int .i64 0, .int .i64 0, .int .i64 0, .int .i64 0, .int .i64 0, .int .i64 0, .int .i64 0, .int .i64 0, .int .i64 0, .int .i64 0, .int .i64 0])), none, [0, 1, 2, 3, 4, 5, 6, 7, 8, 9, 10, 11, 12, 13]⟩, 
  ⟨none, .store 13 (.tmp 25) (.tmp 113), none, [13]⟩, 
  ⟨(some (26)), .move (.tmp 114), none, []⟩]
def k_law03_CathodeTicks_r17s : List (List AOper) := [
  [
  ⟨(some (102)), .move (.tmp 16), none, []⟩, 
  ⟨(some (103)), .move (.tmp 18), none, [0]⟩, 
  ⟨(some (104)), .indexAddr 7 (.tmp 102) (.tmp 103), none, []⟩, 
  ⟨(some (105)), .load (some (7)) (.tmp 104), none, []⟩, 
  ⟨(some (106)), .move (.tmp 17), none, [0, 1, 2, 3]⟩, 
  ⟨(some (107)), .move (.tmp 18), none, [0, 1, 2, 3, 4]⟩, 
  ⟨(some (108)), .indexAddr 13 (.tmp 106) (.tmp 107), none, [0, 1, 2, 3]⟩, 
  ⟨(some (109)), .load (some (13)) (.tmp 108), none, [0, 1, 2, 3]⟩, 
  ⟨(some (110)), .move (.tmp 2), none, [0, 1, 2, 3, 4, 5, 6, 7]⟩, 
  ⟨(some (111)), .move (.tmp 3), none, [0, 1, 2, 3, 4, 5, 6, 7, 8]⟩, 
  ⟨(some (112)), .call (.const (.fn (.func 38) [] [])) [.tmp 105, .tmp 109, .tmp 110, .tmp 111], none, []⟩, 
  ⟨(some (101)), .move (.tmp 112), none, []⟩, 
  ⟨(some (113)), .extract (.tmp 101) 0, none, []⟩, 
  ⟨(some (114)), .extract (.tmp 101) 1, none, [12]⟩, 
  ⟨(some (25)), .box (.const (.agg [.int .i64 0, .int .i64 0, .int .i64 0, .int .i64 0, .int .i64 0, .int .i64 0, .int .i64 0, .int .i64 0, .int .i64 0, .int .i64 0, .int .i64 0, .int .i64 0, .int .i64 0])), none, [0, 1, 2, 3, 4, 5, 6, 7, 8, 9, 10, 11, 12, 13]⟩, 
  ⟨none, .store 13 (.tmp 25) (.tmp 113), none, [13]⟩], 
  [
  ⟨(some (26)), .move (.tmp 114), none, []⟩]]
theorem k_law03_CathodeTicks_r17_sg : segs k_law03_CathodeTicks_r17 = k_law03_CathodeTicks_r17s := by kernel_rfl
theorem k_law03_CathodeTicks_r17_st : statOK k_law03_CathodeTicks_r17 = true := by kernel_rfl
def k_law03_CathodeTicks_r18 : List AOper := [
  ⟨(some (115)), .load (some (13)) (.tmp 19), none, []⟩, 
  ⟨(some (116)), .load (some (13)) (.tmp 21), none, []⟩, 
  ⟨(some (117)), .eqAgg true [.int, .int, .int, .int, .int, .int, .int, .int, .int, .int, .int, .int, .int] (.tmp 115) (.tmp 116), none, []⟩, 
  ⟨(some (118)), .move (.tmp 117), none, []⟩, 
  ⟨(some (119)), .move (.tmp 20), (some (118, false)), []⟩, 
  ⟨(some (120)), .move (.tmp 22), (some (118, false)), []⟩, 
  ⟨(some (121)), .bin .plain .neq (.tmp 119) (.tmp 120), (some (118, false)), []⟩, 
  ⟨(some (122)), .pick (.tmp 118) (.const (.bool true)) (.tmp 121), none, []⟩, 
  ⟨(some (123)), .move (.tmp 122), none, []⟩, 
  ⟨(some (124)), .load (some (13)) (.tmp 23), (some (123, false)), []⟩, 
  ⟨(some (125)), .load (some (13)) (.tmp 25), (some (123, false)), []⟩, 
  ⟨(some (126)), .eqAgg true [.int, .int, .int, .int, .int, .int, .int, .int, .int, .int, .int, .int, .int] (.tmp 124) (.tmp 125), (some (123, false)), []⟩, 
  ⟨(some (127)), .pick (.tmp 123) (.const (.bool true)) (.tmp 126), none, []⟩, 
  ⟨(some (128)), .move (.tmp 127), none, []⟩, 
  ⟨(some (129)), .move (.tmp 24), (some (128, false)), []⟩, 
  ⟨(some (130)), .move (.tmp 26), (some (128, false)), []⟩, 
  ⟨(some (131)), .bin .plain .neq (.tmp 129) (.tmp 130), (some (128, false)), []⟩, 
  ⟨(some (132)), .pick (.tmp 128) (.const (.bool true)) (.tmp 131), none, []⟩]
def k_law03_CathodeTicks_r19 : List AOper := [
  ⟨(some (10)), .move (.const (.bool false)), none, []⟩]
def k_law03_CathodeTicks_r20 : List AOper := [
  ⟨(some (69)), .move (.tmp 18), none, []⟩, 
  ⟨(some (70)), .bin .plain .add (.tmp 69) (.const (.int .i64 1)), none, []⟩, 
  ⟨(some (18)), .move (.tmp 70), none, []⟩]
def k_law03_CathodeTicks_r21 : ACode := (.seq (.seq (.reg k_law03_CathodeTicks_r13 false) (.cond (.tmp 68) .skip (.exit 0))) (.seq (.block 1 (.seq (.reg k_law03_CathodeTicks_r14 false) (.seq (.reg k_law03_CathodeTicks_r15 false) (.seq (.reg k_law03_CathodeTicks_r16 true) (.seq (.reg k_law03_CathodeTicks_r17 true) (.seq (.reg k_law03_CathodeTicks_r18 false) (.cond (.tmp 132) (.seq (.reg k_law03_CathodeTicks_r19 false) .ret) .skip))))))) (.reg k_law03_CathodeTicks_r20 false)))
def k_law03_CathodeTicks_r22 : List AOper := [
  ⟨(some (133)), .call (.const (.fn (.func 18) [] [])) [], none, []⟩, 
  ⟨(some (10)), .move (.tmp 133), none, []⟩]
def k_law03_CathodeTicks : AFun := { params := 5, ntmps := 134, body := (.seq (.reg k_law03_CathodeTicks_r0 false) (.seq (.seq (.reg k_law03_CathodeTicks_r1 false) (.cond (.tmp 30) (.seq (.reg k_law03_CathodeTicks_r2 false) .ret) .skip)) (.seq (.reg k_law03_CathodeTicks_r3 false) (.seq (.reg k_law03_CathodeTicks_r4 false) (.seq (.reg k_law03_CathodeTicks_r5 true) (.seq (.reg k_law03_CathodeTicks_r6 false) (.seq (.seq (.reg k_law03_CathodeTicks_r7 false) (.cond (.tmp 46) (.reg k_law03_CathodeTicks_r8 false) .skip)) (.seq (.seq (.reg k_law03_CathodeTicks_r9 false) (.cond (.tmp 54) (.reg k_law03_CathodeTicks_r10 false) .skip)) (.seq (.reg k_law03_CathodeTicks_r11 true) (.seq (.seq (.reg k_law03_CathodeTicks_r12 false) (.block 0 (.loop k_law03_CathodeTicks_r21))) (.seq (.reg k_law03_CathodeTicks_r22 false) .ret))))))))))), res := [.tmp 10] }
theorem k_law03_CathodeTicks_ok : cfun Try.prog Try.f4 = k_law03_CathodeTicks := by kernel_rfl


abbrev n_law03_CathodeTicks : Nat := 4
theorem e_law03_CathodeTicks : EntryOK Try.prog n_law03_CathodeTicks k_law03_CathodeTicks := ⟨Try.f4, Try.func4, k_law03_CathodeTicks_ok, by kernel_rfl⟩

attribute [go_sem] k_law03_CathodeTicks_r0 k_law03_CathodeTicks_r1 k_law03_CathodeTicks_r2 k_law03_CathodeTicks_r3 k_law03_CathodeTicks_r4 k_law03_CathodeTicks_r5s k_law03_CathodeTicks_r6 k_law03_CathodeTicks_r7 k_law03_CathodeTicks_r8 k_law03_CathodeTicks_r9 k_law03_CathodeTicks_r10 k_law03_CathodeTicks_r11s
attribute [go_sem] k_law03_CathodeTicks_r12 k_law03_CathodeTicks_r13 k_law03_CathodeTicks_r14 k_law03_CathodeTicks_r15 k_law03_CathodeTicks_r16s k_law03_CathodeTicks_r17s k_law03_CathodeTicks_r18 k_law03_CathodeTicks_r19 k_law03_CathodeTicks_r20 k_law03_CathodeTicks_r22 k_law03_CathodeTicks_r11_sg k_law03_CathodeTicks_r5_sg
attribute [go_sem] k_law03_CathodeTicks_r16_sg k_law03_CathodeTicks_r17_sg k_law03_CathodeTicks_r11_st k_law03_CathodeTicks_r5_st k_law03_CathodeTicks_r16_st k_law03_CathodeTicks_r17_st k_law03_CathodeTicks
end Go.Proofs
