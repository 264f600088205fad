/- A part of the proof. -/
import Derived.Test.YtoipalbjmbkdeaaPD
set_option linter.unusedSimpArgs false
set_option linter.unusedVariables false
namespace Go.Proofs
open Go Go.Sx

def k_law02_CurveLaws_r0 : List AOper := [
  ⟨(some (6)), .box (.tmp 0), none, []⟩, 
  ⟨(some (12)), .move (.const (.bool false)), none, []⟩]
def k_law02_CurveLaws_r1 : List AOper := [
  ⟨(some (26)), .move (.tmp 5), none, []⟩, 
  ⟨(some (27)), .call (.const (.fn (.func 12) [] [])) [.tmp 26], none, []⟩, 
  ⟨(some (13)), .move (.tmp 27), none, []⟩]
def k_law02_CurveLaws_r2 : List AOper := [
  ⟨(some (28)), .load (some (10)) (.tmp 6), none, []⟩, 
  ⟨(some (29)), .move (.tmp 13), none, [0]⟩, 
  ⟨(some (30)), .call (.const (.fn (.func 13) [] [])) [.tmp 29], none, [0]⟩, 
  ⟨(some (31)), .load (some (10)) (.tmp 6), none, [0, 1, 2]⟩, 
  ⟨(some (32)), .buildSlice 10 [.tmp 28, .tmp 30, .tmp 31], none, []⟩, 
  ⟨(some (33)), .move (.tmp 1), none, [0, 1, 2, 3, 4]⟩, 
  ⟨(some (34)), .move (.tmp 13), none, [0, 1, 2, 3, 4, 5]⟩, 
  ⟨(some (35)), .call (.const (.fn (.func 14) [] [])) [.tmp 34, .const (.int .i64 (-9000)), .const (.int .i64 9000)], none, [0, 3, 4, 5]⟩, 
  ⟨(some (36)), .move (.tmp 13), none, [0, 1, 2, 3, 4, 5, 6, 7]⟩, 
  ⟨(some (37)), .call (.const (.fn (.func 14) [] [])) [.tmp 36, .const (.int .i64 (-9000)), .const (.int .i64 9000)], none, [0, 3, 4, 5]⟩, 
  ⟨(some (38)), .buildSlice 1 [.tmp 33, .tmp 35, .tmp 37], none, [0, 3, 4]⟩, 
  ⟨(some (39)), .move (.tmp 2), none, [0, 1, 2, 3, 4, 5, 6, 7, 8, 9, 10]⟩, 
  ⟨(some (40)), .move (.tmp 13), none, [0, 1, 2, 3, 4, 5, 6, 7, 8, 9, 10, 11]⟩, 
  ⟨(some (41)), .call (.const (.fn (.func 15) [] [])) [.tmp 40, .const (.int .i64 400000)], none, [0, 3, 4, 5, 10, 11]⟩, 
  ⟨(some (42)), .move (.tmp 13), none, [0, 1, 2, 3, 4, 5, 6, 7, 8, 9, 10, 11, 12, 13]⟩, 
  ⟨(some (43)), .call (.const (.fn (.func 15) [] [])) [.tmp 42, .const (.int .i64 400000)], none, [0, 3, 4, 5, 10, 11]⟩, 
  ⟨(some (44)), .buildSlice 1 [.tmp 39, .tmp 41, .tmp 43], none, [0, 3, 4, 5, 10]⟩, 
  ⟨(some (14)), .move (.tmp 32), none, [5, 10, 11, 16]⟩, 
  ⟨(some (15)), .move (.tmp 38), none, [11, 16]⟩, 
  ⟨(some (16)), .move (.tmp 44), none, []⟩]
def k_law02_CurveLaws_r2s : List (List AOper) := [
  [
  ⟨(some (28)), .load (some (10)) (.tmp 6), none, []⟩, 
  ⟨(some (29)), .move (.tmp 13), none, [0]⟩, 
  ⟨(some (30)), .call (.const (.fn (.func 13) [] [])) [.tmp 29], none, [0]⟩, 
  ⟨(some (31)), .load (some (10)) (.tmp 6), none, [0, 1, 2]⟩, 
  ⟨(some (32)), .buildSlice 10 [.tmp 28, .tmp 30, .tmp 31], none, []⟩, 
  ⟨(some (33)), .move (.tmp 1), none, [0, 1, 2, 3, 4]⟩, 
  ⟨(some (34)), .move (.tmp 13), none, [0, 1, 2, 3, 4, 5]⟩, 
  ⟨(some (35)), .call (.const (.fn (.func 14) [] [])) [.tmp 34, .const (.int .i64 (-9000)), .const (.int .i64 9000)], none, [0, 3, 4, 5]⟩, 
  ⟨(some (36)), .move (.tmp 13), none, [0, 1, 2, 3, 4, 5, 6, 7]⟩, 
  ⟨(some (37)), .call (.const (.fn (.func 14) [] [])) [.tmp 36, .const (.int .i64 (-9000)), .const (.int .i64 9000)], none, [0, 3, 4, 5]⟩, 
  ⟨(some (38)), .buildSlice 1 [.tmp 33, .tmp 35, .tmp 37], none, [0, 3, 4]⟩, 
  ⟨(some (39)), .move (.tmp 2), none, [0, 1, 2, 3, 4, 5, 6, 7, 8, 9, 10]⟩, 
  ⟨(some (40)), .move (.tmp 13), none, [0, 1, 2, 3, 4, 5, 6, 7, 8, 9, 10, 11]⟩, 
  ⟨(some (41)), .call (.const (.fn (.func 15) [] [])) [.tmp 40, .const (.int .i64 400000)], none, [0, 3, 4, 5, 10, 11]⟩, 
  ⟨(some (42)), .move (.tmp 13), none, [0, 1, 2, 3, 4, 5, 6, 7, 8, 9, 10, 11, 12, 13]⟩, 
  ⟨(some (43)), .call (.const (.fn (.func 15) [] [])) [.tmp 42, .const (.int .i64 400000)], none, [0, 3, 4, 5, 10, 11]⟩, 
  ⟨(some (44)), .buildSlice 1 [.tmp 39, .tmp 41, .tmp 43], none, [0, 3, 4, 5, 10]⟩, 
  ⟨(some (14)), .move (.tmp 32), none, [5, 10, 11, 16]⟩, 
  ⟨(some (15)), .move (.tmp 38), none, [11, 16]⟩], 
  [
  ⟨(some (16)), .move (.tmp 44), none, []⟩]]
theorem k_law02_CurveLaws_r2_sg : segs k_law02_CurveLaws_r2 = k_law02_CurveLaws_r2s := by kernel_rfl
theorem k_law02_CurveLaws_r2_st : statOK k_law02_CurveLaws_r2 = true := by kernel_rfl
def k_law02_CurveLaws_r3 : List AOper := [
  ⟨(some (17)), .move (.const (.int .i64 0)), none, []⟩]
def k_law02_CurveLaws_r4 : List AOper := [
  ⟨(some (45)), .move (.tmp 17), none, []⟩, 
  ⟨(some (46)), .move (.tmp 14), none, []⟩, 
  ⟨(some (47)), .len false (.tmp 46), none, []⟩, 
  ⟨(some (48)), .bin .plain .lss (.tmp 45) (.tmp 47), none, []⟩]
def k_law02_CurveLaws_r5 : List AOper := [
  ⟨(some (52)), .move (.tmp 14), none, []⟩, 
  ⟨(some (53)), .move (.tmp 17), none, [0]⟩, 
  ⟨(some (54)), .indexAddr 10 (.tmp 52) (.tmp 53), none, []⟩, 
  ⟨(some (55)), .load (some (10)) (.tmp 54), none, []⟩, 
  ⟨(some (56)), .move (.tmp 15), none, [0, 1, 2, 3]⟩, 
  ⟨(some (57)), .move (.tmp 17), none, [0, 1, 2, 3, 4]⟩, 
  ⟨(some (58)), .indexAddr 1 (.tmp 56) (.tmp 57), none, [0, 1, 2, 3]⟩, 
  ⟨(some (59)), .load none (.tmp 58), none, [0, 1, 2, 3]⟩, 
  ⟨(some (60)), .move (.tmp 16), none, [0, 1, 2, 3, 4, 5, 6, 7]⟩, 
  ⟨(some (61)), .move (.tmp 17), none, [0, 1, 2, 3, 4, 5, 6, 7, 8]⟩, 
  ⟨(some (62)), .indexAddr 1 (.tmp 60) (.tmp 61), none, [0, 1, 2, 3, 4, 5, 6, 7]⟩, 
  ⟨(some (63)), .load none (.tmp 62), none, [0, 1, 2, 3, 4, 5, 6, 7]⟩, 
  ⟨(some (64)), .call (.const (.fn (.func 16) [] [])) [.tmp 55, .tmp 59, .tmp 63], none, []⟩, 
  ⟨(some (51)), .move (.tmp 64), none, []⟩, 
  ⟨(some (65)), .extract (.tmp 51) 0, none, []⟩, 
  ⟨(some (66)), .extract (.tmp 51) 1, none, [14]⟩, 
  ⟨(some (18)), .box (.const (.agg [.int .i64 0, .int .i64 0])), none, [0, 1, 2, 3, 4, 5, 6, 7, 8, 9, 10, 11, 12, 13, 14, 15]⟩, 
  ⟨none, .store 2 (.tmp 18) (.tmp 65), none, [15]⟩, 
  ⟨(some (19)), .move (.tmp 66), none, []⟩]
def k_law02_CurveLaws_r5s : List (List AOper) := [
  [
  ⟨(some (52)), .move (.tmp 14), none, []⟩, 
  ⟨(some (53)), .move (.tmp 17), none, [0]⟩, 
  ⟨(some (54)), .indexAddr 10 (.tmp 52) (.tmp 53), none, []⟩, 
  ⟨(some (55)), .load (some (10)) (.tmp 54), none, []⟩, 
  ⟨(some (56)), .move (.tmp 15), none, [0, 1, 2, 3]⟩, 
  ⟨(some (57)), .move (.tmp 17), none, [0, 1, 2, 3, 4]⟩, 
  ⟨(some (58)), .indexAddr 1 (.tmp 56) (.tmp 57), none, [0, 1, 2, 3]⟩, 
  ⟨(some (59)), .load none (.tmp 58), none, [0, 1, 2, 3]⟩, 
  ⟨(some (60)), .move (.tmp 16), none, [0, 1, 2, 3, 4, 5, 6, 7]⟩, 
  ⟨(some (61)), .move (.tmp 17), none, [0, 1, 2, 3, 4, 5, 6, 7, 8]⟩, 
  ⟨(some (62)), .indexAddr 1 (.tmp 60) (.tmp 61), none, [0, 1, 2, 3, 4, 5, 6, 7]⟩, 
  ⟨(some (63)), .load none (.tmp 62), none, [0, 1, 2, 3, 4, 5, 6, 7]⟩, 
  ⟨(some (64)), .call (.const (.fn (.func 16) [] [])) [.tmp 55, .tmp 59, .tmp 63], none, []⟩, 
  ⟨(some (51)), .move (.tmp 64), none, []⟩, 
  ⟨(some (65)), .extract (.tmp 51) 0, none, []⟩, 
  ⟨(some (66)), .extract (.tmp 51) 1, none, [14]⟩, 
  ⟨(some (18)), .box (.const (.agg [.int .i64 0, .int .i64 0])), none, [0, 1, 2, 3, 4, 5, 6, 7, 8, 9, 10, 11, 12, 13, 14, 15]⟩, 
  ⟨none, .store 2 (.tmp 18) (.tmp 65), none, [15]⟩], 
  [
  ⟨(some (19)), .move (.tmp 66), none, []⟩]]
theorem k_law02_CurveLaws_r5_sg : segs k_law02_CurveLaws_r5 = k_law02_CurveLaws_r5s := by kernel_rfl
theorem k_law02_CurveLaws_r5_st : statOK k_law02_CurveLaws_r5 = true := by kernel_rfl
def k_law02_CurveLaws_r6 : List AOper := [
  ⟨(some (68)), .move (.tmp 14), none, []⟩, 
  ⟨(some (69)), .move (.tmp 17), none, [0]⟩, 
  ⟨(some (70)), .indexAddr 10 (.tmp 68) (.tmp 69), none, []⟩, 
  ⟨(some (71)), .load (some (10)) (.tmp 70), none, []⟩, 
  ⟨(some (72)), .move (.tmp 15), none, [0, 1, 2, 3]⟩, 
  ⟨(some (73)), .move (.tmp 17), none, [0, 1, 2, 3, 4]⟩, 
  ⟨(some (74)), .indexAddr 1 (.tmp 72) (.tmp 73), none, [0, 1, 2, 3]⟩, 
  ⟨(some (75)), .load none (.tmp 74), none, [0, 1, 2, 3]⟩, 
  ⟨(some (76)), .move (.tmp 16), none, [0, 1, 2, 3, 4, 5, 6, 7]⟩, 
  ⟨(some (77)), .move (.tmp 17), none, [0, 1, 2, 3, 4, 5, 6, 7, 8]⟩, 
  ⟨(some (78)), .indexAddr 1 (.tmp 76) (.tmp 77), none, [0, 1, 2, 3, 4, 5, 6, 7]⟩, 
  ⟨(some (79)), .load none (.tmp 78), none, [0, 1, 2, 3, 4, 5, 6, 7]⟩, 
  ⟨(some (80)), .call (.const (.fn (.func 17) [] [])) [.tmp 71, .tmp 75, .tmp 79], none, []⟩, 
  ⟨(some (67)), .move (.tmp 80), none, []⟩, 
  ⟨(some (81)), .extract (.tmp 67) 0, none, []⟩, 
  ⟨(some (82)), .extract (.tmp 67) 1, none, [14]⟩, 
  ⟨(some (20)), .box (.const (.agg [.int .i64 0, .int .i64 0])), none, [0, 1, 2, 3, 4, 5, 6, 7, 8, 9, 10, 11, 12, 13, 14, 15]⟩, 
  ⟨none, .store 2 (.tmp 20) (.tmp 81), none, [15]⟩, 
  ⟨(some (21)), .move (.tmp 82), none, []⟩]
def k_law02_CurveLaws_r6s : List (List AOper) := [
  [
  ⟨(some (68)), .move (.tmp 14), none, []⟩, 
  ⟨(some (69)), .move (.tmp 17), none, [0]⟩, 
  ⟨(some (70)), .indexAddr 10 (.tmp 68) (.tmp 69), none, []⟩, 
  ⟨(some (71)), .load (some (10)) (.tmp 70), none, []⟩, 
  ⟨(some (72)), .move (.tmp 15), none, [0, 1, 2, 3]⟩, 
  ⟨(some (73)), .move (.tmp 17), none, [0, 1, 2, 3, 4]⟩, 
  ⟨(some (74)), .indexAddr 1 (.tmp 72) (.tmp 73), none, [0, 1, 2, 3]⟩, 
  ⟨(some (75)), .load none (.tmp 74), none, [0, 1, 2, 3]⟩, 
  ⟨(some (76)), .move (.tmp 16), none, [0, 1, 2, 3, 4, 5, 6, 7]⟩, 
  ⟨(some (77)), .move (.tmp 17), none, [0, 1, 2, 3, 4, 5, 6, 7, 8]⟩, 
  ⟨(some (78)), .indexAddr 1 (.tmp 76) (.tmp 77), none, [0, 1, 2, 3, 4, 5, 6, 7]⟩, 
  ⟨(some (79)), .load none (.tmp 78), none, [0, 1, 2, 3, 4, 5, 6, 7]⟩, 
  ⟨(some (80)), .call (.const (.fn (.func 17) [] [])) [.tmp 71, .tmp 75, .tmp 79], none, []⟩, 
  ⟨(some (67)), .move (.tmp 80), none, []⟩, 
  ⟨(some (81)), .extract (.tmp 67) 0, none, []⟩, 
  ⟨(some (82)), .extract (.tmp 67) 1, none, [14]⟩, 
  ⟨(some (20)), .box (.const (.agg [.int .i64 0, .int .i64 0])), none, [0, 1, 2, 3, 4, 5, 6, 7, 8, 9, 10, 11, 12, 13, 14, 15]⟩, 
  ⟨none, .store 2 (.tmp 20) (.tmp 81), none, [15]⟩], 
  [
  ⟨(some (21)), .move (.tmp 82), none, []⟩]]
theorem k_law02_CurveLaws_r6_sg : segs k_law02_CurveLaws_r6 = k_law02_CurveLaws_r6s := by kernel_rfl
theorem k_law02_CurveLaws_r6_st : statOK k_law02_CurveLaws_r6 = true := by kernel_rfl
def k_law02_CurveLaws_r7 : List AOper := [
  ⟨(some (84)), .move (.tmp 14), none, []⟩, 
  ⟨(some (85)), .move (.tmp 17), none, [0]⟩, 
  ⟨(some (86)), .indexAddr 10 (.tmp 84) (.tmp 85), none, []⟩, 
  ⟨(some (87)), .load (some (10)) (.tmp 86), none, []⟩, 
  ⟨(some (88)), .move (.tmp 15), none, [0, 1, 2, 3]⟩, 
  ⟨(some (89)), .move (.tmp 17), none, [0, 1, 2, 3, 4]⟩, 
  ⟨(some (90)), .indexAddr 1 (.tmp 88) (.tmp 89), none, [0, 1, 2, 3]⟩, 
  ⟨(some (91)), .load none (.tmp 90), none, [0, 1, 2, 3]⟩, 
  ⟨(some (92)), .move (.tmp 16), none, [0, 1, 2, 3, 4, 5, 6, 7]⟩, 
  ⟨(some (93)), .move (.tmp 17), none, [0, 1, 2, 3, 4, 5, 6, 7, 8]⟩, 
  ⟨(some (94)), .indexAddr 1 (.tmp 92) (.tmp 93), none, [0, 1, 2, 3, 4, 5, 6, 7]⟩, 
  ⟨(some (95)), .load none (.tmp 94), none, [0, 1, 2, 3, 4, 5, 6, 7]⟩, 
  ⟨(some (96)), .call (.const (.fn (.func 18) [] [])) [.tmp 87, .tmp 91, .tmp 95], none, []⟩, 
  ⟨(some (83)), .move (.tmp 96), none, []⟩, 
  ⟨(some (97)), .extract (.tmp 83) 0, none, []⟩, 
  ⟨(some (98)), .extract (.tmp 83) 1, none, [14]⟩, 
  ⟨(some (22)), .box (.const (.agg [.int .i64 0, .int .i64 0])), none, [0, 1, 2, 3, 4, 5, 6, 7, 8, 9, 10, 11, 12, 13, 14, 15]⟩, 
  ⟨none, .store 2 (.tmp 22) (.tmp 97), none, [15]⟩, 
  ⟨(some (23)), .move (.tmp 98), none, []⟩]
def k_law02_CurveLaws_r7s : List (List AOper) := [
  [
  ⟨(some (84)), .move (.tmp 14), none, []⟩, 
  ⟨(some (85)), .move (.tmp 17), none, [0]⟩, 
  ⟨(some (86)), .indexAddr 10 (.tmp 84) (.tmp 85), none, []⟩, 
  ⟨(some (87)), .load (some (10)) (.tmp 86), none, []⟩, 
  ⟨(some (88)), .move (.tmp 15), none, [0, 1, 2, 3]⟩, 
  ⟨(some (89)), .move (.tmp 17), none, [0, 1, 2, 3, 4]⟩, 
  ⟨(some (90)), .indexAddr 1 (.tmp 88) (.tmp 89), none, [0, 1, 2, 3]⟩, 
  ⟨(some (91)), .load none (.tmp 90), none, [0, 1, 2, 3]⟩, 
  ⟨(some (92)), .move (.tmp 16), none, [0, 1, 2, 3, 4, 5, 6, 7]⟩, 
  ⟨(some (93)), .move (.tmp 17), none, [0, 1, 2, 3, 4, 5, 6, 7, 8]⟩, 
  ⟨(some (94)), .indexAddr 1 (.tmp 92) (.tmp 93), none, [0, 1, 2, 3, 4, 5, 6, 7]⟩, 
  ⟨(some (95)), .load none (.tmp 94), none, [0, 1, 2, 3, 4, 5, 6, 7]⟩, 
  ⟨(some (96)), .call (.const (.fn (.func 18) [] [])) [.tmp 87, .tmp 91, .tmp 95], none, []⟩, 
  ⟨(some (83)), .move (.tmp 96), none, []⟩, 
  ⟨(some (97)), .extract (.tmp 83) 0, none, []⟩, 
  ⟨(some (98)), .extract (.tmp 83) 1, none, [14]⟩, 
  ⟨(some (22)), .box (.const (.agg [.int .i64 0, .int .i64 0])), none, [0, 1, 2, 3, 4, 5, 6, 7, 8, 9, 10, 11, 12, 13, 14, 15]⟩, 
  ⟨none, .store 2 (.tmp 22) (.tmp 97), none, [15]⟩], 
  [
  ⟨(some (23)), .move (.tmp 98), none, []⟩]]
theorem k_law02_CurveLaws_r7_sg : segs k_law02_CurveLaws_r7 = k_law02_CurveLaws_r7s := by kernel_rfl
theorem k_law02_CurveLaws_r7_st : statOK k_law02_CurveLaws_r7 = true := by kernel_rfl
def k_law02_CurveLaws_r8 : List AOper := [
  ⟨(some (100)), .move (.tmp 14), none, []⟩, 
  ⟨(some (101)), .move (.tmp 17), none, [0]⟩, 
  ⟨(some (102)), .indexAddr 10 (.tmp 100) (.tmp 101), none, []⟩, 
  ⟨(some (103)), .load (some (10)) (.tmp 102), none, []⟩, 
  ⟨(some (104)), .move (.tmp 15), none, [0, 1, 2, 3]⟩, 
  ⟨(some (105)), .move (.tmp 17), none, [0, 1, 2, 3, 4]⟩, 
  ⟨(some (106)), .indexAddr 1 (.tmp 104) (.tmp 105), none, [0, 1, 2, 3]⟩, 
  ⟨(some (107)), .load none (.tmp 106), none, [0, 1, 2, 3]⟩, 
  ⟨(some (108)), .move (.tmp 16), none, [0, 1, 2, 3, 4, 5, 6, 7]⟩, 
  ⟨(some (109)), .move (.tmp 17), none, [0, 1, 2, 3, 4, 5, 6, 7, 8]⟩, 
  ⟨(some (110)), .indexAddr 1 (.tmp 108) (.tmp 109), none, [0, 1, 2, 3, 4, 5, 6, 7]⟩, 
  ⟨(some (111)), .load none (.tmp 110), none, [0, 1, 2, 3, 4, 5, 6, 7]⟩, 
  ⟨(some (112)), .call (.const (.fn (.func 19) [] [])) [.tmp 103, .tmp 107, .tmp 111], none, []⟩, 
  ⟨(some (99)), .move (.tmp 112), none, []⟩, 
  ⟨(some (113)), .extract (.tmp 99) 0, none, []⟩, 
  ⟨(some (114)), .extract (.tmp 99) 1, none, [14]⟩, 
  ⟨(some (24)), .box (.const (.agg [.int .i64 0, .int .i64 0])), none, [0, 1, 2, 3, 4, 5, 6, 7, 8, 9, 10, 11, 12, 13, 14, 15]⟩, 
  ⟨none, .store 2 (.tmp 24) (.tmp 113), none, [15]⟩, 
  ⟨(some (25)), .move (.tmp 114), none, []⟩]
def k_law02_CurveLaws_r8s : List (List AOper) := [
  [
  ⟨(some (100)), .move (.tmp 14), none, []⟩, 
  ⟨(some (101)), .move (.tmp 17), none, [0]⟩, 
  ⟨(some (102)), .indexAddr 10 (.tmp 100) (.tmp 101), none, []⟩, 
  ⟨(some (103)), .load (some (10)) (.tmp 102), none, []⟩, 
  ⟨(some (104)), .move (.tmp 15), none, [0, 1, 2, 3]⟩, 
  ⟨(some (105)), .move (.tmp 17), none, [0, 1, 2, 3, 4]⟩, 
  ⟨(some (106)), .indexAddr 1 (.tmp 104) (.tmp 105), none, [0, 1, 2, 3]⟩, 
  ⟨(some (107)), .load none (.tmp 106), none, [0, 1, 2, 3]⟩, 
  ⟨(some (108)), .move (.tmp 16), none, [0, 1, 2, 3, 4, 5, 6, 7]⟩, 
  ⟨(some (109)), .move (.tmp 17), none, [0, 1, 2, 3, 4, 5, 6, 7, 8]⟩, 
  ⟨(some (110)), .indexAddr 1 (.tmp 108) (.tmp 109), none, [0, 1, 2, 3, 4, 5, 6, 7]⟩, 
  ⟨(some (111)), .load none (.tmp 110), none, [0, 1, 2, 3, 4, 5, 6, 7]⟩, 
  ⟨(some (112)), .call (.const (.fn (.func 19) [] [])) [.tmp 103, .tmp 107, .tmp 111], none, []⟩, 
  ⟨(some (99)), .move (.tmp 112), none, []⟩, 
  ⟨(some (113)), .extract (.tmp 99) 0, none, []⟩, 
  ⟨(some (114)), .extract (.tmp 99) 1, none, [14]⟩, 
  ⟨(some (24)), .box (.const (.agg [.int .i64 0, .int .i64 0])), none, [0, 1, 2, 3, 4, 5, 6, 7, 8, 9, 10, 11, 12, 13, 14, 15]⟩, 
  ⟨none, .store 2 (.tmp 24) (.tmp 113), none, [15]⟩], 
  [
  ⟨(some (25)), .move (.tmp 114), none, []⟩]]
theorem k_law02_CurveLaws_r8_sg : segs k_law02_CurveLaws_r8 = k_law02_CurveLaws_r8s := by kernel_rfl
theorem k_law02_CurveLaws_r8_st : statOK k_law02_CurveLaws_r8 = true := by kernel_rfl
def k_law02_CurveLaws_r9 : List AOper := [
  ⟨(some (115)), .move (.tmp 14), none, []⟩, 
  ⟨(some (116)), .move (.tmp 17), none, [0]⟩, 
  ⟨(some (117)), .indexAddr 10 (.tmp 115) (.tmp 116), none, []⟩, 
  ⟨(some (118)), .load (some (10)) (.tmp 117), none, []⟩, 
  ⟨(some (119)), .call (.const (.fn (.func 20) [] [])) [.tmp 118], none, []⟩, 
  ⟨(some (120)), .move (.tmp 14), none, [0, 1, 2, 3, 4]⟩, 
  ⟨(some (121)), .move (.tmp 17), none, [0, 1, 2, 3, 4, 5]⟩, 
  ⟨(some (122)), .indexAddr 10 (.tmp 120) (.tmp 121), none, [0, 1, 2, 3, 4]⟩, 
  ⟨(some (123)), .load (some (10)) (.tmp 122), none, [0, 1, 2, 3, 4]⟩, 
  ⟨(some (124)), .call (.const (.fn (.func 21) [] [])) [.tmp 123], none, []⟩, 
  ⟨(some (125)), .bin .plain .neq (.tmp 119) (.tmp 124), none, []⟩, 
  ⟨(some (126)), .move (.tmp 125), none, []⟩, 
  ⟨(some (127)), .load (some (2)) (.tmp 18), (some (126, false)), []⟩, 
  ⟨(some (128)), .load (some (2)) (.tmp 20), (some (126, false)), [12]⟩, 
  ⟨(some (129)), .eqAgg true [.int, .int] (.tmp 127) (.tmp 128), (some (126, false)), []⟩, 
  ⟨(some (130)), .pick (.tmp 126) (.const (.bool true)) (.tmp 129), none, []⟩, 
  ⟨(some (131)), .move (.tmp 130), none, []⟩, 
  ⟨(some (132)), .move (.tmp 19), (some (131, false)), []⟩, 
  ⟨(some (133)), .move (.tmp 21), (some (131, false)), [17]⟩, 
  ⟨(some (134)), .bin .plain .neq (.tmp 132) (.tmp 133), (some (131, false)), []⟩, 
  ⟨(some (135)), .pick (.tmp 131) (.const (.bool true)) (.tmp 134), none, []⟩, 
  ⟨(some (136)), .move (.tmp 135), none, []⟩, 
  ⟨(some (137)), .load (some (2)) (.tmp 22), (some (136, false)), []⟩, 
  ⟨(some (138)), .load (some (2)) (.tmp 24), (some (136, false)), [22]⟩, 
  ⟨(some (139)), .eqAgg true [.int, .int] (.tmp 137) (.tmp 138), (some (136, false)), []⟩, 
  ⟨(some (140)), .pick (.tmp 136) (.const (.bool true)) (.tmp 139), none, []⟩, 
  ⟨(some (141)), .move (.tmp 140), none, []⟩, 
  ⟨(some (142)), .move (.tmp 23), (some (141, false)), []⟩, 
  ⟨(some (143)), .move (.tmp 25), (some (141, false)), [27]⟩, 
  ⟨(some (144)), .bin .plain .neq (.tmp 142) (.tmp 143), (some (141, false)), []⟩, 
  ⟨(some (145)), .pick (.tmp 141) (.const (.bool true)) (.tmp 144), none, []⟩]
def k_law02_CurveLaws_r9s : List (List AOper) := [
  [
  ⟨(some (115)), .move (.tmp 14), none, []⟩, 
  ⟨(some (116)), .move (.tmp 17), none, [0]⟩, 
  ⟨(some (117)), .indexAddr 10 (.tmp 115) (.tmp 116), none, []⟩, 
  ⟨(some (118)), .load (some (10)) (.tmp 117), none, []⟩, 
  ⟨(some (119)), .call (.const (.fn (.func 20) [] [])) [.tmp 118], none, []⟩, 
  ⟨(some (120)), .move (.tmp 14), none, [0, 1, 2, 3, 4]⟩, 
  ⟨(some (121)), .move (.tmp 17), none, [0, 1, 2, 3, 4, 5]⟩, 
  ⟨(some (122)), .indexAddr 10 (.tmp 120) (.tmp 121), none, [0, 1, 2, 3, 4]⟩, 
  ⟨(some (123)), .load (some (10)) (.tmp 122), none, [0, 1, 2, 3, 4]⟩], 
  [
  ⟨(some (124)), .call (.const (.fn (.func 21) [] [])) [.tmp 123], none, []⟩], 
  [
  ⟨(some (125)), .bin .plain .neq (.tmp 119) (.tmp 124), none, []⟩], 
  [
  ⟨(some (126)), .move (.tmp 125), none, []⟩], 
  [
  ⟨(some (127)), .load (some (2)) (.tmp 18), (some (126, false)), []⟩, 
  ⟨(some (128)), .load (some (2)) (.tmp 20), (some (126, false)), [12]⟩], 
  [
  ⟨(some (129)), .eqAgg true [.int, .int] (.tmp 127) (.tmp 128), (some (126, false)), []⟩], 
  [
  ⟨(some (130)), .pick (.tmp 126) (.const (.bool true)) (.tmp 129), none, []⟩], 
  [
  ⟨(some (131)), .move (.tmp 130), none, []⟩], 
  [
  ⟨(some (132)), .move (.tmp 19), (some (131, false)), []⟩, 
  ⟨(some (133)), .move (.tmp 21), (some (131, false)), [17]⟩], 
  [
  ⟨(some (134)), .bin .plain .neq (.tmp 132) (.tmp 133), (some (131, false)), []⟩], 
  [
  ⟨(some (135)), .pick (.tmp 131) (.const (.bool true)) (.tmp 134), none, []⟩], 
  [
  ⟨(some (136)), .move (.tmp 135), none, []⟩], 
  [
  ⟨(some (137)), .load (some (2)) (.tmp 22), (some (136, false)), []⟩, 
  ⟨(some (138)), .load (some (2)) (.tmp 24), (some (136, false)), [22]⟩], 
  [
  ⟨(some (139)), .eqAgg true [.int, .int] (.tmp 137) (.tmp 138), (some (136, false)), []⟩], 
  [
  ⟨(some (140)), .pick (.tmp 136) (.const (.bool true)) (.tmp 139), none, []⟩], 
  [
  ⟨(some (141)), .move (.tmp 140), none, []⟩], 
  [
  ⟨(some (142)), .move (.tmp 23), (some (141, false)), []⟩, 
  ⟨(some (143)), .move (.tmp 25), (some (141, false)), [27]⟩], 
  [
  ⟨(some (144)), .bin .plain .neq (.tmp 142) (.tmp 143), (some (141, false)), []⟩], 
  [
  ⟨(some (145)), .pick (.tmp 141) (.const (.bool true)) (.tmp 144), none, []⟩]]
theorem k_law02_CurveLaws_r9_sg : segs k_law02_CurveLaws_r9 = k_law02_CurveLaws_r9s := by kernel_rfl
theorem k_law02_CurveLaws_r9_st : statOK k_law02_CurveLaws_r9 = true := by kernel_rfl
def k_law02_CurveLaws_r10 : List AOper := [
  ⟨(some (12)), .move (.const (.bool false)), none, []⟩]
def k_law02_CurveLaws_r11 : List AOper := [
  ⟨(some (49)), .move (.tmp 17), none, []⟩, 
  ⟨(some (50)), .bin .plain .add (.tmp 49) (.const (.int .i64 1)), none, []⟩, 
  ⟨(some (17)), .move (.tmp 50), none, []⟩]
def k_law02_CurveLaws_r12 : ACode := (.seq (.seq (.reg k_law02_CurveLaws_r4 false) (.cond (.tmp 48) .skip (.exit 0))) (.seq (.block 1 (.seq (.reg k_law02_CurveLaws_r5 true) (.seq (.reg k_law02_CurveLaws_r6 true) (.seq (.reg k_law02_CurveLaws_r7 true) (.seq (.reg k_law02_CurveLaws_r8 true) (.seq (.reg k_law02_CurveLaws_r9 true) (.cond (.tmp 145) (.seq (.reg k_law02_CurveLaws_r10 false) .ret) .skip))))))) (.reg k_law02_CurveLaws_r11 false)))
def k_law02_CurveLaws_r13 : List AOper := [
  ⟨(some (146)), .load (some (10)) (.tmp 6), none, []⟩, 
  ⟨(some (147)), .move (.tmp 3), none, []⟩, 
  ⟨(some (148)), .move (.tmp 4), none, []⟩, 
  ⟨(some (149)), .move (.tmp 5), none, []⟩, 
  ⟨(some (150)), .call (.const (.fn (.func 22) [] [])) [.tmp 146, .tmp 147, .tmp 148, .tmp 149], none, []⟩, 
  ⟨(some (151)), .move (.tmp 150), none, []⟩, 
  ⟨(some (152)), .call (.const (.fn (.func 23) [] [])) [], (some (151, true)), []⟩, 
  ⟨(some (153)), .pick (.tmp 151) (.tmp 152) (.const (.bool false)), none, []⟩, 
  ⟨(some (12)), .move (.tmp 153), none, []⟩]
def k_law02_CurveLaws : AFun := { params := 6, ntmps := 154, body := (.seq (.reg k_law02_CurveLaws_r0 false) (.seq (.reg k_law02_CurveLaws_r1 false) (.seq (.reg k_law02_CurveLaws_r2 true) (.seq (.seq (.reg k_law02_CurveLaws_r3 false) (.block 0 (.loop k_law02_CurveLaws_r12))) (.seq (.reg k_law02_CurveLaws_r13 false) .ret))))), res := [.tmp 12] }
theorem k_law02_CurveLaws_ok : cfun Try.prog Try.f3 = k_law02_CurveLaws := by kernel_rfl

def k_ref02_Drive_r0 : List AOper := [
  ⟨(some (3)), .box (.tmp 0), none, []⟩, 
  ⟨(some (6)), .box (.const (.agg [.int .i64 0, .int .i64 0])), none, []⟩, 
  ⟨(some (7)), .move (.const (.int .i64 0)), none, []⟩]
def k_ref02_Drive_r1 : List AOper := [
  ⟨(some (9)), .load (some (10)) (.tmp 3), none, []⟩, 
  ⟨(some (10)), .call (.const (.fn (.func 21) [] [])) [.tmp 9], none, []⟩, 
  ⟨(some (8)), .move (.tmp 10), none, []⟩]
def k_ref02_Drive_r2 : List AOper := [
  ⟨(some (11)), .move (.tmp 8), none, []⟩, 
  ⟨(some (12)), .bin .plain .neq (.tmp 11) (.const (.int .i64 0)), none, []⟩]
def k_ref02_Drive_r3 : List AOper := [
  ⟨(some (13)), .build [.int .i64 0, .int .i64 0] [], none, []⟩, 
  ⟨(some (14)), .move (.tmp 8), none, []⟩, 
  ⟨none, .store 2 (.tmp 6) (.tmp 13), none, []⟩, 
  ⟨(some (7)), .move (.tmp 14), none, []⟩]
def k_ref02_Drive_r4 : List AOper := [
  ⟨(some (15)), .move (.tmp 1), none, []⟩, 
  ⟨(some (16)), .move (.tmp 2), none, []⟩, 
  ⟨(some (17)), .call (.const (.fn (.func 56) [] [])) [.tmp 15, .tmp 16], none, []⟩, 
  ⟨(some (18)), .not (.tmp 17), none, []⟩]
def k_ref02_Drive_r5 : List AOper := [
  ⟨(some (19)), .build [.int .i64 0, .int .i64 0] [], none, []⟩, 
  ⟨none, .store 2 (.tmp 6) (.tmp 19), none, []⟩, 
  ⟨(some (7)), .move (.const (.int .i64 2)), none, []⟩]
def k_ref02_Drive_r6 : List AOper := [
  ⟨(some (20)), .load (some (10)) (.tmp 3), none, []⟩, 
  ⟨(some (21)), .move (.tmp 1), none, []⟩, 
  ⟨(some (22)), .move (.tmp 2), none, []⟩, 
  ⟨(some (23)), .call (.const (.fn (.func 57) [] [])) [.tmp 20, .tmp 21, .tmp 22], none, []⟩, 
  ⟨none, .store 2 (.tmp 6) (.tmp 23), none, []⟩, 
  ⟨(some (7)), .move (.const (.int .i64 0)), none, []⟩]
def k_ref02_Drive : AFun := { params := 3, ntmps := 24, body := (.seq (.reg k_ref02_Drive_r0 false) (.seq (.seq (.reg k_ref02_Drive_r1 false) (.seq (.reg k_ref02_Drive_r2 false) (.cond (.tmp 12) (.seq (.reg k_ref02_Drive_r3 false) .ret) .skip))) (.seq (.seq (.reg k_ref02_Drive_r4 false) (.cond (.tmp 18) (.seq (.reg k_ref02_Drive_r5 false) .ret) .skip)) (.seq (.reg k_ref02_Drive_r6 false) .ret)))), res := [.cell 6 (some ((some (2)))), .tmp 7] }
theorem k_ref02_Drive_ok : cfun Try.prog Try.f17 = k_ref02_Drive := by kernel_rfl

def k_ref02_Current_r0 : List AOper := [
  ⟨(some (3)), .box (.tmp 0), none, []⟩, 
  ⟨(some (6)), .box (.const (.agg [.int .i64 0, .int .i64 0])), none, []⟩, 
  ⟨(some (7)), .move (.const (.int .i64 0)), none, []⟩]
def k_ref02_Current_r1 : List AOper := [
  ⟨(some (9)), .load (some (10)) (.tmp 3), none, []⟩, 
  ⟨(some (10)), .call (.const (.fn (.func 21) [] [])) [.tmp 9], none, []⟩, 
  ⟨(some (8)), .move (.tmp 10), none, []⟩]
def k_ref02_Current_r2 : List AOper := [
  ⟨(some (11)), .move (.tmp 8), none, []⟩, 
  ⟨(some (12)), .bin .plain .neq (.tmp 11) (.const (.int .i64 0)), none, []⟩]
def k_ref02_Current_r3 : List AOper := [
  ⟨(some (13)), .build [.int .i64 0, .int .i64 0] [], none, []⟩, 
  ⟨(some (14)), .move (.tmp 8), none, []⟩, 
  ⟨none, .store 2 (.tmp 6) (.tmp 13), none, []⟩, 
  ⟨(some (7)), .move (.tmp 14), none, []⟩]
def k_ref02_Current_r4 : List AOper := [
  ⟨(some (15)), .move (.tmp 1), none, []⟩, 
  ⟨(some (16)), .move (.tmp 2), none, []⟩, 
  ⟨(some (17)), .call (.const (.fn (.func 56) [] [])) [.tmp 15, .tmp 16], none, []⟩, 
  ⟨(some (18)), .not (.tmp 17), none, []⟩]
def k_ref02_Current_r5 : List AOper := [
  ⟨(some (19)), .build [.int .i64 0, .int .i64 0] [], none, []⟩, 
  ⟨none, .store 2 (.tmp 6) (.tmp 19), none, []⟩, 
  ⟨(some (7)), .move (.const (.int .i64 2)), none, []⟩]
def k_ref02_Current_r6 : List AOper := [
  ⟨(some (20)), .load (some (10)) (.tmp 3), none, []⟩, 
  ⟨(some (21)), .move (.tmp 1), none, []⟩, 
  ⟨(some (22)), .move (.tmp 2), none, []⟩, 
  ⟨(some (23)), .call (.const (.fn (.func 59) [] [])) [.tmp 20, .tmp 21, .tmp 22], none, []⟩, 
  ⟨none, .store 2 (.tmp 6) (.tmp 23), none, []⟩, 
  ⟨(some (7)), .move (.const (.int .i64 0)), none, []⟩]
def k_ref02_Current : AFun := { params := 3, ntmps := 24, body := (.seq (.reg k_ref02_Current_r0 false) (.seq (.seq (.reg k_ref02_Current_r1 false) (.seq (.reg k_ref02_Current_r2 false) (.cond (.tmp 12) (.seq (.reg k_ref02_Current_r3 false) .ret) .skip))) (.seq (.seq (.reg k_ref02_Current_r4 false) (.cond (.tmp 18) (.seq (.reg k_ref02_Current_r5 false) .ret) .skip)) (.seq (.reg k_ref02_Current_r6 false) .ret)))), res := [.cell 6 (some ((some (2)))), .tmp 7] }
theorem k_ref02_Current_ok : cfun Try.prog Try.f19 = k_ref02_Current := by kernel_rfl

def k_law02_families_r0 : List AOper := [
  ⟨(some (4)), .box (.tmp 0), none, []⟩, 
  ⟨(some (8)), .move (.const (.bool false)), none, []⟩]
def k_law02_families_r1 : List AOper := [
  ⟨(some (20)), .move (.tmp 1), none, []⟩, 
  ⟨(some (21)), .move (.tmp 2), none, []⟩, 
  ⟨(some (22)), .buildSlice 1 [.tmp 20, .tmp 21], none, []⟩, 
  ⟨(some (23)), .call (.const (.fn (.func 61) [] [])) [.tmp 22], none, []⟩]
def k_law02_families_r2 : List AOper := [
  ⟨(some (8)), .move (.const (.bool true)), none, []⟩]
def k_law02_families_r3 : List AOper := [
  ⟨(some (24)), .move (.tmp 3), none, []⟩, 
  ⟨(some (25)), .call (.const (.fn (.func 12) [] [])) [.tmp 24], none, []⟩, 
  ⟨(some (9)), .move (.tmp 25), none, []⟩]
def k_law02_families_r4 : List AOper := [
  ⟨(some (26)), .load (some (10)) (.tmp 4), none, []⟩, 
  ⟨(some (27)), .move (.tmp 9), none, [0]⟩, 
  ⟨(some (28)), .call (.const (.fn (.func 13) [] [])) [.tmp 27], none, [0]⟩, 
  ⟨(some (29)), .buildSlice 10 [.tmp 26, .tmp 28], none, []⟩, 
  ⟨(some (30)), .move (.tmp 1), none, [0, 1, 2, 3]⟩, 
  ⟨(some (31)), .move (.tmp 9), none, [0, 1, 2, 3, 4]⟩, 
  ⟨(some (32)), .call (.const (.fn (.func 48) [] [])) [.tmp 31, .const (.int .i64 (-9000)), .const (.int .i64 9000), .const (.int .i64 6)], none, [0, 3, 4]⟩, 
  ⟨(some (33)), .buildSlice 1 [.tmp 30, .tmp 32], none, [0, 3]⟩, 
  ⟨(some (34)), .move (.tmp 2), none, [0, 1, 2, 3, 4, 5, 6, 7]⟩, 
  ⟨(some (35)), .move (.tmp 9), none, [0, 1, 2, 3, 4, 5, 6, 7, 8]⟩, 
  ⟨(some (36)), .call (.const (.fn (.func 48) [] [])) [.tmp 35, .const (.int .i64 0), .const (.int .i64 400000), .const (.int .i64 6)], none, [0, 3, 4, 7, 8]⟩, 
  ⟨(some (37)), .buildSlice 1 [.tmp 34, .tmp 36], none, [0, 3, 4, 7]⟩, 
  ⟨(some (10)), .move (.tmp 29), none, [4, 7, 8, 11]⟩, 
  ⟨(some (11)), .move (.tmp 33), none, [8, 11]⟩, 
  ⟨(some (12)), .move (.tmp 37), none, []⟩]
def k_law02_families_r4s : List (List AOper) := [
  [
  ⟨(some (26)), .load (some (10)) (.tmp 4), none, []⟩, 
  ⟨(some (27)), .move (.tmp 9), none, [0]⟩, 
  ⟨(some (28)), .call (.const (.fn (.func 13) [] [])) [.tmp 27], none, [0]⟩, 
  ⟨(some (29)), .buildSlice 10 [.tmp 26, .tmp 28], none, []⟩, 
  ⟨(some (30)), .move (.tmp 1), none, [0, 1, 2, 3]⟩, 
  ⟨(some (31)), .move (.tmp 9), none, [0, 1, 2, 3, 4]⟩, 
  ⟨(some (32)), .call (.const (.fn (.func 48) [] [])) [.tmp 31, .const (.int .i64 (-9000)), .const (.int .i64 9000), .const (.int .i64 6)], none, [0, 3, 4]⟩, 
  ⟨(some (33)), .buildSlice 1 [.tmp 30, .tmp 32], none, [0, 3]⟩, 
  ⟨(some (34)), .move (.tmp 2), none, [0, 1, 2, 3, 4, 5, 6, 7]⟩, 
  ⟨(some (35)), .move (.tmp 9), none, [0, 1, 2, 3, 4, 5, 6, 7, 8]⟩, 
  ⟨(some (36)), .call (.const (.fn (.func 48) [] [])) [.tmp 35, .const (.int .i64 0), .const (.int .i64 400000), .const (.int .i64 6)], none, [0, 3, 4, 7, 8]⟩, 
  ⟨(some (37)), .buildSlice 1 [.tmp 34, .tmp 36], none, [0, 3, 4, 7]⟩, 
  ⟨(some (10)), .move (.tmp 29), none, [4, 7, 8, 11]⟩, 
  ⟨(some (11)), .move (.tmp 33), none, [8, 11]⟩], 
  [
  ⟨(some (12)), .move (.tmp 37), none, []⟩]]
theorem k_law02_families_r4_sg : segs k_law02_families_r4 = k_law02_families_r4s := by kernel_rfl
theorem k_law02_families_r4_st : statOK k_law02_families_r4 = true := by kernel_rfl
def k_law02_families_r5 : List AOper := [
  ⟨(some (13)), .move (.const (.int .i64 0)), none, []⟩]
def k_law02_families_r6 : List AOper := [
  ⟨(some (38)), .move (.tmp 13), none, []⟩, 
  ⟨(some (39)), .move (.tmp 10), none, []⟩, 
  ⟨(some (40)), .len false (.tmp 39), none, []⟩, 
  ⟨(some (41)), .bin .plain .lss (.tmp 38) (.tmp 40), none, []⟩]
def k_law02_families_r7 : List AOper := [
  ⟨(some (44)), .move (.tmp 11), none, []⟩, 
  ⟨(some (45)), .move (.tmp 13), none, [0]⟩, 
  ⟨(some (46)), .indexAddr 1 (.tmp 44) (.tmp 45), none, []⟩, 
  ⟨(some (47)), .load none (.tmp 46), none, []⟩, 
  ⟨(some (48)), .call (.const (.fn (.func 62) [] [])) [.tmp 47], none, []⟩, 
  ⟨(some (49)), .move (.tmp 12), none, [0, 1, 2, 3, 4]⟩, 
  ⟨(some (50)), .move (.tmp 13), none, [0, 1, 2, 3, 4, 5]⟩, 
  ⟨(some (51)), .indexAddr 1 (.tmp 49) (.tmp 50), none, [0, 1, 2, 3, 4]⟩, 
  ⟨(some (52)), .load none (.tmp 51), none, [0, 1, 2, 3, 4]⟩, 
  ⟨(some (53)), .call (.const (.fn (.func 62) [] [])) [.tmp 52], none, []⟩, 
  ⟨(some (14)), .move (.tmp 48), none, []⟩, 
  ⟨(some (15)), .move (.tmp 53), none, []⟩]
def k_law02_families_r7s : List (List AOper) := [
  [
  ⟨(some (44)), .move (.tmp 11), none, []⟩, 
  ⟨(some (45)), .move (.tmp 13), none, [0]⟩, 
  ⟨(some (46)), .indexAddr 1 (.tmp 44) (.tmp 45), none, []⟩, 
  ⟨(some (47)), .load none (.tmp 46), none, []⟩, 
  ⟨(some (48)), .call (.const (.fn (.func 62) [] [])) [.tmp 47], none, []⟩, 
  ⟨(some (49)), .move (.tmp 12), none, [0, 1, 2, 3, 4]⟩, 
  ⟨(some (50)), .move (.tmp 13), none, [0, 1, 2, 3, 4, 5]⟩, 
  ⟨(some (51)), .indexAddr 1 (.tmp 49) (.tmp 50), none, [0, 1, 2, 3, 4]⟩, 
  ⟨(some (52)), .load none (.tmp 51), none, [0, 1, 2, 3, 4]⟩], 
  [
  ⟨(some (53)), .call (.const (.fn (.func 62) [] [])) [.tmp 52], none, []⟩], 
  [
  ⟨(some (14)), .move (.tmp 48), none, []⟩], 
  [
  ⟨(some (15)), .move (.tmp 53), none, []⟩]]
theorem k_law02_families_r7_sg : segs k_law02_families_r7 = k_law02_families_r7s := by kernel_rfl
theorem k_law02_families_r7_st : statOK k_law02_families_r7 = true := by kernel_rfl
def k_law02_families_r8 : List AOper := [
  ⟨(some (55)), .move (.tmp 10), none, []⟩, 
  ⟨(some (56)), .move (.tmp 13), none, []⟩, 
  ⟨(some (57)), .indexAddr 10 (.tmp 55) (.tmp 56), none, []⟩, 
  ⟨(some (58)), .load (some (10)) (.tmp 57), none, []⟩, 
  ⟨(some (59)), .move (.tmp 14), none, []⟩, 
  ⟨(some (60)), .move (.tmp 15), none, []⟩, 
  ⟨(some (61)), .call (.const (.fn (.func 49) [] [])) [.tmp 58, .tmp 59, .tmp 60], none, []⟩, 
  ⟨(some (54)), .move (.tmp 61), none, []⟩, 
  ⟨(some (62)), .extract (.tmp 54) 0, none, []⟩, 
  ⟨(some (63)), .extract (.tmp 54) 1, none, []⟩, 
  ⟨(some (16)), .box (.const (.agg [.nilsl, .nilsl, .nilsl, .nilsl])), none, []⟩, 
  ⟨none, .store 4 (.tmp 16) (.tmp 62), none, []⟩, 
  ⟨(some (17)), .move (.tmp 63), none, []⟩]
def k_law02_families_r9 : List AOper := [
  ⟨(some (65)), .move (.tmp 10), none, []⟩, 
  ⟨(some (66)), .move (.tmp 13), none, [0]⟩, 
  ⟨(some (67)), .indexAddr 10 (.tmp 65) (.tmp 66), none, []⟩, 
  ⟨(some (68)), .load (some (10)) (.tmp 67), none, []⟩, 
  ⟨(some (69)), .move (.tmp 11), none, [0, 1, 2, 3]⟩, 
  ⟨(some (70)), .move (.tmp 13), none, [0, 1, 2, 3, 4]⟩, 
  ⟨(some (71)), .indexAddr 1 (.tmp 69) (.tmp 70), none, [0, 1, 2, 3]⟩, 
  ⟨(some (72)), .load none (.tmp 71), none, [0, 1, 2, 3]⟩, 
  ⟨(some (73)), .move (.tmp 12), none, [0, 1, 2, 3, 4, 5, 6, 7]⟩, 
  ⟨(some (74)), .move (.tmp 13), none, [0, 1, 2, 3, 4, 5, 6, 7, 8]⟩, 
  ⟨(some (75)), .indexAddr 1 (.tmp 73) (.tmp 74), none, [0, 1, 2, 3, 4, 5, 6, 7]⟩, 
  ⟨(some (76)), .load none (.tmp 75), none, [0, 1, 2, 3, 4, 5, 6, 7]⟩, 
  ⟨(some (77)), .call (.const (.fn (.func 63) [] [])) [.tmp 68, .tmp 72, .tmp 76], none, []⟩, 
  ⟨(some (64)), .move (.tmp 77), none, []⟩, 
  ⟨(some (78)), .extract (.tmp 64) 0, none, []⟩, 
  ⟨(some (79)), .extract (.tmp 64) 1, none, [14]⟩, 
  ⟨(some (18)), .box (.const (.agg [.nilsl, .nilsl, .nilsl, .nilsl])), none, [0, 1, 2, 3, 4, 5, 6, 7, 8, 9, 10, 11, 12, 13, 14, 15]⟩, 
  ⟨none, .store 4 (.tmp 18) (.tmp 78), none, [15]⟩, 
  ⟨(some (19)), .move (.tmp 79), none, []⟩]
def k_law02_families_r9s : List (List AOper) := [
  [
  ⟨(some (65)), .move (.tmp 10), none, []⟩, 
  ⟨(some (66)), .move (.tmp 13), none, [0]⟩, 
  ⟨(some (67)), .indexAddr 10 (.tmp 65) (.tmp 66), none, []⟩, 
  ⟨(some (68)), .load (some (10)) (.tmp 67), none, []⟩, 
  ⟨(some (69)), .move (.tmp 11), none, [0, 1, 2, 3]⟩, 
  ⟨(some (70)), .move (.tmp 13), none, [0, 1, 2, 3, 4]⟩, 
  ⟨(some (71)), .indexAddr 1 (.tmp 69) (.tmp 70), none, [0, 1, 2, 3]⟩, 
  ⟨(some (72)), .load none (.tmp 71), none, [0, 1, 2, 3]⟩, 
  ⟨(some (73)), .move (.tmp 12), none, [0, 1, 2, 3, 4, 5, 6, 7]⟩, 
  ⟨(some (74)), .move (.tmp 13), none, [0, 1, 2, 3, 4, 5, 6, 7, 8]⟩, 
  ⟨(some (75)), .indexAddr 1 (.tmp 73) (.tmp 74), none, [0, 1, 2, 3, 4, 5, 6, 7]⟩, 
  ⟨(some (76)), .load none (.tmp 75), none, [0, 1, 2, 3, 4, 5, 6, 7]⟩, 
  ⟨(some (77)), .call (.const (.fn (.func 63) [] [])) [.tmp 68, .tmp 72, .tmp 76], none, []⟩, 
  ⟨(some (64)), .move (.tmp 77), none, []⟩, 
  ⟨(some (78)), .extract (.tmp 64) 0, none, []⟩, 
  ⟨(some (79)), .extract (.tmp 64) 1, none, [14]⟩, 
  ⟨(some (18)), .box (.const (.agg [.nilsl, .nilsl, .nilsl, .nilsl])), none, [0, 1, 2, 3, 4, 5, 6, 7, 8, 9, 10, 11, 12, 13, 14, 15]⟩, 
  ⟨none, .store 4 (.tmp 18) (.tmp 78), none, [15]⟩], 
  [
  ⟨(some (19)), .move (.tmp 79), none, []⟩]]
theorem k_law02_families_r9_sg : segs k_law02_families_r9 = k_law02_families_r9s := by kernel_rfl
theorem k_law02_families_r9_st : statOK k_law02_families_r9 = true := by kernel_rfl
def k_law02_families_r10 : List AOper := [
  ⟨(some (80)), .move (.tmp 17), none, []⟩, 
  ⟨(some (81)), .move (.tmp 19), none, []⟩, 
  ⟨(some (82)), .bin .plain .neq (.tmp 80) (.tmp 81), none, []⟩, 
  ⟨(some (83)), .move (.tmp 82), none, []⟩, 
  ⟨(some (84)), .load (some (4)) (.tmp 16), (some (83, false)), []⟩, 
  ⟨(some (85)), .load (some (4)) (.tmp 18), (some (83, false)), []⟩, 
  ⟨(some (86)), .call (.const (.fn (.func 30) [] [])) [.tmp 84, .tmp 85], (some (83, false)), []⟩, 
  ⟨(some (87)), .not (.tmp 86), (some (83, false)), []⟩, 
  ⟨(some (88)), .pick (.tmp 83) (.const (.bool true)) (.tmp 87), none, []⟩, 
  ⟨(some (89)), .move (.tmp 88), none, []⟩, 
  ⟨(some (90)), .move (.tmp 14), (some (89, false)), []⟩, 
  ⟨(some (91)), .move (.tmp 11), (some (89, false)), []⟩, 
  ⟨(some (92)), .move (.tmp 13), (some (89, false)), []⟩, 
  ⟨(some (93)), .indexAddr 1 (.tmp 91) (.tmp 92), (some (89, false)), []⟩, 
  ⟨(some (94)), .load none (.tmp 93), (some (89, false)), []⟩, 
  ⟨(some (95)), .call (.const (.fn (.func 64) [] [])) [.tmp 90, .tmp 94], (some (89, false)), []⟩, 
  ⟨(some (96)), .not (.tmp 95), (some (89, false)), []⟩, 
  ⟨(some (97)), .pick (.tmp 89) (.const (.bool true)) (.tmp 96), none, []⟩, 
  ⟨(some (98)), .move (.tmp 97), none, []⟩, 
  ⟨(some (99)), .move (.tmp 15), (some (98, false)), []⟩, 
  ⟨(some (100)), .move (.tmp 12), (some (98, false)), []⟩, 
  ⟨(some (101)), .move (.tmp 13), (some (98, false)), []⟩, 
  ⟨(some (102)), .indexAddr 1 (.tmp 100) (.tmp 101), (some (98, false)), []⟩, 
  ⟨(some (103)), .load none (.tmp 102), (some (98, false)), []⟩, 
  ⟨(some (104)), .call (.const (.fn (.func 64) [] [])) [.tmp 99, .tmp 103], (some (98, false)), []⟩, 
  ⟨(some (105)), .not (.tmp 104), (some (98, false)), []⟩, 
  ⟨(some (106)), .pick (.tmp 98) (.const (.bool true)) (.tmp 105), none, []⟩]
def k_law02_families_r11 : List AOper := [
  ⟨(some (8)), .move (.const (.bool false)), none, []⟩]
def k_law02_families_r12 : List AOper := [
  ⟨(some (42)), .move (.tmp 13), none, []⟩, 
  ⟨(some (43)), .bin .plain .add (.tmp 42) (.const (.int .i64 1)), none, []⟩, 
  ⟨(some (13)), .move (.tmp 43), none, []⟩]
def k_law02_families_r13 : ACode := (.seq (.seq (.reg k_law02_families_r6 false) (.cond (.tmp 41) .skip (.exit 0))) (.seq (.block 1 (.seq (.reg k_law02_families_r7 true) (.seq (.reg k_law02_families_r8 false) (.seq (.reg k_law02_families_r9 true) (.seq (.reg k_law02_families_r10 false) (.cond (.tmp 106) (.seq (.reg k_law02_families_r11 false) .ret) .skip)))))) (.reg k_law02_families_r12 false)))
def k_law02_families_r14 : List AOper := [
  ⟨(some (8)), .move (.const (.bool true)), none, []⟩]
def k_law02_families : AFun := { params := 4, ntmps := 107, body := (.seq (.reg k_law02_families_r0 false) (.seq (.seq (.reg k_law02_families_r1 false) (.cond (.tmp 23) (.seq (.reg k_law02_families_r2 false) .ret) .skip)) (.seq (.reg k_law02_families_r3 false) (.seq (.reg k_law02_families_r4 true) (.seq (.seq (.reg k_law02_families_r5 false) (.block 0 (.loop k_law02_families_r13))) (.seq (.reg k_law02_families_r14 false) .ret)))))), res := [.tmp 8] }
theorem k_law02_families_ok : cfun Try.prog Try.f22 = k_law02_families := by kernel_rfl

def k_ref02_Same_r0 : List AOper := [
  ⟨(some (2)), .box (.tmp 0), none, []⟩, 
  ⟨(some (3)), .box (.tmp 1), none, []⟩, 
  ⟨(some (4)), .move (.const (.bool false)), none, []⟩]
def k_ref02_Same_r1 : List AOper := [
  ⟨(some (5)), .fieldAddr 0 (.tmp 2), none, []⟩, 
  ⟨(some (6)), .load none (.tmp 5), none, []⟩, 
  ⟨(some (7)), .fieldAddr 0 (.tmp 3), none, []⟩, 
  ⟨(some (8)), .load none (.tmp 7), none, []⟩, 
  ⟨(some (9)), .call (.const (.fn (.func 77) [] [])) [.tmp 6, .tmp 8], none, []⟩, 
  ⟨(some (10)), .move (.tmp 9), none, []⟩, 
  ⟨(some (11)), .fieldAddr 1 (.tmp 2), (some (10, true)), []⟩, 
  ⟨(some (12)), .load none (.tmp 11), (some (10, true)), []⟩, 
  ⟨(some (13)), .fieldAddr 1 (.tmp 3), (some (10, true)), []⟩, 
  ⟨(some (14)), .load none (.tmp 13), (some (10, true)), []⟩, 
  ⟨(some (15)), .call (.const (.fn (.func 77) [] [])) [.tmp 12, .tmp 14], (some (10, true)), []⟩, 
  ⟨(some (16)), .pick (.tmp 10) (.tmp 15) (.const (.bool false)), none, []⟩, 
  ⟨(some (17)), .move (.tmp 16), none, []⟩, 
  ⟨(some (18)), .fieldAddr 2 (.tmp 2), (some (17, true)), []⟩, 
  ⟨(some (19)), .load none (.tmp 18), (some (17, true)), []⟩, 
  ⟨(some (20)), .fieldAddr 2 (.tmp 3), (some (17, true)), []⟩, 
  ⟨(some (21)), .load none (.tmp 20), (some (17, true)), []⟩, 
  ⟨(some (22)), .call (.const (.fn (.func 78) [] [])) [.tmp 19, .tmp 21], (some (17, true)), []⟩, 
  ⟨(some (23)), .pick (.tmp 17) (.tmp 22) (.const (.bool false)), none, []⟩, 
  ⟨(some (24)), .move (.tmp 23), none, []⟩, 
  ⟨(some (25)), .fieldAddr 3 (.tmp 2), (some (24, true)), []⟩, 
  ⟨(some (26)), .load none (.tmp 25), (some (24, true)), []⟩, 
  ⟨(some (27)), .fieldAddr 3 (.tmp 3), (some (24, true)), []⟩, 
  ⟨(some (28)), .load none (.tmp 27), (some (24, true)), []⟩, 
  ⟨(some (29)), .call (.const (.fn (.func 78) [] [])) [.tmp 26, .tmp 28], (some (24, true)), []⟩, 
  ⟨(some (30)), .pick (.tmp 24) (.tmp 29) (.const (.bool false)), none, []⟩, 
  ⟨(some (4)), .move (.tmp 30), none, []⟩]
def k_ref02_Same : AFun := { params := 2, ntmps := 31, body := (.seq (.reg k_ref02_Same_r0 false) (.seq (.reg k_ref02_Same_r1 false) .ret)), res := [.tmp 4] }
theorem k_ref02_Same_ok : cfun Try.prog Try.f30 = k_ref02_Same := by kernel_rfl

def k_curve_Of_r0 : List AOper := [
  ⟨(some (3)), .box (.tmp 0), none, []⟩, 
  ⟨(some (6)), .box (.const (.agg [.nilsl, .nilsl, .nilsl, .nilsl])), none, []⟩, 
  ⟨(some (7)), .move (.const (.int .i64 0)), none, []⟩]
def k_curve_Of_r1 : List AOper := [
  ⟨(some (16)), .load (some (10)) (.tmp 3), none, []⟩, 
  ⟨(some (17)), .call (.const (.fn (.func 20) [] [])) [.tmp 16], none, []⟩, 
  ⟨(some (8)), .move (.tmp 17), none, []⟩]
def k_curve_Of_r2 : List AOper := [
  ⟨(some (18)), .move (.tmp 8), none, []⟩, 
  ⟨(some (19)), .bin .plain .neq (.tmp 18) (.const (.int .i64 0)), none, []⟩]
def k_curve_Of_r3 : List AOper := [
  ⟨(some (20)), .build [.nilsl, .nilsl, .nilsl, .nilsl] [], none, []⟩, 
  ⟨(some (21)), .move (.tmp 8), none, []⟩, 
  ⟨none, .store 4 (.tmp 6) (.tmp 20), none, []⟩, 
  ⟨(some (7)), .move (.tmp 21), none, []⟩]
def k_curve_Of_r4 : List AOper := [
  ⟨(some (22)), .move (.tmp 1), none, []⟩, 
  ⟨(some (23)), .move (.tmp 2), none, []⟩, 
  ⟨(some (24)), .call (.const (.fn (.func 69) [] [])) [.tmp 22, .tmp 23], none, []⟩, 
  ⟨(some (9)), .move (.tmp 24), none, []⟩]
def k_curve_Of_r5 : List AOper := [
  ⟨(some (25)), .move (.tmp 9), none, []⟩, 
  ⟨(some (26)), .bin .plain .neq (.tmp 25) (.const (.int .i64 0)), none, []⟩]
def k_curve_Of_r6 : List AOper := [
  ⟨(some (27)), .build [.nilsl, .nilsl, .nilsl, .nilsl] [], none, []⟩, 
  ⟨(some (28)), .move (.tmp 9), none, []⟩, 
  ⟨none, .store 4 (.tmp 6) (.tmp 27), none, []⟩, 
  ⟨(some (7)), .move (.tmp 28), none, []⟩]
def k_curve_Of_r7 : List AOper := [
  ⟨(some (29)), .move (.tmp 1), none, []⟩, 
  ⟨(some (30)), .move (.tmp 2), none, []⟩, 
  ⟨(some (31)), .call (.const (.fn (.func 102) [] [])) [.tmp 29, .tmp 30], none, []⟩, 
  ⟨(some (10)), .box (.const (.agg [.nilsl, .nilsl, .nilsl, .nilsl])), none, []⟩, 
  ⟨none, .store 4 (.tmp 10) (.tmp 31), none, []⟩]
def k_curve_Of_r8 : List AOper := [
  ⟨(some (32)), .move (.tmp 1), none, []⟩, 
  ⟨(some (33)), .len false (.tmp 32), none, []⟩, 
  ⟨(some (34)), .move (.const (.int .i64 0)), none, []⟩]
def k_curve_Of_r9 : List AOper := [
  ⟨(some (35)), .bin .plain .lss (.tmp 34) (.tmp 33), none, []⟩]
def k_curve_Of_r10 : List AOper := [
  ⟨(some (36)), .move (.tmp 34), none, []⟩, 
  ⟨(some (37)), .indexAddr 1 (.tmp 32) (.tmp 34), none, []⟩, 
  ⟨(some (38)), .load none (.tmp 37), none, []⟩, 
  ⟨(some (11)), .move (.tmp 36), none, []⟩, 
  ⟨(some (12)), .move (.tmp 38), none, []⟩]
def k_curve_Of_r11 : List AOper := [
  ⟨(some (39)), .move (.tmp 2), none, []⟩, 
  ⟨(some (40)), .len false (.tmp 39), none, []⟩, 
  ⟨(some (41)), .move (.const (.int .i64 0)), none, []⟩]
def k_curve_Of_r12 : List AOper := [
  ⟨(some (42)), .bin .plain .lss (.tmp 41) (.tmp 40), none, []⟩]
def k_curve_Of_r13 : List AOper := [
  ⟨(some (43)), .move (.tmp 41), none, []⟩, 
  ⟨(some (44)), .indexAddr 1 (.tmp 39) (.tmp 41), none, []⟩, 
  ⟨(some (45)), .load none (.tmp 44), none, []⟩, 
  ⟨(some (13)), .move (.tmp 43), none, []⟩, 
  ⟨(some (14)), .move (.tmp 45), none, []⟩]
def k_curve_Of_r14 : List AOper := [
  ⟨(some (46)), .load (some (10)) (.tmp 3), none, []⟩, 
  ⟨(some (47)), .move (.tmp 12), none, []⟩, 
  ⟨(some (48)), .move (.tmp 14), none, []⟩, 
  ⟨(some (49)), .call (.const (.fn (.func 58) [] [])) [.tmp 46, .tmp 47, .tmp 48], none, []⟩, 
  ⟨(some (15)), .box (.const (.agg [.int .i64 0, .int .i64 0])), none, []⟩, 
  ⟨none, .store 2 (.tmp 15) (.tmp 49), none, []⟩]
def k_curve_Of_r15 : List AOper := [
  ⟨(some (50)), .fieldAddr 2 (.tmp 10), none, []⟩, 
  ⟨(some (51)), .load none (.tmp 50), none, []⟩, 
  ⟨(some (52)), .move (.tmp 11), none, [0, 1]⟩, 
  ⟨(some (53)), .indexAddr 1 (.tmp 51) (.tmp 52), none, []⟩, 
  ⟨(some (54)), .load none (.tmp 53), none, []⟩, 
  ⟨(some (55)), .move (.tmp 13), none, [0, 1, 2, 3, 4]⟩, 
  ⟨(some (56)), .fieldAddr 3 (.tmp 10), none, [0, 1, 2, 3, 4, 5]⟩, 
  ⟨(some (57)), .load none (.tmp 56), none, [0, 1, 2, 3, 4, 5]⟩, 
  ⟨(some (58)), .move (.tmp 11), none, [0, 1, 2, 3, 4, 5, 6, 7]⟩, 
  ⟨(some (59)), .indexAddr 1 (.tmp 57) (.tmp 58), none, [0, 1, 2, 3, 4, 5]⟩, 
  ⟨(some (60)), .load none (.tmp 59), none, [0, 1, 2, 3, 4, 5]⟩, 
  ⟨(some (61)), .move (.tmp 13), none, [0, 1, 2, 3, 4, 5, 6, 7, 8, 9, 10]⟩, 
  ⟨(some (62)), .fieldAddr 0 (.tmp 15), none, [0, 1, 2, 3, 4, 5, 6, 7, 8, 9, 10, 11]⟩, 
  ⟨(some (63)), .load none (.tmp 62), none, [0, 1, 2, 3, 4, 5, 6, 7, 8, 9, 10, 11]⟩, 
  ⟨(some (64)), .fieldAddr 1 (.tmp 15), none, [0, 1, 2, 3, 4, 5, 6, 7, 8, 9, 10, 11, 12, 13]⟩, 
  ⟨(some (65)), .load none (.tmp 64), none, [0, 1, 2, 3, 4, 5, 6, 7, 8, 9, 10, 11, 12, 13]⟩, 
  ⟨(some (66)), .indexAddr 1 (.tmp 54) (.tmp 55), none, [11, 14, 15]⟩, 
  ⟨none, .store 1 (.tmp 66) (.tmp 63), none, [11, 14, 15]⟩, 
  ⟨(some (67)), .indexAddr 1 (.tmp 60) (.tmp 61), none, []⟩, 
  ⟨none, .store 1 (.tmp 67) (.tmp 65), none, []⟩]
def k_curve_Of_r15s : List (List AOper) := [
  [
  ⟨(some (50)), .fieldAddr 2 (.tmp 10), none, []⟩, 
  ⟨(some (51)), .load none (.tmp 50), none, []⟩, 
  ⟨(some (52)), .move (.tmp 11), none, [0, 1]⟩, 
  ⟨(some (53)), .indexAddr 1 (.tmp 51) (.tmp 52), none, []⟩, 
  ⟨(some (54)), .load none (.tmp 53), none, []⟩, 
  ⟨(some (55)), .move (.tmp 13), none, [0, 1, 2, 3, 4]⟩, 
  ⟨(some (56)), .fieldAddr 3 (.tmp 10), none, [0, 1, 2, 3, 4, 5]⟩, 
  ⟨(some (57)), .load none (.tmp 56), none, [0, 1, 2, 3, 4, 5]⟩, 
  ⟨(some (58)), .move (.tmp 11), none, [0, 1, 2, 3, 4, 5, 6, 7]⟩, 
  ⟨(some (59)), .indexAddr 1 (.tmp 57) (.tmp 58), none, [0, 1, 2, 3, 4, 5]⟩, 
  ⟨(some (60)), .load none (.tmp 59), none, [0, 1, 2, 3, 4, 5]⟩, 
  ⟨(some (61)), .move (.tmp 13), none, [0, 1, 2, 3, 4, 5, 6, 7, 8, 9, 10]⟩, 
  ⟨(some (62)), .fieldAddr 0 (.tmp 15), none, [0, 1, 2, 3, 4, 5, 6, 7, 8, 9, 10, 11]⟩, 
  ⟨(some (63)), .load none (.tmp 62), none, [0, 1, 2, 3, 4, 5, 6, 7, 8, 9, 10, 11]⟩, 
  ⟨(some (64)), .fieldAddr 1 (.tmp 15), none, [0, 1, 2, 3, 4, 5, 6, 7, 8, 9, 10, 11, 12, 13]⟩, 
  ⟨(some (65)), .load none (.tmp 64), none, [0, 1, 2, 3, 4, 5, 6, 7, 8, 9, 10, 11, 12, 13]⟩, 
  ⟨(some (66)), .indexAddr 1 (.tmp 54) (.tmp 55), none, [11, 14, 15]⟩, 
  ⟨none, .store 1 (.tmp 66) (.tmp 63), none, [11, 14, 15]⟩], 
  [
  ⟨(some (67)), .indexAddr 1 (.tmp 60) (.tmp 61), none, []⟩], 
  [
  ⟨none, .store 1 (.tmp 67) (.tmp 65), none, []⟩]]
theorem k_curve_Of_r15_sg : segs k_curve_Of_r15 = k_curve_Of_r15s := by kernel_rfl
theorem k_curve_Of_r15_st : statOK k_curve_Of_r15 = true := by kernel_rfl
def k_curve_Of_r16 : List AOper := [
  ⟨(some (68)), .bin .plain .add (.tmp 41) (.const (.int .i64 1)), none, []⟩, 
  ⟨(some (41)), .move (.tmp 68), none, []⟩]
def k_curve_Of_r17 : ACode := (.seq (.reg k_curve_Of_r12 false) (.seq (.cond (.tmp 42) .skip (.exit 2)) (.seq (.block 3 (.seq (.reg k_curve_Of_r13 false) (.seq (.reg k_curve_Of_r14 false) (.reg k_curve_Of_r15 true)))) (.reg k_curve_Of_r16 false))))
def k_curve_Of_r18 : List AOper := [
  ⟨(some (69)), .bin .plain .add (.tmp 34) (.const (.int .i64 1)), none, []⟩, 
  ⟨(some (34)), .move (.tmp 69), none, []⟩]
def k_curve_Of_r19 : ACode := (.seq (.reg k_curve_Of_r9 false) (.seq (.cond (.tmp 35) .skip (.exit 0)) (.seq (.block 1 (.seq (.reg k_curve_Of_r10 false) (.seq (.reg k_curve_Of_r11 false) (.block 2 (.loop k_curve_Of_r17))))) (.reg k_curve_Of_r18 false))))
def k_curve_Of_r20 : List AOper := [
  ⟨(some (70)), .load (some (4)) (.tmp 10), none, []⟩, 
  ⟨none, .store 4 (.tmp 6) (.tmp 70), none, []⟩, 
  ⟨(some (7)), .move (.const (.int .i64 0)), none, []⟩]
def k_curve_Of : AFun := { params := 3, ntmps := 71, body := (.seq (.reg k_curve_Of_r0 false) (.seq (.seq (.reg k_curve_Of_r1 false) (.seq (.reg k_curve_Of_r2 false) (.cond (.tmp 19) (.seq (.reg k_curve_Of_r3 false) .ret) .skip))) (.seq (.seq (.reg k_curve_Of_r4 false) (.seq (.reg k_curve_Of_r5 false) (.cond (.tmp 26) (.seq (.reg k_curve_Of_r6 false) .ret) .skip))) (.seq (.reg k_curve_Of_r7 false) (.seq (.seq (.reg k_curve_Of_r8 false) (.block 0 (.loop k_curve_Of_r19))) (.seq (.reg k_curve_Of_r20 false) .ret)))))), res := [.cell 6 (some ((some (4)))), .tmp 7] }
theorem k_curve_Of_ok : cfun Try.prog Try.f49 = k_curve_Of := by kernel_rfl

def k_kit_Same_r0 : List AOper := [
  ⟨(some (4)), .move (.const (.bool false)), none, []⟩]
def k_kit_Same_r1 : List AOper := [
  ⟨(some (6)), .move (.tmp 0), none, []⟩, 
  ⟨(some (7)), .len false (.tmp 6), none, []⟩, 
  ⟨(some (8)), .move (.tmp 1), none, []⟩, 
  ⟨(some (9)), .len false (.tmp 8), none, []⟩, 
  ⟨(some (10)), .bin .plain .neq (.tmp 7) (.tmp 9), none, []⟩]
def k_kit_Same_r2 : List AOper := [
  ⟨(some (4)), .move (.const (.bool false)), none, []⟩]
def k_kit_Same_r3 : List AOper := [
  ⟨(some (5)), .move (.const (.int .i64 0)), none, []⟩]
def k_kit_Same_r4 : List AOper := [
  ⟨(some (11)), .move (.tmp 5), none, []⟩, 
  ⟨(some (12)), .move (.tmp 0), none, []⟩, 
  ⟨(some (13)), .len false (.tmp 12), none, []⟩, 
  ⟨(some (14)), .bin .plain .lss (.tmp 11) (.tmp 13), none, []⟩]
def k_kit_Same_r5 : List AOper := [
  ⟨(some (17)), .move (.tmp 0), none, []⟩, 
  ⟨(some (18)), .move (.tmp 5), none, [0]⟩, 
  ⟨(some (19)), .indexAddr 1 (.tmp 17) (.tmp 18), none, []⟩, 
  ⟨(some (20)), .load none (.tmp 19), none, []⟩, 
  ⟨(some (21)), .move (.tmp 1), none, [0, 1, 2, 3]⟩, 
  ⟨(some (22)), .move (.tmp 5), none, [0, 1, 2, 3, 4]⟩, 
  ⟨(some (23)), .indexAddr 1 (.tmp 21) (.tmp 22), none, [0, 1, 2, 3]⟩, 
  ⟨(some (24)), .load none (.tmp 23), none, [0, 1, 2, 3]⟩, 
  ⟨(some (25)), .bin .plain .neq (.tmp 20) (.tmp 24), none, []⟩]
def k_kit_Same_r5s : List (List AOper) := [
  [
  ⟨(some (17)), .move (.tmp 0), none, []⟩, 
  ⟨(some (18)), .move (.tmp 5), none, [0]⟩, 
  ⟨(some (19)), .indexAddr 1 (.tmp 17) (.tmp 18), none, []⟩, 
  ⟨(some (20)), .load none (.tmp 19), none, []⟩, 
  ⟨(some (21)), .move (.tmp 1), none, [0, 1, 2, 3]⟩, 
  ⟨(some (22)), .move (.tmp 5), none, [0, 1, 2, 3, 4]⟩, 
  ⟨(some (23)), .indexAddr 1 (.tmp 21) (.tmp 22), none, [0, 1, 2, 3]⟩, 
  ⟨(some (24)), .load none (.tmp 23), none, [0, 1, 2, 3]⟩], 
  [
  ⟨(some (25)), .bin .plain .neq (.tmp 20) (.tmp 24), none, []⟩]]
theorem k_kit_Same_r5_sg : segs k_kit_Same_r5 = k_kit_Same_r5s := by kernel_rfl
theorem k_kit_Same_r5_st : statOK k_kit_Same_r5 = true := by kernel_rfl
def k_kit_Same_r6 : List AOper := [
  ⟨(some (4)), .move (.const (.bool false)), none, []⟩]
def k_kit_Same_r7 : List AOper := [
  ⟨(some (15)), .move (.tmp 5), none, []⟩, 
  ⟨(some (16)), .bin .plain .add (.tmp 15) (.const (.int .i64 1)), none, []⟩, 
  ⟨(some (5)), .move (.tmp 16), none, []⟩]
def k_kit_Same_r8 : ACode := (.seq (.seq (.reg k_kit_Same_r4 false) (.cond (.tmp 14) .skip (.exit 0))) (.seq (.block 1 (.seq (.reg k_kit_Same_r5 true) (.cond (.tmp 25) (.seq (.reg k_kit_Same_r6 false) .ret) .skip))) (.reg k_kit_Same_r7 false)))
def k_kit_Same_r9 : List AOper := [
  ⟨(some (4)), .move (.const (.bool true)), none, []⟩]
def k_kit_Same : AFun := { params := 2, ntmps := 26, body := (.seq (.reg k_kit_Same_r0 false) (.seq (.seq (.reg k_kit_Same_r1 false) (.cond (.tmp 10) (.seq (.reg k_kit_Same_r2 false) .ret) .skip)) (.seq (.seq (.reg k_kit_Same_r3 false) (.block 0 (.loop k_kit_Same_r8))) (.seq (.reg k_kit_Same_r9 false) .ret)))), res := [.tmp 4] }
theorem k_kit_Same_ok : cfun Try.prog Try.f64 = k_kit_Same := by kernel_rfl

def k_ref02_sameInts_r0 : List AOper := [
  ⟨(some (4)), .move (.const (.bool false)), none, []⟩]
def k_ref02_sameInts_r1 : List AOper := [
  ⟨(some (6)), .move (.tmp 0), none, []⟩, 
  ⟨(some (7)), .len false (.tmp 6), none, []⟩, 
  ⟨(some (8)), .move (.tmp 1), none, []⟩, 
  ⟨(some (9)), .len false (.tmp 8), none, []⟩, 
  ⟨(some (10)), .bin .plain .neq (.tmp 7) (.tmp 9), none, []⟩]
def k_ref02_sameInts_r2 : List AOper := [
  ⟨(some (4)), .move (.const (.bool false)), none, []⟩]
def k_ref02_sameInts_r3 : List AOper := [
  ⟨(some (5)), .move (.const (.int .i64 0)), none, []⟩]
def k_ref02_sameInts_r4 : List AOper := [
  ⟨(some (11)), .move (.tmp 5), none, []⟩, 
  ⟨(some (12)), .move (.tmp 0), none, []⟩, 
  ⟨(some (13)), .len false (.tmp 12), none, []⟩, 
  ⟨(some (14)), .bin .plain .lss (.tmp 11) (.tmp 13), none, []⟩]
def k_ref02_sameInts_r5 : List AOper := [
  ⟨(some (17)), .move (.tmp 0), none, []⟩, 
  ⟨(some (18)), .move (.tmp 5), none, [0]⟩, 
  ⟨(some (19)), .indexAddr 1 (.tmp 17) (.tmp 18), none, []⟩, 
  ⟨(some (20)), .load none (.tmp 19), none, []⟩, 
  ⟨(some (21)), .move (.tmp 1), none, [0, 1, 2, 3]⟩, 
  ⟨(some (22)), .move (.tmp 5), none, [0, 1, 2, 3, 4]⟩, 
  ⟨(some (23)), .indexAddr 1 (.tmp 21) (.tmp 22), none, [0, 1, 2, 3]⟩, 
  ⟨(some (24)), .load none (.tmp 23), none, [0, 1, 2, 3]⟩, 
  ⟨(some (25)), .bin .plain .neq (.tmp 20) (.tmp 24), none, []⟩]
def k_ref02_sameInts_r5s : List (List AOper) := [
  [
  ⟨(some (17)), .move (.tmp 0), none, []⟩, 
  ⟨(some (18)), .move (.tmp 5), none, [0]⟩, 
  ⟨(some (19)), .indexAddr 1 (.tmp 17) (.tmp 18), none, []⟩, 
  ⟨(some (20)), .load none (.tmp 19), none, []⟩, 
  ⟨(some (21)), .move (.tmp 1), none, [0, 1, 2, 3]⟩, 
  ⟨(some (22)), .move (.tmp 5), none, [0, 1, 2, 3, 4]⟩, 
  ⟨(some (23)), .indexAddr 1 (.tmp 21) (.tmp 22), none, [0, 1, 2, 3]⟩, 
  ⟨(some (24)), .load none (.tmp 23), none, [0, 1, 2, 3]⟩], 
  [
  ⟨(some (25)), .bin .plain .neq (.tmp 20) (.tmp 24), none, []⟩]]
theorem k_ref02_sameInts_r5_sg : segs k_ref02_sameInts_r5 = k_ref02_sameInts_r5s := by kernel_rfl
theorem k_ref02_sameInts_r5_st : statOK k_ref02_sameInts_r5 = true := by kernel_rfl
def k_ref02_sameInts_r6 : List AOper := [
  ⟨(some (4)), .move (.const (.bool false)), none, []⟩]
def k_ref02_sameInts_r7 : List AOper := [
  ⟨(some (15)), .move (.tmp 5), none, []⟩, 
  ⟨(some (16)), .bin .plain .add (.tmp 15) (.const (.int .i64 1)), none, []⟩, 
  ⟨(some (5)), .move (.tmp 16), none, []⟩]
def k_ref02_sameInts_r8 : ACode := (.seq (.seq (.reg k_ref02_sameInts_r4 false) (.cond (.tmp 14) .skip (.exit 0))) (.seq (.block 1 (.seq (.reg k_ref02_sameInts_r5 true) (.cond (.tmp 25) (.seq (.reg k_ref02_sameInts_r6 false) .ret) .skip))) (.reg k_ref02_sameInts_r7 false)))
def k_ref02_sameInts_r9 : List AOper := [
  ⟨(some (4)), .move (.const (.bool true)), none, []⟩]
def k_ref02_sameInts : AFun := { params := 2, ntmps := 26, body := (.seq (.reg k_ref02_sameInts_r0 false) (.seq (.seq (.reg k_ref02_sameInts_r1 false) (.cond (.tmp 10) (.seq (.reg k_ref02_sameInts_r2 false) .ret) .skip)) (.seq (.seq (.reg k_ref02_sameInts_r3 false) (.block 0 (.loop k_ref02_sameInts_r8))) (.seq (.reg k_ref02_sameInts_r9 false) .ret)))), res := [.tmp 4] }
theorem k_ref02_sameInts_ok : cfun Try.prog Try.f77 = k_ref02_sameInts := by kernel_rfl

def k_ref02_sameTable_r0 : List AOper := [
  ⟨(some (4)), .move (.const (.bool false)), none, []⟩]
def k_ref02_sameTable_r1 : List AOper := [
  ⟨(some (6)), .move (.tmp 0), none, []⟩, 
  ⟨(some (7)), .len false (.tmp 6), none, []⟩, 
  ⟨(some (8)), .move (.tmp 1), none, []⟩, 
  ⟨(some (9)), .len false (.tmp 8), none, []⟩, 
  ⟨(some (10)), .bin .plain .neq (.tmp 7) (.tmp 9), none, []⟩]
def k_ref02_sameTable_r2 : List AOper := [
  ⟨(some (4)), .move (.const (.bool false)), none, []⟩]
def k_ref02_sameTable_r3 : List AOper := [
  ⟨(some (5)), .move (.const (.int .i64 0)), none, []⟩]
def k_ref02_sameTable_r4 : List AOper := [
  ⟨(some (11)), .move (.tmp 5), none, []⟩, 
  ⟨(some (12)), .move (.tmp 0), none, []⟩, 
  ⟨(some (13)), .len false (.tmp 12), none, []⟩, 
  ⟨(some (14)), .bin .plain .lss (.tmp 11) (.tmp 13), none, []⟩]
def k_ref02_sameTable_r5 : List AOper := [
  ⟨(some (17)), .move (.tmp 0), none, []⟩, 
  ⟨(some (18)), .move (.tmp 5), none, [0]⟩, 
  ⟨(some (19)), .indexAddr 1 (.tmp 17) (.tmp 18), none, []⟩, 
  ⟨(some (20)), .load none (.tmp 19), none, []⟩, 
  ⟨(some (21)), .move (.tmp 1), none, [0, 1, 2, 3]⟩, 
  ⟨(some (22)), .move (.tmp 5), none, [0, 1, 2, 3, 4]⟩, 
  ⟨(some (23)), .indexAddr 1 (.tmp 21) (.tmp 22), none, [0, 1, 2, 3]⟩, 
  ⟨(some (24)), .load none (.tmp 23), none, [0, 1, 2, 3]⟩, 
  ⟨(some (25)), .call (.const (.fn (.func 77) [] [])) [.tmp 20, .tmp 24], none, []⟩, 
  ⟨(some (26)), .not (.tmp 25), none, []⟩]
def k_ref02_sameTable_r5s : List (List AOper) := [
  [
  ⟨(some (17)), .move (.tmp 0), none, []⟩, 
  ⟨(some (18)), .move (.tmp 5), none, [0]⟩, 
  ⟨(some (19)), .indexAddr 1 (.tmp 17) (.tmp 18), none, []⟩, 
  ⟨(some (20)), .load none (.tmp 19), none, []⟩, 
  ⟨(some (21)), .move (.tmp 1), none, [0, 1, 2, 3]⟩, 
  ⟨(some (22)), .move (.tmp 5), none, [0, 1, 2, 3, 4]⟩, 
  ⟨(some (23)), .indexAddr 1 (.tmp 21) (.tmp 22), none, [0, 1, 2, 3]⟩, 
  ⟨(some (24)), .load none (.tmp 23), none, [0, 1, 2, 3]⟩], 
  [
  ⟨(some (25)), .call (.const (.fn (.func 77) [] [])) [.tmp 20, .tmp 24], none, []⟩], 
  [
  ⟨(some (26)), .not (.tmp 25), none, []⟩]]
theorem k_ref02_sameTable_r5_sg : segs k_ref02_sameTable_r5 = k_ref02_sameTable_r5s := by kernel_rfl
theorem k_ref02_sameTable_r5_st : statOK k_ref02_sameTable_r5 = true := by kernel_rfl
def k_ref02_sameTable_r6 : List AOper := [
  ⟨(some (4)), .move (.const (.bool false)), none, []⟩]
def k_ref02_sameTable_r7 : List AOper := [
  ⟨(some (15)), .move (.tmp 5), none, []⟩, 
  ⟨(some (16)), .bin .plain .add (.tmp 15) (.const (.int .i64 1)), none, []⟩, 
  ⟨(some (5)), .move (.tmp 16), none, []⟩]
def k_ref02_sameTable_r8 : ACode := (.seq (.seq (.reg k_ref02_sameTable_r4 false) (.cond (.tmp 14) .skip (.exit 0))) (.seq (.block 1 (.seq (.reg k_ref02_sameTable_r5 true) (.cond (.tmp 26) (.seq (.reg k_ref02_sameTable_r6 false) .ret) .skip))) (.reg k_ref02_sameTable_r7 false)))
def k_ref02_sameTable_r9 : List AOper := [
  ⟨(some (4)), .move (.const (.bool true)), none, []⟩]
def k_ref02_sameTable : AFun := { params := 2, ntmps := 27, body := (.seq (.reg k_ref02_sameTable_r0 false) (.seq (.seq (.reg k_ref02_sameTable_r1 false) (.cond (.tmp 10) (.seq (.reg k_ref02_sameTable_r2 false) .ret) .skip)) (.seq (.seq (.reg k_ref02_sameTable_r3 false) (.block 0 (.loop k_ref02_sameTable_r8))) (.seq (.reg k_ref02_sameTable_r9 false) .ret)))), res := [.tmp 4] }
theorem k_ref02_sameTable_ok : cfun Try.prog Try.f78 = k_ref02_sameTable := by kernel_rfl

def k_curve_copied_r0 : List AOper := [
  ⟨(some (2)), .move (.const (.nilsl)), none, []⟩]
def k_curve_copied_r1 : List AOper := [
  ⟨(some (3)), .move (.tmp 0), none, []⟩, 
  ⟨(some (4)), .append 1 8 false (.const (.nilsl)) (.tmp 3), none, []⟩, 
  ⟨(some (2)), .move (.tmp 4), none, []⟩]
def k_curve_copied : AFun := { params := 1, ntmps := 5, body := (.seq (.reg k_curve_copied_r0 false) (.seq (.reg k_curve_copied_r1 false) .ret)), res := [.tmp 2] }
theorem k_curve_copied_ok : cfun Try.prog Try.f79 = k_curve_copied := by kernel_rfl

def k_curve_linesOf_r0 : List AOper := [
  ⟨(some (4)), .box (.const (.agg [.nilsl, .nilsl, .nilsl, .nilsl])), none, []⟩]
def k_curve_linesOf_r1 : List AOper := [
  ⟨(some (6)), .move (.tmp 0), none, []⟩, 
  ⟨(some (7)), .call (.const (.fn (.func 79) [] [])) [.tmp 6], none, []⟩, 
  ⟨(some (8)), .move (.tmp 1), none, []⟩, 
  ⟨(some (9)), .call (.const (.fn (.func 79) [] [])) [.tmp 8], none, []⟩, 
  ⟨(some (10)), .build [.nilsl, .nilsl, .nilsl, .nilsl] [(0, 1, .tmp 7), (1, 1, .tmp 9)], none, []⟩, 
  ⟨(some (5)), .box (.const (.agg [.nilsl, .nilsl, .nilsl, .nilsl])), none, []⟩, 
  ⟨none, .store 4 (.tmp 5) (.tmp 10), none, []⟩]
def k_curve_linesOf_r2 : List AOper := [
  ⟨(some (11)), .move (.tmp 0), none, []⟩, 
  ⟨(some (12)), .len false (.tmp 11), none, []⟩, 
  ⟨(some (13)), .move (.const (.int .i64 0)), none, []⟩]
def k_curve_linesOf_r3 : List AOper := [
  ⟨(some (14)), .bin .plain .lss (.tmp 13) (.tmp 12), none, []⟩]
def k_curve_linesOf_r4 : List AOper := [
  ⟨(some (15)), .fieldAddr 2 (.tmp 5), none, []⟩, 
  ⟨(some (16)), .load none (.tmp 15), none, []⟩, 
  ⟨(some (17)), .move (.tmp 1), none, [0, 1]⟩, 
  ⟨(some (18)), .len false (.tmp 17), none, [0, 1]⟩, 
  ⟨(some (19)), .makeSlice (.int .i64 0) 8 (.tmp 18) (.tmp 18), none, [0, 1]⟩, 
  ⟨(some (20)), .buildSlice 1 [.tmp 19], none, [0, 1]⟩, 
  ⟨(some (21)), .append 1 24 false (.tmp 16) (.tmp 20), none, []⟩, 
  ⟨(some (22)), .fieldAddr 2 (.tmp 5), none, []⟩, 
  ⟨none, .store 1 (.tmp 22) (.tmp 21), none, []⟩]
def k_curve_linesOf_r4s : List (List AOper) := [
  [
  ⟨(some (15)), .fieldAddr 2 (.tmp 5), none, []⟩, 
  ⟨(some (16)), .load none (.tmp 15), none, []⟩, 
  ⟨(some (17)), .move (.tmp 1), none, [0, 1]⟩, 
  ⟨(some (18)), .len false (.tmp 17), none, [0, 1]⟩, 
  ⟨(some (19)), .makeSlice (.int .i64 0) 8 (.tmp 18) (.tmp 18), none, [0, 1]⟩, 
  ⟨(some (20)), .buildSlice 1 [.tmp 19], none, [0, 1]⟩], 
  [
  ⟨(some (21)), .append 1 24 false (.tmp 16) (.tmp 20), none, []⟩], 
  [
  ⟨(some (22)), .fieldAddr 2 (.tmp 5), none, []⟩], 
  [
  ⟨none, .store 1 (.tmp 22) (.tmp 21), none, []⟩]]
theorem k_curve_linesOf_r4_sg : segs k_curve_linesOf_r4 = k_curve_linesOf_r4s := by kernel_rfl
theorem k_curve_linesOf_r4_st : statOK k_curve_linesOf_r4 = true := by kernel_rfl
def k_curve_linesOf_r5 : List AOper := [
  ⟨(some (23)), .fieldAddr 3 (.tmp 5), none, []⟩, 
  ⟨(some (24)), .load none (.tmp 23), none, []⟩, 
  ⟨(some (25)), .move (.tmp 1), none, [0, 1]⟩, 
  ⟨(some (26)), .len false (.tmp 25), none, [0, 1]⟩, 
  ⟨(some (27)), .makeSlice (.int .i64 0) 8 (.tmp 26) (.tmp 26), none, [0, 1]⟩, 
  ⟨(some (28)), .buildSlice 1 [.tmp 27], none, [0, 1]⟩, 
  ⟨(some (29)), .append 1 24 false (.tmp 24) (.tmp 28), none, []⟩, 
  ⟨(some (30)), .fieldAddr 3 (.tmp 5), none, []⟩, 
  ⟨none, .store 1 (.tmp 30) (.tmp 29), none, []⟩]
def k_curve_linesOf_r5s : List (List AOper) := [
  [
  ⟨(some (23)), .fieldAddr 3 (.tmp 5), none, []⟩, 
  ⟨(some (24)), .load none (.tmp 23), none, []⟩, 
  ⟨(some (25)), .move (.tmp 1), none, [0, 1]⟩, 
  ⟨(some (26)), .len false (.tmp 25), none, [0, 1]⟩, 
  ⟨(some (27)), .makeSlice (.int .i64 0) 8 (.tmp 26) (.tmp 26), none, [0, 1]⟩, 
  ⟨(some (28)), .buildSlice 1 [.tmp 27], none, [0, 1]⟩], 
  [
  ⟨(some (29)), .append 1 24 false (.tmp 24) (.tmp 28), none, []⟩], 
  [
  ⟨(some (30)), .fieldAddr 3 (.tmp 5), none, []⟩], 
  [
  ⟨none, .store 1 (.tmp 30) (.tmp 29), none, []⟩]]
theorem k_curve_linesOf_r5_sg : segs k_curve_linesOf_r5 = k_curve_linesOf_r5s := by kernel_rfl
theorem k_curve_linesOf_r5_st : statOK k_curve_linesOf_r5 = true := by kernel_rfl
def k_curve_linesOf_r6 : List AOper := [
  ⟨(some (31)), .bin .plain .add (.tmp 13) (.const (.int .i64 1)), none, []⟩, 
  ⟨(some (13)), .move (.tmp 31), none, []⟩]
def k_curve_linesOf_r7 : ACode := (.seq (.reg k_curve_linesOf_r3 false) (.seq (.cond (.tmp 14) .skip (.exit 0)) (.seq (.block 1 (.seq (.reg k_curve_linesOf_r4 true) (.reg k_curve_linesOf_r5 true))) (.reg k_curve_linesOf_r6 false))))
def k_curve_linesOf_r8 : List AOper := [
  ⟨(some (32)), .load (some (4)) (.tmp 5), none, []⟩, 
  ⟨none, .store 4 (.tmp 4) (.tmp 32), none, []⟩]
def k_curve_linesOf : AFun := { params := 2, ntmps := 33, body := (.seq (.reg k_curve_linesOf_r0 false) (.seq (.reg k_curve_linesOf_r1 false) (.seq (.seq (.reg k_curve_linesOf_r2 false) (.block 0 (.loop k_curve_linesOf_r7))) (.seq (.reg k_curve_linesOf_r8 false) .ret)))), res := [.cell 4 (some ((some (4))))] }
theorem k_curve_linesOf_ok : cfun Try.prog Try.f102 = k_curve_linesOf := by kernel_rfl


abbrev n_law02_CurveLaws : Nat := 3
theorem e_law02_CurveLaws : EntryOK Try.prog n_law02_CurveLaws k_law02_CurveLaws := ⟨Try.f3, Try.func3, k_law02_CurveLaws_ok, by kernel_rfl⟩
abbrev n_ref02_Drive : Nat := 17
theorem e_ref02_Drive : EntryOK Try.prog n_ref02_Drive k_ref02_Drive := ⟨Try.f17, Try.func17, k_ref02_Drive_ok, by kernel_rfl⟩
abbrev n_ref02_Current : Nat := 19
theorem e_ref02_Current : EntryOK Try.prog n_ref02_Current k_ref02_Current := ⟨Try.f19, Try.func19, k_ref02_Current_ok, by kernel_rfl⟩
abbrev n_law02_families : Nat := 22
theorem e_law02_families : EntryOK Try.prog n_law02_families k_law02_families := ⟨Try.f22, Try.func22, k_law02_families_ok, by kernel_rfl⟩
abbrev n_ref02_Same : Nat := 30
theorem e_ref02_Same : EntryOK Try.prog n_ref02_Same k_ref02_Same := ⟨Try.f30, Try.func30, k_ref02_Same_ok, by kernel_rfl⟩
abbrev n_curve_Of : Nat := 49
theorem e_curve_Of : EntryOK Try.prog n_curve_Of k_curve_Of := ⟨Try.f49, Try.func49, k_curve_Of_ok, by kernel_rfl⟩
abbrev n_kit_Same : Nat := 64
theorem e_kit_Same : EntryOK Try.prog n_kit_Same k_kit_Same := ⟨Try.f64, Try.func64, k_kit_Same_ok, by kernel_rfl⟩
abbrev n_ref02_sameInts : Nat := 77
theorem e_ref02_sameInts : EntryOK Try.prog n_ref02_sameInts k_ref02_sameInts := ⟨Try.f77, Try.func77, k_ref02_sameInts_ok, by kernel_rfl⟩
abbrev n_ref02_sameTable : Nat := 78
theorem e_ref02_sameTable : EntryOK Try.prog n_ref02_sameTable k_ref02_sameTable := ⟨Try.f78, Try.func78, k_ref02_sameTable_ok, by kernel_rfl⟩
abbrev n_curve_copied : Nat := 79
theorem e_curve_copied : EntryOK Try.prog n_curve_copied k_curve_copied := ⟨Try.f79, Try.func79, k_curve_copied_ok, by kernel_rfl⟩
abbrev n_curve_linesOf : Nat := 102
theorem e_curve_linesOf : EntryOK Try.prog n_curve_linesOf k_curve_linesOf := ⟨Try.f102, Try.func102, k_curve_linesOf_ok, by kernel_rfl⟩

attribute [go_sem] k_law02_CurveLaws_r0 k_law02_CurveLaws_r1 k_law02_CurveLaws_r2s k_law02_CurveLaws_r3 k_law02_CurveLaws_r4 k_law02_CurveLaws_r5s k_law02_CurveLaws_r6s k_law02_CurveLaws_r7s k_law02_CurveLaws_r8s k_law02_CurveLaws_r9s k_law02_CurveLaws_r10 k_law02_CurveLaws_r11
attribute [go_sem] k_law02_CurveLaws_r13 k_ref02_Drive_r0 k_ref02_Drive_r1 k_ref02_Drive_r2 k_ref02_Drive_r3 k_ref02_Drive_r4 k_ref02_Drive_r5 k_ref02_Drive_r6 k_ref02_Current_r0 k_ref02_Current_r1 k_ref02_Current_r2 k_ref02_Current_r3
attribute [go_sem] k_ref02_Current_r4 k_ref02_Current_r5 k_ref02_Current_r6 k_law02_families_r0 k_law02_families_r1 k_law02_families_r2 k_law02_families_r3 k_law02_families_r4s k_law02_families_r5 k_law02_families_r6 k_law02_families_r7s k_law02_families_r8
attribute [go_sem] k_law02_families_r9s k_law02_families_r10 k_law02_families_r11 k_law02_families_r12 k_law02_families_r14 k_ref02_Same_r0 k_ref02_Same_r1 k_curve_Of_r0 k_curve_Of_r1 k_curve_Of_r2 k_curve_Of_r3 k_curve_Of_r4
attribute [go_sem] k_curve_Of_r5 k_curve_Of_r6 k_curve_Of_r7 k_curve_Of_r8 k_curve_Of_r9 k_curve_Of_r10 k_curve_Of_r11 k_curve_Of_r12 k_curve_Of_r13 k_curve_Of_r14 k_curve_Of_r15s k_curve_Of_r16
attribute [go_sem] k_curve_Of_r18 k_curve_Of_r20 k_kit_Same_r0 k_kit_Same_r1 k_kit_Same_r2 k_kit_Same_r3 k_kit_Same_r4 k_kit_Same_r5s k_kit_Same_r6 k_kit_Same_r7 k_kit_Same_r9 k_ref02_sameInts_r0
attribute [go_sem] k_ref02_sameInts_r1 k_ref02_sameInts_r2 k_ref02_sameInts_r3 k_ref02_sameInts_r4 k_ref02_sameInts_r5s k_ref02_sameInts_r6 k_ref02_sameInts_r7 k_ref02_sameInts_r9 k_ref02_sameTable_r0 k_ref02_sameTable_r1 k_ref02_sameTable_r2 k_ref02_sameTable_r3
attribute [go_sem] k_ref02_sameTable_r4 k_ref02_sameTable_r5s k_ref02_sameTable_r6 k_ref02_sameTable_r7 k_ref02_sameTable_r9 k_curve_copied_r0 k_curve_copied_r1 k_curve_linesOf_r0 k_curve_linesOf_r1 k_curve_linesOf_r2 k_curve_linesOf_r3 k_curve_linesOf_r4s
attribute [go_sem] k_curve_linesOf_r5s k_curve_linesOf_r6 k_curve_linesOf_r8 k_ref02_sameInts_r5_sg k_curve_linesOf_r5_sg k_law02_CurveLaws_r9_sg k_law02_families_r7_sg k_law02_CurveLaws_r7_sg k_curve_Of_r15_sg k_law02_CurveLaws_r8_sg k_law02_families_r9_sg k_ref02_sameTable_r5_sg
attribute [go_sem] k_curve_linesOf_r4_sg k_kit_Same_r5_sg k_law02_CurveLaws_r2_sg k_law02_CurveLaws_r6_sg k_law02_families_r4_sg k_law02_CurveLaws_r5_sg k_ref02_sameInts_r5_st k_curve_linesOf_r5_st k_law02_CurveLaws_r9_st k_law02_families_r7_st k_law02_CurveLaws_r7_st k_curve_Of_r15_st
attribute [go_sem] k_law02_CurveLaws_r8_st k_law02_families_r9_st k_ref02_sameTable_r5_st k_curve_linesOf_r4_st k_kit_Same_r5_st k_law02_CurveLaws_r2_st k_law02_CurveLaws_r6_st k_law02_families_r4_st k_law02_CurveLaws_r5_st k_law02_CurveLaws k_ref02_Drive k_ref02_Current
attribute [go_sem] k_law02_families k_ref02_Same k_curve_Of k_kit_Same k_ref02_sameInts k_ref02_sameTable k_curve_copied k_curve_linesOf
end Go.Proofs

