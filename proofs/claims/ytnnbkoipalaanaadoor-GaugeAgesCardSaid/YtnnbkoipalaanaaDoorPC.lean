/- A part of the proof. -/
import Derived.Test.YtnnbkoipalaanaaDoorPB
set_option linter.unusedSimpArgs false
set_option linter.unusedVariables false
namespace Go.Proofs
open Go Go.Sx

def k_law07_GaugeAges_r0 : List AOper := [
  ⟨(some (5)), .box (.tmp 0), none, []⟩, 
  ⟨(some (6)), .box (.tmp 1), none, []⟩, 
  ⟨(some (7)), .box (.tmp 2), none, []⟩, 
  ⟨(some (10)), .move (.const (.bool false)), none, []⟩]
def k_law07_GaugeAges_r1 : List AOper := [
  ⟨(some (29)), .move (.tmp 4), none, []⟩, 
  ⟨(some (30)), .call (.const (.fn (.func 16) [] [])) [.tmp 29], none, []⟩, 
  ⟨(some (11)), .move (.tmp 30), none, []⟩]
def k_law07_GaugeAges_r2 : List AOper := [
  ⟨(some (31)), .move (.tmp 11), none, []⟩, 
  ⟨(some (32)), .call (.const (.fn (.func 41) [] [])) [.tmp 31, .const (.int .i64 (-1000)), .const (.int .i64 1000)], none, []⟩, 
  ⟨(some (12)), .box (.const (.agg [.int .i64 0, .int .i64 0])), none, []⟩, 
  ⟨none, .store 2 (.tmp 12) (.tmp 32), none, []⟩]
def k_law07_GaugeAges_r3 : List AOper := [
  ⟨(some (33)), .move (.tmp 11), none, []⟩, 
  ⟨(some (34)), .buildSlice 1 [.const (.int .i64 0), .const (.int .i64 5), .const (.int .i64 2000)], none, [0]⟩, 
  ⟨(some (35)), .move (.tmp 11), none, [0, 1]⟩, 
  ⟨(some (36)), .call (.const (.fn (.func 19) [] [])) [.tmp 35, .const (.int .i64 3)], none, [0, 1]⟩, 
  ⟨(some (37)), .indexAddr 1 (.tmp 34) (.tmp 36), none, [0]⟩, 
  ⟨(some (38)), .load none (.tmp 37), none, [0]⟩, 
  ⟨(some (39)), .neg (.tmp 38), none, [0]⟩, 
  ⟨(some (40)), .buildSlice 1 [.const (.int .i64 0), .const (.int .i64 5), .const (.int .i64 2000)], none, [0, 1, 2, 3, 4, 5, 6]⟩, 
  ⟨(some (41)), .move (.tmp 11), none, [0, 1, 2, 3, 4, 5, 6, 7]⟩, 
  ⟨(some (42)), .call (.const (.fn (.func 19) [] [])) [.tmp 41, .const (.int .i64 3)], none, [0, 1, 4, 5, 6, 7]⟩, 
  ⟨(some (43)), .indexAddr 1 (.tmp 40) (.tmp 42), none, [0, 1, 4, 5, 6]⟩, 
  ⟨(some (44)), .load none (.tmp 43), none, [0, 1, 4, 5, 6]⟩, 
  ⟨(some (45)), .call (.const (.fn (.func 41) [] [])) [.tmp 33, .tmp 39, .tmp 44], none, []⟩, 
  ⟨(some (13)), .box (.const (.agg [.int .i64 0, .int .i64 0])), none, [0, 1, 2, 3, 4, 5, 6, 7, 8, 9, 10, 11, 12]⟩, 
  ⟨none, .store 2 (.tmp 13) (.tmp 45), none, []⟩]
def k_law07_GaugeAges_r3s : List (List AOper) := [
  [
  ⟨(some (33)), .move (.tmp 11), none, []⟩, 
  ⟨(some (34)), .buildSlice 1 [.const (.int .i64 0), .const (.int .i64 5), .const (.int .i64 2000)], none, [0]⟩, 
  ⟨(some (35)), .move (.tmp 11), none, [0, 1]⟩, 
  ⟨(some (36)), .call (.const (.fn (.func 19) [] [])) [.tmp 35, .const (.int .i64 3)], none, [0, 1]⟩, 
  ⟨(some (37)), .indexAddr 1 (.tmp 34) (.tmp 36), none, [0]⟩, 
  ⟨(some (38)), .load none (.tmp 37), none, [0]⟩, 
  ⟨(some (39)), .neg (.tmp 38), none, [0]⟩, 
  ⟨(some (40)), .buildSlice 1 [.const (.int .i64 0), .const (.int .i64 5), .const (.int .i64 2000)], none, [0, 1, 2, 3, 4, 5, 6]⟩, 
  ⟨(some (41)), .move (.tmp 11), none, [0, 1, 2, 3, 4, 5, 6, 7]⟩, 
  ⟨(some (42)), .call (.const (.fn (.func 19) [] [])) [.tmp 41, .const (.int .i64 3)], none, [0, 1, 4, 5, 6, 7]⟩, 
  ⟨(some (43)), .indexAddr 1 (.tmp 40) (.tmp 42), none, [0, 1, 4, 5, 6]⟩, 
  ⟨(some (44)), .load none (.tmp 43), none, [0, 1, 4, 5, 6]⟩, 
  ⟨(some (45)), .call (.const (.fn (.func 41) [] [])) [.tmp 33, .tmp 39, .tmp 44], none, []⟩, 
  ⟨(some (13)), .box (.const (.agg [.int .i64 0, .int .i64 0])), none, [0, 1, 2, 3, 4, 5, 6, 7, 8, 9, 10, 11, 12]⟩], 
  [
  ⟨none, .store 2 (.tmp 13) (.tmp 45), none, []⟩]]
theorem k_law07_GaugeAges_r3_sg : segs k_law07_GaugeAges_r3 = k_law07_GaugeAges_r3s := by kernel_rfl
theorem k_law07_GaugeAges_r3_st : statOK k_law07_GaugeAges_r3 = true := by kernel_rfl
def k_law07_GaugeAges_r4 : List AOper := [
  ⟨(some (46)), .fieldAddr 0 (.tmp 12), none, []⟩, 
  ⟨(some (47)), .load none (.tmp 46), none, []⟩, 
  ⟨(some (48)), .move (.tmp 11), none, [0, 1]⟩, 
  ⟨(some (49)), .call (.const (.fn (.func 19) [] [])) [.tmp 48, .const (.int .i64 900)], none, [0, 1]⟩, 
  ⟨(some (50)), .bin .plain .sub (.tmp 47) (.tmp 49), none, []⟩, 
  ⟨(some (51)), .move (.tmp 11), none, [0, 1, 2, 3, 4]⟩, 
  ⟨(some (52)), .call (.const (.fn (.func 19) [] [])) [.tmp 51, .const (.int .i64 9)], none, [0, 1, 4]⟩, 
  ⟨(some (53)), .bin .plain .add (.tmp 50) (.tmp 52), none, []⟩, 
  ⟨(some (54)), .fieldAddr 1 (.tmp 12), none, [0, 1, 2, 3, 4, 5, 6, 7]⟩, 
  ⟨(some (55)), .load none (.tmp 54), none, [0, 1, 2, 3, 4, 5, 6, 7]⟩, 
  ⟨(some (56)), .move (.tmp 11), none, [0, 1, 2, 3, 4, 5, 6, 7, 8, 9]⟩, 
  ⟨(some (57)), .call (.const (.fn (.func 19) [] [])) [.tmp 56, .const (.int .i64 900)], none, [0, 1, 4, 7, 8, 9]⟩, 
  ⟨(some (58)), .bin .plain .add (.tmp 55) (.tmp 57), none, [0, 1, 4, 7]⟩, 
  ⟨(some (59)), .build [.int .i64 0, .int .i64 0] [(0, 1, .tmp 53), (1, 1, .tmp 58)], none, []⟩, 
  ⟨(some (14)), .box (.const (.agg [.int .i64 0, .int .i64 0])), none, [0, 1, 2, 3, 4, 5, 6, 7, 8, 9, 10, 11, 12, 13]⟩, 
  ⟨none, .store 2 (.tmp 14) (.tmp 59), none, []⟩]
def k_law07_GaugeAges_r4s : List (List AOper) := [
  [
  ⟨(some (46)), .fieldAddr 0 (.tmp 12), none, []⟩, 
  ⟨(some (47)), .load none (.tmp 46), none, []⟩, 
  ⟨(some (48)), .move (.tmp 11), none, [0, 1]⟩, 
  ⟨(some (49)), .call (.const (.fn (.func 19) [] [])) [.tmp 48, .const (.int .i64 900)], none, [0, 1]⟩, 
  ⟨(some (50)), .bin .plain .sub (.tmp 47) (.tmp 49), none, []⟩, 
  ⟨(some (51)), .move (.tmp 11), none, [0, 1, 2, 3, 4]⟩, 
  ⟨(some (52)), .call (.const (.fn (.func 19) [] [])) [.tmp 51, .const (.int .i64 9)], none, [0, 1, 4]⟩, 
  ⟨(some (53)), .bin .plain .add (.tmp 50) (.tmp 52), none, []⟩, 
  ⟨(some (54)), .fieldAddr 1 (.tmp 12), none, [0, 1, 2, 3, 4, 5, 6, 7]⟩, 
  ⟨(some (55)), .load none (.tmp 54), none, [0, 1, 2, 3, 4, 5, 6, 7]⟩, 
  ⟨(some (56)), .move (.tmp 11), none, [0, 1, 2, 3, 4, 5, 6, 7, 8, 9]⟩, 
  ⟨(some (57)), .call (.const (.fn (.func 19) [] [])) [.tmp 56, .const (.int .i64 900)], none, [0, 1, 4, 7, 8, 9]⟩, 
  ⟨(some (58)), .bin .plain .add (.tmp 55) (.tmp 57), none, [0, 1, 4, 7]⟩, 
  ⟨(some (59)), .build [.int .i64 0, .int .i64 0] [(0, 1, .tmp 53), (1, 1, .tmp 58)], none, []⟩, 
  ⟨(some (14)), .box (.const (.agg [.int .i64 0, .int .i64 0])), none, [0, 1, 2, 3, 4, 5, 6, 7, 8, 9, 10, 11, 12, 13]⟩], 
  [
  ⟨none, .store 2 (.tmp 14) (.tmp 59), none, []⟩]]
theorem k_law07_GaugeAges_r4_sg : segs k_law07_GaugeAges_r4 = k_law07_GaugeAges_r4s := by kernel_rfl
theorem k_law07_GaugeAges_r4_st : statOK k_law07_GaugeAges_r4 = true := by kernel_rfl
def k_law07_GaugeAges_r5 : List AOper := [
  ⟨(some (60)), .move (.tmp 3), none, []⟩, 
  ⟨(some (61)), .call (.const (.fn (.func 22) [] [])) [.tmp 60, .const (.int .i64 1000001)], none, []⟩, 
  ⟨(some (15)), .move (.tmp 61), none, []⟩]
def k_law07_GaugeAges_r6 : List AOper := [
  ⟨(some (62)), .load (some (2)) (.tmp 5), none, []⟩, 
  ⟨(some (63)), .load (some (2)) (.tmp 12), none, [0]⟩, 
  ⟨(some (64)), .buildSlice 2 [.tmp 62, .tmp 63], none, []⟩, 
  ⟨(some (65)), .load (some (2)) (.tmp 6), none, [0, 1, 2]⟩, 
  ⟨(some (66)), .load (some (2)) (.tmp 13), none, [0, 1, 2, 3]⟩, 
  ⟨(some (67)), .buildSlice 2 [.tmp 65, .tmp 66], none, [0, 1, 2]⟩, 
  ⟨(some (68)), .load (some (2)) (.tmp 7), none, [0, 1, 2, 3, 4, 5]⟩, 
  ⟨(some (69)), .load (some (2)) (.tmp 14), none, [0, 1, 2, 3, 4, 5, 6]⟩, 
  ⟨(some (70)), .buildSlice 2 [.tmp 68, .tmp 69], none, [0, 1, 2, 3, 4, 5]⟩, 
  ⟨(some (71)), .move (.tmp 3), none, [0, 1, 2, 3, 4, 5, 6, 7, 8]⟩, 
  ⟨(some (72)), .move (.tmp 15), none, [0, 1, 2, 3, 4, 5, 6, 7, 8, 9]⟩, 
  ⟨(some (73)), .buildSlice 1 [.tmp 71, .tmp 72], none, [0, 1, 2, 3, 4, 5, 6, 7, 8]⟩, 
  ⟨(some (16)), .move (.tmp 64), none, [3, 4, 5, 6, 7, 8, 9, 10, 11]⟩, 
  ⟨(some (17)), .move (.tmp 67), none, [6, 7, 8, 9, 10, 11]⟩, 
  ⟨(some (18)), .move (.tmp 70), none, [9, 10, 11]⟩, 
  ⟨(some (19)), .move (.tmp 73), none, []⟩]
def k_law07_GaugeAges_r6s : List (List AOper) := [
  [
  ⟨(some (62)), .load (some (2)) (.tmp 5), none, []⟩, 
  ⟨(some (63)), .load (some (2)) (.tmp 12), none, [0]⟩, 
  ⟨(some (64)), .buildSlice 2 [.tmp 62, .tmp 63], none, []⟩, 
  ⟨(some (65)), .load (some (2)) (.tmp 6), none, [0, 1, 2]⟩, 
  ⟨(some (66)), .load (some (2)) (.tmp 13), none, [0, 1, 2, 3]⟩, 
  ⟨(some (67)), .buildSlice 2 [.tmp 65, .tmp 66], none, [0, 1, 2]⟩, 
  ⟨(some (68)), .load (some (2)) (.tmp 7), none, [0, 1, 2, 3, 4, 5]⟩, 
  ⟨(some (69)), .load (some (2)) (.tmp 14), none, [0, 1, 2, 3, 4, 5, 6]⟩, 
  ⟨(some (70)), .buildSlice 2 [.tmp 68, .tmp 69], none, [0, 1, 2, 3, 4, 5]⟩, 
  ⟨(some (71)), .move (.tmp 3), none, [0, 1, 2, 3, 4, 5, 6, 7, 8]⟩, 
  ⟨(some (72)), .move (.tmp 15), none, [0, 1, 2, 3, 4, 5, 6, 7, 8, 9]⟩, 
  ⟨(some (73)), .buildSlice 1 [.tmp 71, .tmp 72], none, [0, 1, 2, 3, 4, 5, 6, 7, 8]⟩, 
  ⟨(some (16)), .move (.tmp 64), none, [3, 4, 5, 6, 7, 8, 9, 10, 11]⟩, 
  ⟨(some (17)), .move (.tmp 67), none, [6, 7, 8, 9, 10, 11]⟩, 
  ⟨(some (18)), .move (.tmp 70), none, [9, 10, 11]⟩], 
  [
  ⟨(some (19)), .move (.tmp 73), none, []⟩]]
theorem k_law07_GaugeAges_r6_sg : segs k_law07_GaugeAges_r6 = k_law07_GaugeAges_r6s := by kernel_rfl
theorem k_law07_GaugeAges_r6_st : statOK k_law07_GaugeAges_r6 = true := by kernel_rfl
def k_law07_GaugeAges_r7 : List AOper := [
  ⟨(some (20)), .move (.const (.int .i64 0)), none, []⟩]
def k_law07_GaugeAges_r8 : List AOper := [
  ⟨(some (74)), .move (.tmp 20), none, []⟩, 
  ⟨(some (75)), .bin .plain .lss (.tmp 74) (.const (.int .i64 2)), none, []⟩]
def k_law07_GaugeAges_r9 : List AOper := [
  ⟨(some (79)), .move (.tmp 16), none, []⟩, 
  ⟨(some (80)), .move (.tmp 20), none, [0]⟩, 
  ⟨(some (81)), .indexAddr 2 (.tmp 79) (.tmp 80), none, []⟩, 
  ⟨(some (82)), .load (some (2)) (.tmp 81), none, []⟩, 
  ⟨(some (83)), .move (.tmp 17), none, [0, 1, 2, 3]⟩, 
  ⟨(some (84)), .move (.tmp 20), none, [0, 1, 2, 3, 4]⟩, 
  ⟨(some (85)), .indexAddr 2 (.tmp 83) (.tmp 84), none, [0, 1, 2, 3]⟩, 
  ⟨(some (86)), .load (some (2)) (.tmp 85), none, [0, 1, 2, 3]⟩, 
  ⟨(some (87)), .move (.tmp 19), none, [0, 1, 2, 3, 4, 5, 6, 7]⟩, 
  ⟨(some (88)), .move (.tmp 20), none, [0, 1, 2, 3, 4, 5, 6, 7, 8]⟩, 
  ⟨(some (89)), .indexAddr 1 (.tmp 87) (.tmp 88), none, [0, 1, 2, 3, 4, 5, 6, 7]⟩, 
  ⟨(some (90)), .load none (.tmp 89), none, [0, 1, 2, 3, 4, 5, 6, 7]⟩, 
  ⟨(some (91)), .call (.const (.fn (.func 44) [] [])) [.tmp 82, .tmp 86, .tmp 90], none, []⟩, 
  ⟨(some (78)), .move (.tmp 91), none, []⟩, 
  ⟨(some (92)), .extract (.tmp 78) 0, none, []⟩, 
  ⟨(some (93)), .extract (.tmp 78) 1, none, [14]⟩, 
  ⟨(some (21)), .box (.const (.agg [.int .i64 0, .int .i64 0])), none, [0, 1, 2, 3, 4, 5, 6, 7, 8, 9, 10, 11, 12, 13, 14, 15]⟩, 
  ⟨none, .store 2 (.tmp 21) (.tmp 92), none, [15]⟩, 
  ⟨(some (22)), .move (.tmp 93), none, []⟩]
def k_law07_GaugeAges_r9s : List (List AOper) := [
  [
  ⟨(some (79)), .move (.tmp 16), none, []⟩, 
  ⟨(some (80)), .move (.tmp 20), none, [0]⟩, 
  ⟨(some (81)), .indexAddr 2 (.tmp 79) (.tmp 80), none, []⟩, 
  ⟨(some (82)), .load (some (2)) (.tmp 81), none, []⟩, 
  ⟨(some (83)), .move (.tmp 17), none, [0, 1, 2, 3]⟩, 
  ⟨(some (84)), .move (.tmp 20), none, [0, 1, 2, 3, 4]⟩, 
  ⟨(some (85)), .indexAddr 2 (.tmp 83) (.tmp 84), none, [0, 1, 2, 3]⟩, 
  ⟨(some (86)), .load (some (2)) (.tmp 85), none, [0, 1, 2, 3]⟩, 
  ⟨(some (87)), .move (.tmp 19), none, [0, 1, 2, 3, 4, 5, 6, 7]⟩, 
  ⟨(some (88)), .move (.tmp 20), none, [0, 1, 2, 3, 4, 5, 6, 7, 8]⟩, 
  ⟨(some (89)), .indexAddr 1 (.tmp 87) (.tmp 88), none, [0, 1, 2, 3, 4, 5, 6, 7]⟩, 
  ⟨(some (90)), .load none (.tmp 89), none, [0, 1, 2, 3, 4, 5, 6, 7]⟩, 
  ⟨(some (91)), .call (.const (.fn (.func 44) [] [])) [.tmp 82, .tmp 86, .tmp 90], none, []⟩, 
  ⟨(some (78)), .move (.tmp 91), none, []⟩, 
  ⟨(some (92)), .extract (.tmp 78) 0, none, []⟩, 
  ⟨(some (93)), .extract (.tmp 78) 1, none, [14]⟩, 
  ⟨(some (21)), .box (.const (.agg [.int .i64 0, .int .i64 0])), none, [0, 1, 2, 3, 4, 5, 6, 7, 8, 9, 10, 11, 12, 13, 14, 15]⟩, 
  ⟨none, .store 2 (.tmp 21) (.tmp 92), none, [15]⟩], 
  [
  ⟨(some (22)), .move (.tmp 93), none, []⟩]]
theorem k_law07_GaugeAges_r9_sg : segs k_law07_GaugeAges_r9 = k_law07_GaugeAges_r9s := by kernel_rfl
theorem k_law07_GaugeAges_r9_st : statOK k_law07_GaugeAges_r9 = true := by kernel_rfl
def k_law07_GaugeAges_r10 : List AOper := [
  ⟨(some (95)), .move (.tmp 16), none, []⟩, 
  ⟨(some (96)), .move (.tmp 20), none, [0]⟩, 
  ⟨(some (97)), .indexAddr 2 (.tmp 95) (.tmp 96), none, []⟩, 
  ⟨(some (98)), .load (some (2)) (.tmp 97), none, []⟩, 
  ⟨(some (99)), .move (.tmp 17), none, [0, 1, 2, 3]⟩, 
  ⟨(some (100)), .move (.tmp 20), none, [0, 1, 2, 3, 4]⟩, 
  ⟨(some (101)), .indexAddr 2 (.tmp 99) (.tmp 100), none, [0, 1, 2, 3]⟩, 
  ⟨(some (102)), .load (some (2)) (.tmp 101), none, [0, 1, 2, 3]⟩, 
  ⟨(some (103)), .move (.tmp 19), none, [0, 1, 2, 3, 4, 5, 6, 7]⟩, 
  ⟨(some (104)), .move (.tmp 20), none, [0, 1, 2, 3, 4, 5, 6, 7, 8]⟩, 
  ⟨(some (105)), .indexAddr 1 (.tmp 103) (.tmp 104), none, [0, 1, 2, 3, 4, 5, 6, 7]⟩, 
  ⟨(some (106)), .load none (.tmp 105), none, [0, 1, 2, 3, 4, 5, 6, 7]⟩, 
  ⟨(some (107)), .call (.const (.fn (.func 45) [] [])) [.tmp 98, .tmp 102, .tmp 106], none, []⟩, 
  ⟨(some (94)), .move (.tmp 107), none, []⟩, 
  ⟨(some (108)), .extract (.tmp 94) 0, none, []⟩, 
  ⟨(some (109)), .extract (.tmp 94) 1, none, [14]⟩, 
  ⟨(some (23)), .box (.const (.agg [.int .i64 0, .int .i64 0])), none, [0, 1, 2, 3, 4, 5, 6, 7, 8, 9, 10, 11, 12, 13, 14, 15]⟩, 
  ⟨none, .store 2 (.tmp 23) (.tmp 108), none, [15]⟩, 
  ⟨(some (24)), .move (.tmp 109), none, []⟩]
def k_law07_GaugeAges_r10s : List (List AOper) := [
  [
  ⟨(some (95)), .move (.tmp 16), none, []⟩, 
  ⟨(some (96)), .move (.tmp 20), none, [0]⟩, 
  ⟨(some (97)), .indexAddr 2 (.tmp 95) (.tmp 96), none, []⟩, 
  ⟨(some (98)), .load (some (2)) (.tmp 97), none, []⟩, 
  ⟨(some (99)), .move (.tmp 17), none, [0, 1, 2, 3]⟩, 
  ⟨(some (100)), .move (.tmp 20), none, [0, 1, 2, 3, 4]⟩, 
  ⟨(some (101)), .indexAddr 2 (.tmp 99) (.tmp 100), none, [0, 1, 2, 3]⟩, 
  ⟨(some (102)), .load (some (2)) (.tmp 101), none, [0, 1, 2, 3]⟩, 
  ⟨(some (103)), .move (.tmp 19), none, [0, 1, 2, 3, 4, 5, 6, 7]⟩, 
  ⟨(some (104)), .move (.tmp 20), none, [0, 1, 2, 3, 4, 5, 6, 7, 8]⟩, 
  ⟨(some (105)), .indexAddr 1 (.tmp 103) (.tmp 104), none, [0, 1, 2, 3, 4, 5, 6, 7]⟩, 
  ⟨(some (106)), .load none (.tmp 105), none, [0, 1, 2, 3, 4, 5, 6, 7]⟩, 
  ⟨(some (107)), .call (.const (.fn (.func 45) [] [])) [.tmp 98, .tmp 102, .tmp 106], none, []⟩, 
  ⟨(some (94)), .move (.tmp 107), none, []⟩, 
  ⟨(some (108)), .extract (.tmp 94) 0, none, []⟩, 
  ⟨(some (109)), .extract (.tmp 94) 1, none, [14]⟩, 
  ⟨(some (23)), .box (.const (.agg [.int .i64 0, .int .i64 0])), none, [0, 1, 2, 3, 4, 5, 6, 7, 8, 9, 10, 11, 12, 13, 14, 15]⟩, 
  ⟨none, .store 2 (.tmp 23) (.tmp 108), none, [15]⟩], 
  [
  ⟨(some (24)), .move (.tmp 109), none, []⟩]]
theorem k_law07_GaugeAges_r10_sg : segs k_law07_GaugeAges_r10 = k_law07_GaugeAges_r10s := by kernel_rfl
theorem k_law07_GaugeAges_r10_st : statOK k_law07_GaugeAges_r10 = true := by kernel_rfl
def k_law07_GaugeAges_r11 : List AOper := [
  ⟨(some (111)), .move (.tmp 16), none, []⟩, 
  ⟨(some (112)), .move (.tmp 20), none, [0]⟩, 
  ⟨(some (113)), .indexAddr 2 (.tmp 111) (.tmp 112), none, []⟩, 
  ⟨(some (114)), .load (some (2)) (.tmp 113), none, []⟩, 
  ⟨(some (115)), .move (.tmp 17), none, [0, 1, 2, 3]⟩, 
  ⟨(some (116)), .move (.tmp 20), none, [0, 1, 2, 3, 4]⟩, 
  ⟨(some (117)), .indexAddr 2 (.tmp 115) (.tmp 116), none, [0, 1, 2, 3]⟩, 
  ⟨(some (118)), .load (some (2)) (.tmp 117), none, [0, 1, 2, 3]⟩, 
  ⟨(some (119)), .move (.tmp 18), none, [0, 1, 2, 3, 4, 5, 6, 7]⟩, 
  ⟨(some (120)), .move (.tmp 20), none, [0, 1, 2, 3, 4, 5, 6, 7, 8]⟩, 
  ⟨(some (121)), .indexAddr 2 (.tmp 119) (.tmp 120), none, [0, 1, 2, 3, 4, 5, 6, 7]⟩, 
  ⟨(some (122)), .load (some (2)) (.tmp 121), none, [0, 1, 2, 3, 4, 5, 6, 7]⟩, 
  ⟨(some (123)), .call (.const (.fn (.func 46) [] [])) [.tmp 114, .tmp 118, .tmp 122], none, []⟩, 
  ⟨(some (110)), .move (.tmp 123), none, []⟩, 
  ⟨(some (124)), .extract (.tmp 110) 0, none, []⟩, 
  ⟨(some (125)), .extract (.tmp 110) 1, none, [14]⟩, 
  ⟨(some (25)), .box (.const (.agg [.int .i64 0, .int .i64 0])), none, [0, 1, 2, 3, 4, 5, 6, 7, 8, 9, 10, 11, 12, 13, 14, 15]⟩, 
  ⟨none, .store 2 (.tmp 25) (.tmp 124), none, [15]⟩, 
  ⟨(some (26)), .move (.tmp 125), none, []⟩]
def k_law07_GaugeAges_r11s : List (List AOper) := [
  [
  ⟨(some (111)), .move (.tmp 16), none, []⟩, 
  ⟨(some (112)), .move (.tmp 20), none, [0]⟩, 
  ⟨(some (113)), .indexAddr 2 (.tmp 111) (.tmp 112), none, []⟩, 
  ⟨(some (114)), .load (some (2)) (.tmp 113), none, []⟩, 
  ⟨(some (115)), .move (.tmp 17), none, [0, 1, 2, 3]⟩, 
  ⟨(some (116)), .move (.tmp 20), none, [0, 1, 2, 3, 4]⟩, 
  ⟨(some (117)), .indexAddr 2 (.tmp 115) (.tmp 116), none, [0, 1, 2, 3]⟩, 
  ⟨(some (118)), .load (some (2)) (.tmp 117), none, [0, 1, 2, 3]⟩, 
  ⟨(some (119)), .move (.tmp 18), none, [0, 1, 2, 3, 4, 5, 6, 7]⟩, 
  ⟨(some (120)), .move (.tmp 20), none, [0, 1, 2, 3, 4, 5, 6, 7, 8]⟩, 
  ⟨(some (121)), .indexAddr 2 (.tmp 119) (.tmp 120), none, [0, 1, 2, 3, 4, 5, 6, 7]⟩, 
  ⟨(some (122)), .load (some (2)) (.tmp 121), none, [0, 1, 2, 3, 4, 5, 6, 7]⟩, 
  ⟨(some (123)), .call (.const (.fn (.func 46) [] [])) [.tmp 114, .tmp 118, .tmp 122], none, []⟩, 
  ⟨(some (110)), .move (.tmp 123), none, []⟩, 
  ⟨(some (124)), .extract (.tmp 110) 0, none, []⟩, 
  ⟨(some (125)), .extract (.tmp 110) 1, none, [14]⟩, 
  ⟨(some (25)), .box (.const (.agg [.int .i64 0, .int .i64 0])), none, [0, 1, 2, 3, 4, 5, 6, 7, 8, 9, 10, 11, 12, 13, 14, 15]⟩, 
  ⟨none, .store 2 (.tmp 25) (.tmp 124), none, [15]⟩], 
  [
  ⟨(some (26)), .move (.tmp 125), none, []⟩]]
theorem k_law07_GaugeAges_r11_sg : segs k_law07_GaugeAges_r11 = k_law07_GaugeAges_r11s := by kernel_rfl
theorem k_law07_GaugeAges_r11_st : statOK k_law07_GaugeAges_r11 = true := by kernel_rfl
def k_law07_GaugeAges_r12 : List AOper := [
  ⟨(some (127)), .move (.tmp 16), none, []⟩, 
  ⟨(some (128)), .move (.tmp 20), none, [0]⟩, 
  ⟨(some (129)), .indexAddr 2 (.tmp 127) (.tmp 128), none, []⟩, 
  ⟨(some (130)), .load (some (2)) (.tmp 129), none, []⟩, 
  ⟨(some (131)), .move (.tmp 17), none, [0, 1, 2, 3]⟩, 
  ⟨(some (132)), .move (.tmp 20), none, [0, 1, 2, 3, 4]⟩, 
  ⟨(some (133)), .indexAddr 2 (.tmp 131) (.tmp 132), none, [0, 1, 2, 3]⟩, 
  ⟨(some (134)), .load (some (2)) (.tmp 133), none, [0, 1, 2, 3]⟩, 
  ⟨(some (135)), .move (.tmp 18), none, [0, 1, 2, 3, 4, 5, 6, 7]⟩, 
  ⟨(some (136)), .move (.tmp 20), none, [0, 1, 2, 3, 4, 5, 6, 7, 8]⟩, 
  ⟨(some (137)), .indexAddr 2 (.tmp 135) (.tmp 136), none, [0, 1, 2, 3, 4, 5, 6, 7]⟩, 
  ⟨(some (138)), .load (some (2)) (.tmp 137), none, [0, 1, 2, 3, 4, 5, 6, 7]⟩, 
  ⟨(some (139)), .call (.const (.fn (.func 47) [] [])) [.tmp 130, .tmp 134, .tmp 138], none, []⟩, 
  ⟨(some (126)), .move (.tmp 139), none, []⟩, 
  ⟨(some (140)), .extract (.tmp 126) 0, none, []⟩, 
  ⟨(some (141)), .extract (.tmp 126) 1, none, [14]⟩, 
  ⟨(some (27)), .box (.const (.agg [.int .i64 0, .int .i64 0])), none, [0, 1, 2, 3, 4, 5, 6, 7, 8, 9, 10, 11, 12, 13, 14, 15]⟩, 
  ⟨none, .store 2 (.tmp 27) (.tmp 140), none, [15]⟩, 
  ⟨(some (28)), .move (.tmp 141), none, []⟩]
def k_law07_GaugeAges_r12s : List (List AOper) := [
  [
  ⟨(some (127)), .move (.tmp 16), none, []⟩, 
  ⟨(some (128)), .move (.tmp 20), none, [0]⟩, 
  ⟨(some (129)), .indexAddr 2 (.tmp 127) (.tmp 128), none, []⟩, 
  ⟨(some (130)), .load (some (2)) (.tmp 129), none, []⟩, 
  ⟨(some (131)), .move (.tmp 17), none, [0, 1, 2, 3]⟩, 
  ⟨(some (132)), .move (.tmp 20), none, [0, 1, 2, 3, 4]⟩, 
  ⟨(some (133)), .indexAddr 2 (.tmp 131) (.tmp 132), none, [0, 1, 2, 3]⟩, 
  ⟨(some (134)), .load (some (2)) (.tmp 133), none, [0, 1, 2, 3]⟩, 
  ⟨(some (135)), .move (.tmp 18), none, [0, 1, 2, 3, 4, 5, 6, 7]⟩, 
  ⟨(some (136)), .move (.tmp 20), none, [0, 1, 2, 3, 4, 5, 6, 7, 8]⟩, 
  ⟨(some (137)), .indexAddr 2 (.tmp 135) (.tmp 136), none, [0, 1, 2, 3, 4, 5, 6, 7]⟩, 
  ⟨(some (138)), .load (some (2)) (.tmp 137), none, [0, 1, 2, 3, 4, 5, 6, 7]⟩, 
  ⟨(some (139)), .call (.const (.fn (.func 47) [] [])) [.tmp 130, .tmp 134, .tmp 138], none, []⟩, 
  ⟨(some (126)), .move (.tmp 139), none, []⟩, 
  ⟨(some (140)), .extract (.tmp 126) 0, none, []⟩, 
  ⟨(some (141)), .extract (.tmp 126) 1, none, [14]⟩, 
  ⟨(some (27)), .box (.const (.agg [.int .i64 0, .int .i64 0])), none, [0, 1, 2, 3, 4, 5, 6, 7, 8, 9, 10, 11, 12, 13, 14, 15]⟩, 
  ⟨none, .store 2 (.tmp 27) (.tmp 140), none, [15]⟩], 
  [
  ⟨(some (28)), .move (.tmp 141), none, []⟩]]
theorem k_law07_GaugeAges_r12_sg : segs k_law07_GaugeAges_r12 = k_law07_GaugeAges_r12s := by kernel_rfl
theorem k_law07_GaugeAges_r12_st : statOK k_law07_GaugeAges_r12 = true := by kernel_rfl
def k_law07_GaugeAges_r13 : List AOper := [
  ⟨(some (142)), .load (some (2)) (.tmp 21), none, []⟩, 
  ⟨(some (143)), .load (some (2)) (.tmp 23), none, []⟩, 
  ⟨(some (144)), .eqAgg true [.int, .int] (.tmp 142) (.tmp 143), none, []⟩, 
  ⟨(some (145)), .move (.tmp 144), none, []⟩, 
  ⟨(some (146)), .move (.tmp 22), (some (145, false)), []⟩, 
  ⟨(some (147)), .move (.tmp 24), (some (145, false)), []⟩, 
  ⟨(some (148)), .bin .plain .neq (.tmp 146) (.tmp 147), (some (145, false)), []⟩, 
  ⟨(some (149)), .pick (.tmp 145) (.const (.bool true)) (.tmp 148), none, []⟩, 
  ⟨(some (150)), .move (.tmp 149), none, []⟩, 
  ⟨(some (151)), .load (some (2)) (.tmp 25), (some (150, false)), []⟩, 
  ⟨(some (152)), .load (some (2)) (.tmp 27), (some (150, false)), []⟩, 
  ⟨(some (153)), .eqAgg true [.int, .int] (.tmp 151) (.tmp 152), (some (150, false)), []⟩, 
  ⟨(some (154)), .pick (.tmp 150) (.const (.bool true)) (.tmp 153), none, []⟩, 
  ⟨(some (155)), .move (.tmp 154), none, []⟩, 
  ⟨(some (156)), .move (.tmp 26), (some (155, false)), []⟩, 
  ⟨(some (157)), .move (.tmp 28), (some (155, false)), []⟩, 
  ⟨(some (158)), .bin .plain .neq (.tmp 156) (.tmp 157), (some (155, false)), []⟩, 
  ⟨(some (159)), .pick (.tmp 155) (.const (.bool true)) (.tmp 158), none, []⟩]
def k_law07_GaugeAges_r14 : List AOper := [
  ⟨(some (10)), .move (.const (.bool false)), none, []⟩]
def k_law07_GaugeAges_r15 : List AOper := [
  ⟨(some (76)), .move (.tmp 20), none, []⟩, 
  ⟨(some (77)), .bin .plain .add (.tmp 76) (.const (.int .i64 1)), none, []⟩, 
  ⟨(some (20)), .move (.tmp 77), none, []⟩]
def k_law07_GaugeAges_r16 : ACode := (.seq (.seq (.reg k_law07_GaugeAges_r8 false) (.cond (.tmp 75) .skip (.exit 0))) (.seq (.block 1 (.seq (.reg k_law07_GaugeAges_r9 true) (.seq (.reg k_law07_GaugeAges_r10 true) (.seq (.reg k_law07_GaugeAges_r11 true) (.seq (.reg k_law07_GaugeAges_r12 true) (.seq (.reg k_law07_GaugeAges_r13 false) (.cond (.tmp 159) (.seq (.reg k_law07_GaugeAges_r14 false) .ret) .skip))))))) (.reg k_law07_GaugeAges_r15 false)))
def k_law07_GaugeAges_r17 : List AOper := [
  ⟨(some (160)), .call (.const (.fn (.func 15) [] [])) [], none, []⟩, 
  ⟨(some (10)), .move (.tmp 160), none, []⟩]
def k_law07_GaugeAges : AFun := { params := 5, ntmps := 161, body := (.seq (.reg k_law07_GaugeAges_r0 false) (.seq (.reg k_law07_GaugeAges_r1 false) (.seq (.reg k_law07_GaugeAges_r2 false) (.seq (.reg k_law07_GaugeAges_r3 true) (.seq (.reg k_law07_GaugeAges_r4 true) (.seq (.reg k_law07_GaugeAges_r5 false) (.seq (.reg k_law07_GaugeAges_r6 true) (.seq (.seq (.reg k_law07_GaugeAges_r7 false) (.block 0 (.loop k_law07_GaugeAges_r16))) (.seq (.reg k_law07_GaugeAges_r17 false) .ret))))))))), res := [.tmp 10] }
theorem k_law07_GaugeAges_ok : cfun Tryd.prog Tryd.f8 = k_law07_GaugeAges := by kernel_rfl

def k_ref07_Verdict_r0 : List AOper := [
  ⟨(some (2)), .box (.tmp 0), none, []⟩, 
  ⟨(some (3)), .box (.tmp 1), none, []⟩, 
  ⟨(some (4)), .move (.const (.int .i64 0)), none, []⟩]
def k_ref07_Verdict_r1 : List AOper := [
  ⟨(some (6)), .fieldAddr 0 (.tmp 2), none, []⟩, 
  ⟨(some (7)), .load none (.tmp 6), none, []⟩, 
  ⟨(some (8)), .fieldAddr 1 (.tmp 2), none, []⟩, 
  ⟨(some (9)), .load none (.tmp 8), none, []⟩, 
  ⟨(some (10)), .bin .plain .gtr (.tmp 7) (.tmp 9), none, []⟩, 
  ⟨(some (11)), .move (.tmp 10), none, []⟩, 
  ⟨(some (12)), .fieldAddr 0 (.tmp 3), (some (11, false)), []⟩, 
  ⟨(some (13)), .load none (.tmp 12), (some (11, false)), []⟩, 
  ⟨(some (14)), .fieldAddr 1 (.tmp 3), (some (11, false)), []⟩, 
  ⟨(some (15)), .load none (.tmp 14), (some (11, false)), []⟩, 
  ⟨(some (16)), .bin .plain .gtr (.tmp 13) (.tmp 15), (some (11, false)), []⟩, 
  ⟨(some (17)), .pick (.tmp 11) (.const (.bool true)) (.tmp 16), none, []⟩, 
  ⟨(some (5)), .move (.tmp 17), none, []⟩]
def k_ref07_Verdict_r2 : List AOper := [
  ⟨(some (4)), .move (.const (.int .i64 0)), none, []⟩]
def k_ref07_Verdict_r3 : List AOper := [
  ⟨(some (19)), .fieldAddr 0 (.tmp 2), none, []⟩, 
  ⟨(some (20)), .load none (.tmp 19), none, []⟩, 
  ⟨(some (21)), .fieldAddr 0 (.tmp 3), none, []⟩, 
  ⟨(some (22)), .load none (.tmp 21), none, []⟩, 
  ⟨(some (23)), .bin .plain .geq (.tmp 20) (.tmp 22), none, []⟩, 
  ⟨(some (24)), .move (.tmp 23), none, []⟩, 
  ⟨(some (25)), .fieldAddr 1 (.tmp 2), (some (24, true)), []⟩, 
  ⟨(some (26)), .load none (.tmp 25), (some (24, true)), []⟩, 
  ⟨(some (27)), .fieldAddr 1 (.tmp 3), (some (24, true)), []⟩, 
  ⟨(some (28)), .load none (.tmp 27), (some (24, true)), []⟩, 
  ⟨(some (29)), .bin .plain .leq (.tmp 26) (.tmp 28), (some (24, true)), []⟩, 
  ⟨(some (30)), .pick (.tmp 24) (.tmp 29) (.const (.bool false)), none, []⟩, 
  ⟨(some (18)), .move (.tmp 30), none, []⟩]
def k_ref07_Verdict_r4 : List AOper := [
  ⟨(some (4)), .move (.const (.int .i64 1)), none, []⟩]
def k_ref07_Verdict_r5 : List AOper := [
  ⟨(some (32)), .fieldAddr 1 (.tmp 2), none, []⟩, 
  ⟨(some (33)), .load none (.tmp 32), none, []⟩, 
  ⟨(some (34)), .fieldAddr 0 (.tmp 3), none, []⟩, 
  ⟨(some (35)), .load none (.tmp 34), none, []⟩, 
  ⟨(some (36)), .bin .plain .lss (.tmp 33) (.tmp 35), none, []⟩, 
  ⟨(some (37)), .move (.tmp 36), none, []⟩, 
  ⟨(some (38)), .fieldAddr 0 (.tmp 2), (some (37, false)), []⟩, 
  ⟨(some (39)), .load none (.tmp 38), (some (37, false)), []⟩, 
  ⟨(some (40)), .fieldAddr 1 (.tmp 3), (some (37, false)), []⟩, 
  ⟨(some (41)), .load none (.tmp 40), (some (37, false)), []⟩, 
  ⟨(some (42)), .bin .plain .gtr (.tmp 39) (.tmp 41), (some (37, false)), []⟩, 
  ⟨(some (43)), .pick (.tmp 37) (.const (.bool true)) (.tmp 42), none, []⟩, 
  ⟨(some (31)), .move (.tmp 43), none, []⟩]
def k_ref07_Verdict_r6 : List AOper := [
  ⟨(some (4)), .move (.const (.int .i64 2)), none, []⟩]
def k_ref07_Verdict_r7 : List AOper := [
  ⟨(some (4)), .move (.const (.int .i64 3)), none, []⟩]
def k_ref07_Verdict : AFun := { params := 2, ntmps := 44, body := (.seq (.reg k_ref07_Verdict_r0 false) (.seq (.block 0 (.seq (.reg k_ref07_Verdict_r1 false) (.cond (.tmp 5) (.seq (.reg k_ref07_Verdict_r2 false) .ret) (.seq (.reg k_ref07_Verdict_r3 false) (.cond (.tmp 18) (.seq (.reg k_ref07_Verdict_r4 false) .ret) (.seq (.reg k_ref07_Verdict_r5 false) (.cond (.tmp 31) (.seq (.reg k_ref07_Verdict_r6 false) .ret) .skip))))))) (.seq (.reg k_ref07_Verdict_r7 false) .ret))), res := [.tmp 4] }
theorem k_ref07_Verdict_ok : cfun Tryd.prog Tryd.f35 = k_ref07_Verdict := by kernel_rfl

def k_gauge_Aged_r0 : List AOper := [
  ⟨(some (3)), .box (.tmp 0), none, []⟩, 
  ⟨(some (4)), .box (.tmp 1), none, []⟩, 
  ⟨(some (6)), .box (.const (.agg [.int .i64 0, .int .i64 0])), none, []⟩, 
  ⟨(some (7)), .move (.const (.int .i64 0)), none, []⟩]
def k_gauge_Aged_r1 : List AOper := [
  ⟨(some (9)), .load (some (2)) (.tmp 3), none, []⟩, 
  ⟨(some (10)), .load (some (2)) (.tmp 4), none, []⟩, 
  ⟨(some (11)), .call (.const (.fn (.func 82) [] [])) [.tmp 9, .tmp 10], none, []⟩, 
  ⟨(some (8)), .move (.tmp 11), none, []⟩]
def k_gauge_Aged_r2 : List AOper := [
  ⟨(some (12)), .move (.tmp 8), none, []⟩, 
  ⟨(some (13)), .bin .plain .neq (.tmp 12) (.const (.int .i64 0)), none, []⟩]
def k_gauge_Aged_r3 : List AOper := [
  ⟨(some (14)), .build [.int .i64 0, .int .i64 0] [], none, []⟩, 
  ⟨(some (15)), .move (.tmp 8), none, []⟩, 
  ⟨none, .store 2 (.tmp 6) (.tmp 14), none, []⟩, 
  ⟨(some (7)), .move (.tmp 15), none, []⟩]
def k_gauge_Aged_r4 : List AOper := [
  ⟨(some (16)), .move (.tmp 2), none, []⟩, 
  ⟨(some (17)), .call (.const (.fn (.func 83) [] [])) [.tmp 16, .const (.int .i64 0), .const (.int .i64 1000000)], none, []⟩, 
  ⟨(some (18)), .not (.tmp 17), none, []⟩]
def k_gauge_Aged_r5 : List AOper := [
  ⟨(some (19)), .build [.int .i64 0, .int .i64 0] [], none, []⟩, 
  ⟨none, .store 2 (.tmp 6) (.tmp 19), none, []⟩, 
  ⟨(some (7)), .move (.const (.int .i64 2)), none, []⟩]
def k_gauge_Aged_r6 : List AOper := [
  ⟨(some (20)), .load (some (2)) (.tmp 3), none, []⟩, 
  ⟨(some (21)), .load (some (2)) (.tmp 4), none, []⟩, 
  ⟨(some (22)), .move (.tmp 2), none, []⟩, 
  ⟨(some (23)), .call (.const (.fn (.func 84) [] [])) [.tmp 20, .tmp 21, .tmp 22], none, []⟩, 
  ⟨none, .store 2 (.tmp 6) (.tmp 23), none, []⟩, 
  ⟨(some (7)), .move (.const (.int .i64 0)), none, []⟩]
def k_gauge_Aged : AFun := { params := 3, ntmps := 24, body := (.seq (.reg k_gauge_Aged_r0 false) (.seq (.seq (.reg k_gauge_Aged_r1 false) (.seq (.reg k_gauge_Aged_r2 false) (.cond (.tmp 13) (.seq (.reg k_gauge_Aged_r3 false) .ret) .skip))) (.seq (.seq (.reg k_gauge_Aged_r4 false) (.cond (.tmp 18) (.seq (.reg k_gauge_Aged_r5 false) .ret) .skip)) (.seq (.reg k_gauge_Aged_r6 false) .ret)))), res := [.cell 6 (some ((some (2)))), .tmp 7] }
theorem k_gauge_Aged_ok : cfun Tryd.prog Tryd.f44 = k_gauge_Aged := by kernel_rfl

def k_ref07_Aged_r0 : List AOper := [
  ⟨(some (3)), .box (.tmp 0), none, []⟩, 
  ⟨(some (4)), .box (.tmp 1), none, []⟩, 
  ⟨(some (6)), .box (.const (.agg [.int .i64 0, .int .i64 0])), none, []⟩, 
  ⟨(some (7)), .move (.const (.int .i64 0)), none, []⟩]
def k_ref07_Aged_r1 : List AOper := [
  ⟨(some (9)), .load (some (2)) (.tmp 3), none, []⟩, 
  ⟨(some (10)), .load (some (2)) (.tmp 4), none, []⟩, 
  ⟨(some (11)), .call (.const (.fn (.func 85) [] [])) [.tmp 9, .tmp 10], none, []⟩, 
  ⟨(some (8)), .move (.tmp 11), none, []⟩]
def k_ref07_Aged_r2 : List AOper := [
  ⟨(some (12)), .move (.tmp 8), none, []⟩, 
  ⟨(some (13)), .bin .plain .neq (.tmp 12) (.const (.int .i64 0)), none, []⟩]
def k_ref07_Aged_r3 : List AOper := [
  ⟨(some (14)), .build [.int .i64 0, .int .i64 0] [], none, []⟩, 
  ⟨(some (15)), .move (.tmp 8), none, []⟩, 
  ⟨none, .store 2 (.tmp 6) (.tmp 14), none, []⟩, 
  ⟨(some (7)), .move (.tmp 15), none, []⟩]
def k_ref07_Aged_r4 : List AOper := [
  ⟨(some (16)), .move (.tmp 2), none, []⟩, 
  ⟨(some (17)), .call (.const (.fn (.func 58) [] [])) [.tmp 16, .const (.int .i64 0), .const (.int .i64 1000000)], none, []⟩]
def k_ref07_Aged_r5 : List AOper := [
  ⟨(some (18)), .build [.int .i64 0, .int .i64 0] [], none, []⟩, 
  ⟨none, .store 2 (.tmp 6) (.tmp 18), none, []⟩, 
  ⟨(some (7)), .move (.const (.int .i64 2)), none, []⟩]
def k_ref07_Aged_r6 : List AOper := [
  ⟨(some (19)), .load (some (2)) (.tmp 3), none, []⟩, 
  ⟨(some (20)), .load (some (2)) (.tmp 4), none, []⟩, 
  ⟨(some (21)), .move (.tmp 2), none, []⟩, 
  ⟨(some (22)), .call (.const (.fn (.func 86) [] [])) [.tmp 19, .tmp 20, .tmp 21], none, []⟩, 
  ⟨none, .store 2 (.tmp 6) (.tmp 22), none, []⟩, 
  ⟨(some (7)), .move (.const (.int .i64 0)), none, []⟩]
def k_ref07_Aged : AFun := { params := 3, ntmps := 23, body := (.seq (.reg k_ref07_Aged_r0 false) (.seq (.seq (.reg k_ref07_Aged_r1 false) (.seq (.reg k_ref07_Aged_r2 false) (.cond (.tmp 13) (.seq (.reg k_ref07_Aged_r3 false) .ret) .skip))) (.seq (.seq (.reg k_ref07_Aged_r4 false) (.cond (.tmp 17) (.seq (.reg k_ref07_Aged_r5 false) .ret) .skip)) (.seq (.reg k_ref07_Aged_r6 false) .ret)))), res := [.cell 6 (some ((some (2)))), .tmp 7] }
theorem k_ref07_Aged_ok : cfun Tryd.prog Tryd.f45 = k_ref07_Aged := by kernel_rfl

def k_ref07_Keeps_r0 : List AOper := [
  ⟨(some (3)), .box (.tmp 0), none, []⟩, 
  ⟨(some (4)), .box (.tmp 1), none, []⟩, 
  ⟨(some (5)), .box (.tmp 2), none, []⟩, 
  ⟨(some (6)), .box (.const (.agg [.int .i64 0, .int .i64 0])), none, []⟩, 
  ⟨(some (7)), .move (.const (.int .i64 0)), none, []⟩]
def k_ref07_Keeps_r1 : List AOper := [
  ⟨(some (15)), .load (some (2)) (.tmp 3), none, []⟩, 
  ⟨(some (16)), .load (some (2)) (.tmp 4), none, []⟩, 
  ⟨(some (17)), .call (.const (.fn (.func 85) [] [])) [.tmp 15, .tmp 16], none, []⟩, 
  ⟨(some (8)), .move (.tmp 17), none, []⟩]
def k_ref07_Keeps_r2 : List AOper := [
  ⟨(some (18)), .move (.tmp 8), none, []⟩, 
  ⟨(some (19)), .bin .plain .neq (.tmp 18) (.const (.int .i64 0)), none, []⟩]
def k_ref07_Keeps_r3 : List AOper := [
  ⟨(some (20)), .build [.int .i64 0, .int .i64 0] [], none, []⟩, 
  ⟨(some (21)), .move (.tmp 8), none, []⟩, 
  ⟨none, .store 2 (.tmp 6) (.tmp 20), none, []⟩, 
  ⟨(some (7)), .move (.tmp 21), none, []⟩]
def k_ref07_Keeps_r4 : List AOper := [
  ⟨(some (22)), .load (some (2)) (.tmp 5), none, []⟩, 
  ⟨(some (23)), .call (.const (.fn (.func 92) [] [])) [.tmp 22, .const (.int .i64 (-1000000000)), .const (.int .i64 1000000000)], none, []⟩, 
  ⟨(some (9)), .move (.tmp 23), none, []⟩]
def k_ref07_Keeps_r5 : List AOper := [
  ⟨(some (24)), .move (.tmp 9), none, []⟩, 
  ⟨(some (25)), .bin .plain .neq (.tmp 24) (.const (.int .i64 0)), none, []⟩]
def k_ref07_Keeps_r6 : List AOper := [
  ⟨(some (26)), .build [.int .i64 0, .int .i64 0] [], none, []⟩, 
  ⟨(some (27)), .move (.tmp 9), none, []⟩, 
  ⟨none, .store 2 (.tmp 6) (.tmp 26), none, []⟩, 
  ⟨(some (7)), .move (.tmp 27), none, []⟩]
def k_ref07_Keeps_r7 : List AOper := [
  ⟨(some (28)), .build [.int .i64 0, .int .i64 0] [(0, 1, .const (.int .i64 (-1))), (1, 1, .const (.int .i64 (-1)))], none, []⟩, 
  ⟨(some (10)), .box (.const (.agg [.int .i64 0, .int .i64 0])), none, []⟩, 
  ⟨none, .store 2 (.tmp 10) (.tmp 28), none, []⟩]
def k_ref07_Keeps_r8 : List AOper := [
  ⟨(some (11)), .move (.const (.bool true)), none, []⟩, 
  ⟨(some (12)), .move (.const (.bool true)), none, []⟩]
def k_ref07_Keeps_r9 : List AOper := [
  ⟨(some (13)), .move (.const (.int .i64 0)), none, []⟩]
def k_ref07_Keeps_r10 : List AOper := [
  ⟨(some (29)), .move (.tmp 13), none, []⟩, 
  ⟨(some (30)), .bin .plain .leq (.tmp 29) (.const (.int .i64 1000000)), none, []⟩, 
  ⟨(some (31)), .move (.tmp 30), none, []⟩, 
  ⟨(some (32)), .move (.tmp 12), (some (31, true)), []⟩, 
  ⟨(some (33)), .pick (.tmp 31) (.tmp 32) (.const (.bool false)), none, []⟩]
def k_ref07_Keeps_r11 : List AOper := [
  ⟨(some (36)), .load (some (2)) (.tmp 3), none, []⟩, 
  ⟨(some (37)), .load (some (2)) (.tmp 4), none, [0]⟩, 
  ⟨(some (38)), .move (.tmp 13), none, [0, 1]⟩, 
  ⟨(some (39)), .call (.const (.fn (.func 86) [] [])) [.tmp 36, .tmp 37, .tmp 38], none, []⟩, 
  ⟨(some (40)), .load (some (2)) (.tmp 5), none, [0, 1, 2, 3]⟩, 
  ⟨(some (41)), .call (.const (.fn (.func 35) [] [])) [.tmp 39, .tmp 40], none, []⟩, 
  ⟨(some (14)), .move (.tmp 41), none, []⟩]
def k_ref07_Keeps_r11s : List (List AOper) := [
  [
  ⟨(some (36)), .load (some (2)) (.tmp 3), none, []⟩, 
  ⟨(some (37)), .load (some (2)) (.tmp 4), none, [0]⟩, 
  ⟨(some (38)), .move (.tmp 13), none, [0, 1]⟩, 
  ⟨(some (39)), .call (.const (.fn (.func 86) [] [])) [.tmp 36, .tmp 37, .tmp 38], none, []⟩, 
  ⟨(some (40)), .load (some (2)) (.tmp 5), none, [0, 1, 2, 3]⟩], 
  [
  ⟨(some (41)), .call (.const (.fn (.func 35) [] [])) [.tmp 39, .tmp 40], none, []⟩], 
  [
  ⟨(some (14)), .move (.tmp 41), none, []⟩]]
theorem k_ref07_Keeps_r11_sg : segs k_ref07_Keeps_r11 = k_ref07_Keeps_r11s := by kernel_rfl
theorem k_ref07_Keeps_r11_st : statOK k_ref07_Keeps_r11 = true := by kernel_rfl
def k_ref07_Keeps_r12 : List AOper := [
  ⟨(some (42)), .move (.tmp 11), none, []⟩, 
  ⟨(some (43)), .move (.tmp 42), none, []⟩, 
  ⟨(some (44)), .move (.tmp 14), (some (43, true)), []⟩, 
  ⟨(some (45)), .bin .plain .eql (.tmp 44) (.const (.int .i64 1)), (some (43, true)), []⟩, 
  ⟨(some (46)), .pick (.tmp 43) (.tmp 45) (.const (.bool false)), none, []⟩, 
  ⟨(some (11)), .move (.tmp 46), none, []⟩]
def k_ref07_Keeps_r13 : List AOper := [
  ⟨(some (47)), .move (.tmp 14), none, []⟩, 
  ⟨(some (48)), .bin .plain .neq (.tmp 47) (.const (.int .i64 2)), none, []⟩, 
  ⟨(some (12)), .move (.tmp 48), none, []⟩]
def k_ref07_Keeps_r14 : List AOper := [
  ⟨(some (49)), .move (.tmp 11), none, []⟩]
def k_ref07_Keeps_r15 : List AOper := [
  ⟨(some (50)), .move (.tmp 13), none, []⟩, 
  ⟨(some (51)), .fieldAddr 0 (.tmp 10), none, []⟩, 
  ⟨none, .store 1 (.tmp 51) (.tmp 50), none, []⟩]
def k_ref07_Keeps_r16 : List AOper := [
  ⟨(some (52)), .move (.tmp 12), none, []⟩]
def k_ref07_Keeps_r17 : List AOper := [
  ⟨(some (53)), .move (.tmp 13), none, []⟩, 
  ⟨(some (54)), .fieldAddr 1 (.tmp 10), none, []⟩, 
  ⟨none, .store 1 (.tmp 54) (.tmp 53), none, []⟩]
def k_ref07_Keeps_r18 : List AOper := [
  ⟨(some (34)), .move (.tmp 13), none, []⟩, 
  ⟨(some (35)), .bin .plain .add (.tmp 34) (.const (.int .i64 1)), none, []⟩, 
  ⟨(some (13)), .move (.tmp 35), none, []⟩]
def k_ref07_Keeps_r19 : ACode := (.seq (.seq (.reg k_ref07_Keeps_r10 false) (.cond (.tmp 33) .skip (.exit 0))) (.seq (.block 1 (.seq (.reg k_ref07_Keeps_r11 true) (.seq (.reg k_ref07_Keeps_r12 false) (.seq (.reg k_ref07_Keeps_r13 false) (.seq (.seq (.reg k_ref07_Keeps_r14 false) (.cond (.tmp 49) (.reg k_ref07_Keeps_r15 false) .skip)) (.seq (.reg k_ref07_Keeps_r16 false) (.cond (.tmp 52) (.reg k_ref07_Keeps_r17 false) .skip))))))) (.reg k_ref07_Keeps_r18 false)))
def k_ref07_Keeps_r20 : List AOper := [
  ⟨(some (55)), .load (some (2)) (.tmp 10), none, []⟩, 
  ⟨none, .store 2 (.tmp 6) (.tmp 55), none, []⟩, 
  ⟨(some (7)), .move (.const (.int .i64 0)), none, []⟩]
def k_ref07_Keeps : AFun := { params := 3, ntmps := 56, body := (.seq (.reg k_ref07_Keeps_r0 false) (.seq (.seq (.reg k_ref07_Keeps_r1 false) (.seq (.reg k_ref07_Keeps_r2 false) (.cond (.tmp 19) (.seq (.reg k_ref07_Keeps_r3 false) .ret) .skip))) (.seq (.seq (.reg k_ref07_Keeps_r4 false) (.seq (.reg k_ref07_Keeps_r5 false) (.cond (.tmp 25) (.seq (.reg k_ref07_Keeps_r6 false) .ret) .skip))) (.seq (.reg k_ref07_Keeps_r7 false) (.seq (.reg k_ref07_Keeps_r8 false) (.seq (.seq (.reg k_ref07_Keeps_r9 false) (.block 0 (.loop k_ref07_Keeps_r19))) (.seq (.reg k_ref07_Keeps_r20 false) .ret))))))), res := [.cell 6 (some ((some (2)))), .tmp 7] }
theorem k_ref07_Keeps_ok : cfun Tryd.prog Tryd.f47 = k_ref07_Keeps := by kernel_rfl

def k_ref07_checkAge_r0 : List AOper := [
  ⟨(some (2)), .box (.tmp 0), none, []⟩, 
  ⟨(some (3)), .box (.tmp 1), none, []⟩, 
  ⟨(some (4)), .move (.const (.int .i64 0)), none, []⟩]
def k_ref07_checkAge_r1 : List AOper := [
  ⟨(some (5)), .fieldAddr 0 (.tmp 2), none, []⟩, 
  ⟨(some (6)), .load none (.tmp 5), none, []⟩, 
  ⟨(some (7)), .call (.const (.fn (.func 58) [] [])) [.tmp 6, .const (.int .i64 (-1000000000)), .const (.int .i64 1000000000)], none, []⟩, 
  ⟨(some (8)), .move (.tmp 7), none, []⟩, 
  ⟨(some (9)), .fieldAddr 1 (.tmp 2), (some (8, false)), []⟩, 
  ⟨(some (10)), .load none (.tmp 9), (some (8, false)), []⟩, 
  ⟨(some (11)), .call (.const (.fn (.func 58) [] [])) [.tmp 10, .const (.int .i64 (-1000000000)), .const (.int .i64 1000000000)], (some (8, false)), []⟩, 
  ⟨(some (12)), .pick (.tmp 8) (.const (.bool true)) (.tmp 11), none, []⟩, 
  ⟨(some (13)), .move (.tmp 12), none, []⟩, 
  ⟨(some (14)), .fieldAddr 0 (.tmp 3), (some (13, false)), []⟩, 
  ⟨(some (15)), .load none (.tmp 14), (some (13, false)), []⟩, 
  ⟨(some (16)), .call (.const (.fn (.func 58) [] [])) [.tmp 15, .const (.int .i64 (-1000000)), .const (.int .i64 1000000)], (some (13, false)), []⟩, 
  ⟨(some (17)), .pick (.tmp 13) (.const (.bool true)) (.tmp 16), none, []⟩, 
  ⟨(some (18)), .move (.tmp 17), none, []⟩, 
  ⟨(some (19)), .fieldAddr 1 (.tmp 3), (some (18, false)), []⟩, 
  ⟨(some (20)), .load none (.tmp 19), (some (18, false)), []⟩, 
  ⟨(some (21)), .call (.const (.fn (.func 58) [] [])) [.tmp 20, .const (.int .i64 (-1000000)), .const (.int .i64 1000000)], (some (18, false)), []⟩, 
  ⟨(some (22)), .pick (.tmp 18) (.const (.bool true)) (.tmp 21), none, []⟩]
def k_ref07_checkAge_r2 : List AOper := [
  ⟨(some (4)), .move (.const (.int .i64 2)), none, []⟩]
def k_ref07_checkAge_r3 : List AOper := [
  ⟨(some (23)), .fieldAddr 0 (.tmp 2), none, []⟩, 
  ⟨(some (24)), .load none (.tmp 23), none, []⟩, 
  ⟨(some (25)), .fieldAddr 1 (.tmp 2), none, []⟩, 
  ⟨(some (26)), .load none (.tmp 25), none, []⟩, 
  ⟨(some (27)), .bin .plain .gtr (.tmp 24) (.tmp 26), none, []⟩, 
  ⟨(some (28)), .move (.tmp 27), none, []⟩, 
  ⟨(some (29)), .fieldAddr 0 (.tmp 3), (some (28, false)), []⟩, 
  ⟨(some (30)), .load none (.tmp 29), (some (28, false)), []⟩, 
  ⟨(some (31)), .fieldAddr 1 (.tmp 3), (some (28, false)), []⟩, 
  ⟨(some (32)), .load none (.tmp 31), (some (28, false)), []⟩, 
  ⟨(some (33)), .bin .plain .gtr (.tmp 30) (.tmp 32), (some (28, false)), []⟩, 
  ⟨(some (34)), .pick (.tmp 28) (.const (.bool true)) (.tmp 33), none, []⟩]
def k_ref07_checkAge_r4 : List AOper := [
  ⟨(some (4)), .move (.const (.int .i64 11)), none, []⟩]
def k_ref07_checkAge_r5 : List AOper := [
  ⟨(some (4)), .move (.const (.int .i64 0)), none, []⟩]
def k_ref07_checkAge : AFun := { params := 2, ntmps := 35, body := (.seq (.reg k_ref07_checkAge_r0 false) (.seq (.seq (.reg k_ref07_checkAge_r1 false) (.cond (.tmp 22) (.seq (.reg k_ref07_checkAge_r2 false) .ret) .skip)) (.seq (.seq (.reg k_ref07_checkAge_r3 false) (.cond (.tmp 34) (.seq (.reg k_ref07_checkAge_r4 false) .ret) .skip)) (.seq (.reg k_ref07_checkAge_r5 false) .ret)))), res := [.tmp 4] }
theorem k_ref07_checkAge_ok : cfun Tryd.prog Tryd.f85 = k_ref07_checkAge := by kernel_rfl

def k_ref07_aged_r0 : List AOper := [
  ⟨(some (3)), .box (.tmp 0), none, []⟩, 
  ⟨(some (4)), .box (.tmp 1), none, []⟩, 
  ⟨(some (6)), .box (.const (.agg [.int .i64 0, .int .i64 0])), none, []⟩]
def k_ref07_aged_r1 : List AOper := [
  ⟨(some (7)), .fieldAddr 0 (.tmp 3), none, []⟩, 
  ⟨(some (8)), .load none (.tmp 7), none, []⟩, 
  ⟨(some (9)), .move (.tmp 2), none, [0, 1]⟩, 
  ⟨(some (10)), .fieldAddr 0 (.tmp 4), none, [0, 1, 2]⟩, 
  ⟨(some (11)), .load none (.tmp 10), none, [0, 1, 2]⟩, 
  ⟨(some (12)), .bin .plain .mul (.tmp 9) (.tmp 11), none, [0, 1]⟩, 
  ⟨(some (13)), .call (.const (.fn (.func 67) [] [])) [.tmp 12, .const (.int .i64 1000)], none, [0, 1]⟩, 
  ⟨(some (14)), .bin .plain .add (.tmp 8) (.tmp 13), none, []⟩, 
  ⟨(some (15)), .fieldAddr 1 (.tmp 3), none, [0, 1, 2, 3, 4, 5, 6, 7]⟩, 
  ⟨(some (16)), .load none (.tmp 15), none, [0, 1, 2, 3, 4, 5, 6, 7]⟩, 
  ⟨(some (17)), .move (.tmp 2), none, [0, 1, 2, 3, 4, 5, 6, 7, 8, 9]⟩, 
  ⟨(some (18)), .fieldAddr 1 (.tmp 4), none, [0, 1, 2, 3, 4, 5, 6, 7, 8, 9, 10]⟩, 
  ⟨(some (19)), .load none (.tmp 18), none, [0, 1, 2, 3, 4, 5, 6, 7, 8, 9, 10]⟩, 
  ⟨(some (20)), .bin .plain .mul (.tmp 17) (.tmp 19), none, [0, 1, 2, 3, 4, 5, 6, 7, 8, 9]⟩, 
  ⟨(some (21)), .call (.const (.fn (.func 75) [] [])) [.tmp 20, .const (.int .i64 1000)], none, [0, 1, 7, 8, 9]⟩, 
  ⟨(some (22)), .bin .plain .add (.tmp 16) (.tmp 21), none, [0, 1, 7]⟩, 
  ⟨(some (23)), .build [.int .i64 0, .int .i64 0] [(0, 1, .tmp 14), (1, 1, .tmp 22)], none, []⟩, 
  ⟨none, .store 2 (.tmp 6) (.tmp 23), none, []⟩]
def k_ref07_aged_r1s : List (List AOper) := [
  [
  ⟨(some (7)), .fieldAddr 0 (.tmp 3), none, []⟩, 
  ⟨(some (8)), .load none (.tmp 7), none, []⟩, 
  ⟨(some (9)), .move (.tmp 2), none, [0, 1]⟩, 
  ⟨(some (10)), .fieldAddr 0 (.tmp 4), none, [0, 1, 2]⟩, 
  ⟨(some (11)), .load none (.tmp 10), none, [0, 1, 2]⟩, 
  ⟨(some (12)), .bin .plain .mul (.tmp 9) (.tmp 11), none, [0, 1]⟩, 
  ⟨(some (13)), .call (.const (.fn (.func 67) [] [])) [.tmp 12, .const (.int .i64 1000)], none, [0, 1]⟩, 
  ⟨(some (14)), .bin .plain .add (.tmp 8) (.tmp 13), none, []⟩, 
  ⟨(some (15)), .fieldAddr 1 (.tmp 3), none, [0, 1, 2, 3, 4, 5, 6, 7]⟩, 
  ⟨(some (16)), .load none (.tmp 15), none, [0, 1, 2, 3, 4, 5, 6, 7]⟩, 
  ⟨(some (17)), .move (.tmp 2), none, [0, 1, 2, 3, 4, 5, 6, 7, 8, 9]⟩, 
  ⟨(some (18)), .fieldAddr 1 (.tmp 4), none, [0, 1, 2, 3, 4, 5, 6, 7, 8, 9, 10]⟩, 
  ⟨(some (19)), .load none (.tmp 18), none, [0, 1, 2, 3, 4, 5, 6, 7, 8, 9, 10]⟩, 
  ⟨(some (20)), .bin .plain .mul (.tmp 17) (.tmp 19), none, [0, 1, 2, 3, 4, 5, 6, 7, 8, 9]⟩, 
  ⟨(some (21)), .call (.const (.fn (.func 75) [] [])) [.tmp 20, .const (.int .i64 1000)], none, [0, 1, 7, 8, 9]⟩, 
  ⟨(some (22)), .bin .plain .add (.tmp 16) (.tmp 21), none, [0, 1, 7]⟩], 
  [
  ⟨(some (23)), .build [.int .i64 0, .int .i64 0] [(0, 1, .tmp 14), (1, 1, .tmp 22)], none, []⟩], 
  [
  ⟨none, .store 2 (.tmp 6) (.tmp 23), none, []⟩]]
theorem k_ref07_aged_r1_sg : segs k_ref07_aged_r1 = k_ref07_aged_r1s := by kernel_rfl
theorem k_ref07_aged_r1_st : statOK k_ref07_aged_r1 = true := by kernel_rfl
def k_ref07_aged : AFun := { params := 3, ntmps := 24, body := (.seq (.reg k_ref07_aged_r0 false) (.seq (.reg k_ref07_aged_r1 true) .ret)), res := [.cell 6 (some ((some (2))))] }
theorem k_ref07_aged_ok : cfun Tryd.prog Tryd.f86 = k_ref07_aged := by kernel_rfl


abbrev n_law07_GaugeAges : Nat := 8
theorem e_law07_GaugeAges : EntryOK Tryd.prog n_law07_GaugeAges k_law07_GaugeAges := ⟨Tryd.f8, Tryd.func8, k_law07_GaugeAges_ok, by kernel_rfl⟩
abbrev n_ref07_Verdict : Nat := 35
theorem e_ref07_Verdict : EntryOK Tryd.prog n_ref07_Verdict k_ref07_Verdict := ⟨Tryd.f35, Tryd.func35, k_ref07_Verdict_ok, by kernel_rfl⟩
abbrev n_gauge_Aged : Nat := 44
theorem e_gauge_Aged : EntryOK Tryd.prog n_gauge_Aged k_gauge_Aged := ⟨Tryd.f44, Tryd.func44, k_gauge_Aged_ok, by kernel_rfl⟩
abbrev n_ref07_Aged : Nat := 45
theorem e_ref07_Aged : EntryOK Tryd.prog n_ref07_Aged k_ref07_Aged := ⟨Tryd.f45, Tryd.func45, k_ref07_Aged_ok, by kernel_rfl⟩
abbrev n_ref07_Keeps : Nat := 47
theorem e_ref07_Keeps : EntryOK Tryd.prog n_ref07_Keeps k_ref07_Keeps := ⟨Tryd.f47, Tryd.func47, k_ref07_Keeps_ok, by kernel_rfl⟩
abbrev n_ref07_checkAge : Nat := 85
theorem e_ref07_checkAge : EntryOK Tryd.prog n_ref07_checkAge k_ref07_checkAge := ⟨Tryd.f85, Tryd.func85, k_ref07_checkAge_ok, by kernel_rfl⟩
abbrev n_ref07_aged : Nat := 86
theorem e_ref07_aged : EntryOK Tryd.prog n_ref07_aged k_ref07_aged := ⟨Tryd.f86, Tryd.func86, k_ref07_aged_ok, by kernel_rfl⟩

attribute [go_sem] k_law07_GaugeAges_r0 k_law07_GaugeAges_r1 k_law07_GaugeAges_r2 k_law07_GaugeAges_r3s k_law07_GaugeAges_r4s k_law07_GaugeAges_r5 k_law07_GaugeAges_r6s k_law07_GaugeAges_r7 k_law07_GaugeAges_r8 k_law07_GaugeAges_r9s k_law07_GaugeAges_r10s k_law07_GaugeAges_r11s
attribute [go_sem] k_law07_GaugeAges_r12s k_law07_GaugeAges_r13 k_law07_GaugeAges_r14 k_law07_GaugeAges_r15 k_law07_GaugeAges_r17 k_ref07_Verdict_r0 k_ref07_Verdict_r1 k_ref07_Verdict_r2 k_ref07_Verdict_r3 k_ref07_Verdict_r4 k_ref07_Verdict_r5 k_ref07_Verdict_r6
attribute [go_sem] k_ref07_Verdict_r7 k_gauge_Aged_r0 k_gauge_Aged_r1 k_gauge_Aged_r2 k_gauge_Aged_r3 k_gauge_Aged_r4 k_gauge_Aged_r5 k_gauge_Aged_r6 k_ref07_Aged_r0 k_ref07_Aged_r1 k_ref07_Aged_r2 k_ref07_Aged_r3
attribute [go_sem] k_ref07_Aged_r4 k_ref07_Aged_r5 k_ref07_Aged_r6 k_ref07_Keeps_r0 k_ref07_Keeps_r1 k_ref07_Keeps_r2 k_ref07_Keeps_r3 k_ref07_Keeps_r4 k_ref07_Keeps_r5 k_ref07_Keeps_r6 k_ref07_Keeps_r7 k_ref07_Keeps_r8
attribute [go_sem] k_ref07_Keeps_r9 k_ref07_Keeps_r10 k_ref07_Keeps_r11s k_ref07_Keeps_r12 k_ref07_Keeps_r13 k_ref07_Keeps_r14 k_ref07_Keeps_r15 k_ref07_Keeps_r16 k_ref07_Keeps_r17 k_ref07_Keeps_r18 k_ref07_Keeps_r20 k_ref07_checkAge_r0
attribute [go_sem] k_ref07_checkAge_r1 k_ref07_checkAge_r2 k_ref07_checkAge_r3 k_ref07_checkAge_r4 k_ref07_checkAge_r5 k_ref07_aged_r0 k_ref07_aged_r1s k_law07_GaugeAges_r12_sg k_law07_GaugeAges_r3_sg k_ref07_Keeps_r11_sg k_law07_GaugeAges_r6_sg k_law07_GaugeAges_r11_sg
attribute [go_sem] k_ref07_aged_r1_sg k_law07_GaugeAges_r9_sg k_law07_GaugeAges_r4_sg k_law07_GaugeAges_r10_sg k_law07_GaugeAges_r12_st k_law07_GaugeAges_r3_st k_ref07_Keeps_r11_st k_law07_GaugeAges_r6_st k_law07_GaugeAges_r11_st k_ref07_aged_r1_st k_law07_GaugeAges_r9_st k_law07_GaugeAges_r4_st
attribute [go_sem] k_law07_GaugeAges_r10_st k_law07_GaugeAges k_ref07_Verdict k_gauge_Aged k_ref07_Aged k_ref07_Keeps k_ref07_checkAge k_ref07_aged
end Go.Proofs

namespace Go.Gauge

def agLo (a c n : Int) : Int := a + n * c / 1000
def agHi (b d n : Int) : Int := b + -(-(n * d) / 1000)
theorem agMul {n c : Int} (hn : 0 ≤ n ∧ n ≤ 1000000) (hc : -1000000 ≤ c ∧ c ≤ 1000000) : -1000000000000 ≤ n * c ∧ n * c ≤ 1000000000000 := by
  have h1 : n * c ≤ n * 1000000 := Int.mul_le_mul_of_nonneg_left hc.2 hn.1
  have h2 : n * (-1000000) ≤ n * c := Int.mul_le_mul_of_nonneg_left hc.1 hn.1
  omega
theorem agLe {a b c d n : Int} (hn : 0 ≤ n) (h1 : a ≤ b) (h2 : c ≤ d) : agLo a c n ≤ agHi b d n := by
  have h3 : n * c ≤ n * d := Int.mul_le_mul_of_nonneg_left h2 hn
  unfold agLo agHi; omega
theorem ag_mono {c i j : Int} (hij : i ≤ j) : (0 ≤ c → i * c ≤ j * c) ∧ (c ≤ 0 → j * c ≤ i * c) :=
  ⟨fun h => Int.mul_le_mul_of_nonneg_right hij h, fun h => Int.mul_le_mul_of_nonpos_right hij h⟩
theorem agLo_mid {a c j n : Int} (hj : 0 ≤ j) (hjn : j ≤ n) : min (agLo a c 0) (agLo a c n) ≤ agLo a c j ∧ agLo a c j ≤ max (agLo a c 0) (agLo a c n) := by
  have h1 := ag_mono (c := c) hj
  have h2 := ag_mono (c := c) hjn
  unfold agLo
  rcases Int.le_total 0 c with h | h
  · have := h1.1 h
    have := h2.1 h
    omega
  · have := h1.2 h
    have := h2.2 h
    omega
theorem agHi_mid {b d j n : Int} (hj : 0 ≤ j) (hjn : j ≤ n) : min (agHi b d 0) (agHi b d n) ≤ agHi b d j ∧ agHi b d j ≤ max (agHi b d 0) (agHi b d n) := by
  have h1 := ag_mono (c := d) hj
  have h2 := ag_mono (c := d) hjn
  unfold agHi
  rcases Int.le_total 0 d with h | h
  · have := h1.1 h
    have := h2.1 h
    omega
  · have := h1.2 h
    have := h2.2 h
    omega

def lead (p : Nat → Bool) : Nat → Nat
  | 0 => 0
  | n + 1 => if lead p n = n ∧ p n = true then n + 1 else lead p n
theorem lead_succ (p : Nat → Bool) (n : Nat) : lead p (n + 1) = if lead p n = n ∧ p n = true then n + 1 else lead p n := rfl
theorem lead_le (p : Nat → Bool) : ∀ n, lead p n ≤ n
  | 0 => Nat.le_refl _
  | n + 1 => by
    rw [lead_succ]; split
    · exact Nat.le_refl _
    · have := lead_le p n; omega
theorem lead_all {p : Nat → Bool} : ∀ {n i : Nat}, i < lead p n → p i = true
  | 0, i, h => by simp [lead] at h
  | n + 1, i, h => by
    rw [lead_succ] at h; split at h
    · rename_i c
      by_cases hi : i = n
      · subst hi; exact c.2
      · exact lead_all (n := n) (by omega)
    · exact lead_all h
theorem lead_stop {p : Nat → Bool} {n : Nat} (h : lead p n < n) : ∀ k, lead p (n + k) = lead p n
  | 0 => rfl
  | k + 1 => by
    have ih := lead_stop h k
    show lead p (n + k + 1) = _
    rw [lead_succ, if_neg (by rw [ih]; omega), ih]
theorem lead_stop' {p : Nat → Bool} {n m : Nat} (h : lead p n < n) (hm : n ≤ m) : lead p m = lead p n := by
  obtain ⟨k, rfl⟩ := Nat.exists_eq_add_of_le hm
  exact lead_stop h k
theorem lead_not {p : Nat → Bool} : ∀ {n : Nat}, lead p n < n → p (lead p n) = false
  | 0, h => by omega
  | n + 1, h => by
    have e : lead p (n + 1) = lead p n := by
      rw [lead_succ]; split
      · rename_i c
        have : lead p (n + 1) = n + 1 := by rw [lead_succ, if_pos c]
        omega
      · rfl
    rw [e] at h ⊢
    by_cases c : lead p n = n
    · rw [c]
      cases hp : p n
      · rfl
      · have : lead p (n + 1) = n + 1 := by rw [lead_succ, if_pos ⟨c, hp⟩]
        omega
    · exact lead_not (by have := lead_le p n; omega)
theorem lead_up {p : Nat → Bool} {n : Nat} (h : lead p n = n) (hp : p n = true) : lead p (n + 1) = n + 1 := by
  rw [lead_succ, if_pos ⟨h, hp⟩]
theorem lead_no {p : Nat → Bool} {n : Nat} (hp : p n = false) : lead p (n + 1) = lead p n := by
  rw [lead_succ, if_neg (by simp [hp])]
theorem lead_ne {p : Nat → Bool} {n : Nat} (h : lead p n ≠ n) : lead p (n + 1) = lead p n := by
  rw [lead_succ, if_neg (fun c => h c.1)]
theorem lead_sub {p q : Nat → Bool} (h : ∀ i, p i = true → q i = true) : ∀ n, lead p n ≤ lead q n
  | 0 => Nat.le_refl _
  | n + 1 => by
    have ih := lead_sub h n
    by_cases c : lead p n = n ∧ p n = true
    · have hq : lead q n = n := by have := lead_le q n; omega
      rw [lead_up c.1 c.2, lead_up hq (h n c.2)]; exact Nat.le_refl _
    · have e : lead p (n + 1) = lead p n := by
        rw [lead_succ, if_neg c]
      have : lead q n ≤ lead q (n + 1) := by
        by_cases c2 : lead q n = n ∧ q n = true
        · rw [lead_up c2.1 c2.2]; omega
        · rw [lead_succ, if_neg c2]; omega
      omega
theorem lead_iff {p : Nat → Bool} {N : Nat} (h0 : p 0 = true) (hd : ∀ i j, i ≤ j → j ≤ N → p j = true → p i = true) {i : Nat} (hi : i ≤ N) : p i = true ↔ i < lead p (N + 1) := by
  constructor
  · intro h
    by_cases c : lead p (N + 1) < N + 1
    · have hn := lead_not c
      by_cases c2 : i < lead p (N + 1)
      · exact c2
      · have := hd (lead p (N + 1)) i (by omega) hi h
        rw [hn] at this; cases this
    · omega
  · exact lead_all
end Go.Gauge

namespace Go.Proofs
open Go Go.Sx Go.Gauge
attribute [local irreducible] Run

def crE (a b lo hi : Int) : Int := if ¬((lo ≤ a ∧ a ≤ hi) ∧ (lo ≤ b ∧ b ≤ hi)) then 2 else if b < a then 11 else 0
def adE (a b c d : Int) : Int := if ¬(((-1000000000 ≤ a ∧ a ≤ 1000000000) ∧ (-1000000000 ≤ b ∧ b ≤ 1000000000)) ∧ ((-1000000 ≤ c ∧ c ≤ 1000000) ∧ (-1000000 ≤ d ∧ d ≤ 1000000))) then 2 else if b < a ∨ d < c then 11 else 0

theorem checkRange_run (a b lo hi : Int) : Ans Tryd.prog n_gauge_checkRange [r2 a b, .int .i64 lo, .int .i64 hi] [] (.int .i64 (crE a b lo hi)) [] := by
  have k1 := bothWithin_run a b lo hi
  have k2 := isEmpty_run a b
  simp only [r2] at k1 k2
  refine spec_run e_gauge_checkRange fun G => ?_
  simp only [go_sem, r2]
  refine cP k1 ?_
  unfold crE
  by_cases c1 : ((lo ≤ a ∧ a ≤ hi) ∧ (lo ≤ b ∧ b ≤ hi))
  · rw [if_neg (not_not_intro c1)]
    simp only [go_sem, decide_eq_true c1]
    refine cP k2 ?_
    by_cases c2 : b < a
    · simp only [go_sem, c2]
    · simp only [go_sem, c2]
  · rw [if_pos c1]
    simp only [go_sem, decide_eq_false c1]
theorem checkDrift_run (a b c d : Int) : Ans Tryd.prog n_gauge_checkDrift [r2 a b, r2 c d] [] (.int .i64 (adE a b c d)) [] := by
  have k1 := bothWithin_run a b (-1000000000) 1000000000
  have k2 := bothWithin_run c d (-1000000) 1000000
  have k3 := isEmpty_run a b
  have k4 := isEmpty_run c d
  simp only [r2] at k1 k2 k3 k4
  refine spec_run e_gauge_checkDrift fun G => ?_
  simp only [go_sem, r2]
  refine cP k1 ?_
  unfold adE
  obtain ⟨p, hp⟩ : ∃ p, p = ((-1000000000 ≤ a ∧ a ≤ 1000000000) ∧ (-1000000000 ≤ b ∧ b ≤ 1000000000)) := ⟨_, rfl⟩
  by_cases c1 : ((-1000000000 ≤ a ∧ a ≤ 1000000000) ∧ (-1000000000 ≤ b ∧ b ≤ 1000000000))
  · simp only [go_sem, decide_eq_true c1]
    refine cP k2 ?_
    by_cases c2 : ((-1000000 ≤ c ∧ c ≤ 1000000) ∧ (-1000000 ≤ d ∧ d ≤ 1000000))
    · rw [if_neg (not_not_intro ⟨c1, c2⟩)]
      simp only [go_sem, decide_eq_true c2]
      refine cP k3 ?_
      by_cases c3 : b < a
      · rw [if_pos (.inl c3)]
        simp only [go_sem, c3]
      · simp only [go_sem, c3]
        refine cP k4 ?_
        by_cases c4 : d < c
        · simp only [go_sem, c3, c4]
        · simp only [go_sem, c3, c4]
    · rw [if_pos fun h => c2 h.2]
      simp only [go_sem, decide_eq_false c2]
  · rw [if_pos fun h => c1 h.1]
    simp only [go_sem, decide_eq_false c1]
theorem aged_run {a b c d n : Int} (ha : -1000000000 ≤ a ∧ a ≤ 1000000000) (hb : -1000000000 ≤ b ∧ b ≤ 1000000000) (hc : -1000000 ≤ c ∧ c ≤ 1000000) (hd : -1000000 ≤ d ∧ d ≤ 1000000) (hn : 0 ≤ n ∧ n ≤ 1000000) :
    Ans Tryd.prog n_gauge_aged [r2 a b, r2 c d, .int .i64 n] [] (r2 (agLo a c n) (agHi b d n)) [] := by
  have m1 := agMul hn hc
  have m2 := agMul hn hd
  unfold agLo agHi
  obtain ⟨u, hu⟩ : ∃ u, n * c = u := ⟨_, rfl⟩
  obtain ⟨v, hv⟩ : ∃ v, n * d = v := ⟨_, rfl⟩
  rw [hu] at m1
  rw [hv] at m2
  rw [hu, hv]
  have w1 : IntKind.i64.wrap u = u := w64 (by omega)
  have w2 : IntKind.i64.wrap v = v := w64 (by omega)
  have w3 : IntKind.i64.wrap (a + u / 1000) = a + u / 1000 := w64 (by omega)
  have w4 : IntKind.i64.wrap (b + -(-v / 1000)) = b + -(-v / 1000) := w64 (by omega)
  refine spec_run e_gauge_aged fun G => ?_
  simp only [go_sem, r2, hu, w1]
  refine dP (roundDown_run u 1000 (by omega) (by omega)) ?_
  simp only [go_sem, hv, w2, w3]
  refine dP (roundUp_run v 1000 (by omega) (by omega)) ?_
  simp only [go_sem, w4]
theorem raged_run {a b c d n : Int} (ha : -1000000000 ≤ a ∧ a ≤ 1000000000) (hb : -1000000000 ≤ b ∧ b ≤ 1000000000) (hc : -1000000 ≤ c ∧ c ≤ 1000000) (hd : -1000000 ≤ d ∧ d ≤ 1000000) (hn : 0 ≤ n ∧ n ≤ 1000000) :
    Ans Tryd.prog n_ref07_aged [r2 a b, r2 c d, .int .i64 n] [] (r2 (agLo a c n) (agHi b d n)) [] := by
  have m1 := agMul hn hc
  have m2 := agMul hn hd
  unfold agLo agHi
  obtain ⟨u, hu⟩ : ∃ u, n * c = u := ⟨_, rfl⟩
  obtain ⟨v, hv⟩ : ∃ v, n * d = v := ⟨_, rfl⟩
  rw [hu] at m1
  rw [hv] at m2
  rw [hu, hv]
  have w1 : IntKind.i64.wrap u = u := w64 (by omega)
  have w2 : IntKind.i64.wrap v = v := w64 (by omega)
  have w3 : IntKind.i64.wrap (a + u / 1000) = a + u / 1000 := w64 (by omega)
  have w4 : IntKind.i64.wrap (b + -(-v / 1000)) = b + -(-v / 1000) := w64 (by omega)
  refine spec_run e_ref07_aged fun G => ?_
  simp only [go_sem, r2, hu, w1]
  refine dP (refDown_run u 1000 (by omega) (by omega)) ?_
  simp only [go_sem, hv, w2, w3]
  refine dP (refUp_run v 1000 (by omega) (by omega)) ?_
  simp only [go_sem, w4]

theorem rcheckRange_run (a b lo hi : Int) : Ans Tryd.prog n_ref07_checkRange [r2 a b, .int .i64 lo, .int .i64 hi] [] (.int .i64 (crE a b lo hi)) [] := by
  have k1 := beyond_run a lo hi
  have k2 := beyond_run b lo hi
  refine spec_run e_ref07_checkRange fun G => ?_
  simp only [go_sem, r2]
  refine cP k1 ?_
  unfold crE
  by_cases c1 : lo ≤ a ∧ a ≤ hi
  · simp only [go_sem, decide_eq_true c1]
    refine cP k2 ?_
    by_cases c2 : lo ≤ b ∧ b ≤ hi
    · rw [if_neg (not_not_intro ⟨c1, c2⟩)]
      by_cases c3 : b < a
      · simp only [go_sem, decide_eq_true c2, c3]
      · simp only [go_sem, decide_eq_true c2, c3]
    · rw [if_pos fun h => c2 h.2]
      simp only [go_sem, decide_eq_false c2]
  · rw [if_pos fun h => c1 h.1]
    simp only [go_sem, decide_eq_false c1]
theorem rcheckAge_run (a b c d : Int) : Ans Tryd.prog n_ref07_checkAge [r2 a b, r2 c d] [] (.int .i64 (adE a b c d)) [] := by
  have k1 := beyond_run a (-1000000000) 1000000000
  have k2 := beyond_run b (-1000000000) 1000000000
  have k3 := beyond_run c (-1000000) 1000000
  have k4 := beyond_run d (-1000000) 1000000
  refine spec_run e_ref07_checkAge fun G => ?_
  simp only [go_sem, r2]
  refine cP k1 ?_
  unfold adE
  by_cases c1 : -1000000000 ≤ a ∧ a ≤ 1000000000
  · simp only [go_sem, decide_eq_true c1]
    refine cP k2 ?_
    by_cases c2 : -1000000000 ≤ b ∧ b ≤ 1000000000
    · simp only [go_sem, decide_eq_true c2]
      refine cP k3 ?_
      by_cases c3 : -1000000 ≤ c ∧ c ≤ 1000000
      · simp only [go_sem, decide_eq_true c3]
        refine cP k4 ?_
        by_cases c4 : -1000000 ≤ d ∧ d ≤ 1000000
        · rw [if_neg (not_not_intro ⟨⟨c1, c2⟩, ⟨c3, c4⟩⟩)]
          by_cases c5 : b < a
          · rw [if_pos (.inl c5)]
            simp only [go_sem, decide_eq_true c4, c5]
          · by_cases c6 : d < c
            · rw [if_pos (.inr c6)]
              simp only [go_sem, decide_eq_true c4, c5, c6]
            · rw [if_neg (by omega)]
              simp only [go_sem, decide_eq_true c4, c5, c6]
        · rw [if_pos fun h => c4 h.2.2]
          simp only [go_sem, decide_eq_false c4]
      · rw [if_pos fun h => c3 h.2.1]
        simp only [go_sem, decide_eq_false c3]
    · rw [if_pos fun h => c2 h.1.2]
      simp only [go_sem, decide_eq_false c2]
  · rw [if_pos fun h => c1 h.1.1]
    simp only [go_sem, decide_eq_false c1]
theorem rVerdict_run (a b c d : Int) : Ans Tryd.prog n_ref07_Verdict [r2 a b, r2 c d] [] (.int .i64 (vrd a b c d)) [] := by
  refine spec_run e_ref07_Verdict fun G => ?_
  unfold vrd
  by_cases c1 : b < a
  · rw [if_pos (.inl c1)]
    simp only [go_sem, r2, c1]
  · by_cases c2 : d < c
    · rw [if_pos (.inr c2)]
      simp only [go_sem, r2, c1, c2]
    · rw [if_neg (by omega)]
      by_cases c3 : c ≤ a
      · by_cases c4 : b ≤ d
        · rw [if_pos ⟨c3, c4⟩]
          simp only [go_sem, r2, c1, c2, c3, c4]
        · rw [if_neg (fun h => c4 h.2)]
          have c5 : ¬ b < c := by omega
          by_cases c6 : d < a
          · rw [if_pos (by omega)]
            simp only [go_sem, r2, c1, c2, c3, c4, c5, c6]
          · rw [if_neg (by omega)]
            simp only [go_sem, r2, c1, c2, c3, c4, c5, c6]
      · rw [if_neg (fun h => c3 h.1)]
        by_cases c5 : b < c
        · rw [if_pos (by omega)]
          simp only [go_sem, r2, c1, c2, c3, c5]
        · by_cases c6 : d < a
          · rw [if_pos (by omega)]
            simp only [go_sem, r2, c1, c2, c3, c5, c6]
          · rw [if_neg (by omega)]
            simp only [go_sem, r2, c1, c2, c3, c5, c6]

def agdR (a b c d n : Int) : Int × Int × Int := if adE a b c d ≠ 0 then (0, 0, adE a b c d) else if 0 ≤ n ∧ n ≤ 1000000 then (agLo a c n, agHi b d n, 0) else (0, 0, 2)
theorem adE_zero {a b c d : Int} (h : adE a b c d = 0) : (-1000000000 ≤ a ∧ a ≤ 1000000000) ∧ (-1000000000 ≤ b ∧ b ≤ 1000000000) ∧ (-1000000 ≤ c ∧ c ≤ 1000000) ∧ (-1000000 ≤ d ∧ d ≤ 1000000) ∧ a ≤ b ∧ c ≤ d := by
  unfold adE at h
  split at h
  · cases h
  · split at h
    · cases h
    · omega
theorem Aged_run (a b c d n : Int) : Ans Tryd.prog n_gauge_Aged [r2 a b, r2 c d, .int .i64 n] [] (.tup [r2 (agdR a b c d n).1 (agdR a b c d n).2.1, .int .i64 (agdR a b c d n).2.2]) [] := by
  have k1 := checkDrift_run a b c d
  have k2 := within_run n 0 1000000
  unfold agdR
  obtain ⟨e, he⟩ : ∃ e, adE a b c d = e := ⟨_, rfl⟩
  rw [he] at k1 ⊢
  simp only [r2] at k1
  refine spec_run e_gauge_Aged fun G => ?_
  by_cases c1 : e = 0
  · subst c1
    obtain ⟨h1, h2, h3, h4, h5, h6⟩ := adE_zero he
    rw [if_neg (fun h => h rfl)]
    simp only [go_sem, r2]
    refine cP k1 ?_
    simp only [go_sem]
    refine cP k2 ?_
    by_cases c2 : 0 ≤ n ∧ n ≤ 1000000
    · have k3 := aged_run h1 h2 h3 h4 c2
      simp only [r2] at k3
      rw [if_pos c2]
      simp only [go_sem, decide_eq_true c2]
      refine cP k3 ?_
      simp only [go_sem]
    · rw [if_neg c2]
      simp only [go_sem, decide_eq_false c2]
  · have c2 : (e == 0) = false := beq_eq_false_iff_ne.2 c1
    rw [if_pos c1]
    simp only [go_sem, r2]
    refine cP k1 ?_
    simp only [go_sem, c1, c2]
theorem rAged_run (a b c d n : Int) : Ans Tryd.prog n_ref07_Aged [r2 a b, r2 c d, .int .i64 n] [] (.tup [r2 (agdR a b c d n).1 (agdR a b c d n).2.1, .int .i64 (agdR a b c d n).2.2]) [] := by
  have k1 := rcheckAge_run a b c d
  have k2 := beyond_run n 0 1000000
  unfold agdR
  obtain ⟨e, he⟩ : ∃ e, adE a b c d = e := ⟨_, rfl⟩
  rw [he] at k1 ⊢
  simp only [r2] at k1
  refine spec_run e_ref07_Aged fun G => ?_
  by_cases c1 : e = 0
  · subst c1
    obtain ⟨h1, h2, h3, h4, h5, h6⟩ := adE_zero he
    rw [if_neg (fun h => h rfl)]
    simp only [go_sem, r2]
    refine cP k1 ?_
    simp only [go_sem]
    refine cP k2 ?_
    by_cases c2 : 0 ≤ n ∧ n ≤ 1000000
    · have k3 := raged_run h1 h2 h3 h4 c2
      simp only [r2] at k3
      rw [if_pos c2]
      simp only [go_sem, decide_eq_true c2]
      refine cP k3 ?_
      simp only [go_sem]
    · rw [if_neg c2]
      simp only [go_sem, decide_eq_false c2]
  · have c2 : (e == 0) = false := beq_eq_false_iff_ne.2 c1
    rw [if_pos c1]
    simp only [go_sem, r2]
    refine cP k1 ?_
    simp only [go_sem, c1, c2]
end Go.Proofs

namespace Go.Proofs
open Go Go.Sx Go.Gauge
attribute [local irreducible] Run

def pS (a b c d l h : Int) (n : Nat) : Bool := decide (vrd (agLo a c n) (agHi b d n) l h = 1)
def pM (a b c d l h : Int) (n : Nat) : Bool := decide (vrd (agLo a c n) (agHi b d n) l h ≠ 2)
theorem vrd_one {a b c d : Int} (h1 : a ≤ b) (h2 : c ≤ d) : vrd a b c d = 1 ↔ c ≤ a ∧ b ≤ d := by
  unfold vrd
  rw [if_neg (by omega)]
  split
  · rename_i h; exact ⟨fun _ => h, fun _ => rfl⟩
  · rename_i h
    refine ⟨fun e => ?_, fun e => absurd e h⟩
    split at e <;> cases e
theorem vrd_two {a b c d : Int} (h1 : a ≤ b) (h2 : c ≤ d) : vrd a b c d ≠ 2 ↔ a ≤ d ∧ c ≤ b := by
  unfold vrd
  rw [if_neg (by omega)]
  split
  · rename_i h; exact ⟨fun _ => by omega, fun _ => by decide⟩
  · rename_i h
    split
    · rename_i h3; exact ⟨fun e => absurd rfl e, fun e => by omega⟩
    · rename_i h3; exact ⟨fun _ => by omega, fun _ => by decide⟩
theorem pS_down {a b c d l h : Int} (h1 : a ≤ b) (h2 : c ≤ d) (h3 : l ≤ h) (h0 : pS a b c d l h 0 = true) {i j : Nat} (hij : i ≤ j) (hj : pS a b c d l h j = true) : pS a b c d l h i = true := by
  have e0 := (vrd_one (agLe (n := ((0 : Nat) : Int)) (by omega) h1 h2) h3).1 (of_decide_eq_true h0)
  have ej := (vrd_one (agLe (n := (j : Int)) (by omega) h1 h2) h3).1 (of_decide_eq_true hj)
  have m1 := agLo_mid (a := a) (c := c) (j := (i : Int)) (n := (j : Int)) (by omega) (by omega)
  have m2 := agHi_mid (b := b) (d := d) (j := (i : Int)) (n := (j : Int)) (by omega) (by omega)
  refine decide_eq_true ((vrd_one (agLe (by omega) h1 h2) h3).2 ?_)
  simp only [Int.natCast_zero] at e0
  omega
theorem pM_down {a b c d l h : Int} (h1 : a ≤ b) (h2 : c ≤ d) (h3 : l ≤ h) (h0 : pM a b c d l h 0 = true) {i j : Nat} (hij : i ≤ j) (hj : pM a b c d l h j = true) : pM a b c d l h i = true := by
  have e0 := (vrd_two (agLe (n := ((0 : Nat) : Int)) (by omega) h1 h2) h3).1 (of_decide_eq_true h0)
  have ej := (vrd_two (agLe (n := (j : Int)) (by omega) h1 h2) h3).1 (of_decide_eq_true hj)
  have m1 := agLo_mid (a := a) (c := c) (j := (i : Int)) (n := (j : Int)) (by omega) (by omega)
  have m2 := agHi_mid (b := b) (d := d) (j := (i : Int)) (n := (j : Int)) (by omega) (by omega)
  refine decide_eq_true ((vrd_two (agLe (by omega) h1 h2) h3).2 ?_)
  simp only [Int.natCast_zero] at e0
  omega
theorem pS_pM {a b c d l h : Int} (i : Nat) (h0 : pS a b c d l h i = true) : pM a b c d l h i = true := by
  have := of_decide_eq_true h0
  exact decide_eq_true (by omega)

def lastT (p : Nat → Bool) : Int := (lead p 1000001 : Int) - 1
attribute [local irreducible] lead

theorem last1_run {g : Nat} {F : AVal} {p : Nat → Bool} (hF : Bel (fun _ => False) F) (hp : ∀ n : Nat, n ≤ 1000000 → Ans Tryd.prog g [.int .i64 n, .rptr F 0] [] (.bool (p n)) []) {i : Nat} (hi : i < 1000000) :
    Ans Tryd.prog n_gauge_lastTick_1 [.int .i64 i, .rptr (.fn (.func g) [] [.rptr F 0]) 0] [] (.bool (!p (i + 1))) [] := by
  have w1 : IntKind.i64.wrap ((i : Int) + 1) = ((i + 1 : Nat) : Int) := by rw [w64 (by omega)]; rfl
  refine spec_run e_gauge_lastTick_1 fun G => ?_
  simp only [go_sem, w1]
  refine cP (hp (i + 1) (by omega)) ?_ (by simp only [go_sem]; exact hF)
  simp only [go_sem]
theorem lastTick_run {g : Nat} {F : AVal} {p : Nat → Bool} (hF : Bel (fun _ => False) F) (hf : ∀ d H, frz (d + 4) H F = F) (hp : ∀ n : Nat, n ≤ 1000000 → Ans Tryd.prog g [.int .i64 n, .rptr F 0] [] (.bool (p n)) [])
    (hd : p 0 = true → ∀ i j : Nat, i ≤ j → p j = true → p i = true) :
    Ans Tryd.prog n_gauge_lastTick [.fn (.func g) [] [.rptr F 0]] [] (.int .i64 (lastT p)) [] := by
  unfold lastT
  have hle := lead_le p 1000001
  have h0 := hp 0 (by omega)
  refine spec_run e_gauge_lastTick fun G => ?_
  simp only [go_sem]
  refine cP h0 ?_ (by simp only [go_sem]; exact hF)
  by_cases c : p 0 = true
  · have hit := fun i hi => lead_iff (N := 1000000) c (fun i j hij _ h => hd c i j hij h) (i := i) hi
    have h1 := (hit 0 (by omega)).1 c
    obtain ⟨m, hm⟩ : ∃ m, lead p 1000001 = m := ⟨_, rfl⟩
    rw [show (1000000 + 1 : Nat) = 1000001 from rfl, hm] at hit h1
    rw [hm] at hle ⊢
    have hs := search_ok 1000000 (by omega) n_gauge_lastTick_1 [.rptr (.fn (.func g) [] [.rptr F 0]) 0] (by simp only [go_sem]; exact hF) (m - 1) (by omega) (fun i hi => by
      have := last1_run hF hp hi
      rwa [show (!p (i + 1)) = decide (m - 1 ≤ i) from by
        have e := hit (i + 1) (by omega)
        by_cases c2 : p (i + 1) = true
        · have := e.1 c2
          rw [c2, decide_eq_false (by omega)]; rfl
        · have : ¬ i + 1 < m := fun h => c2 (e.2 h)
          rw [decide_eq_true (by omega)]
          simpa using c2] at this)
    have e : ((m - 1 : Nat) : Int) = (m : Int) - 1 := by omega
    rw [e] at hs
    simp only [go_sem, c]
    refine callF0 hs 12 (by simp only [go_sem, frz, hf]) ?_
    simp only [go_sem]
  · have c2 : p 0 = false := by simpa using c
    have e1 : lead p 1000001 = 0 := by
      have a1 : lead p (0 + 1) = lead p 0 := lead_no c2
      have a2 := lead_le p 0
      have a3 : lead p (0 + 1) < 0 + 1 := by omega
      have := lead_stop' a3 (show 0 + 1 ≤ 1000001 by omega)
      omega
    rw [e1]
    simp only [go_sem, c2]
end Go.Proofs

namespace Go.Proofs
open Go Go.Sx Go.Gauge
attribute [local irreducible] Run lead

def aF (a b c d l h : Int) : AVal := .fn (.func n_gauge_Keeps_1) [] [.rptr (r2 a b) 0, .rptr (r2 c d) 0, .rptr (r2 l h) 0]
theorem crE_zero {a b lo hi : Int} (h : crE a b lo hi = 0) : (lo ≤ a ∧ a ≤ hi) ∧ (lo ≤ b ∧ b ≤ hi) ∧ a ≤ b := by
  unfold crE at h
  split at h
  · cases h
  · split at h
    · cases h
    · omega
def kepR (a b c d l h : Int) : Int × Int × Int :=
  if adE a b c d ≠ 0 then (0, 0, adE a b c d) else if crE l h (-1000000000) 1000000000 ≠ 0 then (0, 0, crE l h (-1000000000) 1000000000) else (lastT (pS a b c d l h), lastT (pM a b c d l h), 0)

section
variable {a b c d l h : Int}
theorem after_run (ha : -1000000000 ≤ a ∧ a ≤ 1000000000) (hb : -1000000000 ≤ b ∧ b ≤ 1000000000) (hc : -1000000 ≤ c ∧ c ≤ 1000000) (hd : -1000000 ≤ d ∧ d ≤ 1000000) {n : Int} (hn : 0 ≤ n ∧ n ≤ 1000000) :
    Ans Tryd.prog n_gauge_Keeps_1 [.int .i64 n, .rptr (r2 a b) 0, .rptr (r2 c d) 0, .rptr (r2 l h) 0] [] (.int .i64 (vrd (agLo a c n) (agHi b d n) l h)) [] := by
  have k1 := aged_run ha hb hc hd hn
  have k2 := Verdict_run (agLo a c n) (agHi b d n) l h
  simp only [r2] at k1 k2
  refine spec_run e_gauge_Keeps_1 fun G => ?_
  simp only [go_sem, r2]
  refine dP k1 ?_
  simp only [go_sem]
  refine cP k2 ?_
  simp only [go_sem]
theorem sure_run (ha : -1000000000 ≤ a ∧ a ≤ 1000000000) (hb : -1000000000 ≤ b ∧ b ≤ 1000000000) (hc : -1000000 ≤ c ∧ c ≤ 1000000) (hd : -1000000 ≤ d ∧ d ≤ 1000000) (n : Nat) (hn : n ≤ 1000000) :
    Ans Tryd.prog n_gauge_Keeps_2 [.int .i64 n, .rptr (aF a b c d l h) 0] [] (.bool (pS a b c d l h n)) [] := by
  have k1 := after_run (l := l) (h := h) ha hb hc hd (n := n) (by omega)
  unfold pS
  obtain ⟨v, hv⟩ : ∃ v, vrd (agLo a c n) (agHi b d n) l h = v := ⟨_, rfl⟩
  rw [hv] at k1 ⊢
  refine spec_run e_gauge_Keeps_2 fun G => ?_
  simp only [go_sem, aF]
  refine cP k1 ?_
  by_cases c1 : v = 1
  · have c2 : (v == 1) = true := beq_iff_eq.2 c1
    simp only [go_sem, c2, decide_eq_true c1]
  · have c2 : (v == 1) = false := beq_eq_false_iff_ne.2 c1
    simp only [go_sem, c2, decide_eq_false c1]
theorem may_run (ha : -1000000000 ≤ a ∧ a ≤ 1000000000) (hb : -1000000000 ≤ b ∧ b ≤ 1000000000) (hc : -1000000 ≤ c ∧ c ≤ 1000000) (hd : -1000000 ≤ d ∧ d ≤ 1000000) (n : Nat) (hn : n ≤ 1000000) :
    Ans Tryd.prog n_gauge_Keeps_3 [.int .i64 n, .rptr (aF a b c d l h) 0] [] (.bool (pM a b c d l h n)) [] := by
  have k1 := after_run (l := l) (h := h) ha hb hc hd (n := n) (by omega)
  unfold pM
  obtain ⟨v, hv⟩ : ∃ v, vrd (agLo a c n) (agHi b d n) l h = v := ⟨_, rfl⟩
  rw [hv] at k1 ⊢
  by_cases c1 : v = 2
  · have c2 : (v == 2) = true := beq_iff_eq.2 c1
    rw [show decide (v ≠ 2) = false from decide_eq_false (not_not_intro c1)]
    refine spec_run e_gauge_Keeps_3 fun G => ?_
    simp only [go_sem, aF]
    refine cP k1 ?_
    simp only [go_sem, c2]
    exact c1
  · have c2 : (v == 2) = false := beq_eq_false_iff_ne.2 c1
    rw [show decide (v ≠ 2) = true from decide_eq_true c1]
    refine spec_run e_gauge_Keeps_3 fun G => ?_
    simp only [go_sem, aF]
    refine cP k1 ?_
    simp only [go_sem, c2]
    exact c1
theorem aF_frz (k : Nat) (H : Heap) : frz (k + 4) H (aF a b c d l h) = aF a b c d l h := rfl
theorem aF_bel : Bel (fun _ => False) (aF a b c d l h) := by unfold aF; simp only [go_sem]
theorem Keeps_run (a b c d l h : Int) : Ans Tryd.prog n_gauge_Keeps [r2 a b, r2 c d, r2 l h] [] (.tup [r2 (kepR a b c d l h).1 (kepR a b c d l h).2.1, .int .i64 (kepR a b c d l h).2.2]) [] := by
  have k1 := checkDrift_run a b c d
  have k2 := checkRange_run l h (-1000000000) 1000000000
  unfold kepR
  obtain ⟨e, he⟩ : ∃ e, adE a b c d = e := ⟨_, rfl⟩
  obtain ⟨f, hf⟩ : ∃ f, crE l h (-1000000000) 1000000000 = f := ⟨_, rfl⟩
  rw [he] at k1 ⊢
  rw [hf] at k2 ⊢
  simp only [r2] at k1 k2
  refine spec_run e_gauge_Keeps fun G => ?_
  by_cases c1 : e = 0
  · subst c1
    obtain ⟨h1, h2, h3, h4, h5, h6⟩ := adE_zero he
    rw [if_neg (fun h => h rfl)]
    simp only [go_sem, r2]
    refine cP k1 ?_
    simp only [go_sem]
    refine cP k2 ?_
    by_cases c2 : f = 0
    · subst c2
      obtain ⟨h7, h8, h9⟩ := crE_zero hf
      rw [if_neg (fun h => h rfl)]
      have k3 := lastTick_run (g := n_gauge_Keeps_2) (F := aF a b c d l h) aF_bel aF_frz (sure_run h1 h2 h3 h4) (fun h0 i j hij hj => pS_down h5 h6 h9 h0 hij hj)
      have k4 := lastTick_run (g := n_gauge_Keeps_3) (F := aF a b c d l h) aF_bel aF_frz (may_run h1 h2 h3 h4) (fun h0 i j hij hj => pM_down h5 h6 h9 h0 hij hj)
      simp only [go_sem]
      refine callF0 k3 12 (by simp only [go_sem, frz, aF, r2]) ?_
      simp only [go_sem]
      refine callF0 k4 12 (by simp only [go_sem, frz, aF, r2]) ?_
      simp only [go_sem]
    · have c3 : (f == 0) = false := beq_eq_false_iff_ne.2 c2
      rw [if_pos c2]
      simp only [go_sem, c2, c3]
  · have c2 : (e == 0) = false := beq_eq_false_iff_ne.2 c1
    rw [if_pos c1]
    simp only [go_sem, r2]
    refine cP k1 ?_
    simp only [go_sem, c1, c2]
end
end Go.Proofs

namespace Go.Proofs
open Go Go.Sx Go.Gauge
attribute [local irreducible] Run lead

section
variable {a b c d l h : Int}
set_option maxHeartbeats 4000000 in
set_option maxRecDepth 10000 in
theorem rKeeps_run (a b c d l h : Int) : Ans Tryd.prog n_ref07_Keeps [r2 a b, r2 c d, r2 l h] [] (.tup [r2 (kepR a b c d l h).1 (kepR a b c d l h).2.1, .int .i64 (kepR a b c d l h).2.2]) [] := by
  have k1 := rcheckAge_run a b c d
  have k2 := rcheckRange_run l h (-1000000000) 1000000000
  unfold kepR
  obtain ⟨e, he⟩ : ∃ e, adE a b c d = e := ⟨_, rfl⟩
  obtain ⟨f, hf⟩ : ∃ f, crE l h (-1000000000) 1000000000 = f := ⟨_, rfl⟩
  rw [he] at k1 ⊢
  rw [hf] at k2 ⊢
  simp only [r2] at k1 k2
  refine spec_run e_ref07_Keeps fun G => ?_
  by_cases c1 : e = 0
  · subst c1
    obtain ⟨h1, h2, h3, h4, h5, h6⟩ := adE_zero he
    rw [if_neg (fun h => h rfl)]
    simp only [go_sem, r2]
    refine cP k1 ?_
    simp only [go_sem]
    refine cP k2 ?_
    by_cases c2 : f = 0
    · subst c2
      obtain ⟨h7, h8, h9⟩ := crE_zero hf
      rw [if_neg (fun h => h rfl)]
      simp only [go_sem]
      have hpp : ∀ i, pS a b c d l h i = true → pM a b c d l h i = true := fun i => pS_pM i
      have hps : ∀ i, pS a b c d l h i = decide (vrd (agLo a c i) (agHi b d i) l h = 1) := fun i => rfl
      have hpm : ∀ i, pM a b c d l h i = decide (vrd (agLo a c i) (agHi b d i) l h ≠ 2) := fun i => rfl
      obtain ⟨p, hp⟩ : ∃ p, pS a b c d l h = p := ⟨_, rfl⟩
      obtain ⟨q, hq⟩ : ∃ q, pM a b c d l h = q := ⟨_, rfl⟩
      rw [hp] at hpp hps ⊢
      rw [hq] at hpp hpm ⊢
      have p0 : lead p 0 = 0 := by have := lead_le p 0; omega
      have q0 : lead q 0 = 0 := by have := lead_le q 0; omega
      have hsub := lead_sub hpp
      refine loop_ind k_ref07_Keeps_r19.eq_1 (fun n : Nat => n ≤ 1000001 ∧ n ≤ lead q n + 1) (fun n => 1000001 - n)
        (fun n => (tsets 56 [(3, .ptr 0 0 0 1), (4, .ptr 1 0 0 1), (5, .ptr 2 0 0 1), (6, .ptr 3 0 0 1), (10, .ptr 4 0 0 1), (11, .bool (decide (lead p n = n))), (12, .bool (decide (lead q n = n))), (13, .int .i64 n)],
          [some (.cells false 2 [.agg [.int .i64 a, .int .i64 b]]), some (.cells false 2 [.agg [.int .i64 c, .int .i64 d]]), some (.cells false 2 [.agg [.int .i64 l, .int .i64 h]]), some (.cells false 2 [.agg [.int .i64 0, .int .i64 0]]), some (.cells false 2 [.agg [.int .i64 ((lead p n : Int) - 1), .int .i64 ((lead q n : Int) - 1)]])])) 0 ⟨by omega, by omega⟩ (by simp [go_sem, p0, q0]) (by simp [p0, q0]) ?_
      intro n hn ih
      dsimp only at hn ih ⊢
      have hpn := lead_le p n
      have hqn := lead_le q n
      have hsn := hsub n
      by_cases d1 : n ≤ 1000000 ∧ lead q n = n
      · obtain ⟨d2, d3⟩ := d1
        have d4 : (n : Int) ≤ 1000000 := by omega
        have w1 : IntKind.i64.wrap ((n : Int) + 1) = ((n + 1 : Nat) : Int) := by rw [w64 (by omega)]; rfl
        have k3 := raged_run h1 h2 h3 h4 (n := (n : Int)) (by omega)
        have k4 := rVerdict_run (agLo a c n) (agHi b d n) l h
        simp only [r2] at k3 k4
        obtain ⟨v, hv⟩ : ∃ v, vrd (agLo a c n) (agHi b d n) l h = v := ⟨_, rfl⟩
        have hpv := hps n
        have hqv := hpm n
        rw [hv] at k4 hpv hqv
        have ihk := ih (n + 1)
        clear ih
        have ez : ((n + 1 : Nat) : Int) - 1 = n := by omega
        by_cases s1 : lead p n = n
        · by_cases v1 : v = 1
          · have v2 : (v == 1) = true := beq_iff_eq.2 v1
            have v4 : ¬ v = 2 := by omega
            have v5 : (v != 2) = true := bne_iff_ne.2 v4
            have e1 : lead p (n + 1) = n + 1 := lead_up s1 (by rw [hpv]; exact decide_eq_true v1)
            have e2 : lead q (n + 1) = n + 1 := lead_up d3 (by rw [hqv]; exact decide_eq_true v4)
            rw [e1, e2] at ihk
            try rw [ez] at ihk
            simp only [go_sem, d4, d3, s1]
            refine dP k3 ?_
            simp only [go_sem]
            refine cP k4 ?_
            simp only [go_sem, v2, v4, v5, w1]
            exact ihk (by omega) ⟨by omega, by omega⟩ _ (by simp [go_sem, v5])
          · by_cases v4 : v = 2
            · have v2 : (v == 1) = false := beq_eq_false_iff_ne.2 v1
              have v5 : (v != 2) = false := by rw [v4]; rfl
              have e1 : lead p (n + 1) = n := by rw [lead_no (by rw [hpv]; exact decide_eq_false v1)]; exact s1
              have e2 : lead q (n + 1) = n := by rw [lead_no (by rw [hqv]; exact decide_eq_false (not_not_intro v4))]; exact d3
              rw [e1, e2] at ihk
              try rw [ez] at ihk
              simp only [go_sem, d4, d3, s1]
              refine dP k3 ?_
              simp only [go_sem]
              refine cP k4 ?_
              simp only [go_sem, v2, v4, v5, w1]
              exact ihk (by omega) ⟨by omega, by omega⟩ _ (by simp [go_sem, v5])
            · have v2 : (v == 1) = false := beq_eq_false_iff_ne.2 v1
              have v5 : (v != 2) = true := bne_iff_ne.2 v4
              have e1 : lead p (n + 1) = n := by rw [lead_no (by rw [hpv]; exact decide_eq_false v1)]; exact s1
              have e2 : lead q (n + 1) = n + 1 := lead_up d3 (by rw [hqv]; exact decide_eq_true v4)
              rw [e1, e2] at ihk
              try rw [ez] at ihk
              simp only [go_sem, d4, d3, s1]
              refine dP k3 ?_
              simp only [go_sem]
              refine cP k4 ?_
              simp only [go_sem, v2, v4, v5, w1]
              exact ihk (by omega) ⟨by omega, by omega⟩ _ (by simp [go_sem, v5])
        · by_cases v1 : v = 1
          · have v2 : (v == 1) = true := beq_iff_eq.2 v1
            have v4 : ¬ v = 2 := by omega
            have v5 : (v != 2) = true := bne_iff_ne.2 v4
            have e1 : lead p (n + 1) = lead p n := lead_ne s1
            have f1 : ¬ lead p n = n + 1 := by omega
            have e2 : lead q (n + 1) = n + 1 := lead_up d3 (by rw [hqv]; exact decide_eq_true v4)
            rw [e1, e2] at ihk
            try rw [ez] at ihk
            simp only [go_sem, d4, d3, s1]
            refine dP k3 ?_
            simp only [go_sem]
            refine cP k4 ?_
            simp only [go_sem, v2, v4, v5, w1]
            exact ihk (by omega) ⟨by omega, by omega⟩ _ (by simp [go_sem, v5, f1])
          · by_cases v4 : v = 2
            · have v2 : (v == 1) = false := beq_eq_false_iff_ne.2 v1
              have v5 : (v != 2) = false := by rw [v4]; rfl
              have e1 : lead p (n + 1) = lead p n := lead_ne s1
              have f1 : ¬ lead p n = n + 1 := by omega
              have e2 : lead q (n + 1) = n := by rw [lead_no (by rw [hqv]; exact decide_eq_false (not_not_intro v4))]; exact d3
              rw [e1, e2] at ihk
              try rw [ez] at ihk
              simp only [go_sem, d4, d3, s1]
              refine dP k3 ?_
              simp only [go_sem]
              refine cP k4 ?_
              simp only [go_sem, v2, v4, v5, w1]
              exact ihk (by omega) ⟨by omega, by omega⟩ _ (by simp [go_sem, v5, f1])
            · have v2 : (v == 1) = false := beq_eq_false_iff_ne.2 v1
              have v5 : (v != 2) = true := bne_iff_ne.2 v4
              have e1 : lead p (n + 1) = lead p n := lead_ne s1
              have f1 : ¬ lead p n = n + 1 := by omega
              have e2 : lead q (n + 1) = n + 1 := lead_up d3 (by rw [hqv]; exact decide_eq_true v4)
              rw [e1, e2] at ihk
              try rw [ez] at ihk
              simp only [go_sem, d4, d3, s1]
              refine dP k3 ?_
              simp only [go_sem]
              refine cP k4 ?_
              simp only [go_sem, v2, v4, v5, w1]
              exact ihk (by omega) ⟨by omega, by omega⟩ _ (by simp [go_sem, v5, f1])
      · have e1 : lastT p = (lead p n : Int) - 1 ∧ lastT q = (lead q n : Int) - 1 := by
          unfold lastT
          by_cases x : lead q n < n
          · rw [lead_stop' x hn.1, lead_stop' (show lead p n < n by omega) hn.1]; exact ⟨rfl, rfl⟩
          · have : n = 1000001 := by omega
            subst this; exact ⟨rfl, rfl⟩
        rw [e1.1, e1.2]
        by_cases d2 : n ≤ 1000000
        · have d4 : (n : Int) ≤ 1000000 := by omega
          have d3 : ¬ lead q n = n := fun x => d1 ⟨d2, x⟩
          simp only [go_sem, d4, d3]
        · have d4 : ¬ (n : Int) ≤ 1000000 := by omega
          simp only [go_sem, d4]
    · have c3 : (f == 0) = false := beq_eq_false_iff_ne.2 c2
      rw [if_pos c2]
      simp only [go_sem, c2, c3]
  · have c2 : (e == 0) = false := beq_eq_false_iff_ne.2 c1
    rw [if_pos c1]
    simp only [go_sem, r2]
    refine cP k1 ?_
    simp only [go_sem, c1, c2]
end
end Go.Proofs

namespace Go.Proofs
open Go Go.Sx Go.Gauge

theorem at_struct {P : Program} {n : Nat} {t : TypeId} {fs : Array Field} (hu : P.underlying t = some (.struct fs)) {vs : List AVal} (h : AT P (n + 1) t vs) : ATs (AT P n) fs.toList vs := by
  unfold AT at h; rw [hu] at h; exact h
theorem at_int {P : Program} {n : Nat} {t : TypeId} {k : IntKind} (hu : P.underlying t = some (.int k)) {vs : List AVal} (h : AT P (n + 1) t vs) : ∃ m, vs = [.int k m] ∧ (Lit.int k m).wf = true := by
  unfold AT at h; rw [hu] at h; exact h
theorem at_slice {P : Program} {n : Nat} {t e : TypeId} (hu : P.underlying t = some (.slice e)) {vs : List AVal} (h : AT P (n + 1) t vs) : ∃ es, vs = [.view es] ∧ es.length ≤ maxLen ∧ ∀ x ∈ es, if aggT P e = true then ∃ ws, x = .agg ws ∧ AT P n e ws else AT P n e [x] := by
  unfold AT at h; rw [hu] at h; exact h
theorem list_map {α β : Type} {f : α → β} {Q : α → Prop} : ∀ l : List β, (∀ x ∈ l, ∃ a, x = f a ∧ Q a) → ∃ l' : List α, l = l'.map f ∧ ∀ a ∈ l', Q a
  | [], _ => ⟨[], rfl, fun a ha => by simp at ha⟩
  | x :: l, h => by
    obtain ⟨a, rfl, ha⟩ := h x (by simp)
    obtain ⟨l', rfl, h'⟩ := list_map l fun y hy => h y (by simp [hy])
    exact ⟨a :: l', rfl, fun b hb => by
      rcases List.mem_cons.1 hb with rfl | hb
      · exact ha
      · exact h' b hb⟩

attribute [local irreducible] AT
set_option maxRecDepth 100000
theorem atn_int {n : Nat} {vs : List AVal} (h : AT Tryd.prog (n + 1) 3 vs) : ∃ m, vs = [.int .i64 m] ∧ (Lit.int .i64 m).wf = true := at_int Tryd.underlying3 h
theorem at_ints {n : Nat} {x : AVal} (h : AT Tryd.prog (n + 2) 27 [x]) : ∃ l : List Int, x = .view (l.map (.int .i64)) ∧ l.length ≤ 9223372036854775807 := by
  obtain ⟨es, h1, hl, he⟩ := at_slice Tryd.underlying27 h
  obtain rfl : x = .view es := by simpa using h1
  have hg : ¬ aggT Tryd.prog 3 = true := by unfold aggT; rw [Tryd.underlying3]; decide
  obtain ⟨l, rfl, -⟩ := list_map (f := AVal.int .i64) (Q := fun _ => True) es fun x hx => by
    have := he x hx
    rw [if_neg hg] at this
    obtain ⟨m, hm, -⟩ := atn_int this
    exact ⟨m, by simpa using hm, trivial⟩
  have hm : maxLen = 9223372036854775807 := rfl
  rw [hm] at hl
  exact ⟨l, rfl, by simpa using hl⟩
theorem at_range {n : Nat} {ws : List AVal} (h : AT Tryd.prog (n + 2) 24 ws) : ∃ a b : Int, .agg ws = r2 a b ∧ (Lit.int .i64 a).wf = true ∧ (Lit.int .i64 b).wf = true := by
  obtain ⟨a, _, rfl, ha, b, _, rfl, hb, rfl⟩ := at_struct Tryd.underlying24 h
  obtain ⟨x, rfl, hx⟩ := atn_int ha
  obtain ⟨y, rfl, hy⟩ := atn_int hb
  exact ⟨x, y, rfl, hx, hy⟩
end Go.Proofs

