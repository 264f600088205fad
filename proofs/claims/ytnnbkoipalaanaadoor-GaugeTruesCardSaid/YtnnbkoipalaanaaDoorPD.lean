/- A part of the proof. -/
import Derived.Test.YtnnbkoipalaanaaDoorPC
import Derived.ProofKit
import Derived.LaidMore
set_option linter.unusedSimpArgs false
set_option linter.unusedVariables false
namespace Go.Proofs
open Go Go.Sx

def k_law07_GaugeTrues_r0 : List AOper := [
  ⟨(some (10)), .move (.const (.bool false)), none, []⟩]
def k_law07_GaugeTrues_r1 : List AOper := [
  ⟨(some (23)), .move (.tmp 0), none, []⟩, 
  ⟨(some (24)), .len false (.tmp 23), none, []⟩, 
  ⟨(some (25)), .bin .plain .gtr (.tmp 24) (.const (.int .i64 20)), none, []⟩]
def k_law07_GaugeTrues_r2 : List AOper := [
  ⟨(some (26)), .call (.const (.fn (.func 15) [] [])) [], none, []⟩, 
  ⟨(some (10)), .move (.tmp 26), none, []⟩]
def k_law07_GaugeTrues_r3 : List AOper := [
  ⟨(some (27)), .move (.tmp 3), none, []⟩, 
  ⟨(some (28)), .call (.const (.fn (.func 16) [] [])) [.tmp 27], none, []⟩, 
  ⟨(some (11)), .move (.tmp 28), none, []⟩]
def k_law07_GaugeTrues_r4 : List AOper := [
  ⟨(some (29)), .move (.tmp 11), none, []⟩, 
  ⟨(some (30)), .call (.const (.fn (.func 17) [] [])) [.tmp 29, .const (.int .i64 5)], none, []⟩, 
  ⟨(some (12)), .move (.tmp 30), none, []⟩]
def k_law07_GaugeTrues_r5 : List AOper := [
  ⟨(some (31)), .move (.tmp 11), none, []⟩, 
  ⟨(some (32)), .move (.tmp 12), none, []⟩, 
  ⟨(some (33)), .len false (.tmp 32), none, []⟩, 
  ⟨(some (34)), .call (.const (.fn (.func 19) [] [])) [.tmp 31, .tmp 33], none, []⟩, 
  ⟨(some (13)), .move (.tmp 34), none, []⟩]
def k_law07_GaugeTrues_r6 : List AOper := [
  ⟨(some (35)), .move (.tmp 4), none, []⟩, 
  ⟨(some (36)), .call (.const (.fn (.func 22) [] [])) [.tmp 35, .const (.int .i64 2000000001)], none, []⟩, 
  ⟨(some (37)), .bin .plain .sub (.tmp 36) (.const (.int .i64 1000000000)), none, []⟩, 
  ⟨(some (4)), .move (.tmp 37), none, []⟩]
def k_law07_GaugeTrues_r7 : List AOper := [
  ⟨(some (38)), .move (.tmp 11), none, []⟩, 
  ⟨(some (39)), .call (.const (.fn (.func 18) [] [])) [.tmp 38, .const (.int .i64 2)], none, []⟩]
def k_law07_GaugeTrues_r8 : List AOper := [
  ⟨(some (40)), .move (.tmp 4), none, []⟩, 
  ⟨(some (41)), .bin .plain .rem (.tmp 40) (.const (.int .i64 5000)), none, []⟩, 
  ⟨(some (4)), .move (.tmp 41), none, []⟩]
def k_law07_GaugeTrues_r9 : List AOper := [
  ⟨(some (42)), .move (.tmp 11), none, []⟩, 
  ⟨(some (43)), .move (.tmp 12), none, []⟩, 
  ⟨(some (44)), .move (.tmp 13), none, []⟩, 
  ⟨(some (45)), .move (.tmp 4), none, []⟩, 
  ⟨(some (46)), .call (.const (.fn (.func 31) [] [])) [.tmp 42, .tmp 43, .tmp 44, .tmp 45], none, []⟩, 
  ⟨(some (14)), .move (.tmp 46), none, []⟩]
def k_law07_GaugeTrues_r10 : List AOper := [
  ⟨(some (47)), .move (.tmp 0), none, []⟩, 
  ⟨(some (48)), .move (.tmp 12), none, [0]⟩, 
  ⟨(some (49)), .move (.tmp 12), none, [0, 1]⟩, 
  ⟨(some (50)), .move (.tmp 12), none, [0, 1, 2]⟩, 
  ⟨(some (51)), .buildSlice 1 [.tmp 47, .tmp 48, .tmp 49, .tmp 50], none, []⟩, 
  ⟨(some (52)), .move (.tmp 1), none, [0, 1, 2, 3, 4]⟩, 
  ⟨(some (53)), .move (.tmp 13), none, [0, 1, 2, 3, 4, 5]⟩, 
  ⟨(some (54)), .move (.tmp 13), none, [0, 1, 2, 3, 4, 5, 6]⟩, 
  ⟨(some (55)), .move (.tmp 13), none, [0, 1, 2, 3, 4, 5, 6, 7]⟩, 
  ⟨(some (56)), .buildSlice 1 [.tmp 52, .tmp 53, .tmp 54, .tmp 55], none, [0, 1, 2, 3, 4]⟩, 
  ⟨(some (57)), .move (.tmp 2), none, [0, 1, 2, 3, 4, 5, 6, 7, 8, 9]⟩, 
  ⟨(some (58)), .move (.tmp 14), none, [0, 1, 2, 3, 4, 5, 6, 7, 8, 9, 10]⟩, 
  ⟨(some (59)), .move (.tmp 14), none, [0, 1, 2, 3, 4, 5, 6, 7, 8, 9, 10, 11]⟩, 
  ⟨(some (60)), .move (.tmp 12), none, [0, 1, 2, 3, 4, 5, 6, 7, 8, 9, 10, 11, 12]⟩, 
  ⟨(some (61)), .move (.tmp 13), none, [0, 1, 2, 3, 4, 5, 6, 7, 8, 9, 10, 11, 12, 13]⟩, 
  ⟨(some (62)), .indexAddr 7 (.tmp 60) (.tmp 61), none, [0, 1, 2, 3, 4, 5, 6, 7, 8, 9, 10, 11, 12]⟩, 
  ⟨(some (63)), .fieldAddr 4 (.tmp 62), none, [0, 1, 2, 3, 4, 5, 6, 7, 8, 9, 10, 11, 12]⟩, 
  ⟨(some (64)), .load none (.tmp 63), none, [0, 1, 2, 3, 4, 5, 6, 7, 8, 9, 10, 11, 12]⟩, 
  ⟨(some (65)), .move (.tmp 11), none, [0, 1, 2, 3, 4, 5, 6, 7, 8, 9, 10, 11, 12, 13, 14, 15, 16, 17]⟩, 
  ⟨(some (66)), .call (.const (.fn (.func 20) [] [])) [.tmp 65, .const (.int .i64 (-3)), .const (.int .i64 3)], none, [0, 1, 2, 3, 4, 5, 6, 7, 8, 9, 10, 11, 12, 13, 14, 15, 16, 17]⟩, 
  ⟨(some (67)), .bin .plain .mul (.tmp 64) (.tmp 66), none, [0, 1, 2, 3, 4, 5, 6, 7, 8, 9, 10, 11, 12]⟩, 
  ⟨(some (68)), .bin .plain .add (.tmp 59) (.tmp 67), none, [0, 1, 2, 3, 4, 5, 6, 7, 8, 9, 10, 11]⟩, 
  ⟨(some (69)), .move (.tmp 14), none, [0, 1, 2, 3, 4, 5, 6, 7, 8, 9, 10, 11, 12, 13, 14, 15, 16, 17, 18, 19, 20, 21]⟩, 
  ⟨(some (70)), .bin .plain .add (.tmp 69) (.const (.int .i64 1)), none, [0, 1, 2, 3, 4, 5, 6, 7, 8, 9, 10, 11, 12, 13, 14, 15, 16, 17, 18, 19, 20, 21]⟩, 
  ⟨(some (71)), .buildSlice 1 [.tmp 57, .tmp 58, .tmp 68, .tmp 70], none, [0, 1, 2, 3, 4, 5, 6, 7, 8, 9]⟩, 
  ⟨(some (15)), .move (.tmp 51), none, [5, 6, 7, 8, 9, 10, 11, 12, 13, 14, 15, 16, 17, 20, 21, 22, 23, 24]⟩, 
  ⟨(some (16)), .move (.tmp 56), none, [10, 11, 12, 13, 14, 15, 16, 17, 20, 21, 22, 23, 24]⟩, 
  ⟨(some (17)), .move (.tmp 71), none, []⟩]
def k_law07_GaugeTrues_r10s : List (List AOper) := [
  [
  ⟨(some (47)), .move (.tmp 0), none, []⟩, 
  ⟨(some (48)), .move (.tmp 12), none, [0]⟩, 
  ⟨(some (49)), .move (.tmp 12), none, [0, 1]⟩, 
  ⟨(some (50)), .move (.tmp 12), none, [0, 1, 2]⟩, 
  ⟨(some (51)), .buildSlice 1 [.tmp 47, .tmp 48, .tmp 49, .tmp 50], none, []⟩, 
  ⟨(some (52)), .move (.tmp 1), none, [0, 1, 2, 3, 4]⟩, 
  ⟨(some (53)), .move (.tmp 13), none, [0, 1, 2, 3, 4, 5]⟩, 
  ⟨(some (54)), .move (.tmp 13), none, [0, 1, 2, 3, 4, 5, 6]⟩, 
  ⟨(some (55)), .move (.tmp 13), none, [0, 1, 2, 3, 4, 5, 6, 7]⟩, 
  ⟨(some (56)), .buildSlice 1 [.tmp 52, .tmp 53, .tmp 54, .tmp 55], none, [0, 1, 2, 3, 4]⟩, 
  ⟨(some (57)), .move (.tmp 2), none, [0, 1, 2, 3, 4, 5, 6, 7, 8, 9]⟩, 
  ⟨(some (58)), .move (.tmp 14), none, [0, 1, 2, 3, 4, 5, 6, 7, 8, 9, 10]⟩, 
  ⟨(some (59)), .move (.tmp 14), none, [0, 1, 2, 3, 4, 5, 6, 7, 8, 9, 10, 11]⟩, 
  ⟨(some (60)), .move (.tmp 12), none, [0, 1, 2, 3, 4, 5, 6, 7, 8, 9, 10, 11, 12]⟩, 
  ⟨(some (61)), .move (.tmp 13), none, [0, 1, 2, 3, 4, 5, 6, 7, 8, 9, 10, 11, 12, 13]⟩, 
  ⟨(some (62)), .indexAddr 7 (.tmp 60) (.tmp 61), none, [0, 1, 2, 3, 4, 5, 6, 7, 8, 9, 10, 11, 12]⟩, 
  ⟨(some (63)), .fieldAddr 4 (.tmp 62), none, [0, 1, 2, 3, 4, 5, 6, 7, 8, 9, 10, 11, 12]⟩, 
  ⟨(some (64)), .load none (.tmp 63), none, [0, 1, 2, 3, 4, 5, 6, 7, 8, 9, 10, 11, 12]⟩, 
  ⟨(some (65)), .move (.tmp 11), none, [0, 1, 2, 3, 4, 5, 6, 7, 8, 9, 10, 11, 12, 13, 14, 15, 16, 17]⟩, 
  ⟨(some (66)), .call (.const (.fn (.func 20) [] [])) [.tmp 65, .const (.int .i64 (-3)), .const (.int .i64 3)], none, [0, 1, 2, 3, 4, 5, 6, 7, 8, 9, 10, 11, 12, 13, 14, 15, 16, 17]⟩, 
  ⟨(some (67)), .bin .plain .mul (.tmp 64) (.tmp 66), none, [0, 1, 2, 3, 4, 5, 6, 7, 8, 9, 10, 11, 12]⟩, 
  ⟨(some (68)), .bin .plain .add (.tmp 59) (.tmp 67), none, [0, 1, 2, 3, 4, 5, 6, 7, 8, 9, 10, 11]⟩, 
  ⟨(some (69)), .move (.tmp 14), none, [0, 1, 2, 3, 4, 5, 6, 7, 8, 9, 10, 11, 12, 13, 14, 15, 16, 17, 18, 19, 20, 21]⟩, 
  ⟨(some (70)), .bin .plain .add (.tmp 69) (.const (.int .i64 1)), none, [0, 1, 2, 3, 4, 5, 6, 7, 8, 9, 10, 11, 12, 13, 14, 15, 16, 17, 18, 19, 20, 21]⟩, 
  ⟨(some (71)), .buildSlice 1 [.tmp 57, .tmp 58, .tmp 68, .tmp 70], none, [0, 1, 2, 3, 4, 5, 6, 7, 8, 9]⟩, 
  ⟨(some (15)), .move (.tmp 51), none, [5, 6, 7, 8, 9, 10, 11, 12, 13, 14, 15, 16, 17, 20, 21, 22, 23, 24]⟩, 
  ⟨(some (16)), .move (.tmp 56), none, [10, 11, 12, 13, 14, 15, 16, 17, 20, 21, 22, 23, 24]⟩], 
  [
  ⟨(some (17)), .move (.tmp 71), none, []⟩]]
theorem k_law07_GaugeTrues_r10_sg : segs k_law07_GaugeTrues_r10 = k_law07_GaugeTrues_r10s := by kernel_rfl
theorem k_law07_GaugeTrues_r10_st : statOK k_law07_GaugeTrues_r10 = true := by kernel_rfl
def k_law07_GaugeTrues_r11 : List AOper := [
  ⟨(some (18)), .move (.const (.int .i64 0)), none, []⟩]
def k_law07_GaugeTrues_r12 : List AOper := [
  ⟨(some (72)), .move (.tmp 18), none, []⟩, 
  ⟨(some (73)), .move (.tmp 15), none, []⟩, 
  ⟨(some (74)), .len false (.tmp 73), none, []⟩, 
  ⟨(some (75)), .bin .plain .lss (.tmp 72) (.tmp 74), none, []⟩]
def k_law07_GaugeTrues_r13 : List AOper := [
  ⟨(some (79)), .move (.tmp 15), none, []⟩, 
  ⟨(some (80)), .move (.tmp 18), none, [0]⟩, 
  ⟨(some (81)), .indexAddr 1 (.tmp 79) (.tmp 80), none, []⟩, 
  ⟨(some (82)), .load none (.tmp 81), none, []⟩, 
  ⟨(some (83)), .move (.tmp 16), none, [0, 1, 2, 3]⟩, 
  ⟨(some (84)), .move (.tmp 18), none, [0, 1, 2, 3, 4]⟩, 
  ⟨(some (85)), .indexAddr 1 (.tmp 83) (.tmp 84), none, [0, 1, 2, 3]⟩, 
  ⟨(some (86)), .load none (.tmp 85), none, [0, 1, 2, 3]⟩, 
  ⟨(some (87)), .move (.tmp 17), none, [0, 1, 2, 3, 4, 5, 6, 7]⟩, 
  ⟨(some (88)), .move (.tmp 18), none, [0, 1, 2, 3, 4, 5, 6, 7, 8]⟩, 
  ⟨(some (89)), .indexAddr 1 (.tmp 87) (.tmp 88), none, [0, 1, 2, 3, 4, 5, 6, 7]⟩, 
  ⟨(some (90)), .load none (.tmp 89), none, [0, 1, 2, 3, 4, 5, 6, 7]⟩, 
  ⟨(some (91)), .call (.const (.fn (.func 32) [] [])) [.tmp 82, .tmp 86, .tmp 90], none, []⟩, 
  ⟨(some (78)), .move (.tmp 91), none, []⟩, 
  ⟨(some (92)), .extract (.tmp 78) 0, none, []⟩, 
  ⟨(some (93)), .extract (.tmp 78) 1, none, [14]⟩, 
  ⟨(some (19)), .box (.const (.agg [.int .i64 0, .int .i64 0])), none, [0, 1, 2, 3, 4, 5, 6, 7, 8, 9, 10, 11, 12, 13, 14, 15]⟩, 
  ⟨none, .store 2 (.tmp 19) (.tmp 92), none, [15]⟩, 
  ⟨(some (20)), .move (.tmp 93), none, []⟩]
def k_law07_GaugeTrues_r13s : List (List AOper) := [
  [
  ⟨(some (79)), .move (.tmp 15), none, []⟩, 
  ⟨(some (80)), .move (.tmp 18), none, [0]⟩, 
  ⟨(some (81)), .indexAddr 1 (.tmp 79) (.tmp 80), none, []⟩, 
  ⟨(some (82)), .load none (.tmp 81), none, []⟩, 
  ⟨(some (83)), .move (.tmp 16), none, [0, 1, 2, 3]⟩, 
  ⟨(some (84)), .move (.tmp 18), none, [0, 1, 2, 3, 4]⟩, 
  ⟨(some (85)), .indexAddr 1 (.tmp 83) (.tmp 84), none, [0, 1, 2, 3]⟩, 
  ⟨(some (86)), .load none (.tmp 85), none, [0, 1, 2, 3]⟩, 
  ⟨(some (87)), .move (.tmp 17), none, [0, 1, 2, 3, 4, 5, 6, 7]⟩, 
  ⟨(some (88)), .move (.tmp 18), none, [0, 1, 2, 3, 4, 5, 6, 7, 8]⟩, 
  ⟨(some (89)), .indexAddr 1 (.tmp 87) (.tmp 88), none, [0, 1, 2, 3, 4, 5, 6, 7]⟩, 
  ⟨(some (90)), .load none (.tmp 89), none, [0, 1, 2, 3, 4, 5, 6, 7]⟩, 
  ⟨(some (91)), .call (.const (.fn (.func 32) [] [])) [.tmp 82, .tmp 86, .tmp 90], none, []⟩, 
  ⟨(some (78)), .move (.tmp 91), none, []⟩, 
  ⟨(some (92)), .extract (.tmp 78) 0, none, []⟩, 
  ⟨(some (93)), .extract (.tmp 78) 1, none, [14]⟩, 
  ⟨(some (19)), .box (.const (.agg [.int .i64 0, .int .i64 0])), none, [0, 1, 2, 3, 4, 5, 6, 7, 8, 9, 10, 11, 12, 13, 14, 15]⟩, 
  ⟨none, .store 2 (.tmp 19) (.tmp 92), none, [15]⟩], 
  [
  ⟨(some (20)), .move (.tmp 93), none, []⟩]]
theorem k_law07_GaugeTrues_r13_sg : segs k_law07_GaugeTrues_r13 = k_law07_GaugeTrues_r13s := by kernel_rfl
theorem k_law07_GaugeTrues_r13_st : statOK k_law07_GaugeTrues_r13 = true := by kernel_rfl
def k_law07_GaugeTrues_r14 : List AOper := [
  ⟨(some (95)), .move (.tmp 15), none, []⟩, 
  ⟨(some (96)), .move (.tmp 18), none, [0]⟩, 
  ⟨(some (97)), .indexAddr 1 (.tmp 95) (.tmp 96), none, []⟩, 
  ⟨(some (98)), .load none (.tmp 97), none, []⟩, 
  ⟨(some (99)), .move (.tmp 16), none, [0, 1, 2, 3]⟩, 
  ⟨(some (100)), .move (.tmp 18), none, [0, 1, 2, 3, 4]⟩, 
  ⟨(some (101)), .indexAddr 1 (.tmp 99) (.tmp 100), none, [0, 1, 2, 3]⟩, 
  ⟨(some (102)), .load none (.tmp 101), none, [0, 1, 2, 3]⟩, 
  ⟨(some (103)), .move (.tmp 17), none, [0, 1, 2, 3, 4, 5, 6, 7]⟩, 
  ⟨(some (104)), .move (.tmp 18), none, [0, 1, 2, 3, 4, 5, 6, 7, 8]⟩, 
  ⟨(some (105)), .indexAddr 1 (.tmp 103) (.tmp 104), none, [0, 1, 2, 3, 4, 5, 6, 7]⟩, 
  ⟨(some (106)), .load none (.tmp 105), none, [0, 1, 2, 3, 4, 5, 6, 7]⟩, 
  ⟨(some (107)), .call (.const (.fn (.func 33) [] [])) [.tmp 98, .tmp 102, .tmp 106], none, []⟩, 
  ⟨(some (94)), .move (.tmp 107), none, []⟩, 
  ⟨(some (108)), .extract (.tmp 94) 0, none, []⟩, 
  ⟨(some (109)), .extract (.tmp 94) 1, none, [14]⟩, 
  ⟨(some (21)), .box (.const (.agg [.int .i64 0, .int .i64 0])), none, [0, 1, 2, 3, 4, 5, 6, 7, 8, 9, 10, 11, 12, 13, 14, 15]⟩, 
  ⟨none, .store 2 (.tmp 21) (.tmp 108), none, [15]⟩, 
  ⟨(some (22)), .move (.tmp 109), none, []⟩]
def k_law07_GaugeTrues_r14s : List (List AOper) := [
  [
  ⟨(some (95)), .move (.tmp 15), none, []⟩, 
  ⟨(some (96)), .move (.tmp 18), none, [0]⟩, 
  ⟨(some (97)), .indexAddr 1 (.tmp 95) (.tmp 96), none, []⟩, 
  ⟨(some (98)), .load none (.tmp 97), none, []⟩, 
  ⟨(some (99)), .move (.tmp 16), none, [0, 1, 2, 3]⟩, 
  ⟨(some (100)), .move (.tmp 18), none, [0, 1, 2, 3, 4]⟩, 
  ⟨(some (101)), .indexAddr 1 (.tmp 99) (.tmp 100), none, [0, 1, 2, 3]⟩, 
  ⟨(some (102)), .load none (.tmp 101), none, [0, 1, 2, 3]⟩, 
  ⟨(some (103)), .move (.tmp 17), none, [0, 1, 2, 3, 4, 5, 6, 7]⟩, 
  ⟨(some (104)), .move (.tmp 18), none, [0, 1, 2, 3, 4, 5, 6, 7, 8]⟩, 
  ⟨(some (105)), .indexAddr 1 (.tmp 103) (.tmp 104), none, [0, 1, 2, 3, 4, 5, 6, 7]⟩, 
  ⟨(some (106)), .load none (.tmp 105), none, [0, 1, 2, 3, 4, 5, 6, 7]⟩, 
  ⟨(some (107)), .call (.const (.fn (.func 33) [] [])) [.tmp 98, .tmp 102, .tmp 106], none, []⟩, 
  ⟨(some (94)), .move (.tmp 107), none, []⟩, 
  ⟨(some (108)), .extract (.tmp 94) 0, none, []⟩, 
  ⟨(some (109)), .extract (.tmp 94) 1, none, [14]⟩, 
  ⟨(some (21)), .box (.const (.agg [.int .i64 0, .int .i64 0])), none, [0, 1, 2, 3, 4, 5, 6, 7, 8, 9, 10, 11, 12, 13, 14, 15]⟩, 
  ⟨none, .store 2 (.tmp 21) (.tmp 108), none, [15]⟩], 
  [
  ⟨(some (22)), .move (.tmp 109), none, []⟩]]
theorem k_law07_GaugeTrues_r14_sg : segs k_law07_GaugeTrues_r14 = k_law07_GaugeTrues_r14s := by kernel_rfl
theorem k_law07_GaugeTrues_r14_st : statOK k_law07_GaugeTrues_r14 = true := by kernel_rfl
def k_law07_GaugeTrues_r15 : List AOper := [
  ⟨(some (110)), .load (some (2)) (.tmp 19), none, []⟩, 
  ⟨(some (111)), .load (some (2)) (.tmp 21), none, []⟩, 
  ⟨(some (112)), .eqAgg true [.int, .int] (.tmp 110) (.tmp 111), none, []⟩, 
  ⟨(some (113)), .move (.tmp 112), none, []⟩, 
  ⟨(some (114)), .move (.tmp 20), (some (113, false)), []⟩, 
  ⟨(some (115)), .move (.tmp 22), (some (113, false)), []⟩, 
  ⟨(some (116)), .bin .plain .neq (.tmp 114) (.tmp 115), (some (113, false)), []⟩, 
  ⟨(some (117)), .pick (.tmp 113) (.const (.bool true)) (.tmp 116), none, []⟩]
def k_law07_GaugeTrues_r16 : List AOper := [
  ⟨(some (10)), .move (.const (.bool false)), none, []⟩]
def k_law07_GaugeTrues_r17 : List AOper := [
  ⟨(some (76)), .move (.tmp 18), none, []⟩, 
  ⟨(some (77)), .bin .plain .add (.tmp 76) (.const (.int .i64 1)), none, []⟩, 
  ⟨(some (18)), .move (.tmp 77), none, []⟩]
def k_law07_GaugeTrues_r18 : ACode := (.seq (.seq (.reg k_law07_GaugeTrues_r12 false) (.cond (.tmp 75) .skip (.exit 0))) (.seq (.block 1 (.seq (.reg k_law07_GaugeTrues_r13 true) (.seq (.reg k_law07_GaugeTrues_r14 true) (.seq (.reg k_law07_GaugeTrues_r15 false) (.cond (.tmp 117) (.seq (.reg k_law07_GaugeTrues_r16 false) .ret) .skip))))) (.reg k_law07_GaugeTrues_r17 false)))
def k_law07_GaugeTrues_r19 : List AOper := [
  ⟨(some (118)), .call (.const (.fn (.func 15) [] [])) [], none, []⟩, 
  ⟨(some (10)), .move (.tmp 118), none, []⟩]
def k_law07_GaugeTrues : AFun := { params := 5, ntmps := 119, body := (.seq (.reg k_law07_GaugeTrues_r0 false) (.seq (.seq (.reg k_law07_GaugeTrues_r1 false) (.cond (.tmp 25) (.seq (.reg k_law07_GaugeTrues_r2 false) .ret) .skip)) (.seq (.reg k_law07_GaugeTrues_r3 false) (.seq (.reg k_law07_GaugeTrues_r4 false) (.seq (.reg k_law07_GaugeTrues_r5 false) (.seq (.reg k_law07_GaugeTrues_r6 false) (.seq (.seq (.reg k_law07_GaugeTrues_r7 false) (.cond (.tmp 39) (.reg k_law07_GaugeTrues_r8 false) .skip)) (.seq (.reg k_law07_GaugeTrues_r9 false) (.seq (.reg k_law07_GaugeTrues_r10 true) (.seq (.seq (.reg k_law07_GaugeTrues_r11 false) (.block 0 (.loop k_law07_GaugeTrues_r18))) (.seq (.reg k_law07_GaugeTrues_r19 false) .ret))))))))))), res := [.tmp 10] }
theorem k_law07_GaugeTrues_ok : cfun Tryd.prog Tryd.f4 = k_law07_GaugeTrues := by kernel_rfl

def k_ref07_True_r0 : List AOper := [
  ⟨(some (6)), .box (.const (.agg [.int .i64 0, .int .i64 0])), none, []⟩, 
  ⟨(some (7)), .move (.const (.int .i64 0)), none, []⟩]
def k_ref07_True_r1 : List AOper := [
  ⟨(some (11)), .move (.tmp 0), none, []⟩, 
  ⟨(some (12)), .call (.const (.fn (.func 24) [] [])) [.tmp 11], none, []⟩, 
  ⟨(some (8)), .move (.tmp 12), none, []⟩]
def k_ref07_True_r2 : List AOper := [
  ⟨(some (13)), .move (.tmp 8), none, []⟩, 
  ⟨(some (14)), .bin .plain .neq (.tmp 13) (.const (.int .i64 0)), none, []⟩]
def k_ref07_True_r3 : List AOper := [
  ⟨(some (15)), .build [.int .i64 0, .int .i64 0] [], none, []⟩, 
  ⟨(some (16)), .move (.tmp 8), none, []⟩, 
  ⟨none, .store 2 (.tmp 6) (.tmp 15), none, []⟩, 
  ⟨(some (7)), .move (.tmp 16), none, []⟩]
def k_ref07_True_r4 : List AOper := [
  ⟨(some (17)), .move (.tmp 1), none, []⟩, 
  ⟨(some (18)), .move (.tmp 0), none, []⟩, 
  ⟨(some (19)), .len false (.tmp 18), none, []⟩, 
  ⟨(some (20)), .bin .plain .sub (.tmp 19) (.const (.int .i64 1)), none, []⟩, 
  ⟨(some (21)), .call (.const (.fn (.func 58) [] [])) [.tmp 17, .const (.int .i64 0), .tmp 20], none, []⟩]
def k_ref07_True_r5 : List AOper := [
  ⟨(some (22)), .build [.int .i64 0, .int .i64 0] [], none, []⟩, 
  ⟨none, .store 2 (.tmp 6) (.tmp 22), none, []⟩, 
  ⟨(some (7)), .move (.const (.int .i64 7)), none, []⟩]
def k_ref07_True_r6 : List AOper := [
  ⟨(some (23)), .move (.tmp 2), none, []⟩, 
  ⟨(some (24)), .call (.const (.fn (.func 58) [] [])) [.tmp 23, .const (.int .i64 (-1000000000)), .const (.int .i64 1000000000)], none, []⟩]
def k_ref07_True_r7 : List AOper := [
  ⟨(some (25)), .build [.int .i64 0, .int .i64 0] [], none, []⟩, 
  ⟨none, .store 2 (.tmp 6) (.tmp 25), none, []⟩, 
  ⟨(some (7)), .move (.const (.int .i64 2)), none, []⟩]
def k_ref07_True_r8 : List AOper := [
  ⟨(some (26)), .move (.tmp 2), none, []⟩, 
  ⟨(some (27)), .move (.tmp 0), none, []⟩, 
  ⟨(some (28)), .move (.tmp 1), none, []⟩, 
  ⟨(some (29)), .indexAddr 7 (.tmp 27) (.tmp 28), none, []⟩, 
  ⟨(some (30)), .fieldAddr 4 (.tmp 29), none, []⟩, 
  ⟨(some (31)), .load none (.tmp 30), none, []⟩, 
  ⟨(some (32)), .bin .plain .rem (.tmp 26) (.tmp 31), none, []⟩, 
  ⟨(some (33)), .bin .plain .neq (.tmp 32) (.const (.int .i64 0)), none, []⟩]
def k_ref07_True_r9 : List AOper := [
  ⟨(some (34)), .build [.int .i64 0, .int .i64 0] [], none, []⟩, 
  ⟨none, .store 2 (.tmp 6) (.tmp 34), none, []⟩, 
  ⟨(some (7)), .move (.const (.int .i64 3)), none, []⟩]
def k_ref07_True_r10 : List AOper := [
  ⟨(some (36)), .move (.tmp 0), none, []⟩, 
  ⟨(some (37)), .move (.tmp 1), none, []⟩, 
  ⟨(some (38)), .move (.tmp 2), none, []⟩, 
  ⟨(some (39)), .call (.const (.fn (.func 69) [] [])) [.tmp 36, .tmp 37, .tmp 38], none, []⟩, 
  ⟨(some (35)), .move (.tmp 39), none, []⟩, 
  ⟨(some (40)), .extract (.tmp 35) 0, none, []⟩, 
  ⟨(some (41)), .extract (.tmp 35) 1, none, []⟩, 
  ⟨(some (9)), .box (.const (.agg [.int .i64 0, .int .i64 0])), none, []⟩, 
  ⟨none, .store 2 (.tmp 9) (.tmp 40), none, []⟩, 
  ⟨(some (10)), .move (.tmp 41), none, []⟩]
def k_ref07_True_r11 : List AOper := [
  ⟨(some (42)), .move (.tmp 10), none, []⟩, 
  ⟨(some (43)), .not (.tmp 42), none, []⟩]
def k_ref07_True_r12 : List AOper := [
  ⟨(some (44)), .build [.int .i64 0, .int .i64 0] [], none, []⟩, 
  ⟨none, .store 2 (.tmp 6) (.tmp 44), none, []⟩, 
  ⟨(some (7)), .move (.const (.int .i64 12)), none, []⟩]
def k_ref07_True_r13 : List AOper := [
  ⟨(some (45)), .load (some (2)) (.tmp 9), none, []⟩, 
  ⟨none, .store 2 (.tmp 6) (.tmp 45), none, []⟩, 
  ⟨(some (7)), .move (.const (.int .i64 0)), none, []⟩]
def k_ref07_True : AFun := { params := 3, ntmps := 46, body := (.seq (.reg k_ref07_True_r0 false) (.seq (.seq (.reg k_ref07_True_r1 false) (.seq (.reg k_ref07_True_r2 false) (.cond (.tmp 14) (.seq (.reg k_ref07_True_r3 false) .ret) .skip))) (.seq (.seq (.reg k_ref07_True_r4 false) (.cond (.tmp 21) (.seq (.reg k_ref07_True_r5 false) .ret) .skip)) (.seq (.seq (.reg k_ref07_True_r6 false) (.cond (.tmp 24) (.seq (.reg k_ref07_True_r7 false) .ret) .skip)) (.seq (.seq (.reg k_ref07_True_r8 false) (.cond (.tmp 33) (.seq (.reg k_ref07_True_r9 false) .ret) .skip)) (.seq (.reg k_ref07_True_r10 false) (.seq (.seq (.reg k_ref07_True_r11 false) (.cond (.tmp 43) (.seq (.reg k_ref07_True_r12 false) .ret) .skip)) (.seq (.reg k_ref07_True_r13 false) .ret)))))))), res := [.cell 6 (some ((some (2)))), .tmp 7] }
theorem k_ref07_True_ok : cfun Tryd.prog Tryd.f33 = k_ref07_True := by kernel_rfl

def k_ref07_before_r0 : List AOper := [
  ⟨(some (6)), .box (.const (.agg [.int .i64 0, .int .i64 0])), none, []⟩, 
  ⟨(some (7)), .move (.const (.bool false)), none, []⟩]
def k_ref07_before_r1 : List AOper := [
  ⟨(some (14)), .move (.tmp 0), none, []⟩, 
  ⟨(some (15)), .move (.tmp 1), none, []⟩, 
  ⟨(some (16)), .indexAddr 7 (.tmp 14) (.tmp 15), none, []⟩, 
  ⟨(some (17)), .fieldAddr 4 (.tmp 16), none, []⟩, 
  ⟨(some (18)), .load none (.tmp 17), none, []⟩, 
  ⟨(some (19)), .bin .plain .quo (.tmp 18) (.const (.int .i64 2)), none, []⟩, 
  ⟨(some (8)), .move (.tmp 19), none, []⟩]
def k_ref07_before_r2 : List AOper := [
  ⟨(some (20)), .move (.tmp 2), none, []⟩, 
  ⟨(some (21)), .move (.tmp 8), none, []⟩, 
  ⟨(some (22)), .bin .plain .sub (.tmp 20) (.tmp 21), none, []⟩, 
  ⟨(some (23)), .move (.tmp 2), none, []⟩, 
  ⟨(some (24)), .move (.tmp 8), none, []⟩, 
  ⟨(some (25)), .bin .plain .add (.tmp 23) (.tmp 24), none, []⟩, 
  ⟨(some (26)), .build [.int .i64 0, .int .i64 0] [(0, 1, .tmp 22), (1, 1, .tmp 25)], none, []⟩, 
  ⟨(some (9)), .box (.const (.agg [.int .i64 0, .int .i64 0])), none, []⟩, 
  ⟨none, .store 2 (.tmp 9) (.tmp 26), none, []⟩]
def k_ref07_before_r3 : List AOper := [
  ⟨(some (28)), .move (.tmp 0), none, []⟩, 
  ⟨(some (29)), .move (.tmp 1), none, []⟩, 
  ⟨(some (30)), .call (.const (.fn (.func 59) [] [])) [.tmp 28, .tmp 29], none, []⟩, 
  ⟨(some (27)), .move (.tmp 30), none, []⟩, 
  ⟨(some (31)), .extract (.tmp 27) 0, none, []⟩, 
  ⟨(some (32)), .extract (.tmp 27) 1, none, []⟩, 
  ⟨(some (10)), .move (.tmp 31), none, []⟩, 
  ⟨(some (11)), .move (.tmp 32), none, []⟩]
def k_ref07_before_r4 : List AOper := [
  ⟨(some (12)), .move (.const (.bool true)), none, []⟩]
def k_ref07_before_r5 : List AOper := [
  ⟨(some (13)), .move (.const (.int .i64 0)), none, []⟩]
def k_ref07_before_r6 : List AOper := [
  ⟨(some (33)), .move (.tmp 13), none, []⟩, 
  ⟨(some (34)), .move (.tmp 10), none, []⟩, 
  ⟨(some (35)), .len false (.tmp 34), none, []⟩, 
  ⟨(some (36)), .bin .plain .lss (.tmp 33) (.tmp 35), none, []⟩]
def k_ref07_before_r7 : List AOper := [
  ⟨(some (39)), .move (.tmp 0), none, []⟩, 
  ⟨(some (40)), .move (.tmp 10), none, [0]⟩, 
  ⟨(some (41)), .move (.tmp 13), none, [0, 1]⟩, 
  ⟨(some (42)), .indexAddr 1 (.tmp 40) (.tmp 41), none, [0]⟩, 
  ⟨(some (43)), .load none (.tmp 42), none, [0]⟩, 
  ⟨(some (44)), .indexAddr 7 (.tmp 39) (.tmp 43), none, []⟩, 
  ⟨(some (45)), .load (some (7)) (.tmp 44), none, []⟩, 
  ⟨(some (46)), .fieldAddr 0 (.tmp 9), none, [0, 1, 2, 3, 4, 5, 6]⟩, 
  ⟨(some (47)), .load none (.tmp 46), none, [0, 1, 2, 3, 4, 5, 6]⟩, 
  ⟨(some (48)), .call (.const (.fn (.func 103) [] [])) [.tmp 45, .tmp 47], none, []⟩, 
  ⟨(some (49)), .move (.tmp 0), none, [0, 1, 2, 3, 4, 5, 6, 7, 8, 9]⟩, 
  ⟨(some (50)), .move (.tmp 10), none, [0, 1, 2, 3, 4, 5, 6, 7, 8, 9, 10]⟩, 
  ⟨(some (51)), .move (.tmp 13), none, [0, 1, 2, 3, 4, 5, 6, 7, 8, 9, 10, 11]⟩, 
  ⟨(some (52)), .indexAddr 1 (.tmp 50) (.tmp 51), none, [0, 1, 2, 3, 4, 5, 6, 7, 8, 9, 10]⟩, 
  ⟨(some (53)), .load none (.tmp 52), none, [0, 1, 2, 3, 4, 5, 6, 7, 8, 9, 10]⟩, 
  ⟨(some (54)), .indexAddr 7 (.tmp 49) (.tmp 53), none, [0, 1, 2, 3, 4, 5, 6, 7, 8, 9]⟩, 
  ⟨(some (55)), .load (some (7)) (.tmp 54), none, [0, 1, 2, 3, 4, 5, 6, 7, 8, 9]⟩, 
  ⟨(some (56)), .fieldAddr 1 (.tmp 9), none, [0, 1, 2, 3, 4, 5, 6, 7, 8, 9, 10, 11, 12, 13, 14, 15, 16]⟩, 
  ⟨(some (57)), .load none (.tmp 56), none, [0, 1, 2, 3, 4, 5, 6, 7, 8, 9, 10, 11, 12, 13, 14, 15, 16]⟩, 
  ⟨(some (58)), .call (.const (.fn (.func 104) [] [])) [.tmp 55, .tmp 57], none, []⟩, 
  ⟨(some (59)), .build [.int .i64 0, .int .i64 0] [(0, 1, .tmp 48), (1, 1, .tmp 58)], none, []⟩, 
  ⟨none, .store 2 (.tmp 9) (.tmp 59), none, []⟩]
def k_ref07_before_r7s : List (List AOper) := [
  [
  ⟨(some (39)), .move (.tmp 0), none, []⟩, 
  ⟨(some (40)), .move (.tmp 10), none, [0]⟩, 
  ⟨(some (41)), .move (.tmp 13), none, [0, 1]⟩, 
  ⟨(some (42)), .indexAddr 1 (.tmp 40) (.tmp 41), none, [0]⟩, 
  ⟨(some (43)), .load none (.tmp 42), none, [0]⟩, 
  ⟨(some (44)), .indexAddr 7 (.tmp 39) (.tmp 43), none, []⟩, 
  ⟨(some (45)), .load (some (7)) (.tmp 44), none, []⟩, 
  ⟨(some (46)), .fieldAddr 0 (.tmp 9), none, [0, 1, 2, 3, 4, 5, 6]⟩, 
  ⟨(some (47)), .load none (.tmp 46), none, [0, 1, 2, 3, 4, 5, 6]⟩, 
  ⟨(some (48)), .call (.const (.fn (.func 103) [] [])) [.tmp 45, .tmp 47], none, []⟩, 
  ⟨(some (49)), .move (.tmp 0), none, [0, 1, 2, 3, 4, 5, 6, 7, 8, 9]⟩, 
  ⟨(some (50)), .move (.tmp 10), none, [0, 1, 2, 3, 4, 5, 6, 7, 8, 9, 10]⟩, 
  ⟨(some (51)), .move (.tmp 13), none, [0, 1, 2, 3, 4, 5, 6, 7, 8, 9, 10, 11]⟩, 
  ⟨(some (52)), .indexAddr 1 (.tmp 50) (.tmp 51), none, [0, 1, 2, 3, 4, 5, 6, 7, 8, 9, 10]⟩, 
  ⟨(some (53)), .load none (.tmp 52), none, [0, 1, 2, 3, 4, 5, 6, 7, 8, 9, 10]⟩, 
  ⟨(some (54)), .indexAddr 7 (.tmp 49) (.tmp 53), none, [0, 1, 2, 3, 4, 5, 6, 7, 8, 9]⟩, 
  ⟨(some (55)), .load (some (7)) (.tmp 54), none, [0, 1, 2, 3, 4, 5, 6, 7, 8, 9]⟩, 
  ⟨(some (56)), .fieldAddr 1 (.tmp 9), none, [0, 1, 2, 3, 4, 5, 6, 7, 8, 9, 10, 11, 12, 13, 14, 15, 16]⟩, 
  ⟨(some (57)), .load none (.tmp 56), none, [0, 1, 2, 3, 4, 5, 6, 7, 8, 9, 10, 11, 12, 13, 14, 15, 16]⟩], 
  [
  ⟨(some (58)), .call (.const (.fn (.func 104) [] [])) [.tmp 55, .tmp 57], none, []⟩], 
  [
  ⟨(some (59)), .build [.int .i64 0, .int .i64 0] [(0, 1, .tmp 48), (1, 1, .tmp 58)], none, []⟩], 
  [
  ⟨none, .store 2 (.tmp 9) (.tmp 59), none, []⟩]]
theorem k_ref07_before_r7_sg : segs k_ref07_before_r7 = k_ref07_before_r7s := by kernel_rfl
theorem k_ref07_before_r7_st : statOK k_ref07_before_r7 = true := by kernel_rfl
def k_ref07_before_r8 : List AOper := [
  ⟨(some (60)), .move (.tmp 12), none, []⟩, 
  ⟨(some (61)), .move (.tmp 60), none, []⟩, 
  ⟨(some (62)), .fieldAddr 0 (.tmp 9), (some (61, true)), []⟩, 
  ⟨(some (63)), .load none (.tmp 62), (some (61, true)), []⟩, 
  ⟨(some (64)), .fieldAddr 1 (.tmp 9), (some (61, true)), []⟩, 
  ⟨(some (65)), .load none (.tmp 64), (some (61, true)), []⟩, 
  ⟨(some (66)), .bin .plain .leq (.tmp 63) (.tmp 65), (some (61, true)), []⟩, 
  ⟨(some (67)), .pick (.tmp 61) (.tmp 66) (.const (.bool false)), none, []⟩, 
  ⟨(some (12)), .move (.tmp 67), none, []⟩]
def k_ref07_before_r9 : List AOper := [
  ⟨(some (37)), .move (.tmp 13), none, []⟩, 
  ⟨(some (38)), .bin .plain .add (.tmp 37) (.const (.int .i64 1)), none, []⟩, 
  ⟨(some (13)), .move (.tmp 38), none, []⟩]
def k_ref07_before_r10 : ACode := (.seq (.seq (.reg k_ref07_before_r6 false) (.cond (.tmp 36) .skip (.exit 0))) (.seq (.block 1 (.seq (.reg k_ref07_before_r7 true) (.reg k_ref07_before_r8 false))) (.reg k_ref07_before_r9 false)))
def k_ref07_before_r11 : List AOper := [
  ⟨(some (68)), .fieldAddr 0 (.tmp 9), none, []⟩, 
  ⟨(some (69)), .load none (.tmp 68), none, []⟩, 
  ⟨(some (70)), .minmax true [.tmp 69, .const (.int .i64 (-1000000000))], none, []⟩, 
  ⟨(some (71)), .fieldAddr 1 (.tmp 9), none, []⟩, 
  ⟨(some (72)), .load none (.tmp 71), none, []⟩, 
  ⟨(some (73)), .minmax false [.tmp 72, .const (.int .i64 1000000000)], none, []⟩, 
  ⟨(some (74)), .build [.int .i64 0, .int .i64 0] [(0, 1, .tmp 70), (1, 1, .tmp 73)], none, []⟩, 
  ⟨none, .store 2 (.tmp 9) (.tmp 74), none, []⟩]
def k_ref07_before_r12 : List AOper := [
  ⟨(some (75)), .load (some (2)) (.tmp 9), none, []⟩, 
  ⟨(some (76)), .move (.tmp 12), none, [0]⟩, 
  ⟨(some (77)), .move (.tmp 76), none, [0]⟩, 
  ⟨(some (78)), .fieldAddr 0 (.tmp 9), (some (77, true)), [0]⟩, 
  ⟨(some (79)), .load none (.tmp 78), (some (77, true)), [0]⟩, 
  ⟨(some (80)), .fieldAddr 1 (.tmp 9), (some (77, true)), [0, 3, 4]⟩, 
  ⟨(some (81)), .load none (.tmp 80), (some (77, true)), [0, 3, 4]⟩, 
  ⟨(some (82)), .bin .plain .leq (.tmp 79) (.tmp 81), (some (77, true)), [0]⟩, 
  ⟨(some (83)), .pick (.tmp 77) (.tmp 82) (.const (.bool false)), none, [0]⟩, 
  ⟨none, .store 2 (.tmp 6) (.tmp 75), none, [3, 4, 5, 6, 7, 8]⟩, 
  ⟨(some (7)), .move (.tmp 83), none, []⟩]
def k_ref07_before_r12s : List (List AOper) := [
  [
  ⟨(some (75)), .load (some (2)) (.tmp 9), none, []⟩, 
  ⟨(some (76)), .move (.tmp 12), none, [0]⟩, 
  ⟨(some (77)), .move (.tmp 76), none, [0]⟩, 
  ⟨(some (78)), .fieldAddr 0 (.tmp 9), (some (77, true)), [0]⟩, 
  ⟨(some (79)), .load none (.tmp 78), (some (77, true)), [0]⟩, 
  ⟨(some (80)), .fieldAddr 1 (.tmp 9), (some (77, true)), [0, 3, 4]⟩, 
  ⟨(some (81)), .load none (.tmp 80), (some (77, true)), [0, 3, 4]⟩, 
  ⟨(some (82)), .bin .plain .leq (.tmp 79) (.tmp 81), (some (77, true)), [0]⟩, 
  ⟨(some (83)), .pick (.tmp 77) (.tmp 82) (.const (.bool false)), none, [0]⟩, 
  ⟨none, .store 2 (.tmp 6) (.tmp 75), none, [3, 4, 5, 6, 7, 8]⟩], 
  [
  ⟨(some (7)), .move (.tmp 83), none, []⟩]]
theorem k_ref07_before_r12_sg : segs k_ref07_before_r12 = k_ref07_before_r12s := by kernel_rfl
theorem k_ref07_before_r12_st : statOK k_ref07_before_r12 = true := by kernel_rfl
def k_ref07_before : AFun := { params := 3, ntmps := 84, body := (.seq (.reg k_ref07_before_r0 false) (.seq (.reg k_ref07_before_r1 false) (.seq (.reg k_ref07_before_r2 false) (.seq (.reg k_ref07_before_r3 false) (.seq (.reg k_ref07_before_r4 false) (.seq (.seq (.reg k_ref07_before_r5 false) (.block 0 (.loop k_ref07_before_r10))) (.seq (.reg k_ref07_before_r11 false) (.seq (.reg k_ref07_before_r12 true) .ret)))))))), res := [.cell 6 (some ((some (2)))), .tmp 7] }
theorem k_ref07_before_ok : cfun Tryd.prog Tryd.f69 = k_ref07_before := by kernel_rfl

def k_ref07_least_r0 : List AOper := [
  ⟨(some (2)), .box (.tmp 0), none, []⟩, 
  ⟨(some (4)), .move (.const (.int .i64 0)), none, []⟩]
def k_ref07_least_r1 : List AOper := [
  ⟨(some (5)), .move (.const (.int .i64 (-4398046511104))), none, []⟩, 
  ⟨(some (6)), .move (.const (.int .i64 4398046511104)), none, []⟩]
def k_ref07_least_r2 : List AOper := [
  ⟨(some (8)), .move (.tmp 5), none, []⟩, 
  ⟨(some (9)), .move (.tmp 6), none, []⟩, 
  ⟨(some (10)), .bin .plain .lss (.tmp 8) (.tmp 9), none, []⟩]
def k_ref07_least_r3 : List AOper := [
  ⟨(some (11)), .move (.tmp 5), none, []⟩, 
  ⟨(some (12)), .move (.tmp 6), none, []⟩, 
  ⟨(some (13)), .bin .plain .add (.tmp 11) (.tmp 12), none, []⟩, 
  ⟨(some (14)), .call (.const (.fn (.func 67) [] [])) [.tmp 13, .const (.int .i64 2)], none, []⟩, 
  ⟨(some (7)), .move (.tmp 14), none, []⟩]
def k_ref07_least_r4 : List AOper := [
  ⟨(some (15)), .load (some (7)) (.tmp 2), none, []⟩, 
  ⟨(some (16)), .move (.tmp 7), none, []⟩, 
  ⟨(some (17)), .call (.const (.fn (.func 65) [] [])) [.tmp 15, .tmp 16], none, []⟩, 
  ⟨(some (18)), .field none 1 (.tmp 17), none, []⟩, 
  ⟨(some (19)), .move (.tmp 1), none, []⟩, 
  ⟨(some (20)), .bin .plain .geq (.tmp 18) (.tmp 19), none, []⟩]
def k_ref07_least_r5 : List AOper := [
  ⟨(some (21)), .move (.tmp 7), none, []⟩, 
  ⟨(some (6)), .move (.tmp 21), none, []⟩]
def k_ref07_least_r6 : List AOper := [
  ⟨(some (22)), .move (.tmp 7), none, []⟩, 
  ⟨(some (23)), .bin .plain .add (.tmp 22) (.const (.int .i64 1)), none, []⟩, 
  ⟨(some (5)), .move (.tmp 23), none, []⟩]
def k_ref07_least_r7 : ACode := (.seq (.seq (.reg k_ref07_least_r2 false) (.cond (.tmp 10) .skip (.exit 0))) (.block 1 (.seq (.reg k_ref07_least_r3 false) (.seq (.reg k_ref07_least_r4 false) (.cond (.tmp 20) (.reg k_ref07_least_r5 false) (.reg k_ref07_least_r6 false))))))
def k_ref07_least_r8 : List AOper := [
  ⟨(some (24)), .move (.tmp 5), none, []⟩, 
  ⟨(some (4)), .move (.tmp 24), none, []⟩]
def k_ref07_least : AFun := { params := 2, ntmps := 25, body := (.seq (.reg k_ref07_least_r0 false) (.seq (.reg k_ref07_least_r1 false) (.seq (.block 0 (.loop k_ref07_least_r7)) (.seq (.reg k_ref07_least_r8 false) .ret)))), res := [.tmp 4] }
theorem k_ref07_least_ok : cfun Tryd.prog Tryd.f103 = k_ref07_least := by kernel_rfl

def k_ref07_most_r0 : List AOper := [
  ⟨(some (2)), .box (.tmp 0), none, []⟩, 
  ⟨(some (4)), .move (.const (.int .i64 0)), none, []⟩]
def k_ref07_most_r1 : List AOper := [
  ⟨(some (5)), .move (.const (.int .i64 (-4398046511104))), none, []⟩, 
  ⟨(some (6)), .move (.const (.int .i64 4398046511104)), none, []⟩]
def k_ref07_most_r2 : List AOper := [
  ⟨(some (8)), .move (.tmp 5), none, []⟩, 
  ⟨(some (9)), .move (.tmp 6), none, []⟩, 
  ⟨(some (10)), .bin .plain .lss (.tmp 8) (.tmp 9), none, []⟩]
def k_ref07_most_r3 : List AOper := [
  ⟨(some (11)), .move (.tmp 5), none, []⟩, 
  ⟨(some (12)), .move (.tmp 6), none, []⟩, 
  ⟨(some (13)), .bin .plain .add (.tmp 11) (.tmp 12), none, []⟩, 
  ⟨(some (14)), .call (.const (.fn (.func 75) [] [])) [.tmp 13, .const (.int .i64 2)], none, []⟩, 
  ⟨(some (7)), .move (.tmp 14), none, []⟩]
def k_ref07_most_r4 : List AOper := [
  ⟨(some (15)), .load (some (7)) (.tmp 2), none, []⟩, 
  ⟨(some (16)), .move (.tmp 7), none, []⟩, 
  ⟨(some (17)), .call (.const (.fn (.func 65) [] [])) [.tmp 15, .tmp 16], none, []⟩, 
  ⟨(some (18)), .field none 0 (.tmp 17), none, []⟩, 
  ⟨(some (19)), .move (.tmp 1), none, []⟩, 
  ⟨(some (20)), .bin .plain .leq (.tmp 18) (.tmp 19), none, []⟩]
def k_ref07_most_r5 : List AOper := [
  ⟨(some (21)), .move (.tmp 7), none, []⟩, 
  ⟨(some (5)), .move (.tmp 21), none, []⟩]
def k_ref07_most_r6 : List AOper := [
  ⟨(some (22)), .move (.tmp 7), none, []⟩, 
  ⟨(some (23)), .bin .plain .sub (.tmp 22) (.const (.int .i64 1)), none, []⟩, 
  ⟨(some (6)), .move (.tmp 23), none, []⟩]
def k_ref07_most_r7 : ACode := (.seq (.seq (.reg k_ref07_most_r2 false) (.cond (.tmp 10) .skip (.exit 0))) (.block 1 (.seq (.reg k_ref07_most_r3 false) (.seq (.reg k_ref07_most_r4 false) (.cond (.tmp 20) (.reg k_ref07_most_r5 false) (.reg k_ref07_most_r6 false))))))
def k_ref07_most_r8 : List AOper := [
  ⟨(some (24)), .move (.tmp 5), none, []⟩, 
  ⟨(some (4)), .move (.tmp 24), none, []⟩]
def k_ref07_most : AFun := { params := 2, ntmps := 25, body := (.seq (.reg k_ref07_most_r0 false) (.seq (.reg k_ref07_most_r1 false) (.seq (.block 0 (.loop k_ref07_most_r7)) (.seq (.reg k_ref07_most_r8 false) .ret)))), res := [.tmp 4] }
theorem k_ref07_most_ok : cfun Tryd.prog Tryd.f104 = k_ref07_most := by kernel_rfl


abbrev n_law07_GaugeTrues : Nat := 4
theorem e_law07_GaugeTrues : EntryOK Tryd.prog n_law07_GaugeTrues k_law07_GaugeTrues := ⟨Tryd.f4, Tryd.func4, k_law07_GaugeTrues_ok, by kernel_rfl⟩
abbrev n_ref07_True : Nat := 33
theorem e_ref07_True : EntryOK Tryd.prog n_ref07_True k_ref07_True := ⟨Tryd.f33, Tryd.func33, k_ref07_True_ok, by kernel_rfl⟩
abbrev n_ref07_before : Nat := 69
theorem e_ref07_before : EntryOK Tryd.prog n_ref07_before k_ref07_before := ⟨Tryd.f69, Tryd.func69, k_ref07_before_ok, by kernel_rfl⟩
abbrev n_ref07_least : Nat := 103
theorem e_ref07_least : EntryOK Tryd.prog n_ref07_least k_ref07_least := ⟨Tryd.f103, Tryd.func103, k_ref07_least_ok, by kernel_rfl⟩
abbrev n_ref07_most : Nat := 104
theorem e_ref07_most : EntryOK Tryd.prog n_ref07_most k_ref07_most := ⟨Tryd.f104, Tryd.func104, k_ref07_most_ok, by kernel_rfl⟩

attribute [go_sem] k_law07_GaugeTrues_r0 k_law07_GaugeTrues_r1 k_law07_GaugeTrues_r2 k_law07_GaugeTrues_r3 k_law07_GaugeTrues_r4 k_law07_GaugeTrues_r5 k_law07_GaugeTrues_r6 k_law07_GaugeTrues_r7 k_law07_GaugeTrues_r8 k_law07_GaugeTrues_r9 k_law07_GaugeTrues_r10s k_law07_GaugeTrues_r11
attribute [go_sem] k_law07_GaugeTrues_r12 k_law07_GaugeTrues_r13s k_law07_GaugeTrues_r14s k_law07_GaugeTrues_r15 k_law07_GaugeTrues_r16 k_law07_GaugeTrues_r17 k_law07_GaugeTrues_r19 k_ref07_True_r0 k_ref07_True_r1 k_ref07_True_r2 k_ref07_True_r3 k_ref07_True_r4
attribute [go_sem] k_ref07_True_r5 k_ref07_True_r6 k_ref07_True_r7 k_ref07_True_r8 k_ref07_True_r9 k_ref07_True_r10 k_ref07_True_r11 k_ref07_True_r12 k_ref07_True_r13 k_ref07_before_r0 k_ref07_before_r1 k_ref07_before_r2
attribute [go_sem] k_ref07_before_r3 k_ref07_before_r4 k_ref07_before_r5 k_ref07_before_r6 k_ref07_before_r7s k_ref07_before_r8 k_ref07_before_r9 k_ref07_before_r11 k_ref07_before_r12s k_ref07_least_r0 k_ref07_least_r1 k_ref07_least_r2
attribute [go_sem] k_ref07_least_r3 k_ref07_least_r4 k_ref07_least_r5 k_ref07_least_r6 k_ref07_least_r8 k_ref07_most_r0 k_ref07_most_r1 k_ref07_most_r2 k_ref07_most_r3 k_ref07_most_r4 k_ref07_most_r5 k_ref07_most_r6
attribute [go_sem] k_ref07_most_r8 k_law07_GaugeTrues_r14_sg k_law07_GaugeTrues_r10_sg k_ref07_before_r12_sg k_law07_GaugeTrues_r13_sg k_ref07_before_r7_sg k_law07_GaugeTrues_r14_st k_law07_GaugeTrues_r10_st k_ref07_before_r12_st k_law07_GaugeTrues_r13_st k_ref07_before_r7_st k_law07_GaugeTrues
attribute [go_sem] k_ref07_True k_ref07_before k_ref07_least k_ref07_most
end Go.Proofs

namespace Go.Gauge

theorem mkHi_low {m : Mt} (h : MtOK m) {x : Int} (hx : x < 0) : mkHi m x ≤ -(-(x * 500000) / 1000000) + 1000000 := by
  have e : pl m.glo m.ghi x = x * m.glo := by unfold pl; rw [if_pos hx]
  have h1 : x * m.glo ≤ x * 500000 := Int.mul_le_mul_of_nonpos_left (by omega) h.g.1
  have h2 := h.o
  unfold mkHi
  rw [e]
  omega
theorem mkLo_high {m : Mt} (h : MtOK m) {x : Int} (hx : 0 ≤ x) : x * 500000 / 1000000 - 1000000 ≤ mkLo m x := by
  have e : pl m.ghi m.glo x = x * m.glo := by unfold pl; rw [if_neg (by omega)]
  have h1 : x * 500000 ≤ x * m.glo := Int.mul_le_mul_of_nonneg_left h.g.1 hx
  have h2 := h.o
  unfold mkLo
  rw [e]
  omega
end Go.Gauge

namespace Go.Gauge

theorem mkHi_high {m : Mt} (h : MtOK m) {x : Int} (hx : 0 ≤ x) : x * 500000 / 1000000 - 1000000 ≤ mkHi m x := Int.le_trans (mkLo_high h hx) (mk_le h x)
theorem mkLo_low {m : Mt} (h : MtOK m) {x : Int} (hx : x < 0) : mkLo m x ≤ -(-(x * 500000) / 1000000) + 1000000 := Int.le_trans (mk_le h x) (mkHi_low h hx)
theorem lf_bd {m : Mt} (h : MtOK m) {y B : Int} (hB : 0 ≤ B ∧ 2 * B + 2000004 ≤ rch) (hy : -B ≤ y ∧ y ≤ B) : -(2 * B + 2000004) ≤ lf m y ∧ lf m y ≤ 2 * B + 2000004 := by
  have h1 := mkHi_high h (x := 2 * B + 2000004) (by omega)
  have h2 := mkHi_low h (x := -(2 * B + 2000004) - 1) (by omega)
  have h3 := (lf_iff h (y := y) (x := 2 * B + 2000004) (by simp only [rch] at *; omega) hB.2).1 (by omega)
  refine ⟨?_, h3⟩
  by_cases c : -rch ≤ -(2 * B + 2000004) - 1
  · have h4 : ¬ lf m y ≤ -(2 * B + 2000004) - 1 := fun e => by
      have := (lf_iff h (y := y) c (by simp only [rch] at *; omega)).2 e
      omega
    omega
  · have := (lf_in h y).1
    omega
theorem mf_bd {m : Mt} (h : MtOK m) {y B : Int} (hB : 0 ≤ B ∧ 2 * B + 2000004 ≤ rch) (hy : -B ≤ y ∧ y ≤ B) : -(2 * B + 2000004) ≤ mf m y ∧ mf m y ≤ 2 * B + 2000004 := by
  have h1 := mkLo_high h (x := 2 * B + 2000004 + 1) (by omega)
  have h2 := mkLo_low h (x := -(2 * B + 2000004)) (by omega)
  have h3 := (mf_iff h (y := y) (x := -(2 * B + 2000004)) (by simp only [rch] at *; omega) (by simp only [rch] at *; omega)).1 (by omega)
  refine ⟨h3, ?_⟩
  by_cases c : 2 * B + 2000004 + 1 ≤ rch
  · have h4 : ¬ 2 * B + 2000004 + 1 ≤ mf m y := fun e => by
      have := (mf_iff h (y := y) (by simp only [rch] at *; omega) c).2 e
      omega
    omega
  · have := (mf_in h y).2
    omega
end Go.Gauge
namespace Go.Proofs
open Go Go.Sx Go.Gauge
attribute [local irreducible] Run

theorem rleast_run {m : Mt} (h : MtOK m) {y : Int} (hb : lf m y ≤ rch) : Ans Tryd.prog n_ref07_least [Mv m, .int .i64 y] [] (.int .i64 (lf m y)) [] := by
  have hi := lf_in h y
  simp only [rch] at hi hb
  have hit : ∀ x, -4398046511104 ≤ x → x ≤ 4398046511104 → (y ≤ mkHi m x ↔ lf m y ≤ x) := fun x a b => lf_iff h (by simpa [rch] using a) (by simpa [rch] using b)
  obtain ⟨L, hL⟩ : ∃ L, lf m y = L := ⟨_, rfl⟩
  rw [hL] at hi hb hit ⊢
  refine spec_run e_ref07_least fun G => ?_
  simp only [go_sem, Mv, Mc]
  refine loop_ind k_ref07_least_r7.eq_1 (fun a : Int × Int => -4398046511104 ≤ a.1 ∧ a.1 ≤ L ∧ L ≤ a.2 ∧ a.2 ≤ 4398046511104) (fun a => (a.2 - a.1).toNat)
    (fun a => (tsets 25 [(1, .int .i64 y), (2, .ptr 0 0 0 1), (5, .int .i64 a.1), (6, .int .i64 a.2)], [some (.cells false 7 [Mv m])])) (-4398046511104, 4398046511104) ⟨by decide, hi.1, hb, by decide⟩ (by simp [go_sem]) rfl ?_
  rintro ⟨lo, hi⟩ ⟨g1, g2, g3, g4⟩ ih
  dsimp only at g1 g2 g3 g4 ih ⊢
  by_cases c : lo < hi
  · have w1 : IntKind.i64.wrap (lo + hi) = lo + hi := w64 (by omega)
    have kd := refDown_run (lo + hi) 2 (by omega) (by decide)
    obtain ⟨x, hx⟩ : ∃ x, (lo + hi) / 2 = x := ⟨_, rfl⟩
    rw [hx] at kd
    have km := Made_run h (x := x) (by simp only [rch]; omega)
    have w2 : IntKind.i64.wrap (x + 1) = x + 1 := w64 (by omega)
    have hq := hit x (by omega) (by omega)
    simp only [Mv, Mc, r2] at km
    simp only [go_sem, c, w1, Mv, Mc]
    refine cP kd ?_
    simp only [go_sem]
    refine cP km ?_
    by_cases c2 : y ≤ mkHi m x
    · have := hq.1 c2
      simp only [go_sem, c2]
      exact ih (lo, x) (by dsimp only; omega) ⟨g1, g2, this, by dsimp only; omega⟩ _ (by simp [go_sem])
    · have : ¬ L ≤ x := fun e => c2 (hq.2 e)
      simp only [go_sem, c2, w2]
      exact ih (x + 1, hi) (by dsimp only; omega) ⟨by dsimp only; omega, by dsimp only; omega, g3, g4⟩ _ (by simp [go_sem])
  · have : lo = L := by omega
    subst this
    simp only [go_sem, c]
theorem rmost_run {m : Mt} (h : MtOK m) {y : Int} (hb : -rch ≤ mf m y) : Ans Tryd.prog n_ref07_most [Mv m, .int .i64 y] [] (.int .i64 (mf m y)) [] := by
  have hi := mf_in h y
  simp only [rch] at hi hb
  have hit : ∀ x, -4398046511104 ≤ x → x ≤ 4398046511104 → (mkLo m x ≤ y ↔ x ≤ mf m y) := fun x a b => mf_iff h (by simpa [rch] using a) (by simpa [rch] using b)
  obtain ⟨L, hL⟩ : ∃ L, mf m y = L := ⟨_, rfl⟩
  rw [hL] at hi hb hit ⊢
  refine spec_run e_ref07_most fun G => ?_
  simp only [go_sem, Mv, Mc]
  refine loop_ind k_ref07_most_r7.eq_1 (fun a : Int × Int => -4398046511104 ≤ a.1 ∧ a.1 ≤ L ∧ L ≤ a.2 ∧ a.2 ≤ 4398046511104) (fun a => (a.2 - a.1).toNat)
    (fun a => (tsets 25 [(1, .int .i64 y), (2, .ptr 0 0 0 1), (5, .int .i64 a.1), (6, .int .i64 a.2)], [some (.cells false 7 [Mv m])])) (-4398046511104, 4398046511104) ⟨by decide, hb, hi.2, by decide⟩ (by simp [go_sem]) rfl ?_
  rintro ⟨lo, hi⟩ ⟨g1, g2, g3, g4⟩ ih
  dsimp only at g1 g2 g3 g4 ih ⊢
  by_cases c : lo < hi
  · have w1 : IntKind.i64.wrap (lo + hi) = lo + hi := w64 (by omega)
    have kd := refUp_run (lo + hi) 2 (by omega) (by decide)
    obtain ⟨x, hx⟩ : ∃ x, -(-(lo + hi) / 2) = x := ⟨_, rfl⟩
    rw [hx] at kd
    have km := Made_run h (x := x) (by simp only [rch]; omega)
    have w2 : IntKind.i64.wrap (x - 1) = x - 1 := w64 (by omega)
    have hq := hit x (by omega) (by omega)
    simp only [Mv, Mc, r2] at km
    simp only [go_sem, c, w1, Mv, Mc]
    refine cP kd ?_
    simp only [go_sem]
    refine cP km ?_
    by_cases c2 : mkLo m x ≤ y
    · have := hq.1 c2
      simp only [go_sem, c2]
      exact ih (x, hi) (by dsimp only; omega) ⟨by dsimp only; omega, this, g3, g4⟩ _ (by simp [go_sem])
    · have : ¬ x ≤ L := fun e => c2 (hq.2 e)
      simp only [go_sem, c2, w2]
      exact ih (lo, x - 1) (by dsimp only; omega) ⟨g1, g2, by dsimp only; omega, by dsimp only; omega⟩ _ (by simp [go_sem])
  · have : lo = L := by omega
    subst this
    simp only [go_sem, c]
end Go.Proofs

namespace Go.Gauge
noncomputable def rf (bs : List Mt) : List Int → Int → Int → Bool → Int × Int × Bool
  | [], a, b, s => (a, b, s)
  | m :: ms, a, b, s => rf bs ms (lf (mt bs m) a) (mf (mt bs m) b) (s && decide (lf (mt bs m) a ≤ mf (mt bs m) b))
theorem rf_false (bs : List Mt) : ∀ (l : List Int) (a b : Int), (rf bs l a b false).2.2 = false
  | [], _, _ => rfl
  | m :: ms, a, b => by unfold rf; rw [Bool.false_and]; exact rf_false bs ms _ _
theorem rf_tfr (bs : List Mt) : ∀ (l : List Int) (a b : Int), match tfr bs l a b with
    | none => (rf bs l a b true).2.2 = false
    | some (x, y) => rf bs l a b true = (x, y, true)
  | [], a, b => rfl
  | m :: ms, a, b => by
    unfold rf tfr
    by_cases c : lf (mt bs m) a > mf (mt bs m) b
    · rw [if_pos c, decide_eq_false (by omega), Bool.and_false]; exact rf_false bs ms _ _
    · rw [if_neg c, decide_eq_true (by omega), Bool.and_true]; exact rf_tfr bs ms _ _
def gB : Nat → Int
  | 0 => 1000500000
  | n + 1 => 2 * gB n + 2000004
theorem gB_pos : ∀ n, 0 ≤ gB n
  | 0 => by decide
  | n + 1 => by have := gB_pos n; unfold gB; omega
theorem gB_mono {a b : Nat} (h : a ≤ b) : gB a ≤ gB b := by
  induction h with
  | refl => exact Int.le_refl _
  | step _ ih =>
    rename_i m _
    have := gB_pos m
    have e : gB m.succ = 2 * gB m + 2000004 := rfl
    omega
theorem gB_rch {n : Nat} (h : n ≤ 12) : gB n ≤ rch := Int.le_trans (gB_mono h) (by decide)
noncomputable def bfR (bs : List Mt) (m n : Int) : Int × Int × Bool :=
  let F := rf bs (ch bs m) (n - (mt bs m).step / 2) (n + (mt bs m).step / 2) true
  (max F.1 (-1000000000), min F.2.1 1000000000, F.2.2 && decide (max F.1 (-1000000000) ≤ min F.2.1 1000000000))
theorem bfR_tru (bs : List Mt) (m n : Int) : tru bs m n = if (bfR bs m n).2.2 = true then some ((bfR bs m n).1, (bfR bs m n).2.1) else none := by
  have h := rf_tfr bs (ch bs m) (n - (mt bs m).step / 2) (n + (mt bs m).step / 2)
  unfold tru bfR
  split at h
  · rename_i e
    rw [e]
    simp only [h, Bool.false_and]
    rfl
  · rename_i x y e
    rw [e]
    simp only [h, Bool.true_and]
    by_cases c : max x (-1000000000) > min y 1000000000
    · rw [if_pos c, if_neg (by rw [decide_eq_false (by omega)]; decide)]
    · rw [if_neg c, if_pos (by rw [decide_eq_true (by omega)])]
end Go.Gauge
namespace Go.Proofs
open Go Go.Sx Go.Gauge
attribute [local irreducible] Run

set_option maxHeartbeats 8000000 in
set_option maxRecDepth 10000 in
theorem before_run {bs : List Mt} (h : VB bs) {m0 n : Int} (h0 : 0 ≤ m0) (h1 : m0 < bs.length) (hn : -1000000000 ≤ n ∧ n ≤ 1000000000) :
    Ans Tryd.prog n_ref07_before [.view (bs.map Mv), .int .i64 m0, .int .i64 n] [] (.tup [r2 (bfR bs m0 n).1 (bfR bs m0 n).2.1, .bool (bfR bs m0 n).2.2]) [] := by
  have hlen := h.len
  have hcl := ch_len h (show -1 ≤ m0 by omega) h1
  have hmem := ch_mem h _ m0 rfl (by omega) h1
  have hall : ∀ k ∈ ch bs m0, MtOK (mt bs k) := fun k hk => h.all _ (mt_mem (hmem k hk).1 (hmem k hk).2)
  have hs0 := (h.all _ (mt_mem h0 h1)).s
  have hx0 := mt_get h0 h1
  have n0 : ¬ m0 < 0 := by omega
  have kc := rchain_run h h0 h1
  obtain ⟨l, hl⟩ : ∃ l, ch bs m0 = l := ⟨_, rfl⟩
  have hbf : bfR bs m0 n = (max (rf bs l (n - (mt bs m0).step / 2) (n + (mt bs m0).step / 2) true).1 (-1000000000), min (rf bs l (n - (mt bs m0).step / 2) (n + (mt bs m0).step / 2) true).2.1 1000000000, (rf bs l (n - (mt bs m0).step / 2) (n + (mt bs m0).step / 2) true).2.2 && decide (max (rf bs l (n - (mt bs m0).step / 2) (n + (mt bs m0).step / 2) true).1 (-1000000000) ≤ min (rf bs l (n - (mt bs m0).step / 2) (n + (mt bs m0).step / 2) true).2.1 1000000000)) := by rw [← hl]; rfl
  rw [hl] at hcl hmem hall kc
  have e2 : (mt bs m0).step.tdiv 2 = (mt bs m0).step / 2 := Int.tdiv_eq_ediv_of_nonneg (by omega)
  obtain ⟨hf, hhf⟩ : ∃ hf, (mt bs m0).step / 2 = hf := ⟨_, rfl⟩
  have w0 : IntKind.i64.wrap hf = hf := w64 (by omega)
  obtain ⟨a0, ha0⟩ : ∃ a0, n - hf = a0 := ⟨_, rfl⟩
  obtain ⟨b0, hb0⟩ : ∃ b0, n + hf = b0 := ⟨_, rfl⟩
  have w1 : IntKind.i64.wrap a0 = a0 := w64 (by omega)
  have w2 : IntKind.i64.wrap b0 = b0 := w64 (by omega)
  rw [hhf, ha0, hb0] at hbf
  obtain ⟨F, hF⟩ : ∃ F, rf bs l a0 b0 true = F := ⟨_, rfl⟩
  rw [hF] at hbf
  rw [hbf]
  clear hbf
  refine spec_run e_ref07_before fun G => ?_
  simp only [go_sem, n0, hx0, h1, Mv, Mc, e2, hhf, w0, ha0, hb0, w1, w2]
  refine cN1 kc ?_
  simp only [go_sem, ren, rens]
  refine loop_ind k_ref07_before_r10.eq_1 (fun a : Nat × Int × Int × Bool => a.1 ≤ l.length ∧ (-gB a.1 ≤ a.2.1 ∧ a.2.1 ≤ gB a.1) ∧ (-gB a.1 ≤ a.2.2.1 ∧ a.2.2.1 ≤ gB a.1) ∧ rf bs (l.drop a.1) a.2.1 a.2.2.1 a.2.2.2 = F) (fun a => l.length - a.1)
    (fun a => (tsets 84 [(0, .view (bs.map Mv)), (6, .ptr 0 0 0 1), (9, .ptr 1 0 0 1), (10, .sl 2 0 l.length), (12, .bool a.2.2.2), (13, .int .i64 a.1)],
      [some (.cells false 2 [.agg [.int .i64 0, .int .i64 0]]), some (.cells false 2 [.agg [.int .i64 a.2.1, .int .i64 a.2.2.1]]), some (.cells true 1 (l.map (.int .i64)))])) (0, a0, b0, true) ⟨Nat.zero_le _, by simp only [gB]; omega, by simp only [gB]; omega, hF⟩ (by simp [go_sem]) rfl ?_
  rintro ⟨i, a, b, s⟩ ⟨g1, g2, g3, g4⟩ ih
  dsimp only at g1 g2 g3 g4 ih ⊢
  by_cases c1 : i < l.length
  · have c2 : (i : Int) < l.length := by omega
    have ni : ¬ (i : Int) < 0 := by omega
    have w3 : IntKind.i64.wrap ((i : Int) + 1) = ((i + 1 : Nat) : Int) := by rw [w64 (by omega)]; rfl
    obtain ⟨mk, hmk⟩ : ∃ mk, l[i]? = some mk := ⟨_, List.getElem?_eq_getElem c1⟩
    have hml := List.mem_of_getElem? hmk
    obtain ⟨m1, m2⟩ := hmem mk hml
    have hok := hall mk hml
    have nmk : ¬ mk < 0 := by omega
    have hxk := mt_get m1 m2
    have hgr := gB_rch (n := i + 1) (by omega)
    have hg0 := gB_pos i
    have hge : gB (i + 1) = 2 * gB i + 2000004 := rfl
    have b1 := lf_bd hok (y := a) (B := gB i) ⟨hg0, by omega⟩ g2
    have b2 := mf_bd hok (y := b) (B := gB i) ⟨hg0, by omega⟩ g3
    have kl := rleast_run hok (y := a) (by omega)
    have km := rmost_run hok (y := b) (by omega)
    rw [drop_cons hmk, rf] at g4
    obtain ⟨c, hc⟩ : ∃ c, lf (mt bs mk) a = c := ⟨_, rfl⟩
    obtain ⟨d, hd⟩ : ∃ d, mf (mt bs mk) b = d := ⟨_, rfl⟩
    rw [hc, hd] at g4
    rw [hc] at b1 kl
    rw [hd] at b2 km
    simp only [Mv, Mc] at kl km
    have ihk := ih (i + 1, c, d, s && decide (c ≤ d)) (by dsimp only; omega) ⟨by dsimp only; omega, by dsimp only; omega, by dsimp only; omega, g4⟩
    clear ih
    dsimp only at ihk
    simp only [go_sem, c2, ni, hmk, nmk, hxk, m2, Mv, Mc, List.length_map]
    refine dP kl ?_
    simp only [go_sem, c2, ni, hmk, nmk, hxk, m2, Mv, Mc, List.length_map]
    refine cP km ?_
    cases s
    · simp only [go_sem, w3]
      simp only [Bool.false_and] at ihk
      exact ihk _ (by simp [go_sem])
    · simp only [go_sem, w3]
      simp only [Bool.true_and] at ihk
      exact ihk _ (by simp [go_sem])
  · have c2 : ¬ (i : Int) < l.length := by omega
    rw [List.drop_eq_nil_of_le (by omega), rf] at g4
    subst g4
    clear ih
    have e3 : (if a < -1000000000 then -1000000000 else a) = max a (-1000000000) := by split <;> omega
    have e4 : (if 1000000000 < b then 1000000000 else b) = min b 1000000000 := by split <;> omega
    cases s
    · simp only [go_sem, c2, e3, e4, r2, Bool.false_and]
    · simp only [go_sem, c2, e3, e4, r2, Bool.true_and]
end Go.Proofs

namespace Go.Proofs
open Go Go.Sx Go.Gauge
attribute [local irreducible] Run

noncomputable def trE (bs : List Mt) (m n : Int) : Int × Int × Int :=
  if chkE bs ≠ 0 then (0, 0, chkE bs) else if ¬(0 ≤ m ∧ m < bs.length) then (0, 0, 7) else if ¬(-1000000000 ≤ n ∧ n ≤ 1000000000) then (0, 0, 2)
  else if n % (mt bs m).step ≠ 0 then (0, 0, 3) else match tru bs m n with
    | none => (0, 0, 12)
    | some (a, b) => (a, b, 0)
theorem checkOne_raw (bs : List Mt) (m : Int) (hl : bs.length ≤ 1000) : Ans Tryd.prog n_gauge_checkOne [.view (bs.map Mv), .int .i64 m] [] (.int .i64 (if chkE bs ≠ 0 then chkE bs else if ¬(0 ≤ m ∧ m < bs.length) then 7 else 0)) [] := by
  have k := isMeter_run bs m (by omega)
  have k1 := Check_raw bs (by omega)
  obtain ⟨e, he⟩ : ∃ e, chkE bs = e := ⟨_, rfl⟩
  rw [he] at k1 ⊢
  refine spec_run e_gauge_checkOne fun G => ?_
  by_cases c : e = 0
  · have c2 : (e == 0) = true := beq_iff_eq.2 c
    rw [if_neg (not_not_intro c)]
    by_cases d : 0 ≤ m ∧ m < (bs.length : Int)
    · rw [if_neg (not_not_intro d)]
      rw [decide_eq_true d] at k
      simp only [go_sem]
      refine cP k1 ?_
      simp only [go_sem, c, c2]
      refine cP k ?_
      simp only [go_sem]
    · rw [if_pos d]
      rw [decide_eq_false d] at k
      simp only [go_sem]
      refine cP k1 ?_
      simp only [go_sem, c, c2]
      refine cP k ?_
      simp only [go_sem]
  · have c2 : (e == 0) = false := beq_eq_false_iff_ne.2 c
    rw [if_pos c]
    simp only [go_sem]
    refine cP k1 ?_
    simp only [go_sem, c, c2]
theorem tmod_iff {n s : Int} : n.tmod s = 0 ↔ n % s = 0 :=
  ⟨fun h => Int.emod_eq_zero_of_dvd (Int.dvd_of_tmod_eq_zero h), fun h => Int.tmod_eq_zero_of_dvd (Int.dvd_of_emod_eq_zero h)⟩
theorem True_raw (bs : List Mt) (m n : Int) (hl : bs.length ≤ 1000) :
    Ans Tryd.prog n_gauge_True [.view (bs.map Mv), .int .i64 m, .int .i64 n] [] (.tup [r2 (trE bs m n).1 (trE bs m n).2.1, .int .i64 (trE bs m n).2.2]) [] := by
  have k3 := checkOne_raw bs m hl
  have k1 := isIn_run n (-1000000000) 1000000000
  simp only [r2] at k1
  unfold trE
  by_cases c : chkE bs = 0
  · have h := chkE_vb c
    rw [if_neg (not_not_intro c)] at k3 ⊢
    by_cases d : 0 ≤ m ∧ m < (bs.length : Int)
    · rw [if_neg (not_not_intro d)] at k3 ⊢
      obtain ⟨h0, h1⟩ := d
      have n0 : ¬ m < 0 := by omega
      have hx0 := mt_get h0 h1
      have hs := (h.all _ (mt_mem h0 h1)).s
      have s0 : (mt bs m).step ≠ 0 := by omega
      by_cases d2 : -1000000000 ≤ n ∧ n ≤ 1000000000
      · rw [if_neg (not_not_intro d2)]
        rw [decide_eq_true d2] at k1
        by_cases d3 : n % (mt bs m).step = 0
        · have tm := tmod_iff.2 d3
          rw [if_neg (not_not_intro d3)]
          have k2 := trueFor_run h h0 h1 d2
          have kv : ∃ a b c, truV (tru bs m n) = .tup [.agg [.int .i64 a, .int .i64 b], .int .i64 c] ∧ (match tru bs m n with
              | none => ((0, 0, 12) : Int × Int × Int)
              | some (a, b) => (a, b, 0)) = (a, b, c) := by
            rcases tru bs m n with _ | ⟨a, b⟩
            · exact ⟨0, 0, 12, rfl, rfl⟩
            · exact ⟨a, b, 0, rfl, rfl⟩
          obtain ⟨a, b, e, hv, hv2⟩ := kv
          rw [hv] at k2
          rw [hv2]
          refine spec_run e_gauge_True fun G => ?_
          simp only [go_sem]
          refine cP k3 ?_
          simp only [go_sem]
          refine cP k1 ?_
          simp only [go_sem, n0, hx0, Mv, Mc, s0, tm]
          refine cP k2 ?_
          simp only [go_sem, r2]
        · have tm : ¬ n.tmod (mt bs m).step = 0 := fun h => d3 (tmod_iff.1 h)
          rw [if_pos d3]
          refine spec_run e_gauge_True fun G => ?_
          simp only [go_sem]
          refine cP k3 ?_
          simp only [go_sem]
          refine cP k1 ?_
          simp only [go_sem, n0, hx0, Mv, Mc, s0, tm, r2]
      · rw [if_pos d2]
        rw [decide_eq_false d2] at k1
        refine spec_run e_gauge_True fun G => ?_
        simp only [go_sem]
        refine cP k3 ?_
        simp only [go_sem]
        refine cP k1 ?_
        simp only [go_sem, r2]
    · rw [if_pos d] at k3 ⊢
      refine spec_run e_gauge_True fun G => ?_
      simp only [go_sem]
      refine cP k3 ?_
      simp only [go_sem, r2]
  · rw [if_pos c] at k3 ⊢
    obtain ⟨e, he⟩ : ∃ e, chkE bs = e := ⟨_, rfl⟩
    rw [he] at c k3 ⊢
    have c2 : (e == 0) = false := beq_eq_false_iff_ne.2 c
    refine spec_run e_gauge_True fun G => ?_
    simp only [go_sem]
    refine cP k3 ?_
    simp only [go_sem, c, c2, r2]
theorem rTrue_raw (bs : List Mt) (m n : Int) (hl : bs.length ≤ 1000) :
    Ans Tryd.prog n_ref07_True [.view (bs.map Mv), .int .i64 m, .int .i64 n] [] (.tup [r2 (trE bs m n).1 (trE bs m n).2.1, .int .i64 (trE bs m n).2.2]) [] := by
  have k3 := rCheck_raw bs hl
  have k1 := beyond_run n (-1000000000) 1000000000
  have k2 := beyond_run m 0 ((bs.length : Int) - 1)
  have w1 : IntKind.i64.wrap ((bs.length : Int) - 1) = (bs.length : Int) - 1 := w64 (by omega)
  rw [show decide (0 ≤ m ∧ m ≤ (bs.length : Int) - 1) = decide (0 ≤ m ∧ m < (bs.length : Int)) from decide_eq_decide.2 (by omega)] at k2
  unfold trE
  by_cases c : chkE bs = 0
  · have h := chkE_vb c
    rw [c] at k3
    rw [if_neg (not_not_intro c)]
    by_cases d : 0 ≤ m ∧ m < (bs.length : Int)
    · rw [if_neg (not_not_intro d)]
      rw [decide_eq_true d] at k2
      obtain ⟨h0, h1⟩ := d
      have n0 : ¬ m < 0 := by omega
      have hx0 := mt_get h0 h1
      have hs := (h.all _ (mt_mem h0 h1)).s
      have s0 : (mt bs m).step ≠ 0 := by omega
      by_cases d2 : -1000000000 ≤ n ∧ n ≤ 1000000000
      · rw [if_neg (not_not_intro d2)]
        rw [decide_eq_true d2] at k1
        by_cases d3 : n % (mt bs m).step = 0
        · have tm := tmod_iff.2 d3
          rw [if_neg (not_not_intro d3)]
          have kb := before_run h h0 h1 d2
          rw [bfR_tru]
          obtain ⟨B, hB⟩ : ∃ B, bfR bs m n = B := ⟨_, rfl⟩
          rw [hB] at kb ⊢
          obtain ⟨a, b, s⟩ := B
          simp only [r2] at kb
          refine spec_run e_ref07_True fun G => ?_
          simp only [go_sem]
          refine cP k3 ?_
          simp only [go_sem, w1, List.length_map]
          refine cP k2 ?_
          simp only [go_sem]
          refine cP k1 ?_
          simp only [go_sem, n0, hx0, Mv, Mc, s0, tm]
          refine cP kb ?_
          cases s
          · simp only [go_sem, r2]
          · simp only [go_sem, r2]
        · have tm : ¬ n.tmod (mt bs m).step = 0 := fun h => d3 (tmod_iff.1 h)
          rw [if_pos d3]
          refine spec_run e_ref07_True fun G => ?_
          simp only [go_sem]
          refine cP k3 ?_
          simp only [go_sem, w1, List.length_map]
          refine cP k2 ?_
          simp only [go_sem]
          refine cP k1 ?_
          simp only [go_sem, n0, hx0, Mv, Mc, s0, tm, r2]
      · rw [if_pos d2]
        rw [decide_eq_false d2] at k1
        refine spec_run e_ref07_True fun G => ?_
        simp only [go_sem]
        refine cP k3 ?_
        simp only [go_sem, w1, List.length_map]
        refine cP k2 ?_
        simp only [go_sem]
        refine cP k1 ?_
        simp only [go_sem, r2]
    · rw [if_pos d]
      rw [decide_eq_false d] at k2
      refine spec_run e_ref07_True fun G => ?_
      simp only [go_sem]
      refine cP k3 ?_
      simp only [go_sem, w1, List.length_map]
      refine cP k2 ?_
      simp only [go_sem, r2]
  · rw [if_pos c]
    obtain ⟨e, he⟩ : ∃ e, chkE bs = e := ⟨_, rfl⟩
    rw [he] at c k3 ⊢
    have c2 : (e == 0) = false := beq_eq_false_iff_ne.2 c
    refine spec_run e_ref07_True fun G => ?_
    simp only [go_sem]
    refine cP k3 ?_
    simp only [go_sem, c, c2, r2]
end Go.Proofs

namespace Go.Proofs
open Go Go.Sx Go.Gauge

theorem at_struct {P : Program} {n : Nat} {t : TypeId} {fs : Array Field} (hu : P.underlying t = some (.struct fs)) {vs : List AVal} (h : AT P (n + 1) t vs) : ATs (AT P n) fs.toList vs := by
  unfold AT at h; rw [hu] at h; exact h
theorem at_int {P : Program} {n : Nat} {t : TypeId} {k : IntKind} (hu : P.underlying t = some (.int k)) {vs : List AVal} (h : AT P (n + 1) t vs) : ∃ m, vs = [.int k m] ∧ (Lit.int k m).wf = true := by
  unfold AT at h; rw [hu] at h; exact h
theorem at_slice {P : Program} {n : Nat} {t e : TypeId} (hu : P.underlying t = some (.slice e)) {vs : List AVal} (h : AT P (n + 1) t vs) : ∃ es, vs = [.view es] ∧ es.length ≤ maxLen ∧ ∀ x ∈ es, if aggT P e = true then ∃ ws, x = .agg ws ∧ AT P n e ws else AT P n e [x] := by
  unfold AT at h; rw [hu] at h; exact h
theorem list_map {α β : Type} {f : α → β} {Q : α → Prop} : ∀ l : List β, (∀ x ∈ l, ∃ a, x = f a ∧ Q a) → ∃ l' : List α, l = l'.map f ∧ ∀ a ∈ l', Q a
  | [], _ => ⟨[], rfl, fun a ha => by simp at ha⟩
  | x :: l, h => by
    obtain ⟨a, rfl, ha⟩ := h x (by simp)
    obtain ⟨l', rfl, h'⟩ := list_map l fun y hy => h y (by simp [hy])
    exact ⟨a :: l', rfl, fun b hb => by
      rcases List.mem_cons.1 hb with rfl | hb
      · exact ha
      · exact h' b hb⟩

attribute [local irreducible] AT
set_option maxRecDepth 100000
theorem atn_int {n : Nat} {vs : List AVal} (h : AT Tryd.prog (n + 1) 3 vs) : ∃ m, vs = [.int .i64 m] ∧ (Lit.int .i64 m).wf = true := at_int Tryd.underlying3 h
theorem at_ints {n : Nat} {x : AVal} (h : AT Tryd.prog (n + 2) 27 [x]) : ∃ l : List Int, x = .view (l.map (.int .i64)) ∧ l.length ≤ 9223372036854775807 := by
  obtain ⟨es, h1, hl, he⟩ := at_slice Tryd.underlying27 h
  obtain rfl : x = .view es := by simpa using h1
  have hg : ¬ aggT Tryd.prog 3 = true := by unfold aggT; rw [Tryd.underlying3]; decide
  obtain ⟨l, rfl, -⟩ := list_map (f := AVal.int .i64) (Q := fun _ => True) es fun x hx => by
    have := he x hx
    rw [if_neg hg] at this
    obtain ⟨m, hm, -⟩ := atn_int this
    exact ⟨m, by simpa using hm, trivial⟩
  have hm : maxLen = 9223372036854775807 := rfl
  rw [hm] at hl
  exact ⟨l, rfl, by simpa using hl⟩
theorem at_rng {n : Nat} {ws : List AVal} (h : AT Tryd.prog (n + 2) 24 ws) : ∃ a b : Int, ws = [.int .i64 a, .int .i64 b] := by
  obtain ⟨a, _, rfl, ha, b, _, rfl, hb, rfl⟩ := at_struct Tryd.underlying24 h
  obtain ⟨x, rfl, hx⟩ := atn_int ha
  obtain ⟨y, rfl, hy⟩ := atn_int hb
  exact ⟨x, y, rfl⟩
theorem at_meter {n : Nat} {ws : List AVal} (h : AT Tryd.prog (n + 3) 26 ws) : ∃ m : Mt, ws = Mc m := by
  obtain ⟨a, _, rfl, ha, b, _, rfl, hb, c, _, rfl, hc, d, _, rfl, hd, e, _, rfl, he, rfl⟩ := at_struct Tryd.underlying26 h
  obtain ⟨x1, y1, rfl⟩ := at_rng ha
  obtain ⟨x2, y2, rfl⟩ := at_rng hb
  obtain ⟨x, rfl, -⟩ := atn_int hc
  obtain ⟨y, rfl, -⟩ := atn_int hd
  obtain ⟨z, rfl, -⟩ := atn_int he
  exact ⟨⟨x1, y1, x2, y2, x, y, z⟩, rfl⟩
theorem at_bench {n : Nat} {x : AVal} (h : AT Tryd.prog (n + 4) 22 [x]) : ∃ l : List Mt, x = .view (l.map Mv) ∧ l.length ≤ 9223372036854775807 := by
  obtain ⟨es, h1, hl, he⟩ := at_slice Tryd.underlying22 h
  obtain rfl : x = .view es := by simpa using h1
  have hg : aggT Tryd.prog 26 = true := by unfold aggT; rw [Tryd.underlying26]
  obtain ⟨l, rfl, -⟩ := list_map (f := Mv) (Q := fun _ => True) es fun x hx => by
    have := he x hx
    rw [if_pos hg] at this
    obtain ⟨ws, rfl, hw⟩ := this
    obtain ⟨m, rfl⟩ := at_meter hw
    exact ⟨m, rfl, trivial⟩
  have hm : maxLen = 9223372036854775807 := rfl
  rw [hm] at hl
  exact ⟨l, rfl, by simpa using hl⟩
end Go.Proofs

namespace Go.Proofs
open Go Go.Sx Go.Gauge
attribute [local irreducible] Run

set_option maxHeartbeats 8000000 in
set_option maxRecDepth 10000 in
theorem trues_law (rs : List Mt) (a1' number : Int) (zs : List Int) (hl : zs.length ≤ 9223372036854775807) (a4 : Int) (hrs : rs.length ≤ 9223372036854775807) :
    Ans Tryd.prog n_law07_GaugeTrues [.view (rs.map Mv), .int .i64 a1', .int .i64 number, .view (zs.map (.int .i64)), .int .i64 a4] [] (.bool true) [] := by
  by_cases r20 : 20 < rs.length
  · have r20' : (20 : Int) < rs.length := by omega
    refine spec_run e_law07_GaugeTrues fun G => ?_
    simp only [go_sem, r20', List.length_map]
    refine cP awake_ok ?_
    simp only [go_sem]
  have r20' : ¬ (20 : Int) < rs.length := by omega
  have q1 : IntKind.i64.wrap 1 = 1 := by decide
  have q2 : IntKind.i64.wrap 2 = 2 := by decide
  have q3 : IntKind.i64.wrap 3 = 3 := by decide
  have q4 : IntKind.i64.wrap 4 = 4 := by decide
  have m1 := mod_in a4 2000000001 (by omega)
  have e1 := mod_pos a4 2000000001 (by omega)
  obtain ⟨s, hs⟩ : ∃ s, a4 % 2000000001 = s := ⟨_, rfl⟩
  rw [hs] at m1 e1
  have w1 : IntKind.i64.wrap (s - 1000000000) = s - 1000000000 := w64 (by omega)
  refine spec_run e_law07_GaugeTrues fun G => ?_
  simp only [go_sem, r20', List.length_map]
  refine callN1 (newdice_ok zs hl) (by simp only [go_sem]) (dr_bel _ _) (by simp) (by simp) ?_
  generalize seedW zs = w
  simp only [go_sem]
  refine callDN (bk5 w) rfl (by simp only [go_sem]) (dr_bel _ _) (fun a ha => ⟨by simp [go_sem], dr_bel _ _, bk_bel _ _ _⟩) (by simp) (by simp) ?_
  rintro ⟨bs, w2⟩ ⟨hb, hb1, hb5⟩
  dsimp only at hb hb1 hb5 ⊢
  have hv := hb.vb (by omega)
  have u1 := upto_in (w := w2) (n := bs.length) (by omega)
  simp only [go_sem, ren, rens]
  refine cD (upto_ok w2 bs.length (by omega)) ?_
  obtain ⟨m, hm⟩ : ∃ m, upto w2 bs.length = m := ⟨_, rfl⟩
  rw [hm] at u1 ⊢
  have hxm := mt_get u1.1 u1.2
  have nm0 : ¬ m < 0 := by omega
  simp only [go_sem]
  refine cP e1 ?_
  simp only [go_sem, w1]
  refine cD (one_ok _ 2 (by decide)) ?_
  have t1 := Int.tmod_lt_of_pos (s - 1000000000) (show (0 : Int) < 5000 by decide)
  have t2 := Int.lt_tmod_of_pos (s - 1000000000) (show (0 : Int) < 5000 by decide)
  by_cases c1 : upto (dstep w2) 2 = 0
  · have c2 : (upto (dstep w2) 2 == 0) = true := by rw [c1]; rfl
    simp only [go_sem, c2]
    obtain ⟨x, hx⟩ : ∃ x, (s - 1000000000).tmod 5000 = x := ⟨_, rfl⟩
    rw [hx] at t1 t2 ⊢
    have sh := Showing_run hv u1.1 u1.2 (x := x) (by omega) (dstep (dstep w2)) true
    obtain ⟨p, hp⟩ : ∃ p, showR bs m x (dstep (dstep w2)) = p := ⟨_, rfl⟩
    rw [hp] at sh
    refine cS2 sh (j0 := 0) (j1 := 1) rfl (by simp [go_sem]) rfl rfl (dr_bel _ _) (bk_bel _ _ _) (dr_bel _ _) (bk_bel _ _ _) (by decide) (.int _ _) (by simp) (by simp) ?_
    simp only [go_sem, nm0, hxm, u1.2, Mv, Mc, List.length_map]
    refine dD (between_ok p.2 (-3) 3 (by decide) (by decide) (by decide)) ?_
    simp only [go_sem]
    obtain ⟨n2, hn2⟩ : ∃ n2, IntKind.i64.wrap (p.1 + IntKind.i64.wrap ((mt bs m).step * btw p.2 (-3) 3)) = n2 := ⟨_, rfl⟩
    obtain ⟨n3, hn3⟩ : ∃ n3, IntKind.i64.wrap (p.1 + 1) = n3 := ⟨_, rfl⟩
    rw [hn2, hn3]
    have a1 := True_raw rs a1' number (by omega)
    have a2 := rTrue_raw rs a1' number (by omega)
    obtain ⟨A, hA⟩ : ∃ A, trE rs a1' number = A := ⟨_, rfl⟩
    rw [hA] at a1 a2
    have b1 := True_raw bs m p.1 (by omega)
    have b2 := rTrue_raw bs m p.1 (by omega)
    obtain ⟨B, hB⟩ : ∃ B, trE bs m p.1 = B := ⟨_, rfl⟩
    rw [hB] at b1 b2
    have c1 := True_raw bs m n2 (by omega)
    have c2 := rTrue_raw bs m n2 (by omega)
    obtain ⟨C, hC⟩ : ∃ C, trE bs m n2 = C := ⟨_, rfl⟩
    rw [hC] at c1 c2
    have d1 := True_raw bs m n3 (by omega)
    have d2 := rTrue_raw bs m n3 (by omega)
    obtain ⟨D, hD⟩ : ∃ D, trE bs m n3 = D := ⟨_, rfl⟩
    rw [hD] at d1 d2
    simp only [r2] at a1 a2 b1 b2 c1 c2 d1 d2
    refine loop_body 400 k_law07_GaugeTrues_r18.eq_1 ?_
    simp only [go_sem]
    refine dP a1 ?_
    simp only [go_sem]
    refine dP a2 ?_
    simp only [go_sem, q1]
    refine loop_body 400 k_law07_GaugeTrues_r18.eq_1 ?_
    simp only [go_sem, q1, q2, q3]
    refine dF b1 6 [1] ⟨.inl (bs_frz (g := true) (onlyR_row rfl (by simp)) rfl), .inl rfl, .inl rfl, trivial⟩ ?_
    simp only [go_sem, q1, q2, q3]
    refine dF b2 6 [1] ⟨.inl (bs_frz (g := true) (onlyR_row rfl (by simp)) rfl), .inl rfl, .inl rfl, trivial⟩ ?_
    simp only [go_sem, q2]
    refine loop_body 400 k_law07_GaugeTrues_r18.eq_1 ?_
    simp only [go_sem, q1, q2, q3]
    refine dF c1 6 [1] ⟨.inl (bs_frz (g := true) (onlyR_row rfl (by simp)) rfl), .inl rfl, .inl rfl, trivial⟩ ?_
    simp only [go_sem, q1, q2, q3]
    refine dF c2 6 [1] ⟨.inl (bs_frz (g := true) (onlyR_row rfl (by simp)) rfl), .inl rfl, .inl rfl, trivial⟩ ?_
    simp only [go_sem, q3]
    refine loop_body 400 k_law07_GaugeTrues_r18.eq_1 ?_
    simp only [go_sem, q1, q2, q3]
    refine dF d1 6 [1] ⟨.inl (bs_frz (g := true) (onlyR_row rfl (by simp)) rfl), .inl rfl, .inl rfl, trivial⟩ ?_
    simp only [go_sem, q1, q2, q3]
    refine dF d2 6 [1] ⟨.inl (bs_frz (g := true) (onlyR_row rfl (by simp)) rfl), .inl rfl, .inl rfl, trivial⟩ ?_
    simp only [go_sem, q4]
    refine loop_body 400 k_law07_GaugeTrues_r18.eq_1 ?_
    simp only [go_sem, q1, q2, q3, q4]
    refine cP awake_ok ?_
    simp only [go_sem]
  · have c2 : (upto (dstep w2) 2 == 0) = false := beq_eq_false_iff_ne.2 c1
    simp only [go_sem, c2]
    obtain ⟨x, hx⟩ : ∃ x, s - 1000000000 = x := ⟨_, rfl⟩
    rw [hx]
    have sh := Showing_run hv u1.1 u1.2 (x := x) (by omega) (dstep (dstep w2)) true
    obtain ⟨p, hp⟩ : ∃ p, showR bs m x (dstep (dstep w2)) = p := ⟨_, rfl⟩
    rw [hp] at sh
    refine cS2 sh (j0 := 0) (j1 := 1) rfl (by simp [go_sem]) rfl rfl (dr_bel _ _) (bk_bel _ _ _) (dr_bel _ _) (bk_bel _ _ _) (by decide) (.int _ _) (by simp) (by simp) ?_
    simp only [go_sem, nm0, hxm, u1.2, Mv, Mc, List.length_map]
    refine dD (between_ok p.2 (-3) 3 (by decide) (by decide) (by decide)) ?_
    simp only [go_sem]
    obtain ⟨n2, hn2⟩ : ∃ n2, IntKind.i64.wrap (p.1 + IntKind.i64.wrap ((mt bs m).step * btw p.2 (-3) 3)) = n2 := ⟨_, rfl⟩
    obtain ⟨n3, hn3⟩ : ∃ n3, IntKind.i64.wrap (p.1 + 1) = n3 := ⟨_, rfl⟩
    rw [hn2, hn3]
    have a1 := True_raw rs a1' number (by omega)
    have a2 := rTrue_raw rs a1' number (by omega)
    obtain ⟨A, hA⟩ : ∃ A, trE rs a1' number = A := ⟨_, rfl⟩
    rw [hA] at a1 a2
    have b1 := True_raw bs m p.1 (by omega)
    have b2 := rTrue_raw bs m p.1 (by omega)
    obtain ⟨B, hB⟩ : ∃ B, trE bs m p.1 = B := ⟨_, rfl⟩
    rw [hB] at b1 b2
    have c1 := True_raw bs m n2 (by omega)
    have c2 := rTrue_raw bs m n2 (by omega)
    obtain ⟨C, hC⟩ : ∃ C, trE bs m n2 = C := ⟨_, rfl⟩
    rw [hC] at c1 c2
    have d1 := True_raw bs m n3 (by omega)
    have d2 := rTrue_raw bs m n3 (by omega)
    obtain ⟨D, hD⟩ : ∃ D, trE bs m n3 = D := ⟨_, rfl⟩
    rw [hD] at d1 d2
    simp only [r2] at a1 a2 b1 b2 c1 c2 d1 d2
    refine loop_body 400 k_law07_GaugeTrues_r18.eq_1 ?_
    simp only [go_sem]
    refine dP a1 ?_
    simp only [go_sem]
    refine dP a2 ?_
    simp only [go_sem, q1]
    refine loop_body 400 k_law07_GaugeTrues_r18.eq_1 ?_
    simp only [go_sem, q1, q2, q3]
    refine dF b1 6 [1] ⟨.inl (bs_frz (g := true) (onlyR_row rfl (by simp)) rfl), .inl rfl, .inl rfl, trivial⟩ ?_
    simp only [go_sem, q1, q2, q3]
    refine dF b2 6 [1] ⟨.inl (bs_frz (g := true) (onlyR_row rfl (by simp)) rfl), .inl rfl, .inl rfl, trivial⟩ ?_
    simp only [go_sem, q2]
    refine loop_body 400 k_law07_GaugeTrues_r18.eq_1 ?_
    simp only [go_sem, q1, q2, q3]
    refine dF c1 6 [1] ⟨.inl (bs_frz (g := true) (onlyR_row rfl (by simp)) rfl), .inl rfl, .inl rfl, trivial⟩ ?_
    simp only [go_sem, q1, q2, q3]
    refine dF c2 6 [1] ⟨.inl (bs_frz (g := true) (onlyR_row rfl (by simp)) rfl), .inl rfl, .inl rfl, trivial⟩ ?_
    simp only [go_sem, q3]
    refine loop_body 400 k_law07_GaugeTrues_r18.eq_1 ?_
    simp only [go_sem, q1, q2, q3]
    refine dF d1 6 [1] ⟨.inl (bs_frz (g := true) (onlyR_row rfl (by simp)) rfl), .inl rfl, .inl rfl, trivial⟩ ?_
    simp only [go_sem, q1, q2, q3]
    refine dF d2 6 [1] ⟨.inl (bs_frz (g := true) (onlyR_row rfl (by simp)) rfl), .inl rfl, .inl rfl, trivial⟩ ?_
    simp only [go_sem, q4]
    refine loop_body 400 k_law07_GaugeTrues_r18.eq_1 ?_
    simp only [go_sem, q1, q2, q3, q4]
    refine cP awake_ok ?_
    simp only [go_sem]
end Go.Proofs

namespace Go.Proofs
open Go Go.ChangeShapes Go.WideShapes Go.ChangeAt Go.RowKit

def laid1 : List (String × DataW Unit) := [("thermion/gauge.values", .agg [.lit (.int .i64 (-1000000000)), .lit (.int .i64 1000000000)])]
theorem gVal : Tryd.prog.globalNamed "thermion/gauge.values" = some 0 := by kernel_rfl
theorem tVal : (Tryd.prog.globals[0]?).map (·.type) = some 24 := by kernel_rfl
theorem nVal : Tryd.prog.globals.size = 1 := by kernel_rfl
theorem eVal : Go.Sx.gvOf Tryd.prog 0 = some (.agg [.int .i64 (-1000000000), .int .i64 1000000000]) := by kernel_rfl

set_option maxRecDepth 100000 in
theorem values_met {W : World} (h : laidMetH Tryd.prog laid1 W) : W.cell? ⟨0, 0, none⟩ = some (.int .i64 (-1000000000)) ∧ W.cell? ⟨0, 1, none⟩ = some (.int .i64 1000000000) := by
  rw [MakeChecks.laidMetH_plain _ _ _ (by kernel_rfl)] at h
  obtain ⟨ps, ⟨g0, t0, cs0, f0, p0, q0, hg0, ht0, hv0, hd0, _⟩, _, _⟩ := h
  obtain rfl := Option.some.inj (gVal.symm.trans hg0)
  obtain rfl := Option.some.inj (tVal.symm.trans ht0)
  obtain ⟨y0, y1, n, hx, hl, hy0, hy1⟩ := trod_struct2 Tryd.underlying24 hd0
  simp only [Prod.mk.injEq, DataW.agg.injEq, List.cons.injEq, and_true] at hx
  obtain ⟨⟨e0, e1⟩, _⟩ := hx
  have c24 : Tryd.prog.cellsOf 24 = 2 := by kernel_rfl
  have c3 : Tryd.prog.cellsOf 3 = 1 := by kernel_rfl
  rw [c24] at hl
  obtain ⟨l⟩ := cs0
  match l, hl with
  | [u, v], _ =>
    obtain ⟨k0, z0, z1, _⟩ := DataW.trod_int Tryd.underlying3 hy0
    obtain ⟨k1, z2, z3, _⟩ := DataW.trod_int Tryd.underlying3 hy1
    rw [z1] at e0
    rw [z3] at e1
    simp only [DataW.lit.injEq, Lit.int.injEq, true_and] at e0 e1
    simp [c3] at z0 z2
    subst z0 z2 e0 e1
    exact ⟨World.var?_cell hg0 hv0 0, World.var?_cell hg0 hv0 1⟩

theorem values_glob {W : World} (h : laidMetH Tryd.prog laid1 W) : Go.Sx.GlobOK Tryd.prog (Go.Sx.topG W) := by
  obtain ⟨h0, h1⟩ := values_met h
  have hb : 0 < W.heap.size := by
    simp only [World.cell?] at h0
    split at h0
    · rename_i c _ _ hh
      exact (Array.getElem?_eq_some_iff.1 hh).1
    · cases h0
  intro g e he
  match g, he with
  | 0, he =>
    rw [eVal] at he
    cases he
    refine ⟨hb, fun j hj => ?_⟩
    match j, hj with
    | 0, _ => exact ⟨_, h0, fun μ => .int _ _⟩
    | 1, _ => exact ⟨_, h1, fun μ => .int _ _⟩
    | j + 2, hj => simp [Go.Sx.acells] at hj; omega
  | g + 1, he =>
    have hg : Tryd.prog.globals[g + 1]? = none := Array.getElem?_eq_none (by rw [nVal]; omega)
    unfold Go.Sx.gvOf at he
    rw [hg] at he; cases he
end Go.Proofs

