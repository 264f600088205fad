/- A part of the proof. -/
import Derived.Test.YtoipalbjmbkdeaaPC
set_option linter.unusedSimpArgs false
set_option linter.unusedVariables false
namespace Go.Proofs
open Go Go.Sx

def k_law02_CurveSlopes_r0 : List AOper := [
  ⟨(some (6)), .box (.tmp 0), none, []⟩, 
  ⟨(some (12)), .move (.const (.bool false)), none, []⟩]
def k_law02_CurveSlopes_r1 : List AOper := [
  ⟨(some (33)), .load (some (4)) (.tmp 6), none, []⟩, 
  ⟨(some (34)), .call (.const (.fn (.func 24) [] [])) [.tmp 33], none, []⟩]
def k_law02_CurveSlopes_r2 : List AOper := [
  ⟨(some (35)), .call (.const (.fn (.func 23) [] [])) [], none, []⟩, 
  ⟨(some (12)), .move (.tmp 35), none, []⟩]
def k_law02_CurveSlopes_r3 : List AOper := [
  ⟨(some (36)), .move (.tmp 5), none, []⟩, 
  ⟨(some (37)), .call (.const (.fn (.func 12) [] [])) [.tmp 36], none, []⟩, 
  ⟨(some (13)), .move (.tmp 37), none, []⟩]
def k_law02_CurveSlopes_r4 : List AOper := [
  ⟨(some (38)), .move (.tmp 13), none, []⟩, 
  ⟨(some (39)), .call (.const (.fn (.func 25) [] [])) [.tmp 38], none, []⟩, 
  ⟨(some (14)), .box (.const (.agg [.nilsl, .nilsl, .nilsl, .nilsl])), none, []⟩, 
  ⟨none, .store 4 (.tmp 14) (.tmp 39), none, []⟩]
def k_law02_CurveSlopes_r5 : List AOper := [
  ⟨(some (40)), .load (some (4)) (.tmp 6), none, []⟩, 
  ⟨(some (41)), .load (some (4)) (.tmp 14), none, [0]⟩, 
  ⟨(some (42)), .load (some (4)) (.tmp 14), none, [0, 1]⟩, 
  ⟨(some (43)), .buildSlice 4 [.tmp 40, .tmp 41, .tmp 42], none, []⟩, 
  ⟨(some (44)), .move (.tmp 1), none, [0, 1, 2, 3]⟩, 
  ⟨(some (45)), .move (.tmp 13), none, [0, 1, 2, 3, 4]⟩, 
  ⟨(some (46)), .fieldAddr 0 (.tmp 14), none, [0, 1, 2, 3, 4, 5]⟩, 
  ⟨(some (47)), .load none (.tmp 46), none, [0, 1, 2, 3, 4, 5]⟩, 
  ⟨(some (48)), .len false (.tmp 47), none, [0, 1, 2, 3, 4, 5]⟩, 
  ⟨(some (49)), .call (.const (.fn (.func 15) [] [])) [.tmp 45, .tmp 48], none, [0, 1, 2, 3, 4]⟩, 
  ⟨(some (50)), .move (.tmp 1), none, [0, 1, 2, 3, 4, 5, 6, 7, 8, 9]⟩, 
  ⟨(some (51)), .buildSlice 1 [.tmp 44, .tmp 49, .tmp 50], none, [0, 1, 2, 3]⟩, 
  ⟨(some (52)), .move (.tmp 2), none, [0, 1, 2, 3, 4, 5, 6, 7, 8, 9, 10, 11]⟩, 
  ⟨(some (53)), .move (.tmp 13), none, [0, 1, 2, 3, 4, 5, 6, 7, 8, 9, 10, 11, 12]⟩, 
  ⟨(some (54)), .fieldAddr 1 (.tmp 14), none, [0, 1, 2, 3, 4, 5, 6, 7, 8, 9, 10, 11, 12, 13]⟩, 
  ⟨(some (55)), .load none (.tmp 54), none, [0, 1, 2, 3, 4, 5, 6, 7, 8, 9, 10, 11, 12, 13]⟩, 
  ⟨(some (56)), .len false (.tmp 55), none, [0, 1, 2, 3, 4, 5, 6, 7, 8, 9, 10, 11, 12, 13]⟩, 
  ⟨(some (57)), .call (.const (.fn (.func 15) [] [])) [.tmp 53, .tmp 56], none, [0, 1, 2, 3, 4, 10, 11, 12]⟩, 
  ⟨(some (58)), .move (.tmp 2), none, [0, 1, 2, 3, 4, 5, 6, 7, 8, 9, 10, 11, 12, 13, 14, 15, 16, 17]⟩, 
  ⟨(some (59)), .buildSlice 1 [.tmp 52, .tmp 57, .tmp 58], none, [0, 1, 2, 3, 4, 10, 11]⟩, 
  ⟨(some (60)), .move (.tmp 3), none, [0, 1, 2, 3, 4, 5, 6, 7, 8, 9, 10, 11, 12, 13, 14, 15, 16, 17, 18, 19]⟩, 
  ⟨(some (61)), .move (.tmp 13), none, [0, 1, 2, 3, 4, 5, 6, 7, 8, 9, 10, 11, 12, 13, 14, 15, 16, 17, 18, 19, 20]⟩, 
  ⟨(some (62)), .call (.const (.fn (.func 14) [] [])) [.tmp 61, .const (.int .i64 (-10000)), .const (.int .i64 4000)], none, [0, 1, 2, 3, 4, 10, 11, 12, 18, 19, 20]⟩, 
  ⟨(some (63)), .move (.tmp 3), none, [0, 1, 2, 3, 4, 5, 6, 7, 8, 9, 10, 11, 12, 13, 14, 15, 16, 17, 18, 19, 20, 21, 22]⟩, 
  ⟨(some (64)), .buildSlice 1 [.tmp 60, .tmp 62, .tmp 63], none, [0, 1, 2, 3, 4, 10, 11, 12, 18, 19]⟩, 
  ⟨(some (65)), .move (.tmp 4), none, [0, 1, 2, 3, 4, 5, 6, 7, 8, 9, 10, 11, 12, 13, 14, 15, 16, 17, 18, 19, 20, 21, 22, 23, 24]⟩, 
  ⟨(some (66)), .move (.tmp 13), none, [0, 1, 2, 3, 4, 5, 6, 7, 8, 9, 10, 11, 12, 13, 14, 15, 16, 17, 18, 19, 20, 21, 22, 23, 24, 25]⟩, 
  ⟨(some (67)), .call (.const (.fn (.func 15) [] [])) [.tmp 66, .const (.int .i64 350000)], none, [0, 1, 2, 3, 4, 10, 11, 12, 18, 19, 20, 23, 24, 25]⟩, 
  ⟨(some (68)), .move (.tmp 4), none, [0, 1, 2, 3, 4, 5, 6, 7, 8, 9, 10, 11, 12, 13, 14, 15, 16, 17, 18, 19, 20, 21, 22, 23, 24, 25, 26, 27]⟩, 
  ⟨(some (69)), .buildSlice 1 [.tmp 65, .tmp 67, .tmp 68], none, [0, 1, 2, 3, 4, 10, 11, 12, 18, 19, 20, 23, 24]⟩, 
  ⟨(some (15)), .move (.tmp 43), none, [4, 10, 11, 12, 18, 19, 20, 23, 24, 25, 28, 29]⟩, 
  ⟨(some (16)), .move (.tmp 51), none, [12, 18, 19, 20, 23, 24, 25, 28, 29]⟩, 
  ⟨(some (17)), .move (.tmp 59), none, [20, 23, 24, 25, 28, 29]⟩, 
  ⟨(some (18)), .move (.tmp 64), none, [25, 28, 29]⟩, 
  ⟨(some (19)), .move (.tmp 69), none, []⟩]
def k_law02_CurveSlopes_r5s : List (List AOper) := [
  [
  ⟨(some (40)), .load (some (4)) (.tmp 6), none, []⟩, 
  ⟨(some (41)), .load (some (4)) (.tmp 14), none, [0]⟩, 
  ⟨(some (42)), .load (some (4)) (.tmp 14), none, [0, 1]⟩, 
  ⟨(some (43)), .buildSlice 4 [.tmp 40, .tmp 41, .tmp 42], none, []⟩, 
  ⟨(some (44)), .move (.tmp 1), none, [0, 1, 2, 3]⟩, 
  ⟨(some (45)), .move (.tmp 13), none, [0, 1, 2, 3, 4]⟩, 
  ⟨(some (46)), .fieldAddr 0 (.tmp 14), none, [0, 1, 2, 3, 4, 5]⟩, 
  ⟨(some (47)), .load none (.tmp 46), none, [0, 1, 2, 3, 4, 5]⟩, 
  ⟨(some (48)), .len false (.tmp 47), none, [0, 1, 2, 3, 4, 5]⟩, 
  ⟨(some (49)), .call (.const (.fn (.func 15) [] [])) [.tmp 45, .tmp 48], none, [0, 1, 2, 3, 4]⟩, 
  ⟨(some (50)), .move (.tmp 1), none, [0, 1, 2, 3, 4, 5, 6, 7, 8, 9]⟩, 
  ⟨(some (51)), .buildSlice 1 [.tmp 44, .tmp 49, .tmp 50], none, [0, 1, 2, 3]⟩, 
  ⟨(some (52)), .move (.tmp 2), none, [0, 1, 2, 3, 4, 5, 6, 7, 8, 9, 10, 11]⟩, 
  ⟨(some (53)), .move (.tmp 13), none, [0, 1, 2, 3, 4, 5, 6, 7, 8, 9, 10, 11, 12]⟩, 
  ⟨(some (54)), .fieldAddr 1 (.tmp 14), none, [0, 1, 2, 3, 4, 5, 6, 7, 8, 9, 10, 11, 12, 13]⟩, 
  ⟨(some (55)), .load none (.tmp 54), none, [0, 1, 2, 3, 4, 5, 6, 7, 8, 9, 10, 11, 12, 13]⟩, 
  ⟨(some (56)), .len false (.tmp 55), none, [0, 1, 2, 3, 4, 5, 6, 7, 8, 9, 10, 11, 12, 13]⟩, 
  ⟨(some (57)), .call (.const (.fn (.func 15) [] [])) [.tmp 53, .tmp 56], none, [0, 1, 2, 3, 4, 10, 11, 12]⟩, 
  ⟨(some (58)), .move (.tmp 2), none, [0, 1, 2, 3, 4, 5, 6, 7, 8, 9, 10, 11, 12, 13, 14, 15, 16, 17]⟩, 
  ⟨(some (59)), .buildSlice 1 [.tmp 52, .tmp 57, .tmp 58], none, [0, 1, 2, 3, 4, 10, 11]⟩, 
  ⟨(some (60)), .move (.tmp 3), none, [0, 1, 2, 3, 4, 5, 6, 7, 8, 9, 10, 11, 12, 13, 14, 15, 16, 17, 18, 19]⟩, 
  ⟨(some (61)), .move (.tmp 13), none, [0, 1, 2, 3, 4, 5, 6, 7, 8, 9, 10, 11, 12, 13, 14, 15, 16, 17, 18, 19, 20]⟩, 
  ⟨(some (62)), .call (.const (.fn (.func 14) [] [])) [.tmp 61, .const (.int .i64 (-10000)), .const (.int .i64 4000)], none, [0, 1, 2, 3, 4, 10, 11, 12, 18, 19, 20]⟩, 
  ⟨(some (63)), .move (.tmp 3), none, [0, 1, 2, 3, 4, 5, 6, 7, 8, 9, 10, 11, 12, 13, 14, 15, 16, 17, 18, 19, 20, 21, 22]⟩, 
  ⟨(some (64)), .buildSlice 1 [.tmp 60, .tmp 62, .tmp 63], none, [0, 1, 2, 3, 4, 10, 11, 12, 18, 19]⟩, 
  ⟨(some (65)), .move (.tmp 4), none, [0, 1, 2, 3, 4, 5, 6, 7, 8, 9, 10, 11, 12, 13, 14, 15, 16, 17, 18, 19, 20, 21, 22, 23, 24]⟩, 
  ⟨(some (66)), .move (.tmp 13), none, [0, 1, 2, 3, 4, 5, 6, 7, 8, 9, 10, 11, 12, 13, 14, 15, 16, 17, 18, 19, 20, 21, 22, 23, 24, 25]⟩, 
  ⟨(some (67)), .call (.const (.fn (.func 15) [] [])) [.tmp 66, .const (.int .i64 350000)], none, [0, 1, 2, 3, 4, 10, 11, 12, 18, 19, 20, 23, 24, 25]⟩, 
  ⟨(some (68)), .move (.tmp 4), none, [0, 1, 2, 3, 4, 5, 6, 7, 8, 9, 10, 11, 12, 13, 14, 15, 16, 17, 18, 19, 20, 21, 22, 23, 24, 25, 26, 27]⟩, 
  ⟨(some (69)), .buildSlice 1 [.tmp 65, .tmp 67, .tmp 68], none, [0, 1, 2, 3, 4, 10, 11, 12, 18, 19, 20, 23, 24]⟩, 
  ⟨(some (15)), .move (.tmp 43), none, [4, 10, 11, 12, 18, 19, 20, 23, 24, 25, 28, 29]⟩, 
  ⟨(some (16)), .move (.tmp 51), none, [12, 18, 19, 20, 23, 24, 25, 28, 29]⟩, 
  ⟨(some (17)), .move (.tmp 59), none, [20, 23, 24, 25, 28, 29]⟩, 
  ⟨(some (18)), .move (.tmp 64), none, [25, 28, 29]⟩], 
  [
  ⟨(some (19)), .move (.tmp 69), none, []⟩]]
theorem k_law02_CurveSlopes_r5_sg : segs k_law02_CurveSlopes_r5 = k_law02_CurveSlopes_r5s := by kernel_rfl
theorem k_law02_CurveSlopes_r5_st : statOK k_law02_CurveSlopes_r5 = true := by kernel_rfl
def k_law02_CurveSlopes_r6 : List AOper := [
  ⟨(some (20)), .move (.const (.int .i64 0)), none, []⟩]
def k_law02_CurveSlopes_r7 : List AOper := [
  ⟨(some (70)), .move (.tmp 20), none, []⟩, 
  ⟨(some (71)), .move (.tmp 15), none, []⟩, 
  ⟨(some (72)), .len false (.tmp 71), none, []⟩, 
  ⟨(some (73)), .bin .plain .lss (.tmp 70) (.tmp 72), none, []⟩]
def k_law02_CurveSlopes_r8 : List AOper := [
  ⟨(some (77)), .move (.tmp 15), none, []⟩, 
  ⟨(some (78)), .move (.tmp 20), none, [0]⟩, 
  ⟨(some (79)), .indexAddr 4 (.tmp 77) (.tmp 78), none, []⟩, 
  ⟨(some (80)), .load (some (4)) (.tmp 79), none, []⟩, 
  ⟨(some (81)), .move (.tmp 16), none, [0, 1, 2, 3]⟩, 
  ⟨(some (82)), .move (.tmp 20), none, [0, 1, 2, 3, 4]⟩, 
  ⟨(some (83)), .indexAddr 1 (.tmp 81) (.tmp 82), none, [0, 1, 2, 3]⟩, 
  ⟨(some (84)), .load none (.tmp 83), none, [0, 1, 2, 3]⟩, 
  ⟨(some (85)), .move (.tmp 19), none, [0, 1, 2, 3, 4, 5, 6, 7]⟩, 
  ⟨(some (86)), .move (.tmp 20), none, [0, 1, 2, 3, 4, 5, 6, 7, 8]⟩, 
  ⟨(some (87)), .indexAddr 1 (.tmp 85) (.tmp 86), none, [0, 1, 2, 3, 4, 5, 6, 7]⟩, 
  ⟨(some (88)), .load none (.tmp 87), none, [0, 1, 2, 3, 4, 5, 6, 7]⟩, 
  ⟨(some (89)), .call (.const (.fn (.func 41) [] [])) [.tmp 80, .tmp 84, .tmp 88], none, []⟩, 
  ⟨(some (76)), .move (.tmp 89), none, []⟩, 
  ⟨(some (90)), .extract (.tmp 76) 0, none, []⟩, 
  ⟨(some (91)), .extract (.tmp 76) 1, none, [14]⟩, 
  ⟨(some (21)), .box (.const (.agg [.int .i64 0, .int .i64 0])), none, [0, 1, 2, 3, 4, 5, 6, 7, 8, 9, 10, 11, 12, 13, 14, 15]⟩, 
  ⟨none, .store 2 (.tmp 21) (.tmp 90), none, [15]⟩, 
  ⟨(some (22)), .move (.tmp 91), none, []⟩]
def k_law02_CurveSlopes_r8s : List (List AOper) := [
  [
  ⟨(some (77)), .move (.tmp 15), none, []⟩, 
  ⟨(some (78)), .move (.tmp 20), none, [0]⟩, 
  ⟨(some (79)), .indexAddr 4 (.tmp 77) (.tmp 78), none, []⟩, 
  ⟨(some (80)), .load (some (4)) (.tmp 79), none, []⟩, 
  ⟨(some (81)), .move (.tmp 16), none, [0, 1, 2, 3]⟩, 
  ⟨(some (82)), .move (.tmp 20), none, [0, 1, 2, 3, 4]⟩, 
  ⟨(some (83)), .indexAddr 1 (.tmp 81) (.tmp 82), none, [0, 1, 2, 3]⟩, 
  ⟨(some (84)), .load none (.tmp 83), none, [0, 1, 2, 3]⟩, 
  ⟨(some (85)), .move (.tmp 19), none, [0, 1, 2, 3, 4, 5, 6, 7]⟩, 
  ⟨(some (86)), .move (.tmp 20), none, [0, 1, 2, 3, 4, 5, 6, 7, 8]⟩, 
  ⟨(some (87)), .indexAddr 1 (.tmp 85) (.tmp 86), none, [0, 1, 2, 3, 4, 5, 6, 7]⟩, 
  ⟨(some (88)), .load none (.tmp 87), none, [0, 1, 2, 3, 4, 5, 6, 7]⟩, 
  ⟨(some (89)), .call (.const (.fn (.func 41) [] [])) [.tmp 80, .tmp 84, .tmp 88], none, []⟩, 
  ⟨(some (76)), .move (.tmp 89), none, []⟩, 
  ⟨(some (90)), .extract (.tmp 76) 0, none, []⟩, 
  ⟨(some (91)), .extract (.tmp 76) 1, none, [14]⟩, 
  ⟨(some (21)), .box (.const (.agg [.int .i64 0, .int .i64 0])), none, [0, 1, 2, 3, 4, 5, 6, 7, 8, 9, 10, 11, 12, 13, 14, 15]⟩, 
  ⟨none, .store 2 (.tmp 21) (.tmp 90), none, [15]⟩], 
  [
  ⟨(some (22)), .move (.tmp 91), none, []⟩]]
theorem k_law02_CurveSlopes_r8_sg : segs k_law02_CurveSlopes_r8 = k_law02_CurveSlopes_r8s := by kernel_rfl
theorem k_law02_CurveSlopes_r8_st : statOK k_law02_CurveSlopes_r8 = true := by kernel_rfl
def k_law02_CurveSlopes_r9 : List AOper := [
  ⟨(some (93)), .move (.tmp 15), none, []⟩, 
  ⟨(some (94)), .move (.tmp 20), none, [0]⟩, 
  ⟨(some (95)), .indexAddr 4 (.tmp 93) (.tmp 94), none, []⟩, 
  ⟨(some (96)), .load (some (4)) (.tmp 95), none, []⟩, 
  ⟨(some (97)), .move (.tmp 16), none, [0, 1, 2, 3]⟩, 
  ⟨(some (98)), .move (.tmp 20), none, [0, 1, 2, 3, 4]⟩, 
  ⟨(some (99)), .indexAddr 1 (.tmp 97) (.tmp 98), none, [0, 1, 2, 3]⟩, 
  ⟨(some (100)), .load none (.tmp 99), none, [0, 1, 2, 3]⟩, 
  ⟨(some (101)), .move (.tmp 19), none, [0, 1, 2, 3, 4, 5, 6, 7]⟩, 
  ⟨(some (102)), .move (.tmp 20), none, [0, 1, 2, 3, 4, 5, 6, 7, 8]⟩, 
  ⟨(some (103)), .indexAddr 1 (.tmp 101) (.tmp 102), none, [0, 1, 2, 3, 4, 5, 6, 7]⟩, 
  ⟨(some (104)), .load none (.tmp 103), none, [0, 1, 2, 3, 4, 5, 6, 7]⟩, 
  ⟨(some (105)), .call (.const (.fn (.func 42) [] [])) [.tmp 96, .tmp 100, .tmp 104], none, []⟩, 
  ⟨(some (92)), .move (.tmp 105), none, []⟩, 
  ⟨(some (106)), .extract (.tmp 92) 0, none, []⟩, 
  ⟨(some (107)), .extract (.tmp 92) 1, none, [14]⟩, 
  ⟨(some (23)), .box (.const (.agg [.int .i64 0, .int .i64 0])), none, [0, 1, 2, 3, 4, 5, 6, 7, 8, 9, 10, 11, 12, 13, 14, 15]⟩, 
  ⟨none, .store 2 (.tmp 23) (.tmp 106), none, [15]⟩, 
  ⟨(some (24)), .move (.tmp 107), none, []⟩]
def k_law02_CurveSlopes_r9s : List (List AOper) := [
  [
  ⟨(some (93)), .move (.tmp 15), none, []⟩, 
  ⟨(some (94)), .move (.tmp 20), none, [0]⟩, 
  ⟨(some (95)), .indexAddr 4 (.tmp 93) (.tmp 94), none, []⟩, 
  ⟨(some (96)), .load (some (4)) (.tmp 95), none, []⟩, 
  ⟨(some (97)), .move (.tmp 16), none, [0, 1, 2, 3]⟩, 
  ⟨(some (98)), .move (.tmp 20), none, [0, 1, 2, 3, 4]⟩, 
  ⟨(some (99)), .indexAddr 1 (.tmp 97) (.tmp 98), none, [0, 1, 2, 3]⟩, 
  ⟨(some (100)), .load none (.tmp 99), none, [0, 1, 2, 3]⟩, 
  ⟨(some (101)), .move (.tmp 19), none, [0, 1, 2, 3, 4, 5, 6, 7]⟩, 
  ⟨(some (102)), .move (.tmp 20), none, [0, 1, 2, 3, 4, 5, 6, 7, 8]⟩, 
  ⟨(some (103)), .indexAddr 1 (.tmp 101) (.tmp 102), none, [0, 1, 2, 3, 4, 5, 6, 7]⟩, 
  ⟨(some (104)), .load none (.tmp 103), none, [0, 1, 2, 3, 4, 5, 6, 7]⟩, 
  ⟨(some (105)), .call (.const (.fn (.func 42) [] [])) [.tmp 96, .tmp 100, .tmp 104], none, []⟩, 
  ⟨(some (92)), .move (.tmp 105), none, []⟩, 
  ⟨(some (106)), .extract (.tmp 92) 0, none, []⟩, 
  ⟨(some (107)), .extract (.tmp 92) 1, none, [14]⟩, 
  ⟨(some (23)), .box (.const (.agg [.int .i64 0, .int .i64 0])), none, [0, 1, 2, 3, 4, 5, 6, 7, 8, 9, 10, 11, 12, 13, 14, 15]⟩, 
  ⟨none, .store 2 (.tmp 23) (.tmp 106), none, [15]⟩], 
  [
  ⟨(some (24)), .move (.tmp 107), none, []⟩]]
theorem k_law02_CurveSlopes_r9_sg : segs k_law02_CurveSlopes_r9 = k_law02_CurveSlopes_r9s := by kernel_rfl
theorem k_law02_CurveSlopes_r9_st : statOK k_law02_CurveSlopes_r9 = true := by kernel_rfl
def k_law02_CurveSlopes_r10 : List AOper := [
  ⟨(some (109)), .move (.tmp 15), none, []⟩, 
  ⟨(some (110)), .move (.tmp 20), none, [0]⟩, 
  ⟨(some (111)), .indexAddr 4 (.tmp 109) (.tmp 110), none, []⟩, 
  ⟨(some (112)), .load (some (4)) (.tmp 111), none, []⟩, 
  ⟨(some (113)), .move (.tmp 18), none, [0, 1, 2, 3]⟩, 
  ⟨(some (114)), .move (.tmp 20), none, [0, 1, 2, 3, 4]⟩, 
  ⟨(some (115)), .indexAddr 1 (.tmp 113) (.tmp 114), none, [0, 1, 2, 3]⟩, 
  ⟨(some (116)), .load none (.tmp 115), none, [0, 1, 2, 3]⟩, 
  ⟨(some (117)), .move (.tmp 17), none, [0, 1, 2, 3, 4, 5, 6, 7]⟩, 
  ⟨(some (118)), .move (.tmp 20), none, [0, 1, 2, 3, 4, 5, 6, 7, 8]⟩, 
  ⟨(some (119)), .indexAddr 1 (.tmp 117) (.tmp 118), none, [0, 1, 2, 3, 4, 5, 6, 7]⟩, 
  ⟨(some (120)), .load none (.tmp 119), none, [0, 1, 2, 3, 4, 5, 6, 7]⟩, 
  ⟨(some (121)), .call (.const (.fn (.func 43) [] [])) [.tmp 112, .tmp 116, .tmp 120], none, []⟩, 
  ⟨(some (108)), .move (.tmp 121), none, []⟩, 
  ⟨(some (122)), .extract (.tmp 108) 0, none, []⟩, 
  ⟨(some (123)), .extract (.tmp 108) 1, none, [14]⟩, 
  ⟨(some (25)), .box (.const (.agg [.int .i64 0, .int .i64 0])), none, [0, 1, 2, 3, 4, 5, 6, 7, 8, 9, 10, 11, 12, 13, 14, 15]⟩, 
  ⟨none, .store 2 (.tmp 25) (.tmp 122), none, [15]⟩, 
  ⟨(some (26)), .move (.tmp 123), none, []⟩]
def k_law02_CurveSlopes_r10s : List (List AOper) := [
  [
  ⟨(some (109)), .move (.tmp 15), none, []⟩, 
  ⟨(some (110)), .move (.tmp 20), none, [0]⟩, 
  ⟨(some (111)), .indexAddr 4 (.tmp 109) (.tmp 110), none, []⟩, 
  ⟨(some (112)), .load (some (4)) (.tmp 111), none, []⟩, 
  ⟨(some (113)), .move (.tmp 18), none, [0, 1, 2, 3]⟩, 
  ⟨(some (114)), .move (.tmp 20), none, [0, 1, 2, 3, 4]⟩, 
  ⟨(some (115)), .indexAddr 1 (.tmp 113) (.tmp 114), none, [0, 1, 2, 3]⟩, 
  ⟨(some (116)), .load none (.tmp 115), none, [0, 1, 2, 3]⟩, 
  ⟨(some (117)), .move (.tmp 17), none, [0, 1, 2, 3, 4, 5, 6, 7]⟩, 
  ⟨(some (118)), .move (.tmp 20), none, [0, 1, 2, 3, 4, 5, 6, 7, 8]⟩, 
  ⟨(some (119)), .indexAddr 1 (.tmp 117) (.tmp 118), none, [0, 1, 2, 3, 4, 5, 6, 7]⟩, 
  ⟨(some (120)), .load none (.tmp 119), none, [0, 1, 2, 3, 4, 5, 6, 7]⟩, 
  ⟨(some (121)), .call (.const (.fn (.func 43) [] [])) [.tmp 112, .tmp 116, .tmp 120], none, []⟩, 
  ⟨(some (108)), .move (.tmp 121), none, []⟩, 
  ⟨(some (122)), .extract (.tmp 108) 0, none, []⟩, 
  ⟨(some (123)), .extract (.tmp 108) 1, none, [14]⟩, 
  ⟨(some (25)), .box (.const (.agg [.int .i64 0, .int .i64 0])), none, [0, 1, 2, 3, 4, 5, 6, 7, 8, 9, 10, 11, 12, 13, 14, 15]⟩, 
  ⟨none, .store 2 (.tmp 25) (.tmp 122), none, [15]⟩], 
  [
  ⟨(some (26)), .move (.tmp 123), none, []⟩]]
theorem k_law02_CurveSlopes_r10_sg : segs k_law02_CurveSlopes_r10 = k_law02_CurveSlopes_r10s := by kernel_rfl
theorem k_law02_CurveSlopes_r10_st : statOK k_law02_CurveSlopes_r10 = true := by kernel_rfl
def k_law02_CurveSlopes_r11 : List AOper := [
  ⟨(some (125)), .move (.tmp 15), none, []⟩, 
  ⟨(some (126)), .move (.tmp 20), none, [0]⟩, 
  ⟨(some (127)), .indexAddr 4 (.tmp 125) (.tmp 126), none, []⟩, 
  ⟨(some (128)), .load (some (4)) (.tmp 127), none, []⟩, 
  ⟨(some (129)), .move (.tmp 18), none, [0, 1, 2, 3]⟩, 
  ⟨(some (130)), .move (.tmp 20), none, [0, 1, 2, 3, 4]⟩, 
  ⟨(some (131)), .indexAddr 1 (.tmp 129) (.tmp 130), none, [0, 1, 2, 3]⟩, 
  ⟨(some (132)), .load none (.tmp 131), none, [0, 1, 2, 3]⟩, 
  ⟨(some (133)), .move (.tmp 17), none, [0, 1, 2, 3, 4, 5, 6, 7]⟩, 
  ⟨(some (134)), .move (.tmp 20), none, [0, 1, 2, 3, 4, 5, 6, 7, 8]⟩, 
  ⟨(some (135)), .indexAddr 1 (.tmp 133) (.tmp 134), none, [0, 1, 2, 3, 4, 5, 6, 7]⟩, 
  ⟨(some (136)), .load none (.tmp 135), none, [0, 1, 2, 3, 4, 5, 6, 7]⟩, 
  ⟨(some (137)), .call (.const (.fn (.func 44) [] [])) [.tmp 128, .tmp 132, .tmp 136], none, []⟩, 
  ⟨(some (124)), .move (.tmp 137), none, []⟩, 
  ⟨(some (138)), .extract (.tmp 124) 0, none, []⟩, 
  ⟨(some (139)), .extract (.tmp 124) 1, none, [14]⟩, 
  ⟨(some (27)), .box (.const (.agg [.int .i64 0, .int .i64 0])), none, [0, 1, 2, 3, 4, 5, 6, 7, 8, 9, 10, 11, 12, 13, 14, 15]⟩, 
  ⟨none, .store 2 (.tmp 27) (.tmp 138), none, [15]⟩, 
  ⟨(some (28)), .move (.tmp 139), none, []⟩]
def k_law02_CurveSlopes_r11s : List (List AOper) := [
  [
  ⟨(some (125)), .move (.tmp 15), none, []⟩, 
  ⟨(some (126)), .move (.tmp 20), none, [0]⟩, 
  ⟨(some (127)), .indexAddr 4 (.tmp 125) (.tmp 126), none, []⟩, 
  ⟨(some (128)), .load (some (4)) (.tmp 127), none, []⟩, 
  ⟨(some (129)), .move (.tmp 18), none, [0, 1, 2, 3]⟩, 
  ⟨(some (130)), .move (.tmp 20), none, [0, 1, 2, 3, 4]⟩, 
  ⟨(some (131)), .indexAddr 1 (.tmp 129) (.tmp 130), none, [0, 1, 2, 3]⟩, 
  ⟨(some (132)), .load none (.tmp 131), none, [0, 1, 2, 3]⟩, 
  ⟨(some (133)), .move (.tmp 17), none, [0, 1, 2, 3, 4, 5, 6, 7]⟩, 
  ⟨(some (134)), .move (.tmp 20), none, [0, 1, 2, 3, 4, 5, 6, 7, 8]⟩, 
  ⟨(some (135)), .indexAddr 1 (.tmp 133) (.tmp 134), none, [0, 1, 2, 3, 4, 5, 6, 7]⟩, 
  ⟨(some (136)), .load none (.tmp 135), none, [0, 1, 2, 3, 4, 5, 6, 7]⟩, 
  ⟨(some (137)), .call (.const (.fn (.func 44) [] [])) [.tmp 128, .tmp 132, .tmp 136], none, []⟩, 
  ⟨(some (124)), .move (.tmp 137), none, []⟩, 
  ⟨(some (138)), .extract (.tmp 124) 0, none, []⟩, 
  ⟨(some (139)), .extract (.tmp 124) 1, none, [14]⟩, 
  ⟨(some (27)), .box (.const (.agg [.int .i64 0, .int .i64 0])), none, [0, 1, 2, 3, 4, 5, 6, 7, 8, 9, 10, 11, 12, 13, 14, 15]⟩, 
  ⟨none, .store 2 (.tmp 27) (.tmp 138), none, [15]⟩], 
  [
  ⟨(some (28)), .move (.tmp 139), none, []⟩]]
theorem k_law02_CurveSlopes_r11_sg : segs k_law02_CurveSlopes_r11 = k_law02_CurveSlopes_r11s := by kernel_rfl
theorem k_law02_CurveSlopes_r11_st : statOK k_law02_CurveSlopes_r11 = true := by kernel_rfl
def k_law02_CurveSlopes_r12 : List AOper := [
  ⟨(some (141)), .move (.tmp 15), none, []⟩, 
  ⟨(some (142)), .move (.tmp 20), none, [0]⟩, 
  ⟨(some (143)), .indexAddr 4 (.tmp 141) (.tmp 142), none, []⟩, 
  ⟨(some (144)), .load (some (4)) (.tmp 143), none, []⟩, 
  ⟨(some (145)), .move (.tmp 16), none, [0, 1, 2, 3]⟩, 
  ⟨(some (146)), .move (.tmp 20), none, [0, 1, 2, 3, 4]⟩, 
  ⟨(some (147)), .indexAddr 1 (.tmp 145) (.tmp 146), none, [0, 1, 2, 3]⟩, 
  ⟨(some (148)), .load none (.tmp 147), none, [0, 1, 2, 3]⟩, 
  ⟨(some (149)), .move (.tmp 17), none, [0, 1, 2, 3, 4, 5, 6, 7]⟩, 
  ⟨(some (150)), .move (.tmp 20), none, [0, 1, 2, 3, 4, 5, 6, 7, 8]⟩, 
  ⟨(some (151)), .indexAddr 1 (.tmp 149) (.tmp 150), none, [0, 1, 2, 3, 4, 5, 6, 7]⟩, 
  ⟨(some (152)), .load none (.tmp 151), none, [0, 1, 2, 3, 4, 5, 6, 7]⟩, 
  ⟨(some (153)), .call (.const (.fn (.func 45) [] [])) [.tmp 144, .tmp 148, .tmp 152], none, []⟩, 
  ⟨(some (140)), .move (.tmp 153), none, []⟩, 
  ⟨(some (154)), .extract (.tmp 140) 0, none, []⟩, 
  ⟨(some (155)), .extract (.tmp 140) 1, none, [14]⟩, 
  ⟨(some (29)), .box (.const (.agg [.int .i64 0, .int .i64 0])), none, [0, 1, 2, 3, 4, 5, 6, 7, 8, 9, 10, 11, 12, 13, 14, 15]⟩, 
  ⟨none, .store 2 (.tmp 29) (.tmp 154), none, [15]⟩, 
  ⟨(some (30)), .move (.tmp 155), none, []⟩]
def k_law02_CurveSlopes_r12s : List (List AOper) := [
  [
  ⟨(some (141)), .move (.tmp 15), none, []⟩, 
  ⟨(some (142)), .move (.tmp 20), none, [0]⟩, 
  ⟨(some (143)), .indexAddr 4 (.tmp 141) (.tmp 142), none, []⟩, 
  ⟨(some (144)), .load (some (4)) (.tmp 143), none, []⟩, 
  ⟨(some (145)), .move (.tmp 16), none, [0, 1, 2, 3]⟩, 
  ⟨(some (146)), .move (.tmp 20), none, [0, 1, 2, 3, 4]⟩, 
  ⟨(some (147)), .indexAddr 1 (.tmp 145) (.tmp 146), none, [0, 1, 2, 3]⟩, 
  ⟨(some (148)), .load none (.tmp 147), none, [0, 1, 2, 3]⟩, 
  ⟨(some (149)), .move (.tmp 17), none, [0, 1, 2, 3, 4, 5, 6, 7]⟩, 
  ⟨(some (150)), .move (.tmp 20), none, [0, 1, 2, 3, 4, 5, 6, 7, 8]⟩, 
  ⟨(some (151)), .indexAddr 1 (.tmp 149) (.tmp 150), none, [0, 1, 2, 3, 4, 5, 6, 7]⟩, 
  ⟨(some (152)), .load none (.tmp 151), none, [0, 1, 2, 3, 4, 5, 6, 7]⟩, 
  ⟨(some (153)), .call (.const (.fn (.func 45) [] [])) [.tmp 144, .tmp 148, .tmp 152], none, []⟩, 
  ⟨(some (140)), .move (.tmp 153), none, []⟩, 
  ⟨(some (154)), .extract (.tmp 140) 0, none, []⟩, 
  ⟨(some (155)), .extract (.tmp 140) 1, none, [14]⟩, 
  ⟨(some (29)), .box (.const (.agg [.int .i64 0, .int .i64 0])), none, [0, 1, 2, 3, 4, 5, 6, 7, 8, 9, 10, 11, 12, 13, 14, 15]⟩, 
  ⟨none, .store 2 (.tmp 29) (.tmp 154), none, [15]⟩], 
  [
  ⟨(some (30)), .move (.tmp 155), none, []⟩]]
theorem k_law02_CurveSlopes_r12_sg : segs k_law02_CurveSlopes_r12 = k_law02_CurveSlopes_r12s := by kernel_rfl
theorem k_law02_CurveSlopes_r12_st : statOK k_law02_CurveSlopes_r12 = true := by kernel_rfl
def k_law02_CurveSlopes_r13 : List AOper := [
  ⟨(some (157)), .move (.tmp 15), none, []⟩, 
  ⟨(some (158)), .move (.tmp 20), none, [0]⟩, 
  ⟨(some (159)), .indexAddr 4 (.tmp 157) (.tmp 158), none, []⟩, 
  ⟨(some (160)), .load (some (4)) (.tmp 159), none, []⟩, 
  ⟨(some (161)), .move (.tmp 16), none, [0, 1, 2, 3]⟩, 
  ⟨(some (162)), .move (.tmp 20), none, [0, 1, 2, 3, 4]⟩, 
  ⟨(some (163)), .indexAddr 1 (.tmp 161) (.tmp 162), none, [0, 1, 2, 3]⟩, 
  ⟨(some (164)), .load none (.tmp 163), none, [0, 1, 2, 3]⟩, 
  ⟨(some (165)), .move (.tmp 17), none, [0, 1, 2, 3, 4, 5, 6, 7]⟩, 
  ⟨(some (166)), .move (.tmp 20), none, [0, 1, 2, 3, 4, 5, 6, 7, 8]⟩, 
  ⟨(some (167)), .indexAddr 1 (.tmp 165) (.tmp 166), none, [0, 1, 2, 3, 4, 5, 6, 7]⟩, 
  ⟨(some (168)), .load none (.tmp 167), none, [0, 1, 2, 3, 4, 5, 6, 7]⟩, 
  ⟨(some (169)), .call (.const (.fn (.func 46) [] [])) [.tmp 160, .tmp 164, .tmp 168], none, []⟩, 
  ⟨(some (156)), .move (.tmp 169), none, []⟩, 
  ⟨(some (170)), .extract (.tmp 156) 0, none, []⟩, 
  ⟨(some (171)), .extract (.tmp 156) 1, none, [14]⟩, 
  ⟨(some (31)), .box (.const (.agg [.int .i64 0, .int .i64 0])), none, [0, 1, 2, 3, 4, 5, 6, 7, 8, 9, 10, 11, 12, 13, 14, 15]⟩, 
  ⟨none, .store 2 (.tmp 31) (.tmp 170), none, [15]⟩, 
  ⟨(some (32)), .move (.tmp 171), none, []⟩]
def k_law02_CurveSlopes_r13s : List (List AOper) := [
  [
  ⟨(some (157)), .move (.tmp 15), none, []⟩, 
  ⟨(some (158)), .move (.tmp 20), none, [0]⟩, 
  ⟨(some (159)), .indexAddr 4 (.tmp 157) (.tmp 158), none, []⟩, 
  ⟨(some (160)), .load (some (4)) (.tmp 159), none, []⟩, 
  ⟨(some (161)), .move (.tmp 16), none, [0, 1, 2, 3]⟩, 
  ⟨(some (162)), .move (.tmp 20), none, [0, 1, 2, 3, 4]⟩, 
  ⟨(some (163)), .indexAddr 1 (.tmp 161) (.tmp 162), none, [0, 1, 2, 3]⟩, 
  ⟨(some (164)), .load none (.tmp 163), none, [0, 1, 2, 3]⟩, 
  ⟨(some (165)), .move (.tmp 17), none, [0, 1, 2, 3, 4, 5, 6, 7]⟩, 
  ⟨(some (166)), .move (.tmp 20), none, [0, 1, 2, 3, 4, 5, 6, 7, 8]⟩, 
  ⟨(some (167)), .indexAddr 1 (.tmp 165) (.tmp 166), none, [0, 1, 2, 3, 4, 5, 6, 7]⟩, 
  ⟨(some (168)), .load none (.tmp 167), none, [0, 1, 2, 3, 4, 5, 6, 7]⟩, 
  ⟨(some (169)), .call (.const (.fn (.func 46) [] [])) [.tmp 160, .tmp 164, .tmp 168], none, []⟩, 
  ⟨(some (156)), .move (.tmp 169), none, []⟩, 
  ⟨(some (170)), .extract (.tmp 156) 0, none, []⟩, 
  ⟨(some (171)), .extract (.tmp 156) 1, none, [14]⟩, 
  ⟨(some (31)), .box (.const (.agg [.int .i64 0, .int .i64 0])), none, [0, 1, 2, 3, 4, 5, 6, 7, 8, 9, 10, 11, 12, 13, 14, 15]⟩, 
  ⟨none, .store 2 (.tmp 31) (.tmp 170), none, [15]⟩], 
  [
  ⟨(some (32)), .move (.tmp 171), none, []⟩]]
theorem k_law02_CurveSlopes_r13_sg : segs k_law02_CurveSlopes_r13 = k_law02_CurveSlopes_r13s := by kernel_rfl
theorem k_law02_CurveSlopes_r13_st : statOK k_law02_CurveSlopes_r13 = true := by kernel_rfl
def k_law02_CurveSlopes_r14 : List AOper := [
  ⟨(some (172)), .load (some (2)) (.tmp 21), none, []⟩, 
  ⟨(some (173)), .load (some (2)) (.tmp 23), none, []⟩, 
  ⟨(some (174)), .eqAgg true [.int, .int] (.tmp 172) (.tmp 173), none, []⟩, 
  ⟨(some (175)), .move (.tmp 174), none, []⟩, 
  ⟨(some (176)), .move (.tmp 22), (some (175, false)), []⟩, 
  ⟨(some (177)), .move (.tmp 24), (some (175, false)), []⟩, 
  ⟨(some (178)), .bin .plain .neq (.tmp 176) (.tmp 177), (some (175, false)), []⟩, 
  ⟨(some (179)), .pick (.tmp 175) (.const (.bool true)) (.tmp 178), none, []⟩, 
  ⟨(some (180)), .move (.tmp 179), none, []⟩, 
  ⟨(some (181)), .load (some (2)) (.tmp 25), (some (180, false)), []⟩, 
  ⟨(some (182)), .load (some (2)) (.tmp 27), (some (180, false)), []⟩, 
  ⟨(some (183)), .eqAgg true [.int, .int] (.tmp 181) (.tmp 182), (some (180, false)), []⟩, 
  ⟨(some (184)), .pick (.tmp 180) (.const (.bool true)) (.tmp 183), none, []⟩, 
  ⟨(some (185)), .move (.tmp 184), none, []⟩, 
  ⟨(some (186)), .move (.tmp 26), (some (185, false)), []⟩, 
  ⟨(some (187)), .move (.tmp 28), (some (185, false)), []⟩, 
  ⟨(some (188)), .bin .plain .neq (.tmp 186) (.tmp 187), (some (185, false)), []⟩, 
  ⟨(some (189)), .pick (.tmp 185) (.const (.bool true)) (.tmp 188), none, []⟩, 
  ⟨(some (190)), .move (.tmp 189), none, []⟩, 
  ⟨(some (191)), .load (some (2)) (.tmp 29), (some (190, false)), []⟩, 
  ⟨(some (192)), .load (some (2)) (.tmp 31), (some (190, false)), []⟩, 
  ⟨(some (193)), .eqAgg true [.int, .int] (.tmp 191) (.tmp 192), (some (190, false)), []⟩, 
  ⟨(some (194)), .pick (.tmp 190) (.const (.bool true)) (.tmp 193), none, []⟩, 
  ⟨(some (195)), .move (.tmp 194), none, []⟩, 
  ⟨(some (196)), .move (.tmp 30), (some (195, false)), []⟩, 
  ⟨(some (197)), .move (.tmp 32), (some (195, false)), []⟩, 
  ⟨(some (198)), .bin .plain .neq (.tmp 196) (.tmp 197), (some (195, false)), []⟩, 
  ⟨(some (199)), .pick (.tmp 195) (.const (.bool true)) (.tmp 198), none, []⟩]
def k_law02_CurveSlopes_r15 : List AOper := [
  ⟨(some (12)), .move (.const (.bool false)), none, []⟩]
def k_law02_CurveSlopes_r16 : List AOper := [
  ⟨(some (74)), .move (.tmp 20), none, []⟩, 
  ⟨(some (75)), .bin .plain .add (.tmp 74) (.const (.int .i64 1)), none, []⟩, 
  ⟨(some (20)), .move (.tmp 75), none, []⟩]
def k_law02_CurveSlopes_r17 : ACode := (.seq (.seq (.reg k_law02_CurveSlopes_r7 false) (.cond (.tmp 73) .skip (.exit 0))) (.seq (.block 1 (.seq (.reg k_law02_CurveSlopes_r8 true) (.seq (.reg k_law02_CurveSlopes_r9 true) (.seq (.reg k_law02_CurveSlopes_r10 true) (.seq (.reg k_law02_CurveSlopes_r11 true) (.seq (.reg k_law02_CurveSlopes_r12 true) (.seq (.reg k_law02_CurveSlopes_r13 true) (.seq (.reg k_law02_CurveSlopes_r14 false) (.cond (.tmp 199) (.seq (.reg k_law02_CurveSlopes_r15 false) .ret) .skip))))))))) (.reg k_law02_CurveSlopes_r16 false)))
def k_law02_CurveSlopes_r18 : List AOper := [
  ⟨(some (200)), .call (.const (.fn (.func 23) [] [])) [], none, []⟩, 
  ⟨(some (12)), .move (.tmp 200), none, []⟩]
def k_law02_CurveSlopes : AFun := { params := 6, ntmps := 201, body := (.seq (.reg k_law02_CurveSlopes_r0 false) (.seq (.seq (.reg k_law02_CurveSlopes_r1 false) (.cond (.tmp 34) (.seq (.reg k_law02_CurveSlopes_r2 false) .ret) .skip)) (.seq (.reg k_law02_CurveSlopes_r3 false) (.seq (.reg k_law02_CurveSlopes_r4 false) (.seq (.reg k_law02_CurveSlopes_r5 true) (.seq (.seq (.reg k_law02_CurveSlopes_r6 false) (.block 0 (.loop k_law02_CurveSlopes_r17))) (.seq (.reg k_law02_CurveSlopes_r18 false) .ret))))))), res := [.tmp 12] }
theorem k_law02_CurveSlopes_ok : cfun Try.prog Try.f7 = k_law02_CurveSlopes := by kernel_rfl

def k_curve_Slope_r0 : List AOper := [
  ⟨(some (3)), .box (.tmp 0), none, []⟩, 
  ⟨(some (6)), .box (.const (.agg [.int .i64 0, .int .i64 0])), none, []⟩, 
  ⟨(some (7)), .move (.const (.int .i64 0)), none, []⟩]
def k_curve_Slope_r1 : List AOper := [
  ⟨(some (9)), .load (some (4)) (.tmp 3), none, []⟩, 
  ⟨(some (10)), .call (.const (.fn (.func 27) [] [])) [.tmp 9], none, []⟩, 
  ⟨(some (8)), .move (.tmp 10), none, []⟩]
def k_curve_Slope_r2 : List AOper := [
  ⟨(some (11)), .move (.tmp 8), none, []⟩, 
  ⟨(some (12)), .bin .plain .neq (.tmp 11) (.const (.int .i64 0)), none, []⟩]
def k_curve_Slope_r3 : List AOper := [
  ⟨(some (13)), .build [.int .i64 0, .int .i64 0] [], none, []⟩, 
  ⟨(some (14)), .move (.tmp 8), none, []⟩, 
  ⟨none, .store 2 (.tmp 6) (.tmp 13), none, []⟩, 
  ⟨(some (7)), .move (.tmp 14), none, []⟩]
def k_curve_Slope_r4 : List AOper := [
  ⟨(some (15)), .fieldAddr 0 (.tmp 3), none, []⟩, 
  ⟨(some (16)), .load none (.tmp 15), none, []⟩, 
  ⟨(some (17)), .move (.tmp 1), none, []⟩, 
  ⟨(some (18)), .call (.const (.fn (.func 93) [] [])) [.tmp 16, .tmp 17], none, []⟩, 
  ⟨(some (19)), .not (.tmp 18), none, []⟩]
def k_curve_Slope_r5 : List AOper := [
  ⟨(some (20)), .build [.int .i64 0, .int .i64 0] [], none, []⟩, 
  ⟨none, .store 2 (.tmp 6) (.tmp 20), none, []⟩, 
  ⟨(some (7)), .move (.const (.int .i64 7)), none, []⟩]
def k_curve_Slope_r6 : List AOper := [
  ⟨(some (21)), .move (.tmp 2), none, []⟩, 
  ⟨(some (22)), .call (.const (.fn (.func 82) [] [])) [.tmp 21], none, []⟩, 
  ⟨(some (23)), .not (.tmp 22), none, []⟩]
def k_curve_Slope_r7 : List AOper := [
  ⟨(some (24)), .build [.int .i64 0, .int .i64 0] [], none, []⟩, 
  ⟨none, .store 2 (.tmp 6) (.tmp 24), none, []⟩, 
  ⟨(some (7)), .move (.const (.int .i64 2)), none, []⟩]
def k_curve_Slope_r8 : List AOper := [
  ⟨(some (25)), .load (some (4)) (.tmp 3), none, []⟩, 
  ⟨(some (26)), .move (.tmp 1), none, []⟩, 
  ⟨(some (27)), .move (.tmp 2), none, []⟩, 
  ⟨(some (28)), .call (.const (.fn (.func 94) [] [])) [.tmp 25, .tmp 26, .tmp 27], none, []⟩, 
  ⟨none, .store 2 (.tmp 6) (.tmp 28), none, []⟩, 
  ⟨(some (7)), .move (.const (.int .i64 0)), none, []⟩]
def k_curve_Slope : AFun := { params := 3, ntmps := 29, body := (.seq (.reg k_curve_Slope_r0 false) (.seq (.seq (.reg k_curve_Slope_r1 false) (.seq (.reg k_curve_Slope_r2 false) (.cond (.tmp 12) (.seq (.reg k_curve_Slope_r3 false) .ret) .skip))) (.seq (.seq (.reg k_curve_Slope_r4 false) (.cond (.tmp 19) (.seq (.reg k_curve_Slope_r5 false) .ret) .skip)) (.seq (.seq (.reg k_curve_Slope_r6 false) (.cond (.tmp 23) (.seq (.reg k_curve_Slope_r7 false) .ret) .skip)) (.seq (.reg k_curve_Slope_r8 false) .ret))))), res := [.cell 6 (some ((some (2)))), .tmp 7] }
theorem k_curve_Slope_ok : cfun Try.prog Try.f41 = k_curve_Slope := by kernel_rfl

def k_ref02_Slope_r0 : List AOper := [
  ⟨(some (3)), .box (.tmp 0), none, []⟩, 
  ⟨(some (6)), .box (.const (.agg [.int .i64 0, .int .i64 0])), none, []⟩, 
  ⟨(some (7)), .move (.const (.int .i64 0)), none, []⟩]
def k_ref02_Slope_r1 : List AOper := [
  ⟨(some (9)), .load (some (4)) (.tmp 3), none, []⟩, 
  ⟨(some (10)), .call (.const (.fn (.func 28) [] [])) [.tmp 9], none, []⟩, 
  ⟨(some (8)), .move (.tmp 10), none, []⟩]
def k_ref02_Slope_r2 : List AOper := [
  ⟨(some (11)), .move (.tmp 8), none, []⟩, 
  ⟨(some (12)), .bin .plain .neq (.tmp 11) (.const (.int .i64 0)), none, []⟩]
def k_ref02_Slope_r3 : List AOper := [
  ⟨(some (13)), .build [.int .i64 0, .int .i64 0] [], none, []⟩, 
  ⟨(some (14)), .move (.tmp 8), none, []⟩, 
  ⟨none, .store 2 (.tmp 6) (.tmp 13), none, []⟩, 
  ⟨(some (7)), .move (.tmp 14), none, []⟩]
def k_ref02_Slope_r4 : List AOper := [
  ⟨(some (15)), .move (.tmp 1), none, []⟩, 
  ⟨(some (16)), .bin .plain .lss (.tmp 15) (.const (.int .i64 0)), none, []⟩, 
  ⟨(some (17)), .move (.tmp 16), none, []⟩, 
  ⟨(some (18)), .move (.tmp 1), (some (17, false)), []⟩, 
  ⟨(some (19)), .fieldAddr 0 (.tmp 3), (some (17, false)), []⟩, 
  ⟨(some (20)), .load none (.tmp 19), (some (17, false)), []⟩, 
  ⟨(some (21)), .len false (.tmp 20), (some (17, false)), []⟩, 
  ⟨(some (22)), .bin .plain .sub (.tmp 21) (.const (.int .i64 2)), (some (17, false)), []⟩, 
  ⟨(some (23)), .bin .plain .gtr (.tmp 18) (.tmp 22), (some (17, false)), []⟩, 
  ⟨(some (24)), .pick (.tmp 17) (.const (.bool true)) (.tmp 23), none, []⟩]
def k_ref02_Slope_r5 : List AOper := [
  ⟨(some (25)), .build [.int .i64 0, .int .i64 0] [], none, []⟩, 
  ⟨none, .store 2 (.tmp 6) (.tmp 25), none, []⟩, 
  ⟨(some (7)), .move (.const (.int .i64 7)), none, []⟩]
def k_ref02_Slope_r6 : List AOper := [
  ⟨(some (26)), .move (.tmp 2), none, []⟩, 
  ⟨(some (27)), .call (.const (.fn (.func 56) [] [])) [.const (.int .i64 0), .tmp 26], none, []⟩, 
  ⟨(some (28)), .not (.tmp 27), none, []⟩]
def k_ref02_Slope_r7 : List AOper := [
  ⟨(some (29)), .build [.int .i64 0, .int .i64 0] [], none, []⟩, 
  ⟨none, .store 2 (.tmp 6) (.tmp 29), none, []⟩, 
  ⟨(some (7)), .move (.const (.int .i64 2)), none, []⟩]
def k_ref02_Slope_r8 : List AOper := [
  ⟨(some (30)), .load (some (4)) (.tmp 3), none, []⟩, 
  ⟨(some (31)), .move (.tmp 1), none, []⟩, 
  ⟨(some (32)), .move (.tmp 2), none, []⟩, 
  ⟨(some (33)), .call (.const (.fn (.func 95) [] [])) [.tmp 30, .tmp 31, .tmp 32, .const (.int .i64 1000)], none, []⟩, 
  ⟨none, .store 2 (.tmp 6) (.tmp 33), none, []⟩, 
  ⟨(some (7)), .move (.const (.int .i64 0)), none, []⟩]
def k_ref02_Slope : AFun := { params := 3, ntmps := 34, body := (.seq (.reg k_ref02_Slope_r0 false) (.seq (.seq (.reg k_ref02_Slope_r1 false) (.seq (.reg k_ref02_Slope_r2 false) (.cond (.tmp 12) (.seq (.reg k_ref02_Slope_r3 false) .ret) .skip))) (.seq (.seq (.reg k_ref02_Slope_r4 false) (.cond (.tmp 24) (.seq (.reg k_ref02_Slope_r5 false) .ret) .skip)) (.seq (.seq (.reg k_ref02_Slope_r6 false) (.cond (.tmp 28) (.seq (.reg k_ref02_Slope_r7 false) .ret) .skip)) (.seq (.reg k_ref02_Slope_r8 false) .ret))))), res := [.cell 6 (some ((some (2)))), .tmp 7] }
theorem k_ref02_Slope_ok : cfun Try.prog Try.f42 = k_ref02_Slope := by kernel_rfl

def k_curve_Yield_r0 : List AOper := [
  ⟨(some (3)), .box (.tmp 0), none, []⟩, 
  ⟨(some (6)), .box (.const (.agg [.int .i64 0, .int .i64 0])), none, []⟩, 
  ⟨(some (7)), .move (.const (.int .i64 0)), none, []⟩]
def k_curve_Yield_r1 : List AOper := [
  ⟨(some (9)), .load (some (4)) (.tmp 3), none, []⟩, 
  ⟨(some (10)), .call (.const (.fn (.func 27) [] [])) [.tmp 9], none, []⟩, 
  ⟨(some (8)), .move (.tmp 10), none, []⟩]
def k_curve_Yield_r2 : List AOper := [
  ⟨(some (11)), .move (.tmp 8), none, []⟩, 
  ⟨(some (12)), .bin .plain .neq (.tmp 11) (.const (.int .i64 0)), none, []⟩]
def k_curve_Yield_r3 : List AOper := [
  ⟨(some (13)), .build [.int .i64 0, .int .i64 0] [], none, []⟩, 
  ⟨(some (14)), .move (.tmp 8), none, []⟩, 
  ⟨none, .store 2 (.tmp 6) (.tmp 13), none, []⟩, 
  ⟨(some (7)), .move (.tmp 14), none, []⟩]
def k_curve_Yield_r4 : List AOper := [
  ⟨(some (15)), .move (.tmp 1), none, []⟩, 
  ⟨(some (16)), .call (.const (.fn (.func 81) [] [])) [.tmp 15], none, []⟩, 
  ⟨(some (17)), .not (.tmp 16), none, []⟩]
def k_curve_Yield_r5 : List AOper := [
  ⟨(some (18)), .build [.int .i64 0, .int .i64 0] [], none, []⟩, 
  ⟨none, .store 2 (.tmp 6) (.tmp 18), none, []⟩, 
  ⟨(some (7)), .move (.const (.int .i64 2)), none, []⟩]
def k_curve_Yield_r6 : List AOper := [
  ⟨(some (19)), .fieldAddr 1 (.tmp 3), none, []⟩, 
  ⟨(some (20)), .load none (.tmp 19), none, []⟩, 
  ⟨(some (21)), .move (.tmp 2), none, []⟩, 
  ⟨(some (22)), .call (.const (.fn (.func 93) [] [])) [.tmp 20, .tmp 21], none, []⟩, 
  ⟨(some (23)), .not (.tmp 22), none, []⟩]
def k_curve_Yield_r7 : List AOper := [
  ⟨(some (24)), .build [.int .i64 0, .int .i64 0] [], none, []⟩, 
  ⟨none, .store 2 (.tmp 6) (.tmp 24), none, []⟩, 
  ⟨(some (7)), .move (.const (.int .i64 7)), none, []⟩]
def k_curve_Yield_r8 : List AOper := [
  ⟨(some (25)), .load (some (4)) (.tmp 3), none, []⟩, 
  ⟨(some (26)), .move (.tmp 1), none, []⟩, 
  ⟨(some (27)), .move (.tmp 2), none, []⟩, 
  ⟨(some (28)), .call (.const (.fn (.func 96) [] [])) [.tmp 25, .tmp 26, .tmp 27], none, []⟩, 
  ⟨none, .store 2 (.tmp 6) (.tmp 28), none, []⟩, 
  ⟨(some (7)), .move (.const (.int .i64 0)), none, []⟩]
def k_curve_Yield : AFun := { params := 3, ntmps := 29, body := (.seq (.reg k_curve_Yield_r0 false) (.seq (.seq (.reg k_curve_Yield_r1 false) (.seq (.reg k_curve_Yield_r2 false) (.cond (.tmp 12) (.seq (.reg k_curve_Yield_r3 false) .ret) .skip))) (.seq (.seq (.reg k_curve_Yield_r4 false) (.cond (.tmp 17) (.seq (.reg k_curve_Yield_r5 false) .ret) .skip)) (.seq (.seq (.reg k_curve_Yield_r6 false) (.cond (.tmp 23) (.seq (.reg k_curve_Yield_r7 false) .ret) .skip)) (.seq (.reg k_curve_Yield_r8 false) .ret))))), res := [.cell 6 (some ((some (2)))), .tmp 7] }
theorem k_curve_Yield_ok : cfun Try.prog Try.f43 = k_curve_Yield := by kernel_rfl

def k_ref02_Yield_r0 : List AOper := [
  ⟨(some (3)), .box (.tmp 0), none, []⟩, 
  ⟨(some (6)), .box (.const (.agg [.int .i64 0, .int .i64 0])), none, []⟩, 
  ⟨(some (7)), .move (.const (.int .i64 0)), none, []⟩]
def k_ref02_Yield_r1 : List AOper := [
  ⟨(some (9)), .load (some (4)) (.tmp 3), none, []⟩, 
  ⟨(some (10)), .call (.const (.fn (.func 28) [] [])) [.tmp 9], none, []⟩, 
  ⟨(some (8)), .move (.tmp 10), none, []⟩]
def k_ref02_Yield_r2 : List AOper := [
  ⟨(some (11)), .move (.tmp 8), none, []⟩, 
  ⟨(some (12)), .bin .plain .neq (.tmp 11) (.const (.int .i64 0)), none, []⟩]
def k_ref02_Yield_r3 : List AOper := [
  ⟨(some (13)), .build [.int .i64 0, .int .i64 0] [], none, []⟩, 
  ⟨(some (14)), .move (.tmp 8), none, []⟩, 
  ⟨none, .store 2 (.tmp 6) (.tmp 13), none, []⟩, 
  ⟨(some (7)), .move (.tmp 14), none, []⟩]
def k_ref02_Yield_r4 : List AOper := [
  ⟨(some (15)), .move (.tmp 1), none, []⟩, 
  ⟨(some (16)), .call (.const (.fn (.func 56) [] [])) [.tmp 15, .const (.int .i64 0)], none, []⟩, 
  ⟨(some (17)), .not (.tmp 16), none, []⟩]
def k_ref02_Yield_r5 : List AOper := [
  ⟨(some (18)), .build [.int .i64 0, .int .i64 0] [], none, []⟩, 
  ⟨none, .store 2 (.tmp 6) (.tmp 18), none, []⟩, 
  ⟨(some (7)), .move (.const (.int .i64 2)), none, []⟩]
def k_ref02_Yield_r6 : List AOper := [
  ⟨(some (19)), .move (.tmp 2), none, []⟩, 
  ⟨(some (20)), .bin .plain .lss (.tmp 19) (.const (.int .i64 0)), none, []⟩, 
  ⟨(some (21)), .move (.tmp 20), none, []⟩, 
  ⟨(some (22)), .move (.tmp 2), (some (21, false)), []⟩, 
  ⟨(some (23)), .fieldAddr 1 (.tmp 3), (some (21, false)), []⟩, 
  ⟨(some (24)), .load none (.tmp 23), (some (21, false)), []⟩, 
  ⟨(some (25)), .len false (.tmp 24), (some (21, false)), []⟩, 
  ⟨(some (26)), .bin .plain .sub (.tmp 25) (.const (.int .i64 2)), (some (21, false)), []⟩, 
  ⟨(some (27)), .bin .plain .gtr (.tmp 22) (.tmp 26), (some (21, false)), []⟩, 
  ⟨(some (28)), .pick (.tmp 21) (.const (.bool true)) (.tmp 27), none, []⟩]
def k_ref02_Yield_r7 : List AOper := [
  ⟨(some (29)), .build [.int .i64 0, .int .i64 0] [], none, []⟩, 
  ⟨none, .store 2 (.tmp 6) (.tmp 29), none, []⟩, 
  ⟨(some (7)), .move (.const (.int .i64 7)), none, []⟩]
def k_ref02_Yield_r8 : List AOper := [
  ⟨(some (30)), .load (some (4)) (.tmp 3), none, []⟩, 
  ⟨(some (31)), .call (.const (.fn (.func 97) [] [])) [.tmp 30], none, []⟩, 
  ⟨(some (32)), .move (.tmp 2), none, []⟩, 
  ⟨(some (33)), .move (.tmp 1), none, []⟩, 
  ⟨(some (34)), .call (.const (.fn (.func 95) [] [])) [.tmp 31, .tmp 32, .tmp 33, .const (.int .i64 1000000)], none, []⟩, 
  ⟨none, .store 2 (.tmp 6) (.tmp 34), none, []⟩, 
  ⟨(some (7)), .move (.const (.int .i64 0)), none, []⟩]
def k_ref02_Yield : AFun := { params := 3, ntmps := 35, body := (.seq (.reg k_ref02_Yield_r0 false) (.seq (.seq (.reg k_ref02_Yield_r1 false) (.seq (.reg k_ref02_Yield_r2 false) (.cond (.tmp 12) (.seq (.reg k_ref02_Yield_r3 false) .ret) .skip))) (.seq (.seq (.reg k_ref02_Yield_r4 false) (.cond (.tmp 17) (.seq (.reg k_ref02_Yield_r5 false) .ret) .skip)) (.seq (.seq (.reg k_ref02_Yield_r6 false) (.cond (.tmp 28) (.seq (.reg k_ref02_Yield_r7 false) .ret) .skip)) (.seq (.reg k_ref02_Yield_r8 false) .ret))))), res := [.cell 6 (some ((some (2)))), .tmp 7] }
theorem k_ref02_Yield_ok : cfun Try.prog Try.f44 = k_ref02_Yield := by kernel_rfl

def k_curve_Gain_r0 : List AOper := [
  ⟨(some (3)), .box (.tmp 0), none, []⟩, 
  ⟨(some (6)), .box (.const (.agg [.int .i64 0, .int .i64 0])), none, []⟩, 
  ⟨(some (7)), .move (.const (.int .i64 0)), none, []⟩]
def k_curve_Gain_r1 : List AOper := [
  ⟨(some (11)), .load (some (4)) (.tmp 3), none, []⟩, 
  ⟨(some (12)), .call (.const (.fn (.func 27) [] [])) [.tmp 11], none, []⟩, 
  ⟨(some (8)), .move (.tmp 12), none, []⟩]
def k_curve_Gain_r2 : List AOper := [
  ⟨(some (13)), .move (.tmp 8), none, []⟩, 
  ⟨(some (14)), .bin .plain .neq (.tmp 13) (.const (.int .i64 0)), none, []⟩]
def k_curve_Gain_r3 : List AOper := [
  ⟨(some (15)), .build [.int .i64 0, .int .i64 0] [], none, []⟩, 
  ⟨(some (16)), .move (.tmp 8), none, []⟩, 
  ⟨none, .store 2 (.tmp 6) (.tmp 15), none, []⟩, 
  ⟨(some (7)), .move (.tmp 16), none, []⟩]
def k_curve_Gain_r4 : List AOper := [
  ⟨(some (17)), .fieldAddr 0 (.tmp 3), none, []⟩, 
  ⟨(some (18)), .load none (.tmp 17), none, []⟩, 
  ⟨(some (19)), .move (.tmp 1), none, []⟩, 
  ⟨(some (20)), .call (.const (.fn (.func 93) [] [])) [.tmp 18, .tmp 19], none, []⟩, 
  ⟨(some (21)), .not (.tmp 20), none, []⟩, 
  ⟨(some (22)), .move (.tmp 21), none, []⟩, 
  ⟨(some (23)), .fieldAddr 1 (.tmp 3), (some (22, false)), []⟩, 
  ⟨(some (24)), .load none (.tmp 23), (some (22, false)), []⟩, 
  ⟨(some (25)), .move (.tmp 2), (some (22, false)), []⟩, 
  ⟨(some (26)), .call (.const (.fn (.func 93) [] [])) [.tmp 24, .tmp 25], (some (22, false)), []⟩, 
  ⟨(some (27)), .not (.tmp 26), (some (22, false)), []⟩, 
  ⟨(some (28)), .pick (.tmp 22) (.const (.bool true)) (.tmp 27), none, []⟩]
def k_curve_Gain_r5 : List AOper := [
  ⟨(some (29)), .build [.int .i64 0, .int .i64 0] [], none, []⟩, 
  ⟨none, .store 2 (.tmp 6) (.tmp 29), none, []⟩, 
  ⟨(some (7)), .move (.const (.int .i64 7)), none, []⟩]
def k_curve_Gain_r6 : List AOper := [
  ⟨(some (30)), .load (some (4)) (.tmp 3), none, []⟩, 
  ⟨(some (31)), .move (.tmp 1), none, [0]⟩, 
  ⟨(some (32)), .fieldAddr 1 (.tmp 3), none, [0, 1]⟩, 
  ⟨(some (33)), .load none (.tmp 32), none, [0, 1]⟩, 
  ⟨(some (34)), .move (.tmp 2), none, [0, 1, 2, 3]⟩, 
  ⟨(some (35)), .indexAddr 1 (.tmp 33) (.tmp 34), none, [0, 1]⟩, 
  ⟨(some (36)), .load none (.tmp 35), none, [0, 1]⟩, 
  ⟨(some (37)), .call (.const (.fn (.func 94) [] [])) [.tmp 30, .tmp 31, .tmp 36], none, []⟩, 
  ⟨(some (38)), .load (some (4)) (.tmp 3), none, [0, 1, 2, 3, 4, 5, 6, 7]⟩, 
  ⟨(some (39)), .move (.tmp 1), none, [0, 1, 2, 3, 4, 5, 6, 7, 8]⟩, 
  ⟨(some (40)), .fieldAddr 1 (.tmp 3), none, [0, 1, 2, 3, 4, 5, 6, 7, 8, 9]⟩, 
  ⟨(some (41)), .load none (.tmp 40), none, [0, 1, 2, 3, 4, 5, 6, 7, 8, 9]⟩, 
  ⟨(some (42)), .move (.tmp 2), none, [0, 1, 2, 3, 4, 5, 6, 7, 8, 9, 10, 11]⟩, 
  ⟨(some (43)), .bin .plain .add (.tmp 42) (.const (.int .i64 1)), none, [0, 1, 2, 3, 4, 5, 6, 7, 8, 9, 10, 11]⟩, 
  ⟨(some (44)), .indexAddr 1 (.tmp 41) (.tmp 43), none, [0, 1, 2, 3, 4, 5, 6, 7, 8, 9]⟩, 
  ⟨(some (45)), .load none (.tmp 44), none, [0, 1, 2, 3, 4, 5, 6, 7, 8, 9]⟩, 
  ⟨(some (46)), .call (.const (.fn (.func 94) [] [])) [.tmp 38, .tmp 39, .tmp 45], none, []⟩, 
  ⟨(some (47)), .call (.const (.fn (.func 98) [] [])) [.tmp 37, .tmp 46], none, []⟩, 
  ⟨(some (9)), .box (.const (.agg [.int .i64 0, .int .i64 0])), none, [0, 1, 2, 3, 4, 5, 6, 7, 8, 9, 10, 11, 12, 13, 14, 15, 16, 17]⟩, 
  ⟨none, .store 2 (.tmp 9) (.tmp 47), none, []⟩]
def k_curve_Gain_r6s : List (List AOper) := [
  [
  ⟨(some (30)), .load (some (4)) (.tmp 3), none, []⟩, 
  ⟨(some (31)), .move (.tmp 1), none, [0]⟩, 
  ⟨(some (32)), .fieldAddr 1 (.tmp 3), none, [0, 1]⟩, 
  ⟨(some (33)), .load none (.tmp 32), none, [0, 1]⟩, 
  ⟨(some (34)), .move (.tmp 2), none, [0, 1, 2, 3]⟩, 
  ⟨(some (35)), .indexAddr 1 (.tmp 33) (.tmp 34), none, [0, 1]⟩, 
  ⟨(some (36)), .load none (.tmp 35), none, [0, 1]⟩, 
  ⟨(some (37)), .call (.const (.fn (.func 94) [] [])) [.tmp 30, .tmp 31, .tmp 36], none, []⟩, 
  ⟨(some (38)), .load (some (4)) (.tmp 3), none, [0, 1, 2, 3, 4, 5, 6, 7]⟩, 
  ⟨(some (39)), .move (.tmp 1), none, [0, 1, 2, 3, 4, 5, 6, 7, 8]⟩, 
  ⟨(some (40)), .fieldAddr 1 (.tmp 3), none, [0, 1, 2, 3, 4, 5, 6, 7, 8, 9]⟩, 
  ⟨(some (41)), .load none (.tmp 40), none, [0, 1, 2, 3, 4, 5, 6, 7, 8, 9]⟩, 
  ⟨(some (42)), .move (.tmp 2), none, [0, 1, 2, 3, 4, 5, 6, 7, 8, 9, 10, 11]⟩, 
  ⟨(some (43)), .bin .plain .add (.tmp 42) (.const (.int .i64 1)), none, [0, 1, 2, 3, 4, 5, 6, 7, 8, 9, 10, 11]⟩, 
  ⟨(some (44)), .indexAddr 1 (.tmp 41) (.tmp 43), none, [0, 1, 2, 3, 4, 5, 6, 7, 8, 9]⟩, 
  ⟨(some (45)), .load none (.tmp 44), none, [0, 1, 2, 3, 4, 5, 6, 7, 8, 9]⟩, 
  ⟨(some (46)), .call (.const (.fn (.func 94) [] [])) [.tmp 38, .tmp 39, .tmp 45], none, []⟩, 
  ⟨(some (47)), .call (.const (.fn (.func 98) [] [])) [.tmp 37, .tmp 46], none, []⟩, 
  ⟨(some (9)), .box (.const (.agg [.int .i64 0, .int .i64 0])), none, [0, 1, 2, 3, 4, 5, 6, 7, 8, 9, 10, 11, 12, 13, 14, 15, 16, 17]⟩], 
  [
  ⟨none, .store 2 (.tmp 9) (.tmp 47), none, []⟩]]
theorem k_curve_Gain_r6_sg : segs k_curve_Gain_r6 = k_curve_Gain_r6s := by kernel_rfl
theorem k_curve_Gain_r6_st : statOK k_curve_Gain_r6 = true := by kernel_rfl
def k_curve_Gain_r7 : List AOper := [
  ⟨(some (48)), .load (some (4)) (.tmp 3), none, []⟩, 
  ⟨(some (49)), .fieldAddr 0 (.tmp 3), none, [0]⟩, 
  ⟨(some (50)), .load none (.tmp 49), none, [0]⟩, 
  ⟨(some (51)), .move (.tmp 1), none, [0, 1, 2]⟩, 
  ⟨(some (52)), .indexAddr 1 (.tmp 50) (.tmp 51), none, [0]⟩, 
  ⟨(some (53)), .load none (.tmp 52), none, [0]⟩, 
  ⟨(some (54)), .move (.tmp 2), none, [0, 1, 2, 3, 4, 5]⟩, 
  ⟨(some (55)), .call (.const (.fn (.func 96) [] [])) [.tmp 48, .tmp 53, .tmp 54], none, []⟩, 
  ⟨(some (56)), .load (some (4)) (.tmp 3), none, [0, 1, 2, 3, 4, 5, 6, 7]⟩, 
  ⟨(some (57)), .fieldAddr 0 (.tmp 3), none, [0, 1, 2, 3, 4, 5, 6, 7, 8]⟩, 
  ⟨(some (58)), .load none (.tmp 57), none, [0, 1, 2, 3, 4, 5, 6, 7, 8]⟩, 
  ⟨(some (59)), .move (.tmp 1), none, [0, 1, 2, 3, 4, 5, 6, 7, 8, 9, 10]⟩, 
  ⟨(some (60)), .bin .plain .add (.tmp 59) (.const (.int .i64 1)), none, [0, 1, 2, 3, 4, 5, 6, 7, 8, 9, 10]⟩, 
  ⟨(some (61)), .indexAddr 1 (.tmp 58) (.tmp 60), none, [0, 1, 2, 3, 4, 5, 6, 7, 8]⟩, 
  ⟨(some (62)), .load none (.tmp 61), none, [0, 1, 2, 3, 4, 5, 6, 7, 8]⟩, 
  ⟨(some (63)), .move (.tmp 2), none, [0, 1, 2, 3, 4, 5, 6, 7, 8, 9, 10, 11, 12, 13, 14]⟩, 
  ⟨(some (64)), .call (.const (.fn (.func 96) [] [])) [.tmp 56, .tmp 62, .tmp 63], none, []⟩, 
  ⟨(some (65)), .call (.const (.fn (.func 98) [] [])) [.tmp 55, .tmp 64], none, []⟩, 
  ⟨(some (10)), .box (.const (.agg [.int .i64 0, .int .i64 0])), none, [0, 1, 2, 3, 4, 5, 6, 7, 8, 9, 10, 11, 12, 13, 14, 15, 16, 17]⟩, 
  ⟨none, .store 2 (.tmp 10) (.tmp 65), none, []⟩]
def k_curve_Gain_r7s : List (List AOper) := [
  [
  ⟨(some (48)), .load (some (4)) (.tmp 3), none, []⟩, 
  ⟨(some (49)), .fieldAddr 0 (.tmp 3), none, [0]⟩, 
  ⟨(some (50)), .load none (.tmp 49), none, [0]⟩, 
  ⟨(some (51)), .move (.tmp 1), none, [0, 1, 2]⟩, 
  ⟨(some (52)), .indexAddr 1 (.tmp 50) (.tmp 51), none, [0]⟩, 
  ⟨(some (53)), .load none (.tmp 52), none, [0]⟩, 
  ⟨(some (54)), .move (.tmp 2), none, [0, 1, 2, 3, 4, 5]⟩, 
  ⟨(some (55)), .call (.const (.fn (.func 96) [] [])) [.tmp 48, .tmp 53, .tmp 54], none, []⟩, 
  ⟨(some (56)), .load (some (4)) (.tmp 3), none, [0, 1, 2, 3, 4, 5, 6, 7]⟩, 
  ⟨(some (57)), .fieldAddr 0 (.tmp 3), none, [0, 1, 2, 3, 4, 5, 6, 7, 8]⟩, 
  ⟨(some (58)), .load none (.tmp 57), none, [0, 1, 2, 3, 4, 5, 6, 7, 8]⟩, 
  ⟨(some (59)), .move (.tmp 1), none, [0, 1, 2, 3, 4, 5, 6, 7, 8, 9, 10]⟩, 
  ⟨(some (60)), .bin .plain .add (.tmp 59) (.const (.int .i64 1)), none, [0, 1, 2, 3, 4, 5, 6, 7, 8, 9, 10]⟩, 
  ⟨(some (61)), .indexAddr 1 (.tmp 58) (.tmp 60), none, [0, 1, 2, 3, 4, 5, 6, 7, 8]⟩, 
  ⟨(some (62)), .load none (.tmp 61), none, [0, 1, 2, 3, 4, 5, 6, 7, 8]⟩, 
  ⟨(some (63)), .move (.tmp 2), none, [0, 1, 2, 3, 4, 5, 6, 7, 8, 9, 10, 11, 12, 13, 14]⟩, 
  ⟨(some (64)), .call (.const (.fn (.func 96) [] [])) [.tmp 56, .tmp 62, .tmp 63], none, []⟩, 
  ⟨(some (65)), .call (.const (.fn (.func 98) [] [])) [.tmp 55, .tmp 64], none, []⟩, 
  ⟨(some (10)), .box (.const (.agg [.int .i64 0, .int .i64 0])), none, [0, 1, 2, 3, 4, 5, 6, 7, 8, 9, 10, 11, 12, 13, 14, 15, 16, 17]⟩], 
  [
  ⟨none, .store 2 (.tmp 10) (.tmp 65), none, []⟩]]
theorem k_curve_Gain_r7_sg : segs k_curve_Gain_r7 = k_curve_Gain_r7s := by kernel_rfl
theorem k_curve_Gain_r7_st : statOK k_curve_Gain_r7 = true := by kernel_rfl
def k_curve_Gain_r8 : List AOper := [
  ⟨(some (66)), .fieldAddr 0 (.tmp 10), none, []⟩, 
  ⟨(some (67)), .load none (.tmp 66), none, []⟩, 
  ⟨(some (68)), .bin .plain .eql (.tmp 67) (.const (.int .i64 0)), none, []⟩]
def k_curve_Gain_r9 : List AOper := [
  ⟨(some (69)), .build [.int .i64 0, .int .i64 0] [], none, []⟩, 
  ⟨none, .store 2 (.tmp 6) (.tmp 69), none, []⟩, 
  ⟨(some (7)), .move (.const (.int .i64 15)), none, []⟩]
def k_curve_Gain_r10 : List AOper := [
  ⟨(some (70)), .fieldAddr 0 (.tmp 9), none, []⟩, 
  ⟨(some (71)), .load none (.tmp 70), none, []⟩, 
  ⟨(some (72)), .bin .plain .mul (.const (.int .i64 1000000)) (.tmp 71), none, []⟩, 
  ⟨(some (73)), .fieldAddr 1 (.tmp 10), none, [0, 1, 2]⟩, 
  ⟨(some (74)), .load none (.tmp 73), none, [0, 1, 2]⟩, 
  ⟨(some (75)), .bin .plain .quo (.tmp 72) (.tmp 74), none, []⟩, 
  ⟨(some (76)), .fieldAddr 1 (.tmp 9), none, [0, 1, 2, 3, 4, 5]⟩, 
  ⟨(some (77)), .load none (.tmp 76), none, [0, 1, 2, 3, 4, 5]⟩, 
  ⟨(some (78)), .bin .plain .mul (.const (.int .i64 1000000)) (.tmp 77), none, [0, 1, 2, 3, 4, 5]⟩, 
  ⟨(some (79)), .fieldAddr 0 (.tmp 10), none, [0, 1, 2, 3, 4, 5, 6, 7, 8]⟩, 
  ⟨(some (80)), .load none (.tmp 79), none, [0, 1, 2, 3, 4, 5, 6, 7, 8]⟩, 
  ⟨(some (81)), .call (.const (.fn (.func 85) [] [])) [.tmp 78, .tmp 80], none, [0, 1, 2, 3, 4, 5]⟩, 
  ⟨(some (82)), .build [.int .i64 0, .int .i64 0] [(0, 1, .tmp 75), (1, 1, .tmp 81)], none, []⟩, 
  ⟨none, .store 2 (.tmp 6) (.tmp 82), none, []⟩, 
  ⟨(some (7)), .move (.const (.int .i64 0)), none, []⟩]
def k_curve_Gain_r10s : List (List AOper) := [
  [
  ⟨(some (70)), .fieldAddr 0 (.tmp 9), none, []⟩, 
  ⟨(some (71)), .load none (.tmp 70), none, []⟩, 
  ⟨(some (72)), .bin .plain .mul (.const (.int .i64 1000000)) (.tmp 71), none, []⟩, 
  ⟨(some (73)), .fieldAddr 1 (.tmp 10), none, [0, 1, 2]⟩, 
  ⟨(some (74)), .load none (.tmp 73), none, [0, 1, 2]⟩, 
  ⟨(some (75)), .bin .plain .quo (.tmp 72) (.tmp 74), none, []⟩, 
  ⟨(some (76)), .fieldAddr 1 (.tmp 9), none, [0, 1, 2, 3, 4, 5]⟩, 
  ⟨(some (77)), .load none (.tmp 76), none, [0, 1, 2, 3, 4, 5]⟩, 
  ⟨(some (78)), .bin .plain .mul (.const (.int .i64 1000000)) (.tmp 77), none, [0, 1, 2, 3, 4, 5]⟩, 
  ⟨(some (79)), .fieldAddr 0 (.tmp 10), none, [0, 1, 2, 3, 4, 5, 6, 7, 8]⟩, 
  ⟨(some (80)), .load none (.tmp 79), none, [0, 1, 2, 3, 4, 5, 6, 7, 8]⟩, 
  ⟨(some (81)), .call (.const (.fn (.func 85) [] [])) [.tmp 78, .tmp 80], none, [0, 1, 2, 3, 4, 5]⟩], 
  [
  ⟨(some (82)), .build [.int .i64 0, .int .i64 0] [(0, 1, .tmp 75), (1, 1, .tmp 81)], none, []⟩], 
  [
  ⟨none, .store 2 (.tmp 6) (.tmp 82), none, []⟩], 
  [
  ⟨(some (7)), .move (.const (.int .i64 0)), none, []⟩]]
theorem k_curve_Gain_r10_sg : segs k_curve_Gain_r10 = k_curve_Gain_r10s := by kernel_rfl
theorem k_curve_Gain_r10_st : statOK k_curve_Gain_r10 = true := by kernel_rfl
def k_curve_Gain : AFun := { params := 3, ntmps := 83, body := (.seq (.reg k_curve_Gain_r0 false) (.seq (.seq (.reg k_curve_Gain_r1 false) (.seq (.reg k_curve_Gain_r2 false) (.cond (.tmp 14) (.seq (.reg k_curve_Gain_r3 false) .ret) .skip))) (.seq (.seq (.reg k_curve_Gain_r4 false) (.cond (.tmp 28) (.seq (.reg k_curve_Gain_r5 false) .ret) .skip)) (.seq (.reg k_curve_Gain_r6 true) (.seq (.reg k_curve_Gain_r7 true) (.seq (.seq (.reg k_curve_Gain_r8 false) (.cond (.tmp 68) (.seq (.reg k_curve_Gain_r9 false) .ret) .skip)) (.seq (.reg k_curve_Gain_r10 true) .ret))))))), res := [.cell 6 (some ((some (2)))), .tmp 7] }
theorem k_curve_Gain_ok : cfun Try.prog Try.f45 = k_curve_Gain := by kernel_rfl

def k_ref02_Gain_r0 : List AOper := [
  ⟨(some (3)), .box (.tmp 0), none, []⟩, 
  ⟨(some (6)), .box (.const (.agg [.int .i64 0, .int .i64 0])), none, []⟩, 
  ⟨(some (7)), .move (.const (.int .i64 0)), none, []⟩]
def k_ref02_Gain_r1 : List AOper := [
  ⟨(some (12)), .load (some (4)) (.tmp 3), none, []⟩, 
  ⟨(some (13)), .call (.const (.fn (.func 28) [] [])) [.tmp 12], none, []⟩, 
  ⟨(some (8)), .move (.tmp 13), none, []⟩]
def k_ref02_Gain_r2 : List AOper := [
  ⟨(some (14)), .move (.tmp 8), none, []⟩, 
  ⟨(some (15)), .bin .plain .neq (.tmp 14) (.const (.int .i64 0)), none, []⟩]
def k_ref02_Gain_r3 : List AOper := [
  ⟨(some (16)), .build [.int .i64 0, .int .i64 0] [], none, []⟩, 
  ⟨(some (17)), .move (.tmp 8), none, []⟩, 
  ⟨none, .store 2 (.tmp 6) (.tmp 16), none, []⟩, 
  ⟨(some (7)), .move (.tmp 17), none, []⟩]
def k_ref02_Gain_r4 : List AOper := [
  ⟨(some (18)), .move (.tmp 1), none, []⟩, 
  ⟨(some (19)), .bin .plain .lss (.tmp 18) (.const (.int .i64 0)), none, []⟩, 
  ⟨(some (20)), .move (.tmp 19), none, []⟩, 
  ⟨(some (21)), .move (.tmp 1), (some (20, false)), []⟩, 
  ⟨(some (22)), .fieldAddr 0 (.tmp 3), (some (20, false)), []⟩, 
  ⟨(some (23)), .load none (.tmp 22), (some (20, false)), []⟩, 
  ⟨(some (24)), .len false (.tmp 23), (some (20, false)), []⟩, 
  ⟨(some (25)), .bin .plain .sub (.tmp 24) (.const (.int .i64 2)), (some (20, false)), []⟩, 
  ⟨(some (26)), .bin .plain .gtr (.tmp 21) (.tmp 25), (some (20, false)), []⟩, 
  ⟨(some (27)), .pick (.tmp 20) (.const (.bool true)) (.tmp 26), none, []⟩, 
  ⟨(some (28)), .move (.tmp 27), none, []⟩, 
  ⟨(some (29)), .move (.tmp 2), (some (28, false)), []⟩, 
  ⟨(some (30)), .bin .plain .lss (.tmp 29) (.const (.int .i64 0)), (some (28, false)), []⟩, 
  ⟨(some (31)), .pick (.tmp 28) (.const (.bool true)) (.tmp 30), none, []⟩, 
  ⟨(some (32)), .move (.tmp 31), none, []⟩, 
  ⟨(some (33)), .move (.tmp 2), (some (32, false)), []⟩, 
  ⟨(some (34)), .fieldAddr 1 (.tmp 3), (some (32, false)), []⟩, 
  ⟨(some (35)), .load none (.tmp 34), (some (32, false)), []⟩, 
  ⟨(some (36)), .len false (.tmp 35), (some (32, false)), []⟩, 
  ⟨(some (37)), .bin .plain .sub (.tmp 36) (.const (.int .i64 2)), (some (32, false)), []⟩, 
  ⟨(some (38)), .bin .plain .gtr (.tmp 33) (.tmp 37), (some (32, false)), []⟩, 
  ⟨(some (39)), .pick (.tmp 32) (.const (.bool true)) (.tmp 38), none, []⟩]
def k_ref02_Gain_r5 : List AOper := [
  ⟨(some (40)), .build [.int .i64 0, .int .i64 0] [], none, []⟩, 
  ⟨none, .store 2 (.tmp 6) (.tmp 40), none, []⟩, 
  ⟨(some (7)), .move (.const (.int .i64 7)), none, []⟩]
def k_ref02_Gain_r6 : List AOper := [
  ⟨(some (41)), .load (some (4)) (.tmp 3), none, []⟩, 
  ⟨(some (42)), .move (.tmp 1), none, [0]⟩, 
  ⟨(some (43)), .fieldAddr 1 (.tmp 3), none, [0, 1]⟩, 
  ⟨(some (44)), .load none (.tmp 43), none, [0, 1]⟩, 
  ⟨(some (45)), .move (.tmp 2), none, [0, 1, 2, 3]⟩, 
  ⟨(some (46)), .indexAddr 1 (.tmp 44) (.tmp 45), none, [0, 1]⟩, 
  ⟨(some (47)), .load none (.tmp 46), none, [0, 1]⟩, 
  ⟨(some (48)), .call (.const (.fn (.func 95) [] [])) [.tmp 41, .tmp 42, .tmp 47, .const (.int .i64 1000)], none, []⟩, 
  ⟨(some (49)), .load (some (4)) (.tmp 3), none, [0, 1, 2, 3, 4, 5, 6, 7]⟩, 
  ⟨(some (50)), .move (.tmp 1), none, [0, 1, 2, 3, 4, 5, 6, 7, 8]⟩, 
  ⟨(some (51)), .fieldAddr 1 (.tmp 3), none, [0, 1, 2, 3, 4, 5, 6, 7, 8, 9]⟩, 
  ⟨(some (52)), .load none (.tmp 51), none, [0, 1, 2, 3, 4, 5, 6, 7, 8, 9]⟩, 
  ⟨(some (53)), .move (.tmp 2), none, [0, 1, 2, 3, 4, 5, 6, 7, 8, 9, 10, 11]⟩, 
  ⟨(some (54)), .bin .plain .add (.tmp 53) (.const (.int .i64 1)), none, [0, 1, 2, 3, 4, 5, 6, 7, 8, 9, 10, 11]⟩, 
  ⟨(some (55)), .indexAddr 1 (.tmp 52) (.tmp 54), none, [0, 1, 2, 3, 4, 5, 6, 7, 8, 9]⟩, 
  ⟨(some (56)), .load none (.tmp 55), none, [0, 1, 2, 3, 4, 5, 6, 7, 8, 9]⟩, 
  ⟨(some (57)), .call (.const (.fn (.func 95) [] [])) [.tmp 49, .tmp 50, .tmp 56, .const (.int .i64 1000)], none, []⟩, 
  ⟨(some (58)), .call (.const (.fn (.func 99) [] [])) [.tmp 48, .tmp 57], none, []⟩, 
  ⟨(some (9)), .box (.const (.agg [.int .i64 0, .int .i64 0])), none, [0, 1, 2, 3, 4, 5, 6, 7, 8, 9, 10, 11, 12, 13, 14, 15, 16, 17]⟩, 
  ⟨none, .store 2 (.tmp 9) (.tmp 58), none, []⟩]
def k_ref02_Gain_r6s : List (List AOper) := [
  [
  ⟨(some (41)), .load (some (4)) (.tmp 3), none, []⟩, 
  ⟨(some (42)), .move (.tmp 1), none, [0]⟩, 
  ⟨(some (43)), .fieldAddr 1 (.tmp 3), none, [0, 1]⟩, 
  ⟨(some (44)), .load none (.tmp 43), none, [0, 1]⟩, 
  ⟨(some (45)), .move (.tmp 2), none, [0, 1, 2, 3]⟩, 
  ⟨(some (46)), .indexAddr 1 (.tmp 44) (.tmp 45), none, [0, 1]⟩, 
  ⟨(some (47)), .load none (.tmp 46), none, [0, 1]⟩, 
  ⟨(some (48)), .call (.const (.fn (.func 95) [] [])) [.tmp 41, .tmp 42, .tmp 47, .const (.int .i64 1000)], none, []⟩, 
  ⟨(some (49)), .load (some (4)) (.tmp 3), none, [0, 1, 2, 3, 4, 5, 6, 7]⟩, 
  ⟨(some (50)), .move (.tmp 1), none, [0, 1, 2, 3, 4, 5, 6, 7, 8]⟩, 
  ⟨(some (51)), .fieldAddr 1 (.tmp 3), none, [0, 1, 2, 3, 4, 5, 6, 7, 8, 9]⟩, 
  ⟨(some (52)), .load none (.tmp 51), none, [0, 1, 2, 3, 4, 5, 6, 7, 8, 9]⟩, 
  ⟨(some (53)), .move (.tmp 2), none, [0, 1, 2, 3, 4, 5, 6, 7, 8, 9, 10, 11]⟩, 
  ⟨(some (54)), .bin .plain .add (.tmp 53) (.const (.int .i64 1)), none, [0, 1, 2, 3, 4, 5, 6, 7, 8, 9, 10, 11]⟩, 
  ⟨(some (55)), .indexAddr 1 (.tmp 52) (.tmp 54), none, [0, 1, 2, 3, 4, 5, 6, 7, 8, 9]⟩, 
  ⟨(some (56)), .load none (.tmp 55), none, [0, 1, 2, 3, 4, 5, 6, 7, 8, 9]⟩, 
  ⟨(some (57)), .call (.const (.fn (.func 95) [] [])) [.tmp 49, .tmp 50, .tmp 56, .const (.int .i64 1000)], none, []⟩, 
  ⟨(some (58)), .call (.const (.fn (.func 99) [] [])) [.tmp 48, .tmp 57], none, []⟩, 
  ⟨(some (9)), .box (.const (.agg [.int .i64 0, .int .i64 0])), none, [0, 1, 2, 3, 4, 5, 6, 7, 8, 9, 10, 11, 12, 13, 14, 15, 16, 17]⟩], 
  [
  ⟨none, .store 2 (.tmp 9) (.tmp 58), none, []⟩]]
theorem k_ref02_Gain_r6_sg : segs k_ref02_Gain_r6 = k_ref02_Gain_r6s := by kernel_rfl
theorem k_ref02_Gain_r6_st : statOK k_ref02_Gain_r6 = true := by kernel_rfl
def k_ref02_Gain_r7 : List AOper := [
  ⟨(some (59)), .load (some (4)) (.tmp 3), none, []⟩, 
  ⟨(some (60)), .call (.const (.fn (.func 97) [] [])) [.tmp 59], none, []⟩, 
  ⟨(some (10)), .box (.const (.agg [.nilsl, .nilsl, .nilsl, .nilsl])), none, []⟩, 
  ⟨none, .store 4 (.tmp 10) (.tmp 60), none, []⟩]
def k_ref02_Gain_r8 : List AOper := [
  ⟨(some (61)), .load (some (4)) (.tmp 10), none, []⟩, 
  ⟨(some (62)), .move (.tmp 2), none, [0]⟩, 
  ⟨(some (63)), .fieldAddr 0 (.tmp 3), none, [0, 1]⟩, 
  ⟨(some (64)), .load none (.tmp 63), none, [0, 1]⟩, 
  ⟨(some (65)), .move (.tmp 1), none, [0, 1, 2, 3]⟩, 
  ⟨(some (66)), .indexAddr 1 (.tmp 64) (.tmp 65), none, [0, 1]⟩, 
  ⟨(some (67)), .load none (.tmp 66), none, [0, 1]⟩, 
  ⟨(some (68)), .call (.const (.fn (.func 95) [] [])) [.tmp 61, .tmp 62, .tmp 67, .const (.int .i64 1000000)], none, []⟩, 
  ⟨(some (69)), .load (some (4)) (.tmp 10), none, [0, 1, 2, 3, 4, 5, 6, 7]⟩, 
  ⟨(some (70)), .move (.tmp 2), none, [0, 1, 2, 3, 4, 5, 6, 7, 8]⟩, 
  ⟨(some (71)), .fieldAddr 0 (.tmp 3), none, [0, 1, 2, 3, 4, 5, 6, 7, 8, 9]⟩, 
  ⟨(some (72)), .load none (.tmp 71), none, [0, 1, 2, 3, 4, 5, 6, 7, 8, 9]⟩, 
  ⟨(some (73)), .move (.tmp 1), none, [0, 1, 2, 3, 4, 5, 6, 7, 8, 9, 10, 11]⟩, 
  ⟨(some (74)), .bin .plain .add (.tmp 73) (.const (.int .i64 1)), none, [0, 1, 2, 3, 4, 5, 6, 7, 8, 9, 10, 11]⟩, 
  ⟨(some (75)), .indexAddr 1 (.tmp 72) (.tmp 74), none, [0, 1, 2, 3, 4, 5, 6, 7, 8, 9]⟩, 
  ⟨(some (76)), .load none (.tmp 75), none, [0, 1, 2, 3, 4, 5, 6, 7, 8, 9]⟩, 
  ⟨(some (77)), .call (.const (.fn (.func 95) [] [])) [.tmp 69, .tmp 70, .tmp 76, .const (.int .i64 1000000)], none, []⟩, 
  ⟨(some (78)), .call (.const (.fn (.func 99) [] [])) [.tmp 68, .tmp 77], none, []⟩, 
  ⟨(some (11)), .box (.const (.agg [.int .i64 0, .int .i64 0])), none, [0, 1, 2, 3, 4, 5, 6, 7, 8, 9, 10, 11, 12, 13, 14, 15, 16, 17]⟩, 
  ⟨none, .store 2 (.tmp 11) (.tmp 78), none, []⟩]
def k_ref02_Gain_r8s : List (List AOper) := [
  [
  ⟨(some (61)), .load (some (4)) (.tmp 10), none, []⟩, 
  ⟨(some (62)), .move (.tmp 2), none, [0]⟩, 
  ⟨(some (63)), .fieldAddr 0 (.tmp 3), none, [0, 1]⟩, 
  ⟨(some (64)), .load none (.tmp 63), none, [0, 1]⟩, 
  ⟨(some (65)), .move (.tmp 1), none, [0, 1, 2, 3]⟩, 
  ⟨(some (66)), .indexAddr 1 (.tmp 64) (.tmp 65), none, [0, 1]⟩, 
  ⟨(some (67)), .load none (.tmp 66), none, [0, 1]⟩, 
  ⟨(some (68)), .call (.const (.fn (.func 95) [] [])) [.tmp 61, .tmp 62, .tmp 67, .const (.int .i64 1000000)], none, []⟩, 
  ⟨(some (69)), .load (some (4)) (.tmp 10), none, [0, 1, 2, 3, 4, 5, 6, 7]⟩, 
  ⟨(some (70)), .move (.tmp 2), none, [0, 1, 2, 3, 4, 5, 6, 7, 8]⟩, 
  ⟨(some (71)), .fieldAddr 0 (.tmp 3), none, [0, 1, 2, 3, 4, 5, 6, 7, 8, 9]⟩, 
  ⟨(some (72)), .load none (.tmp 71), none, [0, 1, 2, 3, 4, 5, 6, 7, 8, 9]⟩, 
  ⟨(some (73)), .move (.tmp 1), none, [0, 1, 2, 3, 4, 5, 6, 7, 8, 9, 10, 11]⟩, 
  ⟨(some (74)), .bin .plain .add (.tmp 73) (.const (.int .i64 1)), none, [0, 1, 2, 3, 4, 5, 6, 7, 8, 9, 10, 11]⟩, 
  ⟨(some (75)), .indexAddr 1 (.tmp 72) (.tmp 74), none, [0, 1, 2, 3, 4, 5, 6, 7, 8, 9]⟩, 
  ⟨(some (76)), .load none (.tmp 75), none, [0, 1, 2, 3, 4, 5, 6, 7, 8, 9]⟩, 
  ⟨(some (77)), .call (.const (.fn (.func 95) [] [])) [.tmp 69, .tmp 70, .tmp 76, .const (.int .i64 1000000)], none, []⟩, 
  ⟨(some (78)), .call (.const (.fn (.func 99) [] [])) [.tmp 68, .tmp 77], none, []⟩, 
  ⟨(some (11)), .box (.const (.agg [.int .i64 0, .int .i64 0])), none, [0, 1, 2, 3, 4, 5, 6, 7, 8, 9, 10, 11, 12, 13, 14, 15, 16, 17]⟩], 
  [
  ⟨none, .store 2 (.tmp 11) (.tmp 78), none, []⟩]]
theorem k_ref02_Gain_r8_sg : segs k_ref02_Gain_r8 = k_ref02_Gain_r8s := by kernel_rfl
theorem k_ref02_Gain_r8_st : statOK k_ref02_Gain_r8 = true := by kernel_rfl
def k_ref02_Gain_r9 : List AOper := [
  ⟨(some (79)), .fieldAddr 0 (.tmp 11), none, []⟩, 
  ⟨(some (80)), .load none (.tmp 79), none, []⟩, 
  ⟨(some (81)), .bin .plain .eql (.tmp 80) (.const (.int .i64 0)), none, []⟩]
def k_ref02_Gain_r10 : List AOper := [
  ⟨(some (82)), .build [.int .i64 0, .int .i64 0] [], none, []⟩, 
  ⟨none, .store 2 (.tmp 6) (.tmp 82), none, []⟩, 
  ⟨(some (7)), .move (.const (.int .i64 15)), none, []⟩]
def k_ref02_Gain_r11 : List AOper := [
  ⟨(some (83)), .fieldAddr 0 (.tmp 9), none, []⟩, 
  ⟨(some (84)), .load none (.tmp 83), none, []⟩, 
  ⟨(some (85)), .bin .plain .mul (.const (.int .i64 1000000)) (.tmp 84), none, []⟩, 
  ⟨(some (86)), .fieldAddr 1 (.tmp 11), none, [0, 1, 2]⟩, 
  ⟨(some (87)), .load none (.tmp 86), none, [0, 1, 2]⟩, 
  ⟨(some (88)), .call (.const (.fn (.func 87) [] [])) [.tmp 85, .tmp 87], none, []⟩, 
  ⟨(some (89)), .fieldAddr 1 (.tmp 9), none, [0, 1, 2, 3, 4, 5]⟩, 
  ⟨(some (90)), .load none (.tmp 89), none, [0, 1, 2, 3, 4, 5]⟩, 
  ⟨(some (91)), .bin .plain .mul (.const (.int .i64 1000000)) (.tmp 90), none, [0, 1, 2, 3, 4, 5]⟩, 
  ⟨(some (92)), .fieldAddr 0 (.tmp 11), none, [0, 1, 2, 3, 4, 5, 6, 7, 8]⟩, 
  ⟨(some (93)), .load none (.tmp 92), none, [0, 1, 2, 3, 4, 5, 6, 7, 8]⟩, 
  ⟨(some (94)), .call (.const (.fn (.func 89) [] [])) [.tmp 91, .tmp 93], none, []⟩, 
  ⟨(some (95)), .build [.int .i64 0, .int .i64 0] [(0, 1, .tmp 88), (1, 1, .tmp 94)], none, []⟩, 
  ⟨none, .store 2 (.tmp 6) (.tmp 95), none, []⟩, 
  ⟨(some (7)), .move (.const (.int .i64 0)), none, []⟩]
def k_ref02_Gain_r11s : List (List AOper) := [
  [
  ⟨(some (83)), .fieldAddr 0 (.tmp 9), none, []⟩, 
  ⟨(some (84)), .load none (.tmp 83), none, []⟩, 
  ⟨(some (85)), .bin .plain .mul (.const (.int .i64 1000000)) (.tmp 84), none, []⟩, 
  ⟨(some (86)), .fieldAddr 1 (.tmp 11), none, [0, 1, 2]⟩, 
  ⟨(some (87)), .load none (.tmp 86), none, [0, 1, 2]⟩, 
  ⟨(some (88)), .call (.const (.fn (.func 87) [] [])) [.tmp 85, .tmp 87], none, []⟩, 
  ⟨(some (89)), .fieldAddr 1 (.tmp 9), none, [0, 1, 2, 3, 4, 5]⟩, 
  ⟨(some (90)), .load none (.tmp 89), none, [0, 1, 2, 3, 4, 5]⟩, 
  ⟨(some (91)), .bin .plain .mul (.const (.int .i64 1000000)) (.tmp 90), none, [0, 1, 2, 3, 4, 5]⟩, 
  ⟨(some (92)), .fieldAddr 0 (.tmp 11), none, [0, 1, 2, 3, 4, 5, 6, 7, 8]⟩, 
  ⟨(some (93)), .load none (.tmp 92), none, [0, 1, 2, 3, 4, 5, 6, 7, 8]⟩], 
  [
  ⟨(some (94)), .call (.const (.fn (.func 89) [] [])) [.tmp 91, .tmp 93], none, []⟩], 
  [
  ⟨(some (95)), .build [.int .i64 0, .int .i64 0] [(0, 1, .tmp 88), (1, 1, .tmp 94)], none, []⟩], 
  [
  ⟨none, .store 2 (.tmp 6) (.tmp 95), none, []⟩], 
  [
  ⟨(some (7)), .move (.const (.int .i64 0)), none, []⟩]]
theorem k_ref02_Gain_r11_sg : segs k_ref02_Gain_r11 = k_ref02_Gain_r11s := by kernel_rfl
theorem k_ref02_Gain_r11_st : statOK k_ref02_Gain_r11 = true := by kernel_rfl
def k_ref02_Gain : AFun := { params := 3, ntmps := 96, body := (.seq (.reg k_ref02_Gain_r0 false) (.seq (.seq (.reg k_ref02_Gain_r1 false) (.seq (.reg k_ref02_Gain_r2 false) (.cond (.tmp 15) (.seq (.reg k_ref02_Gain_r3 false) .ret) .skip))) (.seq (.seq (.reg k_ref02_Gain_r4 false) (.cond (.tmp 39) (.seq (.reg k_ref02_Gain_r5 false) .ret) .skip)) (.seq (.reg k_ref02_Gain_r6 true) (.seq (.reg k_ref02_Gain_r7 false) (.seq (.reg k_ref02_Gain_r8 true) (.seq (.seq (.reg k_ref02_Gain_r9 false) (.cond (.tmp 81) (.seq (.reg k_ref02_Gain_r10 false) .ret) .skip)) (.seq (.reg k_ref02_Gain_r11 true) .ret)))))))), res := [.cell 6 (some ((some (2)))), .tmp 7] }
theorem k_ref02_Gain_ok : cfun Try.prog Try.f46 = k_ref02_Gain := by kernel_rfl

def k_curve_isCell_r0 : List AOper := [
  ⟨(some (4)), .move (.const (.bool false)), none, []⟩]
def k_curve_isCell_r1 : List AOper := [
  ⟨(some (5)), .move (.tmp 1), none, []⟩, 
  ⟨(some (6)), .move (.tmp 0), none, []⟩, 
  ⟨(some (7)), .len false (.tmp 6), none, []⟩, 
  ⟨(some (8)), .bin .plain .sub (.tmp 7) (.const (.int .i64 2)), none, []⟩, 
  ⟨(some (9)), .call (.const (.fn (.func 111) [] [])) [.tmp 5, .const (.int .i64 0), .tmp 8], none, []⟩, 
  ⟨(some (4)), .move (.tmp 9), none, []⟩]
def k_curve_isCell : AFun := { params := 2, ntmps := 10, body := (.seq (.reg k_curve_isCell_r0 false) (.seq (.reg k_curve_isCell_r1 false) .ret)), res := [.tmp 4] }
theorem k_curve_isCell_ok : cfun Try.prog Try.f93 = k_curve_isCell := by kernel_rfl

def k_curve_slope_r0 : List AOper := [
  ⟨(some (3)), .box (.tmp 0), none, []⟩, 
  ⟨(some (6)), .box (.const (.agg [.int .i64 0, .int .i64 0])), none, []⟩]
def k_curve_slope_r1 : List AOper := [
  ⟨(some (7)), .fieldAddr 2 (.tmp 3), none, []⟩, 
  ⟨(some (8)), .load none (.tmp 7), none, []⟩, 
  ⟨(some (9)), .fieldAddr 3 (.tmp 3), none, []⟩, 
  ⟨(some (10)), .load none (.tmp 9), none, []⟩, 
  ⟨(some (11)), .fieldAddr 0 (.tmp 3), none, []⟩, 
  ⟨(some (12)), .load none (.tmp 11), none, []⟩, 
  ⟨(some (13)), .fieldAddr 1 (.tmp 3), none, []⟩, 
  ⟨(some (14)), .load none (.tmp 13), none, []⟩, 
  ⟨(some (15)), .move (.tmp 1), none, []⟩, 
  ⟨(some (16)), .move (.tmp 2), none, []⟩, 
  ⟨(some (17)), .call (.const (.fn (.func 118) [] [])) [.tmp 8, .tmp 10, .tmp 12, .tmp 14, .tmp 15, .tmp 16, .const (.int .i64 1000)], none, []⟩, 
  ⟨none, .store 2 (.tmp 6) (.tmp 17), none, []⟩]
def k_curve_slope : AFun := { params := 3, ntmps := 18, body := (.seq (.reg k_curve_slope_r0 false) (.seq (.reg k_curve_slope_r1 false) .ret)), res := [.cell 6 (some ((some (2))))] }
theorem k_curve_slope_ok : cfun Try.prog Try.f94 = k_curve_slope := by kernel_rfl

def k_ref02_slope_r0 : List AOper := [
  ⟨(some (4)), .box (.tmp 0), none, []⟩, 
  ⟨(some (8)), .box (.const (.agg [.int .i64 0, .int .i64 0])), none, []⟩]
def k_ref02_slope_r1 : List AOper := [
  ⟨(some (13)), .fieldAddr 1 (.tmp 4), none, []⟩, 
  ⟨(some (14)), .load none (.tmp 13), none, []⟩, 
  ⟨(some (15)), .move (.tmp 2), none, []⟩, 
  ⟨(some (16)), .call (.const (.fn (.func 86) [] [])) [.tmp 14, .tmp 15], none, []⟩, 
  ⟨(some (9)), .box (.const (.agg [.int .i64 0, .int .i64 0, .int .i64 0])), none, []⟩, 
  ⟨none, .store 3 (.tmp 9) (.tmp 16), none, []⟩]
def k_ref02_slope_r2 : List AOper := [
  ⟨(some (17)), .fieldAddr 0 (.tmp 4), none, []⟩, 
  ⟨(some (18)), .load none (.tmp 17), none, []⟩, 
  ⟨(some (19)), .move (.tmp 1), none, [0, 1]⟩, 
  ⟨(some (20)), .bin .plain .add (.tmp 19) (.const (.int .i64 1)), none, [0, 1]⟩, 
  ⟨(some (21)), .indexAddr 1 (.tmp 18) (.tmp 20), none, []⟩, 
  ⟨(some (22)), .load none (.tmp 21), none, []⟩, 
  ⟨(some (23)), .fieldAddr 0 (.tmp 4), none, [0, 1, 2, 3, 4, 5]⟩, 
  ⟨(some (24)), .load none (.tmp 23), none, [0, 1, 2, 3, 4, 5]⟩, 
  ⟨(some (25)), .move (.tmp 1), none, [0, 1, 2, 3, 4, 5, 6, 7]⟩, 
  ⟨(some (26)), .indexAddr 1 (.tmp 24) (.tmp 25), none, [0, 1, 2, 3, 4, 5]⟩, 
  ⟨(some (27)), .load none (.tmp 26), none, [0, 1, 2, 3, 4, 5]⟩, 
  ⟨(some (28)), .bin .plain .sub (.tmp 22) (.tmp 27), none, []⟩, 
  ⟨(some (10)), .move (.tmp 28), none, []⟩]
def k_ref02_slope_r2s : List (List AOper) := [
  [
  ⟨(some (17)), .fieldAddr 0 (.tmp 4), none, []⟩, 
  ⟨(some (18)), .load none (.tmp 17), none, []⟩, 
  ⟨(some (19)), .move (.tmp 1), none, [0, 1]⟩, 
  ⟨(some (20)), .bin .plain .add (.tmp 19) (.const (.int .i64 1)), none, [0, 1]⟩, 
  ⟨(some (21)), .indexAddr 1 (.tmp 18) (.tmp 20), none, []⟩, 
  ⟨(some (22)), .load none (.tmp 21), none, []⟩, 
  ⟨(some (23)), .fieldAddr 0 (.tmp 4), none, [0, 1, 2, 3, 4, 5]⟩, 
  ⟨(some (24)), .load none (.tmp 23), none, [0, 1, 2, 3, 4, 5]⟩, 
  ⟨(some (25)), .move (.tmp 1), none, [0, 1, 2, 3, 4, 5, 6, 7]⟩, 
  ⟨(some (26)), .indexAddr 1 (.tmp 24) (.tmp 25), none, [0, 1, 2, 3, 4, 5]⟩, 
  ⟨(some (27)), .load none (.tmp 26), none, [0, 1, 2, 3, 4, 5]⟩], 
  [
  ⟨(some (28)), .bin .plain .sub (.tmp 22) (.tmp 27), none, []⟩], 
  [
  ⟨(some (10)), .move (.tmp 28), none, []⟩]]
theorem k_ref02_slope_r2_sg : segs k_ref02_slope_r2 = k_ref02_slope_r2s := by kernel_rfl
theorem k_ref02_slope_r2_st : statOK k_ref02_slope_r2 = true := by kernel_rfl
def k_ref02_slope_r3 : List AOper := [
  ⟨(some (29)), .fieldAddr 2 (.tmp 9), none, []⟩, 
  ⟨(some (30)), .load none (.tmp 29), none, []⟩, 
  ⟨(some (31)), .fieldAddr 1 (.tmp 9), none, [0, 1]⟩, 
  ⟨(some (32)), .load none (.tmp 31), none, [0, 1]⟩, 
  ⟨(some (33)), .bin .plain .sub (.tmp 30) (.tmp 32), none, []⟩, 
  ⟨(some (34)), .fieldAddr 2 (.tmp 4), none, [0, 1, 2, 3, 4]⟩, 
  ⟨(some (35)), .load none (.tmp 34), none, [0, 1, 2, 3, 4]⟩, 
  ⟨(some (36)), .move (.tmp 1), none, [0, 1, 2, 3, 4, 5, 6]⟩, 
  ⟨(some (37)), .bin .plain .add (.tmp 36) (.const (.int .i64 1)), none, [0, 1, 2, 3, 4, 5, 6]⟩, 
  ⟨(some (38)), .indexAddr 1 (.tmp 35) (.tmp 37), none, [0, 1, 2, 3, 4]⟩, 
  ⟨(some (39)), .load none (.tmp 38), none, [0, 1, 2, 3, 4]⟩, 
  ⟨(some (40)), .fieldAddr 0 (.tmp 9), none, [0, 1, 2, 3, 4, 5, 6, 7, 8, 9, 10]⟩, 
  ⟨(some (41)), .load none (.tmp 40), none, [0, 1, 2, 3, 4, 5, 6, 7, 8, 9, 10]⟩, 
  ⟨(some (42)), .indexAddr 1 (.tmp 39) (.tmp 41), none, [0, 1, 2, 3, 4]⟩, 
  ⟨(some (43)), .load none (.tmp 42), none, [0, 1, 2, 3, 4]⟩, 
  ⟨(some (44)), .fieldAddr 3 (.tmp 4), none, [0, 1, 2, 3, 4, 5, 6, 7, 8, 9, 10, 11, 12, 13, 14]⟩, 
  ⟨(some (45)), .load none (.tmp 44), none, [0, 1, 2, 3, 4, 5, 6, 7, 8, 9, 10, 11, 12, 13, 14]⟩, 
  ⟨(some (46)), .move (.tmp 1), none, [0, 1, 2, 3, 4, 5, 6, 7, 8, 9, 10, 11, 12, 13, 14, 15, 16]⟩, 
  ⟨(some (47)), .indexAddr 1 (.tmp 45) (.tmp 46), none, [0, 1, 2, 3, 4, 5, 6, 7, 8, 9, 10, 11, 12, 13, 14]⟩, 
  ⟨(some (48)), .load none (.tmp 47), none, [0, 1, 2, 3, 4, 5, 6, 7, 8, 9, 10, 11, 12, 13, 14]⟩, 
  ⟨(some (49)), .fieldAddr 0 (.tmp 9), none, [0, 1, 2, 3, 4, 5, 6, 7, 8, 9, 10, 11, 12, 13, 14, 15, 16, 17, 18, 19]⟩, 
  ⟨(some (50)), .load none (.tmp 49), none, [0, 1, 2, 3, 4, 5, 6, 7, 8, 9, 10, 11, 12, 13, 14, 15, 16, 17, 18, 19]⟩, 
  ⟨(some (51)), .indexAddr 1 (.tmp 48) (.tmp 50), none, [0, 1, 2, 3, 4, 5, 6, 7, 8, 9, 10, 11, 12, 13, 14]⟩, 
  ⟨(some (52)), .load none (.tmp 51), none, [0, 1, 2, 3, 4, 5, 6, 7, 8, 9, 10, 11, 12, 13, 14]⟩, 
  ⟨(some (53)), .bin .plain .sub (.tmp 43) (.tmp 52), none, [0, 1, 2, 3, 4]⟩, 
  ⟨(some (54)), .minmax true [.const (.int .i64 0), .tmp 53], none, [0, 1, 2, 3, 4]⟩, 
  ⟨(some (55)), .bin .plain .mul (.tmp 33) (.tmp 54), none, []⟩, 
  ⟨(some (11)), .move (.tmp 55), none, []⟩]
def k_ref02_slope_r3s : List (List AOper) := [
  [
  ⟨(some (29)), .fieldAddr 2 (.tmp 9), none, []⟩, 
  ⟨(some (30)), .load none (.tmp 29), none, []⟩, 
  ⟨(some (31)), .fieldAddr 1 (.tmp 9), none, [0, 1]⟩, 
  ⟨(some (32)), .load none (.tmp 31), none, [0, 1]⟩, 
  ⟨(some (33)), .bin .plain .sub (.tmp 30) (.tmp 32), none, []⟩, 
  ⟨(some (34)), .fieldAddr 2 (.tmp 4), none, [0, 1, 2, 3, 4]⟩, 
  ⟨(some (35)), .load none (.tmp 34), none, [0, 1, 2, 3, 4]⟩, 
  ⟨(some (36)), .move (.tmp 1), none, [0, 1, 2, 3, 4, 5, 6]⟩, 
  ⟨(some (37)), .bin .plain .add (.tmp 36) (.const (.int .i64 1)), none, [0, 1, 2, 3, 4, 5, 6]⟩, 
  ⟨(some (38)), .indexAddr 1 (.tmp 35) (.tmp 37), none, [0, 1, 2, 3, 4]⟩, 
  ⟨(some (39)), .load none (.tmp 38), none, [0, 1, 2, 3, 4]⟩, 
  ⟨(some (40)), .fieldAddr 0 (.tmp 9), none, [0, 1, 2, 3, 4, 5, 6, 7, 8, 9, 10]⟩, 
  ⟨(some (41)), .load none (.tmp 40), none, [0, 1, 2, 3, 4, 5, 6, 7, 8, 9, 10]⟩, 
  ⟨(some (42)), .indexAddr 1 (.tmp 39) (.tmp 41), none, [0, 1, 2, 3, 4]⟩, 
  ⟨(some (43)), .load none (.tmp 42), none, [0, 1, 2, 3, 4]⟩, 
  ⟨(some (44)), .fieldAddr 3 (.tmp 4), none, [0, 1, 2, 3, 4, 5, 6, 7, 8, 9, 10, 11, 12, 13, 14]⟩, 
  ⟨(some (45)), .load none (.tmp 44), none, [0, 1, 2, 3, 4, 5, 6, 7, 8, 9, 10, 11, 12, 13, 14]⟩, 
  ⟨(some (46)), .move (.tmp 1), none, [0, 1, 2, 3, 4, 5, 6, 7, 8, 9, 10, 11, 12, 13, 14, 15, 16]⟩, 
  ⟨(some (47)), .indexAddr 1 (.tmp 45) (.tmp 46), none, [0, 1, 2, 3, 4, 5, 6, 7, 8, 9, 10, 11, 12, 13, 14]⟩, 
  ⟨(some (48)), .load none (.tmp 47), none, [0, 1, 2, 3, 4, 5, 6, 7, 8, 9, 10, 11, 12, 13, 14]⟩, 
  ⟨(some (49)), .fieldAddr 0 (.tmp 9), none, [0, 1, 2, 3, 4, 5, 6, 7, 8, 9, 10, 11, 12, 13, 14, 15, 16, 17, 18, 19]⟩, 
  ⟨(some (50)), .load none (.tmp 49), none, [0, 1, 2, 3, 4, 5, 6, 7, 8, 9, 10, 11, 12, 13, 14, 15, 16, 17, 18, 19]⟩, 
  ⟨(some (51)), .indexAddr 1 (.tmp 48) (.tmp 50), none, [0, 1, 2, 3, 4, 5, 6, 7, 8, 9, 10, 11, 12, 13, 14]⟩, 
  ⟨(some (52)), .load none (.tmp 51), none, [0, 1, 2, 3, 4, 5, 6, 7, 8, 9, 10, 11, 12, 13, 14]⟩, 
  ⟨(some (53)), .bin .plain .sub (.tmp 43) (.tmp 52), none, [0, 1, 2, 3, 4]⟩, 
  ⟨(some (54)), .minmax true [.const (.int .i64 0), .tmp 53], none, [0, 1, 2, 3, 4]⟩], 
  [
  ⟨(some (55)), .bin .plain .mul (.tmp 33) (.tmp 54), none, []⟩], 
  [
  ⟨(some (11)), .move (.tmp 55), none, []⟩]]
theorem k_ref02_slope_r3_sg : segs k_ref02_slope_r3 = k_ref02_slope_r3s := by kernel_rfl
theorem k_ref02_slope_r3_st : statOK k_ref02_slope_r3 = true := by kernel_rfl
def k_ref02_slope_r4 : List AOper := [
  ⟨(some (56)), .fieldAddr 2 (.tmp 9), none, []⟩, 
  ⟨(some (57)), .load none (.tmp 56), none, []⟩, 
  ⟨(some (58)), .fieldAddr 1 (.tmp 9), none, [0, 1]⟩, 
  ⟨(some (59)), .load none (.tmp 58), none, [0, 1]⟩, 
  ⟨(some (60)), .bin .plain .sub (.tmp 57) (.tmp 59), none, []⟩, 
  ⟨(some (61)), .fieldAddr 3 (.tmp 4), none, [0, 1, 2, 3, 4]⟩, 
  ⟨(some (62)), .load none (.tmp 61), none, [0, 1, 2, 3, 4]⟩, 
  ⟨(some (63)), .move (.tmp 1), none, [0, 1, 2, 3, 4, 5, 6]⟩, 
  ⟨(some (64)), .bin .plain .add (.tmp 63) (.const (.int .i64 1)), none, [0, 1, 2, 3, 4, 5, 6]⟩, 
  ⟨(some (65)), .indexAddr 1 (.tmp 62) (.tmp 64), none, [0, 1, 2, 3, 4]⟩, 
  ⟨(some (66)), .load none (.tmp 65), none, [0, 1, 2, 3, 4]⟩, 
  ⟨(some (67)), .fieldAddr 0 (.tmp 9), none, [0, 1, 2, 3, 4, 5, 6, 7, 8, 9, 10]⟩, 
  ⟨(some (68)), .load none (.tmp 67), none, [0, 1, 2, 3, 4, 5, 6, 7, 8, 9, 10]⟩, 
  ⟨(some (69)), .indexAddr 1 (.tmp 66) (.tmp 68), none, [0, 1, 2, 3, 4]⟩, 
  ⟨(some (70)), .load none (.tmp 69), none, [0, 1, 2, 3, 4]⟩, 
  ⟨(some (71)), .fieldAddr 2 (.tmp 4), none, [0, 1, 2, 3, 4, 5, 6, 7, 8, 9, 10, 11, 12, 13, 14]⟩, 
  ⟨(some (72)), .load none (.tmp 71), none, [0, 1, 2, 3, 4, 5, 6, 7, 8, 9, 10, 11, 12, 13, 14]⟩, 
  ⟨(some (73)), .move (.tmp 1), none, [0, 1, 2, 3, 4, 5, 6, 7, 8, 9, 10, 11, 12, 13, 14, 15, 16]⟩, 
  ⟨(some (74)), .indexAddr 1 (.tmp 72) (.tmp 73), none, [0, 1, 2, 3, 4, 5, 6, 7, 8, 9, 10, 11, 12, 13, 14]⟩, 
  ⟨(some (75)), .load none (.tmp 74), none, [0, 1, 2, 3, 4, 5, 6, 7, 8, 9, 10, 11, 12, 13, 14]⟩, 
  ⟨(some (76)), .fieldAddr 0 (.tmp 9), none, [0, 1, 2, 3, 4, 5, 6, 7, 8, 9, 10, 11, 12, 13, 14, 15, 16, 17, 18, 19]⟩, 
  ⟨(some (77)), .load none (.tmp 76), none, [0, 1, 2, 3, 4, 5, 6, 7, 8, 9, 10, 11, 12, 13, 14, 15, 16, 17, 18, 19]⟩, 
  ⟨(some (78)), .indexAddr 1 (.tmp 75) (.tmp 77), none, [0, 1, 2, 3, 4, 5, 6, 7, 8, 9, 10, 11, 12, 13, 14]⟩, 
  ⟨(some (79)), .load none (.tmp 78), none, [0, 1, 2, 3, 4, 5, 6, 7, 8, 9, 10, 11, 12, 13, 14]⟩, 
  ⟨(some (80)), .bin .plain .sub (.tmp 70) (.tmp 79), none, [0, 1, 2, 3, 4]⟩, 
  ⟨(some (81)), .bin .plain .mul (.tmp 60) (.tmp 80), none, []⟩, 
  ⟨(some (12)), .move (.tmp 81), none, []⟩]
def k_ref02_slope_r4s : List (List AOper) := [
  [
  ⟨(some (56)), .fieldAddr 2 (.tmp 9), none, []⟩, 
  ⟨(some (57)), .load none (.tmp 56), none, []⟩, 
  ⟨(some (58)), .fieldAddr 1 (.tmp 9), none, [0, 1]⟩, 
  ⟨(some (59)), .load none (.tmp 58), none, [0, 1]⟩, 
  ⟨(some (60)), .bin .plain .sub (.tmp 57) (.tmp 59), none, []⟩, 
  ⟨(some (61)), .fieldAddr 3 (.tmp 4), none, [0, 1, 2, 3, 4]⟩, 
  ⟨(some (62)), .load none (.tmp 61), none, [0, 1, 2, 3, 4]⟩, 
  ⟨(some (63)), .move (.tmp 1), none, [0, 1, 2, 3, 4, 5, 6]⟩, 
  ⟨(some (64)), .bin .plain .add (.tmp 63) (.const (.int .i64 1)), none, [0, 1, 2, 3, 4, 5, 6]⟩, 
  ⟨(some (65)), .indexAddr 1 (.tmp 62) (.tmp 64), none, [0, 1, 2, 3, 4]⟩, 
  ⟨(some (66)), .load none (.tmp 65), none, [0, 1, 2, 3, 4]⟩, 
  ⟨(some (67)), .fieldAddr 0 (.tmp 9), none, [0, 1, 2, 3, 4, 5, 6, 7, 8, 9, 10]⟩, 
  ⟨(some (68)), .load none (.tmp 67), none, [0, 1, 2, 3, 4, 5, 6, 7, 8, 9, 10]⟩, 
  ⟨(some (69)), .indexAddr 1 (.tmp 66) (.tmp 68), none, [0, 1, 2, 3, 4]⟩, 
  ⟨(some (70)), .load none (.tmp 69), none, [0, 1, 2, 3, 4]⟩, 
  ⟨(some (71)), .fieldAddr 2 (.tmp 4), none, [0, 1, 2, 3, 4, 5, 6, 7, 8, 9, 10, 11, 12, 13, 14]⟩, 
  ⟨(some (72)), .load none (.tmp 71), none, [0, 1, 2, 3, 4, 5, 6, 7, 8, 9, 10, 11, 12, 13, 14]⟩, 
  ⟨(some (73)), .move (.tmp 1), none, [0, 1, 2, 3, 4, 5, 6, 7, 8, 9, 10, 11, 12, 13, 14, 15, 16]⟩, 
  ⟨(some (74)), .indexAddr 1 (.tmp 72) (.tmp 73), none, [0, 1, 2, 3, 4, 5, 6, 7, 8, 9, 10, 11, 12, 13, 14]⟩, 
  ⟨(some (75)), .load none (.tmp 74), none, [0, 1, 2, 3, 4, 5, 6, 7, 8, 9, 10, 11, 12, 13, 14]⟩, 
  ⟨(some (76)), .fieldAddr 0 (.tmp 9), none, [0, 1, 2, 3, 4, 5, 6, 7, 8, 9, 10, 11, 12, 13, 14, 15, 16, 17, 18, 19]⟩, 
  ⟨(some (77)), .load none (.tmp 76), none, [0, 1, 2, 3, 4, 5, 6, 7, 8, 9, 10, 11, 12, 13, 14, 15, 16, 17, 18, 19]⟩, 
  ⟨(some (78)), .indexAddr 1 (.tmp 75) (.tmp 77), none, [0, 1, 2, 3, 4, 5, 6, 7, 8, 9, 10, 11, 12, 13, 14]⟩, 
  ⟨(some (79)), .load none (.tmp 78), none, [0, 1, 2, 3, 4, 5, 6, 7, 8, 9, 10, 11, 12, 13, 14]⟩, 
  ⟨(some (80)), .bin .plain .sub (.tmp 70) (.tmp 79), none, [0, 1, 2, 3, 4]⟩], 
  [
  ⟨(some (81)), .bin .plain .mul (.tmp 60) (.tmp 80), none, []⟩], 
  [
  ⟨(some (12)), .move (.tmp 81), none, []⟩]]
theorem k_ref02_slope_r4_sg : segs k_ref02_slope_r4 = k_ref02_slope_r4s := by kernel_rfl
theorem k_ref02_slope_r4_st : statOK k_ref02_slope_r4 = true := by kernel_rfl
def k_ref02_slope_r5 : List AOper := [
  ⟨(some (82)), .fieldAddr 1 (.tmp 9), none, []⟩, 
  ⟨(some (83)), .load none (.tmp 82), none, []⟩, 
  ⟨(some (84)), .bin .plain .gtr (.tmp 83) (.const (.int .i64 0)), none, []⟩]
def k_ref02_slope_r6 : List AOper := [
  ⟨(some (85)), .move (.tmp 11), none, []⟩, 
  ⟨(some (86)), .fieldAddr 1 (.tmp 9), none, [0]⟩, 
  ⟨(some (87)), .load none (.tmp 86), none, [0]⟩, 
  ⟨(some (88)), .fieldAddr 2 (.tmp 4), none, [0, 1, 2]⟩, 
  ⟨(some (89)), .load none (.tmp 88), none, [0, 1, 2]⟩, 
  ⟨(some (90)), .move (.tmp 1), none, [0, 1, 2, 3, 4]⟩, 
  ⟨(some (91)), .bin .plain .add (.tmp 90) (.const (.int .i64 1)), none, [0, 1, 2, 3, 4]⟩, 
  ⟨(some (92)), .indexAddr 1 (.tmp 89) (.tmp 91), none, [0, 1, 2]⟩, 
  ⟨(some (93)), .load none (.tmp 92), none, [0, 1, 2]⟩, 
  ⟨(some (94)), .fieldAddr 0 (.tmp 9), none, [0, 1, 2, 3, 4, 5, 6, 7, 8]⟩, 
  ⟨(some (95)), .load none (.tmp 94), none, [0, 1, 2, 3, 4, 5, 6, 7, 8]⟩, 
  ⟨(some (96)), .bin .plain .add (.tmp 95) (.const (.int .i64 1)), none, [0, 1, 2, 3, 4, 5, 6, 7, 8]⟩, 
  ⟨(some (97)), .indexAddr 1 (.tmp 93) (.tmp 96), none, [0, 1, 2]⟩, 
  ⟨(some (98)), .load none (.tmp 97), none, [0, 1, 2]⟩, 
  ⟨(some (99)), .fieldAddr 3 (.tmp 4), none, [0, 1, 2, 3, 4, 5, 6, 7, 8, 9, 10, 11, 12, 13]⟩, 
  ⟨(some (100)), .load none (.tmp 99), none, [0, 1, 2, 3, 4, 5, 6, 7, 8, 9, 10, 11, 12, 13]⟩, 
  ⟨(some (101)), .move (.tmp 1), none, [0, 1, 2, 3, 4, 5, 6, 7, 8, 9, 10, 11, 12, 13, 14, 15]⟩, 
  ⟨(some (102)), .indexAddr 1 (.tmp 100) (.tmp 101), none, [0, 1, 2, 3, 4, 5, 6, 7, 8, 9, 10, 11, 12, 13]⟩, 
  ⟨(some (103)), .load none (.tmp 102), none, [0, 1, 2, 3, 4, 5, 6, 7, 8, 9, 10, 11, 12, 13]⟩, 
  ⟨(some (104)), .fieldAddr 0 (.tmp 9), none, [0, 1, 2, 3, 4, 5, 6, 7, 8, 9, 10, 11, 12, 13, 14, 15, 16, 17, 18]⟩, 
  ⟨(some (105)), .load none (.tmp 104), none, [0, 1, 2, 3, 4, 5, 6, 7, 8, 9, 10, 11, 12, 13, 14, 15, 16, 17, 18]⟩, 
  ⟨(some (106)), .bin .plain .add (.tmp 105) (.const (.int .i64 1)), none, [0, 1, 2, 3, 4, 5, 6, 7, 8, 9, 10, 11, 12, 13, 14, 15, 16, 17, 18]⟩, 
  ⟨(some (107)), .indexAddr 1 (.tmp 103) (.tmp 106), none, [0, 1, 2, 3, 4, 5, 6, 7, 8, 9, 10, 11, 12, 13]⟩, 
  ⟨(some (108)), .load none (.tmp 107), none, [0, 1, 2, 3, 4, 5, 6, 7, 8, 9, 10, 11, 12, 13]⟩, 
  ⟨(some (109)), .bin .plain .sub (.tmp 98) (.tmp 108), none, [0, 1, 2]⟩, 
  ⟨(some (110)), .minmax true [.const (.int .i64 0), .tmp 109], none, [0, 1, 2]⟩, 
  ⟨(some (111)), .bin .plain .mul (.tmp 87) (.tmp 110), none, [0]⟩, 
  ⟨(some (112)), .bin .plain .add (.tmp 85) (.tmp 111), none, []⟩, 
  ⟨(some (11)), .move (.tmp 112), none, []⟩]
def k_ref02_slope_r6s : List (List AOper) := [
  [
  ⟨(some (85)), .move (.tmp 11), none, []⟩, 
  ⟨(some (86)), .fieldAddr 1 (.tmp 9), none, [0]⟩, 
  ⟨(some (87)), .load none (.tmp 86), none, [0]⟩, 
  ⟨(some (88)), .fieldAddr 2 (.tmp 4), none, [0, 1, 2]⟩, 
  ⟨(some (89)), .load none (.tmp 88), none, [0, 1, 2]⟩, 
  ⟨(some (90)), .move (.tmp 1), none, [0, 1, 2, 3, 4]⟩, 
  ⟨(some (91)), .bin .plain .add (.tmp 90) (.const (.int .i64 1)), none, [0, 1, 2, 3, 4]⟩, 
  ⟨(some (92)), .indexAddr 1 (.tmp 89) (.tmp 91), none, [0, 1, 2]⟩, 
  ⟨(some (93)), .load none (.tmp 92), none, [0, 1, 2]⟩, 
  ⟨(some (94)), .fieldAddr 0 (.tmp 9), none, [0, 1, 2, 3, 4, 5, 6, 7, 8]⟩, 
  ⟨(some (95)), .load none (.tmp 94), none, [0, 1, 2, 3, 4, 5, 6, 7, 8]⟩, 
  ⟨(some (96)), .bin .plain .add (.tmp 95) (.const (.int .i64 1)), none, [0, 1, 2, 3, 4, 5, 6, 7, 8]⟩, 
  ⟨(some (97)), .indexAddr 1 (.tmp 93) (.tmp 96), none, [0, 1, 2]⟩, 
  ⟨(some (98)), .load none (.tmp 97), none, [0, 1, 2]⟩, 
  ⟨(some (99)), .fieldAddr 3 (.tmp 4), none, [0, 1, 2, 3, 4, 5, 6, 7, 8, 9, 10, 11, 12, 13]⟩, 
  ⟨(some (100)), .load none (.tmp 99), none, [0, 1, 2, 3, 4, 5, 6, 7, 8, 9, 10, 11, 12, 13]⟩, 
  ⟨(some (101)), .move (.tmp 1), none, [0, 1, 2, 3, 4, 5, 6, 7, 8, 9, 10, 11, 12, 13, 14, 15]⟩, 
  ⟨(some (102)), .indexAddr 1 (.tmp 100) (.tmp 101), none, [0, 1, 2, 3, 4, 5, 6, 7, 8, 9, 10, 11, 12, 13]⟩, 
  ⟨(some (103)), .load none (.tmp 102), none, [0, 1, 2, 3, 4, 5, 6, 7, 8, 9, 10, 11, 12, 13]⟩, 
  ⟨(some (104)), .fieldAddr 0 (.tmp 9), none, [0, 1, 2, 3, 4, 5, 6, 7, 8, 9, 10, 11, 12, 13, 14, 15, 16, 17, 18]⟩, 
  ⟨(some (105)), .load none (.tmp 104), none, [0, 1, 2, 3, 4, 5, 6, 7, 8, 9, 10, 11, 12, 13, 14, 15, 16, 17, 18]⟩, 
  ⟨(some (106)), .bin .plain .add (.tmp 105) (.const (.int .i64 1)), none, [0, 1, 2, 3, 4, 5, 6, 7, 8, 9, 10, 11, 12, 13, 14, 15, 16, 17, 18]⟩, 
  ⟨(some (107)), .indexAddr 1 (.tmp 103) (.tmp 106), none, [0, 1, 2, 3, 4, 5, 6, 7, 8, 9, 10, 11, 12, 13]⟩, 
  ⟨(some (108)), .load none (.tmp 107), none, [0, 1, 2, 3, 4, 5, 6, 7, 8, 9, 10, 11, 12, 13]⟩, 
  ⟨(some (109)), .bin .plain .sub (.tmp 98) (.tmp 108), none, [0, 1, 2]⟩, 
  ⟨(some (110)), .minmax true [.const (.int .i64 0), .tmp 109], none, [0, 1, 2]⟩, 
  ⟨(some (111)), .bin .plain .mul (.tmp 87) (.tmp 110), none, [0]⟩], 
  [
  ⟨(some (112)), .bin .plain .add (.tmp 85) (.tmp 111), none, []⟩], 
  [
  ⟨(some (11)), .move (.tmp 112), none, []⟩]]
theorem k_ref02_slope_r6_sg : segs k_ref02_slope_r6 = k_ref02_slope_r6s := by kernel_rfl
theorem k_ref02_slope_r6_st : statOK k_ref02_slope_r6 = true := by kernel_rfl
def k_ref02_slope_r7 : List AOper := [
  ⟨(some (113)), .move (.tmp 12), none, []⟩, 
  ⟨(some (114)), .fieldAddr 1 (.tmp 9), none, [0]⟩, 
  ⟨(some (115)), .load none (.tmp 114), none, [0]⟩, 
  ⟨(some (116)), .fieldAddr 3 (.tmp 4), none, [0, 1, 2]⟩, 
  ⟨(some (117)), .load none (.tmp 116), none, [0, 1, 2]⟩, 
  ⟨(some (118)), .move (.tmp 1), none, [0, 1, 2, 3, 4]⟩, 
  ⟨(some (119)), .bin .plain .add (.tmp 118) (.const (.int .i64 1)), none, [0, 1, 2, 3, 4]⟩, 
  ⟨(some (120)), .indexAddr 1 (.tmp 117) (.tmp 119), none, [0, 1, 2]⟩, 
  ⟨(some (121)), .load none (.tmp 120), none, [0, 1, 2]⟩, 
  ⟨(some (122)), .fieldAddr 0 (.tmp 9), none, [0, 1, 2, 3, 4, 5, 6, 7, 8]⟩, 
  ⟨(some (123)), .load none (.tmp 122), none, [0, 1, 2, 3, 4, 5, 6, 7, 8]⟩, 
  ⟨(some (124)), .bin .plain .add (.tmp 123) (.const (.int .i64 1)), none, [0, 1, 2, 3, 4, 5, 6, 7, 8]⟩, 
  ⟨(some (125)), .indexAddr 1 (.tmp 121) (.tmp 124), none, [0, 1, 2]⟩, 
  ⟨(some (126)), .load none (.tmp 125), none, [0, 1, 2]⟩, 
  ⟨(some (127)), .fieldAddr 2 (.tmp 4), none, [0, 1, 2, 3, 4, 5, 6, 7, 8, 9, 10, 11, 12, 13]⟩, 
  ⟨(some (128)), .load none (.tmp 127), none, [0, 1, 2, 3, 4, 5, 6, 7, 8, 9, 10, 11, 12, 13]⟩, 
  ⟨(some (129)), .move (.tmp 1), none, [0, 1, 2, 3, 4, 5, 6, 7, 8, 9, 10, 11, 12, 13, 14, 15]⟩, 
  ⟨(some (130)), .indexAddr 1 (.tmp 128) (.tmp 129), none, [0, 1, 2, 3, 4, 5, 6, 7, 8, 9, 10, 11, 12, 13]⟩, 
  ⟨(some (131)), .load none (.tmp 130), none, [0, 1, 2, 3, 4, 5, 6, 7, 8, 9, 10, 11, 12, 13]⟩, 
  ⟨(some (132)), .fieldAddr 0 (.tmp 9), none, [0, 1, 2, 3, 4, 5, 6, 7, 8, 9, 10, 11, 12, 13, 14, 15, 16, 17, 18]⟩, 
  ⟨(some (133)), .load none (.tmp 132), none, [0, 1, 2, 3, 4, 5, 6, 7, 8, 9, 10, 11, 12, 13, 14, 15, 16, 17, 18]⟩, 
  ⟨(some (134)), .bin .plain .add (.tmp 133) (.const (.int .i64 1)), none, [0, 1, 2, 3, 4, 5, 6, 7, 8, 9, 10, 11, 12, 13, 14, 15, 16, 17, 18]⟩, 
  ⟨(some (135)), .indexAddr 1 (.tmp 131) (.tmp 134), none, [0, 1, 2, 3, 4, 5, 6, 7, 8, 9, 10, 11, 12, 13]⟩, 
  ⟨(some (136)), .load none (.tmp 135), none, [0, 1, 2, 3, 4, 5, 6, 7, 8, 9, 10, 11, 12, 13]⟩, 
  ⟨(some (137)), .bin .plain .sub (.tmp 126) (.tmp 136), none, [0, 1, 2]⟩, 
  ⟨(some (138)), .bin .plain .mul (.tmp 115) (.tmp 137), none, [0]⟩, 
  ⟨(some (139)), .bin .plain .add (.tmp 113) (.tmp 138), none, []⟩, 
  ⟨(some (12)), .move (.tmp 139), none, []⟩]
def k_ref02_slope_r7s : List (List AOper) := [
  [
  ⟨(some (113)), .move (.tmp 12), none, []⟩, 
  ⟨(some (114)), .fieldAddr 1 (.tmp 9), none, [0]⟩, 
  ⟨(some (115)), .load none (.tmp 114), none, [0]⟩, 
  ⟨(some (116)), .fieldAddr 3 (.tmp 4), none, [0, 1, 2]⟩, 
  ⟨(some (117)), .load none (.tmp 116), none, [0, 1, 2]⟩, 
  ⟨(some (118)), .move (.tmp 1), none, [0, 1, 2, 3, 4]⟩, 
  ⟨(some (119)), .bin .plain .add (.tmp 118) (.const (.int .i64 1)), none, [0, 1, 2, 3, 4]⟩, 
  ⟨(some (120)), .indexAddr 1 (.tmp 117) (.tmp 119), none, [0, 1, 2]⟩, 
  ⟨(some (121)), .load none (.tmp 120), none, [0, 1, 2]⟩, 
  ⟨(some (122)), .fieldAddr 0 (.tmp 9), none, [0, 1, 2, 3, 4, 5, 6, 7, 8]⟩, 
  ⟨(some (123)), .load none (.tmp 122), none, [0, 1, 2, 3, 4, 5, 6, 7, 8]⟩, 
  ⟨(some (124)), .bin .plain .add (.tmp 123) (.const (.int .i64 1)), none, [0, 1, 2, 3, 4, 5, 6, 7, 8]⟩, 
  ⟨(some (125)), .indexAddr 1 (.tmp 121) (.tmp 124), none, [0, 1, 2]⟩, 
  ⟨(some (126)), .load none (.tmp 125), none, [0, 1, 2]⟩, 
  ⟨(some (127)), .fieldAddr 2 (.tmp 4), none, [0, 1, 2, 3, 4, 5, 6, 7, 8, 9, 10, 11, 12, 13]⟩, 
  ⟨(some (128)), .load none (.tmp 127), none, [0, 1, 2, 3, 4, 5, 6, 7, 8, 9, 10, 11, 12, 13]⟩, 
  ⟨(some (129)), .move (.tmp 1), none, [0, 1, 2, 3, 4, 5, 6, 7, 8, 9, 10, 11, 12, 13, 14, 15]⟩, 
  ⟨(some (130)), .indexAddr 1 (.tmp 128) (.tmp 129), none, [0, 1, 2, 3, 4, 5, 6, 7, 8, 9, 10, 11, 12, 13]⟩, 
  ⟨(some (131)), .load none (.tmp 130), none, [0, 1, 2, 3, 4, 5, 6, 7, 8, 9, 10, 11, 12, 13]⟩, 
  ⟨(some (132)), .fieldAddr 0 (.tmp 9), none, [0, 1, 2, 3, 4, 5, 6, 7, 8, 9, 10, 11, 12, 13, 14, 15, 16, 17, 18]⟩, 
  ⟨(some (133)), .load none (.tmp 132), none, [0, 1, 2, 3, 4, 5, 6, 7, 8, 9, 10, 11, 12, 13, 14, 15, 16, 17, 18]⟩, 
  ⟨(some (134)), .bin .plain .add (.tmp 133) (.const (.int .i64 1)), none, [0, 1, 2, 3, 4, 5, 6, 7, 8, 9, 10, 11, 12, 13, 14, 15, 16, 17, 18]⟩, 
  ⟨(some (135)), .indexAddr 1 (.tmp 131) (.tmp 134), none, [0, 1, 2, 3, 4, 5, 6, 7, 8, 9, 10, 11, 12, 13]⟩, 
  ⟨(some (136)), .load none (.tmp 135), none, [0, 1, 2, 3, 4, 5, 6, 7, 8, 9, 10, 11, 12, 13]⟩, 
  ⟨(some (137)), .bin .plain .sub (.tmp 126) (.tmp 136), none, [0, 1, 2]⟩, 
  ⟨(some (138)), .bin .plain .mul (.tmp 115) (.tmp 137), none, [0]⟩], 
  [
  ⟨(some (139)), .bin .plain .add (.tmp 113) (.tmp 138), none, []⟩], 
  [
  ⟨(some (12)), .move (.tmp 139), none, []⟩]]
theorem k_ref02_slope_r7_sg : segs k_ref02_slope_r7 = k_ref02_slope_r7s := by kernel_rfl
theorem k_ref02_slope_r7_st : statOK k_ref02_slope_r7 = true := by kernel_rfl
def k_ref02_slope_r8 : List AOper := [
  ⟨(some (140)), .move (.tmp 3), none, []⟩, 
  ⟨(some (141)), .move (.tmp 11), none, [0]⟩, 
  ⟨(some (142)), .bin .plain .mul (.tmp 140) (.tmp 141), none, []⟩, 
  ⟨(some (143)), .fieldAddr 2 (.tmp 9), none, [0, 1, 2]⟩, 
  ⟨(some (144)), .load none (.tmp 143), none, [0, 1, 2]⟩, 
  ⟨(some (145)), .move (.tmp 10), none, [0, 1, 2, 3, 4]⟩, 
  ⟨(some (146)), .bin .plain .mul (.tmp 144) (.tmp 145), none, [0, 1, 2]⟩, 
  ⟨(some (147)), .call (.const (.fn (.func 87) [] [])) [.tmp 142, .tmp 146], none, []⟩, 
  ⟨(some (148)), .move (.tmp 3), none, [0, 1, 2, 3, 4, 5, 6, 7]⟩, 
  ⟨(some (149)), .move (.tmp 12), none, [0, 1, 2, 3, 4, 5, 6, 7, 8]⟩, 
  ⟨(some (150)), .bin .plain .mul (.tmp 148) (.tmp 149), none, [0, 1, 2, 3, 4, 5, 6, 7]⟩, 
  ⟨(some (151)), .fieldAddr 2 (.tmp 9), none, [0, 1, 2, 3, 4, 5, 6, 7, 8, 9, 10]⟩, 
  ⟨(some (152)), .load none (.tmp 151), none, [0, 1, 2, 3, 4, 5, 6, 7, 8, 9, 10]⟩, 
  ⟨(some (153)), .move (.tmp 10), none, [0, 1, 2, 3, 4, 5, 6, 7, 8, 9, 10, 11, 12]⟩, 
  ⟨(some (154)), .bin .plain .mul (.tmp 152) (.tmp 153), none, [0, 1, 2, 3, 4, 5, 6, 7, 8, 9, 10]⟩, 
  ⟨(some (155)), .call (.const (.fn (.func 89) [] [])) [.tmp 150, .tmp 154], none, []⟩, 
  ⟨(some (156)), .build [.int .i64 0, .int .i64 0] [(0, 1, .tmp 147), (1, 1, .tmp 155)], none, []⟩, 
  ⟨none, .store 2 (.tmp 8) (.tmp 156), none, []⟩]
def k_ref02_slope_r8s : List (List AOper) := [
  [
  ⟨(some (140)), .move (.tmp 3), none, []⟩, 
  ⟨(some (141)), .move (.tmp 11), none, [0]⟩, 
  ⟨(some (142)), .bin .plain .mul (.tmp 140) (.tmp 141), none, []⟩, 
  ⟨(some (143)), .fieldAddr 2 (.tmp 9), none, [0, 1, 2]⟩, 
  ⟨(some (144)), .load none (.tmp 143), none, [0, 1, 2]⟩, 
  ⟨(some (145)), .move (.tmp 10), none, [0, 1, 2, 3, 4]⟩, 
  ⟨(some (146)), .bin .plain .mul (.tmp 144) (.tmp 145), none, [0, 1, 2]⟩, 
  ⟨(some (147)), .call (.const (.fn (.func 87) [] [])) [.tmp 142, .tmp 146], none, []⟩, 
  ⟨(some (148)), .move (.tmp 3), none, [0, 1, 2, 3, 4, 5, 6, 7]⟩, 
  ⟨(some (149)), .move (.tmp 12), none, [0, 1, 2, 3, 4, 5, 6, 7, 8]⟩, 
  ⟨(some (150)), .bin .plain .mul (.tmp 148) (.tmp 149), none, [0, 1, 2, 3, 4, 5, 6, 7]⟩, 
  ⟨(some (151)), .fieldAddr 2 (.tmp 9), none, [0, 1, 2, 3, 4, 5, 6, 7, 8, 9, 10]⟩, 
  ⟨(some (152)), .load none (.tmp 151), none, [0, 1, 2, 3, 4, 5, 6, 7, 8, 9, 10]⟩, 
  ⟨(some (153)), .move (.tmp 10), none, [0, 1, 2, 3, 4, 5, 6, 7, 8, 9, 10, 11, 12]⟩, 
  ⟨(some (154)), .bin .plain .mul (.tmp 152) (.tmp 153), none, [0, 1, 2, 3, 4, 5, 6, 7, 8, 9, 10]⟩], 
  [
  ⟨(some (155)), .call (.const (.fn (.func 89) [] [])) [.tmp 150, .tmp 154], none, []⟩], 
  [
  ⟨(some (156)), .build [.int .i64 0, .int .i64 0] [(0, 1, .tmp 147), (1, 1, .tmp 155)], none, []⟩], 
  [
  ⟨none, .store 2 (.tmp 8) (.tmp 156), none, []⟩]]
theorem k_ref02_slope_r8_sg : segs k_ref02_slope_r8 = k_ref02_slope_r8s := by kernel_rfl
theorem k_ref02_slope_r8_st : statOK k_ref02_slope_r8 = true := by kernel_rfl
def k_ref02_slope : AFun := { params := 4, ntmps := 157, body := (.seq (.reg k_ref02_slope_r0 false) (.seq (.reg k_ref02_slope_r1 false) (.seq (.reg k_ref02_slope_r2 true) (.seq (.reg k_ref02_slope_r3 true) (.seq (.reg k_ref02_slope_r4 true) (.seq (.seq (.reg k_ref02_slope_r5 false) (.cond (.tmp 84) (.seq (.reg k_ref02_slope_r6 true) (.reg k_ref02_slope_r7 true)) .skip)) (.seq (.reg k_ref02_slope_r8 true) .ret))))))), res := [.cell 8 (some ((some (2))))] }
theorem k_ref02_slope_ok : cfun Try.prog Try.f95 = k_ref02_slope := by kernel_rfl

def k_curve_yield_r0 : List AOper := [
  ⟨(some (3)), .box (.tmp 0), none, []⟩, 
  ⟨(some (6)), .box (.const (.agg [.int .i64 0, .int .i64 0])), none, []⟩]
def k_curve_yield_r1 : List AOper := [
  ⟨(some (7)), .fieldAddr 2 (.tmp 3), none, []⟩, 
  ⟨(some (8)), .load none (.tmp 7), none, []⟩, 
  ⟨(some (9)), .fieldAddr 3 (.tmp 3), none, []⟩, 
  ⟨(some (10)), .load none (.tmp 9), none, []⟩, 
  ⟨(some (11)), .fieldAddr 1 (.tmp 3), none, []⟩, 
  ⟨(some (12)), .load none (.tmp 11), none, []⟩, 
  ⟨(some (13)), .fieldAddr 0 (.tmp 3), none, []⟩, 
  ⟨(some (14)), .load none (.tmp 13), none, []⟩, 
  ⟨(some (15)), .move (.tmp 2), none, []⟩, 
  ⟨(some (16)), .move (.tmp 1), none, []⟩, 
  ⟨(some (17)), .call (.const (.fn (.func 119) [] [])) [.tmp 8, .tmp 10, .tmp 12, .tmp 14, .tmp 15, .tmp 16, .const (.int .i64 1000000)], none, []⟩, 
  ⟨none, .store 2 (.tmp 6) (.tmp 17), none, []⟩]
def k_curve_yield : AFun := { params := 3, ntmps := 18, body := (.seq (.reg k_curve_yield_r0 false) (.seq (.reg k_curve_yield_r1 false) .ret)), res := [.cell 6 (some ((some (2))))] }
theorem k_curve_yield_ok : cfun Try.prog Try.f96 = k_curve_yield := by kernel_rfl

def k_ref02_across_r0 : List AOper := [
  ⟨(some (1)), .box (.tmp 0), none, []⟩, 
  ⟨(some (2)), .box (.const (.agg [.nilsl, .nilsl, .nilsl, .nilsl])), none, []⟩]
def k_ref02_across_r1 : List AOper := [
  ⟨(some (8)), .fieldAddr 1 (.tmp 1), none, []⟩, 
  ⟨(some (9)), .load none (.tmp 8), none, []⟩, 
  ⟨(some (10)), .call (.const (.fn (.func 67) [] [])) [.tmp 9], none, []⟩, 
  ⟨(some (11)), .fieldAddr 0 (.tmp 1), none, [0, 1, 2]⟩, 
  ⟨(some (12)), .load none (.tmp 11), none, [0, 1, 2]⟩, 
  ⟨(some (13)), .call (.const (.fn (.func 67) [] [])) [.tmp 12], none, []⟩, 
  ⟨(some (14)), .build [.nilsl, .nilsl, .nilsl, .nilsl] [(0, 1, .tmp 10), (1, 1, .tmp 13)], none, []⟩, 
  ⟨(some (3)), .box (.const (.agg [.nilsl, .nilsl, .nilsl, .nilsl])), none, [0, 1, 2, 3, 4, 5, 6]⟩, 
  ⟨none, .store 4 (.tmp 3) (.tmp 14), none, []⟩]
def k_ref02_across_r1s : List (List AOper) := [
  [
  ⟨(some (8)), .fieldAddr 1 (.tmp 1), none, []⟩, 
  ⟨(some (9)), .load none (.tmp 8), none, []⟩, 
  ⟨(some (10)), .call (.const (.fn (.func 67) [] [])) [.tmp 9], none, []⟩, 
  ⟨(some (11)), .fieldAddr 0 (.tmp 1), none, [0, 1, 2]⟩, 
  ⟨(some (12)), .load none (.tmp 11), none, [0, 1, 2]⟩, 
  ⟨(some (13)), .call (.const (.fn (.func 67) [] [])) [.tmp 12], none, []⟩, 
  ⟨(some (14)), .build [.nilsl, .nilsl, .nilsl, .nilsl] [(0, 1, .tmp 10), (1, 1, .tmp 13)], none, []⟩, 
  ⟨(some (3)), .box (.const (.agg [.nilsl, .nilsl, .nilsl, .nilsl])), none, [0, 1, 2, 3, 4, 5, 6]⟩], 
  [
  ⟨none, .store 4 (.tmp 3) (.tmp 14), none, []⟩]]
theorem k_ref02_across_r1_sg : segs k_ref02_across_r1 = k_ref02_across_r1s := by kernel_rfl
theorem k_ref02_across_r1_st : statOK k_ref02_across_r1 = true := by kernel_rfl
def k_ref02_across_r2 : List AOper := [
  ⟨(some (4)), .move (.const (.int .i64 0)), none, []⟩]
def k_ref02_across_r3 : List AOper := [
  ⟨(some (15)), .move (.tmp 4), none, []⟩, 
  ⟨(some (16)), .fieldAddr 1 (.tmp 1), none, []⟩, 
  ⟨(some (17)), .load none (.tmp 16), none, []⟩, 
  ⟨(some (18)), .len false (.tmp 17), none, []⟩, 
  ⟨(some (19)), .bin .plain .lss (.tmp 15) (.tmp 18), none, []⟩]
def k_ref02_across_r4 : List AOper := [
  ⟨(some (5)), .move (.const (.nilsl)), none, []⟩, 
  ⟨(some (6)), .move (.const (.nilsl)), none, []⟩]
def k_ref02_across_r5 : List AOper := [
  ⟨(some (7)), .move (.const (.int .i64 0)), none, []⟩]
def k_ref02_across_r6 : List AOper := [
  ⟨(some (22)), .move (.tmp 7), none, []⟩, 
  ⟨(some (23)), .fieldAddr 0 (.tmp 1), none, []⟩, 
  ⟨(some (24)), .load none (.tmp 23), none, []⟩, 
  ⟨(some (25)), .len false (.tmp 24), none, []⟩, 
  ⟨(some (26)), .bin .plain .lss (.tmp 22) (.tmp 25), none, []⟩]
def k_ref02_across_r7 : List AOper := [
  ⟨(some (29)), .move (.tmp 5), none, []⟩, 
  ⟨(some (30)), .fieldAddr 2 (.tmp 1), none, [0]⟩, 
  ⟨(some (31)), .load none (.tmp 30), none, [0]⟩, 
  ⟨(some (32)), .move (.tmp 7), none, [0, 1, 2]⟩, 
  ⟨(some (33)), .indexAddr 1 (.tmp 31) (.tmp 32), none, [0]⟩, 
  ⟨(some (34)), .load none (.tmp 33), none, [0]⟩, 
  ⟨(some (35)), .move (.tmp 4), none, [0, 1, 2, 3, 4, 5]⟩, 
  ⟨(some (36)), .indexAddr 1 (.tmp 34) (.tmp 35), none, [0]⟩, 
  ⟨(some (37)), .load none (.tmp 36), none, [0]⟩, 
  ⟨(some (38)), .buildSlice 1 [.tmp 37], none, [0]⟩, 
  ⟨(some (39)), .append 1 8 false (.tmp 29) (.tmp 38), none, []⟩, 
  ⟨(some (40)), .move (.tmp 6), none, [0, 1, 2, 3, 4, 5, 6, 7, 8, 9, 10]⟩, 
  ⟨(some (41)), .fieldAddr 3 (.tmp 1), none, [0, 1, 2, 3, 4, 5, 6, 7, 8, 9, 10, 11]⟩, 
  ⟨(some (42)), .load none (.tmp 41), none, [0, 1, 2, 3, 4, 5, 6, 7, 8, 9, 10, 11]⟩, 
  ⟨(some (43)), .move (.tmp 7), none, [0, 1, 2, 3, 4, 5, 6, 7, 8, 9, 10, 11, 12, 13]⟩, 
  ⟨(some (44)), .indexAddr 1 (.tmp 42) (.tmp 43), none, [0, 1, 2, 3, 4, 5, 6, 7, 8, 9, 10, 11]⟩, 
  ⟨(some (45)), .load none (.tmp 44), none, [0, 1, 2, 3, 4, 5, 6, 7, 8, 9, 10, 11]⟩, 
  ⟨(some (46)), .move (.tmp 4), none, [0, 1, 2, 3, 4, 5, 6, 7, 8, 9, 10, 11, 12, 13, 14, 15, 16]⟩, 
  ⟨(some (47)), .indexAddr 1 (.tmp 45) (.tmp 46), none, [0, 1, 2, 3, 4, 5, 6, 7, 8, 9, 10, 11]⟩, 
  ⟨(some (48)), .load none (.tmp 47), none, [0, 1, 2, 3, 4, 5, 6, 7, 8, 9, 10, 11]⟩, 
  ⟨(some (49)), .buildSlice 1 [.tmp 48], none, [0, 1, 2, 3, 4, 5, 6, 7, 8, 9, 10, 11]⟩, 
  ⟨(some (50)), .append 1 8 false (.tmp 40) (.tmp 49), none, []⟩, 
  ⟨(some (5)), .move (.tmp 39), none, []⟩, 
  ⟨(some (6)), .move (.tmp 50), none, []⟩]
def k_ref02_across_r7s : List (List AOper) := [
  [
  ⟨(some (29)), .move (.tmp 5), none, []⟩, 
  ⟨(some (30)), .fieldAddr 2 (.tmp 1), none, [0]⟩, 
  ⟨(some (31)), .load none (.tmp 30), none, [0]⟩, 
  ⟨(some (32)), .move (.tmp 7), none, [0, 1, 2]⟩, 
  ⟨(some (33)), .indexAddr 1 (.tmp 31) (.tmp 32), none, [0]⟩, 
  ⟨(some (34)), .load none (.tmp 33), none, [0]⟩, 
  ⟨(some (35)), .move (.tmp 4), none, [0, 1, 2, 3, 4, 5]⟩, 
  ⟨(some (36)), .indexAddr 1 (.tmp 34) (.tmp 35), none, [0]⟩, 
  ⟨(some (37)), .load none (.tmp 36), none, [0]⟩, 
  ⟨(some (38)), .buildSlice 1 [.tmp 37], none, [0]⟩, 
  ⟨(some (39)), .append 1 8 false (.tmp 29) (.tmp 38), none, []⟩, 
  ⟨(some (40)), .move (.tmp 6), none, [0, 1, 2, 3, 4, 5, 6, 7, 8, 9, 10]⟩, 
  ⟨(some (41)), .fieldAddr 3 (.tmp 1), none, [0, 1, 2, 3, 4, 5, 6, 7, 8, 9, 10, 11]⟩, 
  ⟨(some (42)), .load none (.tmp 41), none, [0, 1, 2, 3, 4, 5, 6, 7, 8, 9, 10, 11]⟩, 
  ⟨(some (43)), .move (.tmp 7), none, [0, 1, 2, 3, 4, 5, 6, 7, 8, 9, 10, 11, 12, 13]⟩, 
  ⟨(some (44)), .indexAddr 1 (.tmp 42) (.tmp 43), none, [0, 1, 2, 3, 4, 5, 6, 7, 8, 9, 10, 11]⟩, 
  ⟨(some (45)), .load none (.tmp 44), none, [0, 1, 2, 3, 4, 5, 6, 7, 8, 9, 10, 11]⟩, 
  ⟨(some (46)), .move (.tmp 4), none, [0, 1, 2, 3, 4, 5, 6, 7, 8, 9, 10, 11, 12, 13, 14, 15, 16]⟩, 
  ⟨(some (47)), .indexAddr 1 (.tmp 45) (.tmp 46), none, [0, 1, 2, 3, 4, 5, 6, 7, 8, 9, 10, 11]⟩, 
  ⟨(some (48)), .load none (.tmp 47), none, [0, 1, 2, 3, 4, 5, 6, 7, 8, 9, 10, 11]⟩, 
  ⟨(some (49)), .buildSlice 1 [.tmp 48], none, [0, 1, 2, 3, 4, 5, 6, 7, 8, 9, 10, 11]⟩], 
  [
  ⟨(some (50)), .append 1 8 false (.tmp 40) (.tmp 49), none, []⟩], 
  [
  ⟨(some (5)), .move (.tmp 39), none, []⟩], 
  [
  ⟨(some (6)), .move (.tmp 50), none, []⟩]]
theorem k_ref02_across_r7_sg : segs k_ref02_across_r7 = k_ref02_across_r7s := by kernel_rfl
theorem k_ref02_across_r7_st : statOK k_ref02_across_r7 = true := by kernel_rfl
def k_ref02_across_r8 : List AOper := [
  ⟨(some (27)), .move (.tmp 7), none, []⟩, 
  ⟨(some (28)), .bin .plain .add (.tmp 27) (.const (.int .i64 1)), none, []⟩, 
  ⟨(some (7)), .move (.tmp 28), none, []⟩]
def k_ref02_across_r9 : ACode := (.seq (.seq (.reg k_ref02_across_r6 false) (.cond (.tmp 26) .skip (.exit 2))) (.seq (.block 3 (.reg k_ref02_across_r7 true)) (.reg k_ref02_across_r8 false)))
def k_ref02_across_r10 : List AOper := [
  ⟨(some (51)), .fieldAddr 2 (.tmp 3), none, []⟩, 
  ⟨(some (52)), .load none (.tmp 51), none, []⟩, 
  ⟨(some (53)), .move (.tmp 5), none, [0, 1]⟩, 
  ⟨(some (54)), .buildSlice 1 [.tmp 53], none, [0, 1]⟩, 
  ⟨(some (55)), .append 1 24 false (.tmp 52) (.tmp 54), none, []⟩, 
  ⟨(some (56)), .fieldAddr 3 (.tmp 3), none, [0, 1, 2, 3, 4]⟩, 
  ⟨(some (57)), .load none (.tmp 56), none, [0, 1, 2, 3, 4]⟩, 
  ⟨(some (58)), .move (.tmp 6), none, [0, 1, 2, 3, 4, 5, 6]⟩, 
  ⟨(some (59)), .buildSlice 1 [.tmp 58], none, [0, 1, 2, 3, 4, 5, 6]⟩, 
  ⟨(some (60)), .append 1 24 false (.tmp 57) (.tmp 59), none, []⟩, 
  ⟨(some (61)), .fieldAddr 2 (.tmp 3), none, [7, 8, 9]⟩, 
  ⟨none, .store 1 (.tmp 61) (.tmp 55), none, []⟩, 
  ⟨(some (62)), .fieldAddr 3 (.tmp 3), none, []⟩, 
  ⟨none, .store 1 (.tmp 62) (.tmp 60), none, []⟩]
def k_ref02_across_r10s : List (List AOper) := [
  [
  ⟨(some (51)), .fieldAddr 2 (.tmp 3), none, []⟩, 
  ⟨(some (52)), .load none (.tmp 51), none, []⟩, 
  ⟨(some (53)), .move (.tmp 5), none, [0, 1]⟩, 
  ⟨(some (54)), .buildSlice 1 [.tmp 53], none, [0, 1]⟩, 
  ⟨(some (55)), .append 1 24 false (.tmp 52) (.tmp 54), none, []⟩, 
  ⟨(some (56)), .fieldAddr 3 (.tmp 3), none, [0, 1, 2, 3, 4]⟩, 
  ⟨(some (57)), .load none (.tmp 56), none, [0, 1, 2, 3, 4]⟩, 
  ⟨(some (58)), .move (.tmp 6), none, [0, 1, 2, 3, 4, 5, 6]⟩, 
  ⟨(some (59)), .buildSlice 1 [.tmp 58], none, [0, 1, 2, 3, 4, 5, 6]⟩, 
  ⟨(some (60)), .append 1 24 false (.tmp 57) (.tmp 59), none, []⟩, 
  ⟨(some (61)), .fieldAddr 2 (.tmp 3), none, [7, 8, 9]⟩], 
  [
  ⟨none, .store 1 (.tmp 61) (.tmp 55), none, []⟩], 
  [
  ⟨(some (62)), .fieldAddr 3 (.tmp 3), none, []⟩], 
  [
  ⟨none, .store 1 (.tmp 62) (.tmp 60), none, []⟩]]
theorem k_ref02_across_r10_sg : segs k_ref02_across_r10 = k_ref02_across_r10s := by kernel_rfl
theorem k_ref02_across_r10_st : statOK k_ref02_across_r10 = true := by kernel_rfl
def k_ref02_across_r11 : List AOper := [
  ⟨(some (20)), .move (.tmp 4), none, []⟩, 
  ⟨(some (21)), .bin .plain .add (.tmp 20) (.const (.int .i64 1)), none, []⟩, 
  ⟨(some (4)), .move (.tmp 21), none, []⟩]
def k_ref02_across_r12 : ACode := (.seq (.seq (.reg k_ref02_across_r3 false) (.cond (.tmp 19) .skip (.exit 0))) (.seq (.block 1 (.seq (.reg k_ref02_across_r4 false) (.seq (.seq (.reg k_ref02_across_r5 false) (.block 2 (.loop k_ref02_across_r9))) (.reg k_ref02_across_r10 true)))) (.reg k_ref02_across_r11 false)))
def k_ref02_across_r13 : List AOper := [
  ⟨(some (63)), .load (some (4)) (.tmp 3), none, []⟩, 
  ⟨none, .store 4 (.tmp 2) (.tmp 63), none, []⟩]
def k_ref02_across : AFun := { params := 1, ntmps := 64, body := (.seq (.reg k_ref02_across_r0 false) (.seq (.reg k_ref02_across_r1 true) (.seq (.seq (.reg k_ref02_across_r2 false) (.block 0 (.loop k_ref02_across_r12))) (.seq (.reg k_ref02_across_r13 false) .ret)))), res := [.cell 2 (some ((some (4))))] }
theorem k_ref02_across_ok : cfun Try.prog Try.f97 = k_ref02_across := by kernel_rfl

def k_curve_hull_r0 : List AOper := [
  ⟨(some (2)), .box (.tmp 0), none, []⟩, 
  ⟨(some (3)), .box (.tmp 1), none, []⟩, 
  ⟨(some (4)), .box (.const (.agg [.int .i64 0, .int .i64 0])), none, []⟩]
def k_curve_hull_r1 : List AOper := [
  ⟨(some (5)), .fieldAddr 0 (.tmp 2), none, []⟩, 
  ⟨(some (6)), .load none (.tmp 5), none, []⟩, 
  ⟨(some (7)), .fieldAddr 0 (.tmp 3), none, []⟩, 
  ⟨(some (8)), .load none (.tmp 7), none, []⟩, 
  ⟨(some (9)), .minmax false [.tmp 6, .tmp 8], none, []⟩, 
  ⟨(some (10)), .fieldAddr 1 (.tmp 2), none, []⟩, 
  ⟨(some (11)), .load none (.tmp 10), none, []⟩, 
  ⟨(some (12)), .fieldAddr 1 (.tmp 3), none, []⟩, 
  ⟨(some (13)), .load none (.tmp 12), none, []⟩, 
  ⟨(some (14)), .minmax true [.tmp 11, .tmp 13], none, []⟩, 
  ⟨(some (15)), .build [.int .i64 0, .int .i64 0] [(0, 1, .tmp 9), (1, 1, .tmp 14)], none, []⟩, 
  ⟨none, .store 2 (.tmp 4) (.tmp 15), none, []⟩]
def k_curve_hull : AFun := { params := 2, ntmps := 16, body := (.seq (.reg k_curve_hull_r0 false) (.seq (.reg k_curve_hull_r1 false) .ret)), res := [.cell 4 (some ((some (2))))] }
theorem k_curve_hull_ok : cfun Try.prog Try.f98 = k_curve_hull := by kernel_rfl

def k_ref02_hull_r0 : List AOper := [
  ⟨(some (2)), .box (.tmp 0), none, []⟩, 
  ⟨(some (3)), .box (.tmp 1), none, []⟩, 
  ⟨(some (4)), .box (.const (.agg [.int .i64 0, .int .i64 0])), none, []⟩]
def k_ref02_hull_r1 : List AOper := [
  ⟨(some (5)), .fieldAddr 0 (.tmp 2), none, []⟩, 
  ⟨(some (6)), .load none (.tmp 5), none, []⟩, 
  ⟨(some (7)), .fieldAddr 0 (.tmp 3), none, []⟩, 
  ⟨(some (8)), .load none (.tmp 7), none, []⟩, 
  ⟨(some (9)), .minmax false [.tmp 6, .tmp 8], none, []⟩, 
  ⟨(some (10)), .fieldAddr 1 (.tmp 2), none, []⟩, 
  ⟨(some (11)), .load none (.tmp 10), none, []⟩, 
  ⟨(some (12)), .fieldAddr 1 (.tmp 3), none, []⟩, 
  ⟨(some (13)), .load none (.tmp 12), none, []⟩, 
  ⟨(some (14)), .minmax true [.tmp 11, .tmp 13], none, []⟩, 
  ⟨(some (15)), .build [.int .i64 0, .int .i64 0] [(0, 1, .tmp 9), (1, 1, .tmp 14)], none, []⟩, 
  ⟨none, .store 2 (.tmp 4) (.tmp 15), none, []⟩]
def k_ref02_hull : AFun := { params := 2, ntmps := 16, body := (.seq (.reg k_ref02_hull_r0 false) (.seq (.reg k_ref02_hull_r1 false) .ret)), res := [.cell 4 (some ((some (2))))] }
theorem k_ref02_hull_ok : cfun Try.prog Try.f99 = k_ref02_hull := by kernel_rfl

def k_curve_steepness_curve_byGrid_r0 : List AOper := [
  ⟨(some (14)), .box (.const (.agg [.int .i64 0, .int .i64 0])), none, []⟩]
def k_curve_steepness_curve_byGrid_r1 : List AOper := [
  ⟨(some (21)), .move (.tmp 3), none, []⟩, 
  ⟨(some (22)), .move (.tmp 5), none, []⟩, 
  ⟨(some (23)), .call (.const (.fn (.func 83) [] [])) [.tmp 21, .tmp 22], none, []⟩, 
  ⟨(some (15)), .box (.const (.agg [.int .i64 0, .int .i64 0, .int .i64 0])), none, []⟩, 
  ⟨none, .store 3 (.tmp 15) (.tmp 23), none, []⟩]
def k_curve_steepness_curve_byGrid_r2 : List AOper := [
  ⟨(some (16)), .box (.const (.agg [.int .i64 0, .int .i64 0])), none, []⟩]
def k_curve_steepness_curve_byGrid_r3 : List AOper := [
  ⟨(some (24)), .load (some (3)) (.tmp 15), none, []⟩, 
  ⟨(some (25)), .call (.const (.fn (.func 115) [] [])) [.tmp 24], none, []⟩, 
  ⟨(some (26)), .move (.const (.int .i64 0)), none, []⟩]
def k_curve_steepness_curve_byGrid_r4 : List AOper := [
  ⟨(some (27)), .bin .plain .lss (.tmp 26) (.const (.int .i64 2)), none, []⟩]
def k_curve_steepness_curve_byGrid_r5 : List AOper := [
  ⟨(some (28)), .move (.tmp 26), none, []⟩, 
  ⟨(some (29)), .indexAgg 2 1 false (.tmp 25) (.tmp 26), none, []⟩, 
  ⟨(some (17)), .move (.tmp 28), none, []⟩, 
  ⟨(some (18)), .move (.tmp 29), none, []⟩]
def k_curve_steepness_curve_byGrid_r6 : List AOper := [
  ⟨(some (30)), .move (.tmp 18), none, []⟩, 
  ⟨(some (31)), .bin .plain .eql (.tmp 30) (.const (.int .i64 0)), none, []⟩]
def k_curve_steepness_curve_byGrid_r7 : List AOper := [
  ⟨(some (32)), .fieldAddr 0 (.tmp 15), none, []⟩, 
  ⟨(some (33)), .load none (.tmp 32), none, []⟩, 
  ⟨(some (34)), .move (.tmp 17), none, []⟩, 
  ⟨(some (35)), .bin .plain .add (.tmp 33) (.tmp 34), none, []⟩, 
  ⟨(some (19)), .move (.tmp 35), none, []⟩]
def k_curve_steepness_curve_byGrid_r8 : List AOper := [
  ⟨(some (36)), .fieldAddr 0 (.tmp 16), none, []⟩, 
  ⟨(some (37)), .load none (.tmp 36), none, []⟩, 
  ⟨(some (38)), .move (.tmp 18), none, [0, 1]⟩, 
  ⟨(some (39)), .move (.tmp 0), none, [0, 1, 2]⟩, 
  ⟨(some (40)), .makeIface 122 (.tmp 39), none, [0, 1, 2]⟩, 
  ⟨(some (41)), .move (.tmp 4), none, [0, 1, 2, 3, 4]⟩, 
  ⟨(some (42)), .bin .plain .add (.tmp 41) (.const (.int .i64 1)), none, [0, 1, 2, 3, 4]⟩, 
  ⟨(some (43)), .move (.tmp 19), none, [0, 1, 2, 3, 4, 5, 6]⟩, 
  ⟨(some (44)), .callM [(122, 142), (124, 143)] (.tmp 40) [.tmp 42, .tmp 43], none, [0, 1, 2]⟩, 
  ⟨(some (45)), .move (.tmp 1), none, [0, 1, 2, 3, 4, 5, 6, 7, 8]⟩, 
  ⟨(some (46)), .makeIface 122 (.tmp 45), none, [0, 1, 2, 3, 4, 5, 6, 7, 8]⟩, 
  ⟨(some (47)), .move (.tmp 4), none, [0, 1, 2, 3, 4, 5, 6, 7, 8, 9, 10]⟩, 
  ⟨(some (48)), .move (.tmp 19), none, [0, 1, 2, 3, 4, 5, 6, 7, 8, 9, 10, 11]⟩, 
  ⟨(some (49)), .callM [(122, 142), (124, 143)] (.tmp 46) [.tmp 47, .tmp 48], none, [0, 1, 2]⟩, 
  ⟨(some (50)), .bin .plain .sub (.tmp 44) (.tmp 49), none, [0, 1, 2]⟩, 
  ⟨(some (51)), .minmax true [.const (.int .i64 0), .tmp 50], none, [0, 1, 2]⟩, 
  ⟨(some (52)), .bin .plain .mul (.tmp 38) (.tmp 51), none, [0, 1]⟩, 
  ⟨(some (53)), .bin .plain .add (.tmp 37) (.tmp 52), none, []⟩, 
  ⟨(some (54)), .fieldAddr 0 (.tmp 16), none, []⟩, 
  ⟨none, .store 1 (.tmp 54) (.tmp 53), none, []⟩]
def k_curve_steepness_curve_byGrid_r8s : List (List AOper) := [
  [
  ⟨(some (36)), .fieldAddr 0 (.tmp 16), none, []⟩, 
  ⟨(some (37)), .load none (.tmp 36), none, []⟩, 
  ⟨(some (38)), .move (.tmp 18), none, [0, 1]⟩, 
  ⟨(some (39)), .move (.tmp 0), none, [0, 1, 2]⟩, 
  ⟨(some (40)), .makeIface 122 (.tmp 39), none, [0, 1, 2]⟩, 
  ⟨(some (41)), .move (.tmp 4), none, [0, 1, 2, 3, 4]⟩, 
  ⟨(some (42)), .bin .plain .add (.tmp 41) (.const (.int .i64 1)), none, [0, 1, 2, 3, 4]⟩, 
  ⟨(some (43)), .move (.tmp 19), none, [0, 1, 2, 3, 4, 5, 6]⟩, 
  ⟨(some (44)), .callM [(122, 142), (124, 143)] (.tmp 40) [.tmp 42, .tmp 43], none, [0, 1, 2]⟩, 
  ⟨(some (45)), .move (.tmp 1), none, [0, 1, 2, 3, 4, 5, 6, 7, 8]⟩, 
  ⟨(some (46)), .makeIface 122 (.tmp 45), none, [0, 1, 2, 3, 4, 5, 6, 7, 8]⟩, 
  ⟨(some (47)), .move (.tmp 4), none, [0, 1, 2, 3, 4, 5, 6, 7, 8, 9, 10]⟩, 
  ⟨(some (48)), .move (.tmp 19), none, [0, 1, 2, 3, 4, 5, 6, 7, 8, 9, 10, 11]⟩, 
  ⟨(some (49)), .callM [(122, 142), (124, 143)] (.tmp 46) [.tmp 47, .tmp 48], none, [0, 1, 2]⟩, 
  ⟨(some (50)), .bin .plain .sub (.tmp 44) (.tmp 49), none, [0, 1, 2]⟩, 
  ⟨(some (51)), .minmax true [.const (.int .i64 0), .tmp 50], none, [0, 1, 2]⟩, 
  ⟨(some (52)), .bin .plain .mul (.tmp 38) (.tmp 51), none, [0, 1]⟩], 
  [
  ⟨(some (53)), .bin .plain .add (.tmp 37) (.tmp 52), none, []⟩], 
  [
  ⟨(some (54)), .fieldAddr 0 (.tmp 16), none, []⟩], 
  [
  ⟨none, .store 1 (.tmp 54) (.tmp 53), none, []⟩]]
theorem k_curve_steepness_curve_byGrid_r8_sg : segs k_curve_steepness_curve_byGrid_r8 = k_curve_steepness_curve_byGrid_r8s := by kernel_rfl
theorem k_curve_steepness_curve_byGrid_r8_st : statOK k_curve_steepness_curve_byGrid_r8 = true := by kernel_rfl
def k_curve_steepness_curve_byGrid_r9 : List AOper := [
  ⟨(some (55)), .fieldAddr 1 (.tmp 16), none, []⟩, 
  ⟨(some (56)), .load none (.tmp 55), none, []⟩, 
  ⟨(some (57)), .move (.tmp 18), none, [0, 1]⟩, 
  ⟨(some (58)), .move (.tmp 1), none, [0, 1, 2]⟩, 
  ⟨(some (59)), .makeIface 122 (.tmp 58), none, [0, 1, 2]⟩, 
  ⟨(some (60)), .move (.tmp 4), none, [0, 1, 2, 3, 4]⟩, 
  ⟨(some (61)), .bin .plain .add (.tmp 60) (.const (.int .i64 1)), none, [0, 1, 2, 3, 4]⟩, 
  ⟨(some (62)), .move (.tmp 19), none, [0, 1, 2, 3, 4, 5, 6]⟩, 
  ⟨(some (63)), .callM [(122, 142), (124, 143)] (.tmp 59) [.tmp 61, .tmp 62], none, [0, 1, 2]⟩, 
  ⟨(some (64)), .move (.tmp 0), none, [0, 1, 2, 3, 4, 5, 6, 7, 8]⟩, 
  ⟨(some (65)), .makeIface 122 (.tmp 64), none, [0, 1, 2, 3, 4, 5, 6, 7, 8]⟩, 
  ⟨(some (66)), .move (.tmp 4), none, [0, 1, 2, 3, 4, 5, 6, 7, 8, 9, 10]⟩, 
  ⟨(some (67)), .move (.tmp 19), none, [0, 1, 2, 3, 4, 5, 6, 7, 8, 9, 10, 11]⟩, 
  ⟨(some (68)), .callM [(122, 142), (124, 143)] (.tmp 65) [.tmp 66, .tmp 67], none, [0, 1, 2]⟩, 
  ⟨(some (69)), .bin .plain .sub (.tmp 63) (.tmp 68), none, [0, 1, 2]⟩, 
  ⟨(some (70)), .bin .plain .mul (.tmp 57) (.tmp 69), none, [0, 1]⟩, 
  ⟨(some (71)), .bin .plain .add (.tmp 56) (.tmp 70), none, []⟩, 
  ⟨(some (72)), .fieldAddr 1 (.tmp 16), none, []⟩, 
  ⟨none, .store 1 (.tmp 72) (.tmp 71), none, []⟩]
def k_curve_steepness_curve_byGrid_r9s : List (List AOper) := [
  [
  ⟨(some (55)), .fieldAddr 1 (.tmp 16), none, []⟩, 
  ⟨(some (56)), .load none (.tmp 55), none, []⟩, 
  ⟨(some (57)), .move (.tmp 18), none, [0, 1]⟩, 
  ⟨(some (58)), .move (.tmp 1), none, [0, 1, 2]⟩, 
  ⟨(some (59)), .makeIface 122 (.tmp 58), none, [0, 1, 2]⟩, 
  ⟨(some (60)), .move (.tmp 4), none, [0, 1, 2, 3, 4]⟩, 
  ⟨(some (61)), .bin .plain .add (.tmp 60) (.const (.int .i64 1)), none, [0, 1, 2, 3, 4]⟩, 
  ⟨(some (62)), .move (.tmp 19), none, [0, 1, 2, 3, 4, 5, 6]⟩, 
  ⟨(some (63)), .callM [(122, 142), (124, 143)] (.tmp 59) [.tmp 61, .tmp 62], none, [0, 1, 2]⟩, 
  ⟨(some (64)), .move (.tmp 0), none, [0, 1, 2, 3, 4, 5, 6, 7, 8]⟩, 
  ⟨(some (65)), .makeIface 122 (.tmp 64), none, [0, 1, 2, 3, 4, 5, 6, 7, 8]⟩, 
  ⟨(some (66)), .move (.tmp 4), none, [0, 1, 2, 3, 4, 5, 6, 7, 8, 9, 10]⟩, 
  ⟨(some (67)), .move (.tmp 19), none, [0, 1, 2, 3, 4, 5, 6, 7, 8, 9, 10, 11]⟩, 
  ⟨(some (68)), .callM [(122, 142), (124, 143)] (.tmp 65) [.tmp 66, .tmp 67], none, [0, 1, 2]⟩, 
  ⟨(some (69)), .bin .plain .sub (.tmp 63) (.tmp 68), none, [0, 1, 2]⟩, 
  ⟨(some (70)), .bin .plain .mul (.tmp 57) (.tmp 69), none, [0, 1]⟩], 
  [
  ⟨(some (71)), .bin .plain .add (.tmp 56) (.tmp 70), none, []⟩], 
  [
  ⟨(some (72)), .fieldAddr 1 (.tmp 16), none, []⟩], 
  [
  ⟨none, .store 1 (.tmp 72) (.tmp 71), none, []⟩]]
theorem k_curve_steepness_curve_byGrid_r9_sg : segs k_curve_steepness_curve_byGrid_r9 = k_curve_steepness_curve_byGrid_r9s := by kernel_rfl
theorem k_curve_steepness_curve_byGrid_r9_st : statOK k_curve_steepness_curve_byGrid_r9 = true := by kernel_rfl
def k_curve_steepness_curve_byGrid_r10 : List AOper := [
  ⟨(some (73)), .bin .plain .add (.tmp 26) (.const (.int .i64 1)), none, []⟩, 
  ⟨(some (26)), .move (.tmp 73), none, []⟩]
def k_curve_steepness_curve_byGrid_r11 : ACode := (.seq (.reg k_curve_steepness_curve_byGrid_r4 false) (.seq (.cond (.tmp 27) .skip (.exit 0)) (.seq (.block 1 (.seq (.reg k_curve_steepness_curve_byGrid_r5 false) (.seq (.seq (.reg k_curve_steepness_curve_byGrid_r6 false) (.cond (.tmp 31) (.exit 1) .skip)) (.seq (.reg k_curve_steepness_curve_byGrid_r7 false) (.seq (.reg k_curve_steepness_curve_byGrid_r8 true) (.reg k_curve_steepness_curve_byGrid_r9 true)))))) (.reg k_curve_steepness_curve_byGrid_r10 false))))
def k_curve_steepness_curve_byGrid_r12 : List AOper := [
  ⟨(some (74)), .move (.tmp 2), none, []⟩, 
  ⟨(some (75)), .move (.tmp 4), none, [0]⟩, 
  ⟨(some (76)), .bin .plain .add (.tmp 75) (.const (.int .i64 1)), none, [0]⟩, 
  ⟨(some (77)), .indexAddr 1 (.tmp 74) (.tmp 76), none, []⟩, 
  ⟨(some (78)), .load none (.tmp 77), none, []⟩, 
  ⟨(some (79)), .move (.tmp 2), none, [0, 1, 2, 3, 4]⟩, 
  ⟨(some (80)), .move (.tmp 4), none, [0, 1, 2, 3, 4, 5]⟩, 
  ⟨(some (81)), .indexAddr 1 (.tmp 79) (.tmp 80), none, [0, 1, 2, 3, 4]⟩, 
  ⟨(some (82)), .load none (.tmp 81), none, [0, 1, 2, 3, 4]⟩, 
  ⟨(some (83)), .bin .plain .sub (.tmp 78) (.tmp 82), none, []⟩, 
  ⟨(some (84)), .fieldAddr 2 (.tmp 15), none, [0, 1, 2, 3, 4, 5, 6, 7, 8, 9]⟩, 
  ⟨(some (85)), .load none (.tmp 84), none, [0, 1, 2, 3, 4, 5, 6, 7, 8, 9]⟩, 
  ⟨(some (86)), .bin .plain .mul (.tmp 83) (.tmp 85), none, []⟩, 
  ⟨(some (20)), .move (.tmp 86), none, []⟩]
def k_curve_steepness_curve_byGrid_r12s : List (List AOper) := [
  [
  ⟨(some (74)), .move (.tmp 2), none, []⟩, 
  ⟨(some (75)), .move (.tmp 4), none, [0]⟩, 
  ⟨(some (76)), .bin .plain .add (.tmp 75) (.const (.int .i64 1)), none, [0]⟩, 
  ⟨(some (77)), .indexAddr 1 (.tmp 74) (.tmp 76), none, []⟩, 
  ⟨(some (78)), .load none (.tmp 77), none, []⟩, 
  ⟨(some (79)), .move (.tmp 2), none, [0, 1, 2, 3, 4]⟩, 
  ⟨(some (80)), .move (.tmp 4), none, [0, 1, 2, 3, 4, 5]⟩, 
  ⟨(some (81)), .indexAddr 1 (.tmp 79) (.tmp 80), none, [0, 1, 2, 3, 4]⟩, 
  ⟨(some (82)), .load none (.tmp 81), none, [0, 1, 2, 3, 4]⟩, 
  ⟨(some (83)), .bin .plain .sub (.tmp 78) (.tmp 82), none, []⟩, 
  ⟨(some (84)), .fieldAddr 2 (.tmp 15), none, [0, 1, 2, 3, 4, 5, 6, 7, 8, 9]⟩, 
  ⟨(some (85)), .load none (.tmp 84), none, [0, 1, 2, 3, 4, 5, 6, 7, 8, 9]⟩], 
  [
  ⟨(some (86)), .bin .plain .mul (.tmp 83) (.tmp 85), none, []⟩], 
  [
  ⟨(some (20)), .move (.tmp 86), none, []⟩]]
theorem k_curve_steepness_curve_byGrid_r12_sg : segs k_curve_steepness_curve_byGrid_r12 = k_curve_steepness_curve_byGrid_r12s := by kernel_rfl
theorem k_curve_steepness_curve_byGrid_r12_st : statOK k_curve_steepness_curve_byGrid_r12 = true := by kernel_rfl
def k_curve_steepness_curve_byGrid_r13 : List AOper := [
  ⟨(some (87)), .move (.tmp 6), none, []⟩, 
  ⟨(some (88)), .fieldAddr 0 (.tmp 16), none, [0]⟩, 
  ⟨(some (89)), .load none (.tmp 88), none, [0]⟩, 
  ⟨(some (90)), .bin .plain .mul (.tmp 87) (.tmp 89), none, []⟩, 
  ⟨(some (91)), .move (.tmp 20), none, [0, 1, 2, 3]⟩, 
  ⟨(some (92)), .bin .plain .quo (.tmp 90) (.tmp 91), none, []⟩, 
  ⟨(some (93)), .move (.tmp 6), none, [0, 1, 2, 3, 4, 5]⟩, 
  ⟨(some (94)), .fieldAddr 1 (.tmp 16), none, [0, 1, 2, 3, 4, 5, 6]⟩, 
  ⟨(some (95)), .load none (.tmp 94), none, [0, 1, 2, 3, 4, 5, 6]⟩, 
  ⟨(some (96)), .bin .plain .mul (.tmp 93) (.tmp 95), none, [0, 1, 2, 3, 4, 5]⟩, 
  ⟨(some (97)), .move (.tmp 20), none, [0, 1, 2, 3, 4, 5, 6, 7, 8, 9]⟩, 
  ⟨(some (98)), .call (.const (.fn (.func 85) [] [])) [.tmp 96, .tmp 97], none, [0, 1, 2, 3, 4, 5]⟩, 
  ⟨(some (99)), .build [.int .i64 0, .int .i64 0] [(0, 1, .tmp 92), (1, 1, .tmp 98)], none, []⟩, 
  ⟨none, .store 2 (.tmp 14) (.tmp 99), none, []⟩]
def k_curve_steepness_curve_byGrid_r13s : List (List AOper) := [
  [
  ⟨(some (87)), .move (.tmp 6), none, []⟩, 
  ⟨(some (88)), .fieldAddr 0 (.tmp 16), none, [0]⟩, 
  ⟨(some (89)), .load none (.tmp 88), none, [0]⟩, 
  ⟨(some (90)), .bin .plain .mul (.tmp 87) (.tmp 89), none, []⟩, 
  ⟨(some (91)), .move (.tmp 20), none, [0, 1, 2, 3]⟩, 
  ⟨(some (92)), .bin .plain .quo (.tmp 90) (.tmp 91), none, []⟩, 
  ⟨(some (93)), .move (.tmp 6), none, [0, 1, 2, 3, 4, 5]⟩, 
  ⟨(some (94)), .fieldAddr 1 (.tmp 16), none, [0, 1, 2, 3, 4, 5, 6]⟩, 
  ⟨(some (95)), .load none (.tmp 94), none, [0, 1, 2, 3, 4, 5, 6]⟩, 
  ⟨(some (96)), .bin .plain .mul (.tmp 93) (.tmp 95), none, [0, 1, 2, 3, 4, 5]⟩, 
  ⟨(some (97)), .move (.tmp 20), none, [0, 1, 2, 3, 4, 5, 6, 7, 8, 9]⟩, 
  ⟨(some (98)), .call (.const (.fn (.func 85) [] [])) [.tmp 96, .tmp 97], none, [0, 1, 2, 3, 4, 5]⟩], 
  [
  ⟨(some (99)), .build [.int .i64 0, .int .i64 0] [(0, 1, .tmp 92), (1, 1, .tmp 98)], none, []⟩], 
  [
  ⟨none, .store 2 (.tmp 14) (.tmp 99), none, []⟩]]
theorem k_curve_steepness_curve_byGrid_r13_sg : segs k_curve_steepness_curve_byGrid_r13 = k_curve_steepness_curve_byGrid_r13s := by kernel_rfl
theorem k_curve_steepness_curve_byGrid_r13_st : statOK k_curve_steepness_curve_byGrid_r13 = true := by kernel_rfl
def k_curve_steepness_curve_byGrid : AFun := { params := 7, ntmps := 100, body := (.seq (.reg k_curve_steepness_curve_byGrid_r0 false) (.seq (.reg k_curve_steepness_curve_byGrid_r1 false) (.seq (.reg k_curve_steepness_curve_byGrid_r2 false) (.seq (.seq (.reg k_curve_steepness_curve_byGrid_r3 false) (.block 0 (.loop k_curve_steepness_curve_byGrid_r11))) (.seq (.reg k_curve_steepness_curve_byGrid_r12 true) (.seq (.reg k_curve_steepness_curve_byGrid_r13 true) .ret)))))), res := [.cell 14 (some ((some (2))))] }
theorem k_curve_steepness_curve_byGrid_ok : cfun Try.prog Try.f118 = k_curve_steepness_curve_byGrid := by kernel_rfl

def k_curve_steepness_curve_byPlate_r0 : List AOper := [
  ⟨(some (14)), .box (.const (.agg [.int .i64 0, .int .i64 0])), none, []⟩]
def k_curve_steepness_curve_byPlate_r1 : List AOper := [
  ⟨(some (21)), .move (.tmp 3), none, []⟩, 
  ⟨(some (22)), .move (.tmp 5), none, []⟩, 
  ⟨(some (23)), .call (.const (.fn (.func 83) [] [])) [.tmp 21, .tmp 22], none, []⟩, 
  ⟨(some (15)), .box (.const (.agg [.int .i64 0, .int .i64 0, .int .i64 0])), none, []⟩, 
  ⟨none, .store 3 (.tmp 15) (.tmp 23), none, []⟩]
def k_curve_steepness_curve_byPlate_r2 : List AOper := [
  ⟨(some (16)), .box (.const (.agg [.int .i64 0, .int .i64 0])), none, []⟩]
def k_curve_steepness_curve_byPlate_r3 : List AOper := [
  ⟨(some (24)), .load (some (3)) (.tmp 15), none, []⟩, 
  ⟨(some (25)), .call (.const (.fn (.func 115) [] [])) [.tmp 24], none, []⟩, 
  ⟨(some (26)), .move (.const (.int .i64 0)), none, []⟩]
def k_curve_steepness_curve_byPlate_r4 : List AOper := [
  ⟨(some (27)), .bin .plain .lss (.tmp 26) (.const (.int .i64 2)), none, []⟩]
def k_curve_steepness_curve_byPlate_r5 : List AOper := [
  ⟨(some (28)), .move (.tmp 26), none, []⟩, 
  ⟨(some (29)), .indexAgg 2 1 false (.tmp 25) (.tmp 26), none, []⟩, 
  ⟨(some (17)), .move (.tmp 28), none, []⟩, 
  ⟨(some (18)), .move (.tmp 29), none, []⟩]
def k_curve_steepness_curve_byPlate_r6 : List AOper := [
  ⟨(some (30)), .move (.tmp 18), none, []⟩, 
  ⟨(some (31)), .bin .plain .eql (.tmp 30) (.const (.int .i64 0)), none, []⟩]
def k_curve_steepness_curve_byPlate_r7 : List AOper := [
  ⟨(some (32)), .fieldAddr 0 (.tmp 15), none, []⟩, 
  ⟨(some (33)), .load none (.tmp 32), none, []⟩, 
  ⟨(some (34)), .move (.tmp 17), none, []⟩, 
  ⟨(some (35)), .bin .plain .add (.tmp 33) (.tmp 34), none, []⟩, 
  ⟨(some (19)), .move (.tmp 35), none, []⟩]
def k_curve_steepness_curve_byPlate_r8 : List AOper := [
  ⟨(some (36)), .fieldAddr 0 (.tmp 16), none, []⟩, 
  ⟨(some (37)), .load none (.tmp 36), none, []⟩, 
  ⟨(some (38)), .move (.tmp 18), none, [0, 1]⟩, 
  ⟨(some (39)), .move (.tmp 0), none, [0, 1, 2]⟩, 
  ⟨(some (40)), .makeIface 124 (.tmp 39), none, [0, 1, 2]⟩, 
  ⟨(some (41)), .move (.tmp 4), none, [0, 1, 2, 3, 4]⟩, 
  ⟨(some (42)), .bin .plain .add (.tmp 41) (.const (.int .i64 1)), none, [0, 1, 2, 3, 4]⟩, 
  ⟨(some (43)), .move (.tmp 19), none, [0, 1, 2, 3, 4, 5, 6]⟩, 
  ⟨(some (44)), .callM [(122, 142), (124, 143)] (.tmp 40) [.tmp 42, .tmp 43], none, [0, 1, 2]⟩, 
  ⟨(some (45)), .move (.tmp 1), none, [0, 1, 2, 3, 4, 5, 6, 7, 8]⟩, 
  ⟨(some (46)), .makeIface 124 (.tmp 45), none, [0, 1, 2, 3, 4, 5, 6, 7, 8]⟩, 
  ⟨(some (47)), .move (.tmp 4), none, [0, 1, 2, 3, 4, 5, 6, 7, 8, 9, 10]⟩, 
  ⟨(some (48)), .move (.tmp 19), none, [0, 1, 2, 3, 4, 5, 6, 7, 8, 9, 10, 11]⟩, 
  ⟨(some (49)), .callM [(122, 142), (124, 143)] (.tmp 46) [.tmp 47, .tmp 48], none, [0, 1, 2]⟩, 
  ⟨(some (50)), .bin .plain .sub (.tmp 44) (.tmp 49), none, [0, 1, 2]⟩, 
  ⟨(some (51)), .minmax true [.const (.int .i64 0), .tmp 50], none, [0, 1, 2]⟩, 
  ⟨(some (52)), .bin .plain .mul (.tmp 38) (.tmp 51), none, [0, 1]⟩, 
  ⟨(some (53)), .bin .plain .add (.tmp 37) (.tmp 52), none, []⟩, 
  ⟨(some (54)), .fieldAddr 0 (.tmp 16), none, []⟩, 
  ⟨none, .store 1 (.tmp 54) (.tmp 53), none, []⟩]
def k_curve_steepness_curve_byPlate_r8s : List (List AOper) := [
  [
  ⟨(some (36)), .fieldAddr 0 (.tmp 16), none, []⟩, 
  ⟨(some (37)), .load none (.tmp 36), none, []⟩, 
  ⟨(some (38)), .move (.tmp 18), none, [0, 1]⟩, 
  ⟨(some (39)), .move (.tmp 0), none, [0, 1, 2]⟩, 
  ⟨(some (40)), .makeIface 124 (.tmp 39), none, [0, 1, 2]⟩, 
  ⟨(some (41)), .move (.tmp 4), none, [0, 1, 2, 3, 4]⟩, 
  ⟨(some (42)), .bin .plain .add (.tmp 41) (.const (.int .i64 1)), none, [0, 1, 2, 3, 4]⟩, 
  ⟨(some (43)), .move (.tmp 19), none, [0, 1, 2, 3, 4, 5, 6]⟩, 
  ⟨(some (44)), .callM [(122, 142), (124, 143)] (.tmp 40) [.tmp 42, .tmp 43], none, [0, 1, 2]⟩, 
  ⟨(some (45)), .move (.tmp 1), none, [0, 1, 2, 3, 4, 5, 6, 7, 8]⟩, 
  ⟨(some (46)), .makeIface 124 (.tmp 45), none, [0, 1, 2, 3, 4, 5, 6, 7, 8]⟩, 
  ⟨(some (47)), .move (.tmp 4), none, [0, 1, 2, 3, 4, 5, 6, 7, 8, 9, 10]⟩, 
  ⟨(some (48)), .move (.tmp 19), none, [0, 1, 2, 3, 4, 5, 6, 7, 8, 9, 10, 11]⟩, 
  ⟨(some (49)), .callM [(122, 142), (124, 143)] (.tmp 46) [.tmp 47, .tmp 48], none, [0, 1, 2]⟩, 
  ⟨(some (50)), .bin .plain .sub (.tmp 44) (.tmp 49), none, [0, 1, 2]⟩, 
  ⟨(some (51)), .minmax true [.const (.int .i64 0), .tmp 50], none, [0, 1, 2]⟩, 
  ⟨(some (52)), .bin .plain .mul (.tmp 38) (.tmp 51), none, [0, 1]⟩], 
  [
  ⟨(some (53)), .bin .plain .add (.tmp 37) (.tmp 52), none, []⟩], 
  [
  ⟨(some (54)), .fieldAddr 0 (.tmp 16), none, []⟩], 
  [
  ⟨none, .store 1 (.tmp 54) (.tmp 53), none, []⟩]]
theorem k_curve_steepness_curve_byPlate_r8_sg : segs k_curve_steepness_curve_byPlate_r8 = k_curve_steepness_curve_byPlate_r8s := by kernel_rfl
theorem k_curve_steepness_curve_byPlate_r8_st : statOK k_curve_steepness_curve_byPlate_r8 = true := by kernel_rfl
def k_curve_steepness_curve_byPlate_r9 : List AOper := [
  ⟨(some (55)), .fieldAddr 1 (.tmp 16), none, []⟩, 
  ⟨(some (56)), .load none (.tmp 55), none, []⟩, 
  ⟨(some (57)), .move (.tmp 18), none, [0, 1]⟩, 
  ⟨(some (58)), .move (.tmp 1), none, [0, 1, 2]⟩, 
  ⟨(some (59)), .makeIface 124 (.tmp 58), none, [0, 1, 2]⟩, 
  ⟨(some (60)), .move (.tmp 4), none, [0, 1, 2, 3, 4]⟩, 
  ⟨(some (61)), .bin .plain .add (.tmp 60) (.const (.int .i64 1)), none, [0, 1, 2, 3, 4]⟩, 
  ⟨(some (62)), .move (.tmp 19), none, [0, 1, 2, 3, 4, 5, 6]⟩, 
  ⟨(some (63)), .callM [(122, 142), (124, 143)] (.tmp 59) [.tmp 61, .tmp 62], none, [0, 1, 2]⟩, 
  ⟨(some (64)), .move (.tmp 0), none, [0, 1, 2, 3, 4, 5, 6, 7, 8]⟩, 
  ⟨(some (65)), .makeIface 124 (.tmp 64), none, [0, 1, 2, 3, 4, 5, 6, 7, 8]⟩, 
  ⟨(some (66)), .move (.tmp 4), none, [0, 1, 2, 3, 4, 5, 6, 7, 8, 9, 10]⟩, 
  ⟨(some (67)), .move (.tmp 19), none, [0, 1, 2, 3, 4, 5, 6, 7, 8, 9, 10, 11]⟩, 
  ⟨(some (68)), .callM [(122, 142), (124, 143)] (.tmp 65) [.tmp 66, .tmp 67], none, [0, 1, 2]⟩, 
  ⟨(some (69)), .bin .plain .sub (.tmp 63) (.tmp 68), none, [0, 1, 2]⟩, 
  ⟨(some (70)), .bin .plain .mul (.tmp 57) (.tmp 69), none, [0, 1]⟩, 
  ⟨(some (71)), .bin .plain .add (.tmp 56) (.tmp 70), none, []⟩, 
  ⟨(some (72)), .fieldAddr 1 (.tmp 16), none, []⟩, 
  ⟨none, .store 1 (.tmp 72) (.tmp 71), none, []⟩]
def k_curve_steepness_curve_byPlate_r9s : List (List AOper) := [
  [
  ⟨(some (55)), .fieldAddr 1 (.tmp 16), none, []⟩, 
  ⟨(some (56)), .load none (.tmp 55), none, []⟩, 
  ⟨(some (57)), .move (.tmp 18), none, [0, 1]⟩, 
  ⟨(some (58)), .move (.tmp 1), none, [0, 1, 2]⟩, 
  ⟨(some (59)), .makeIface 124 (.tmp 58), none, [0, 1, 2]⟩, 
  ⟨(some (60)), .move (.tmp 4), none, [0, 1, 2, 3, 4]⟩, 
  ⟨(some (61)), .bin .plain .add (.tmp 60) (.const (.int .i64 1)), none, [0, 1, 2, 3, 4]⟩, 
  ⟨(some (62)), .move (.tmp 19), none, [0, 1, 2, 3, 4, 5, 6]⟩, 
  ⟨(some (63)), .callM [(122, 142), (124, 143)] (.tmp 59) [.tmp 61, .tmp 62], none, [0, 1, 2]⟩, 
  ⟨(some (64)), .move (.tmp 0), none, [0, 1, 2, 3, 4, 5, 6, 7, 8]⟩, 
  ⟨(some (65)), .makeIface 124 (.tmp 64), none, [0, 1, 2, 3, 4, 5, 6, 7, 8]⟩, 
  ⟨(some (66)), .move (.tmp 4), none, [0, 1, 2, 3, 4, 5, 6, 7, 8, 9, 10]⟩, 
  ⟨(some (67)), .move (.tmp 19), none, [0, 1, 2, 3, 4, 5, 6, 7, 8, 9, 10, 11]⟩, 
  ⟨(some (68)), .callM [(122, 142), (124, 143)] (.tmp 65) [.tmp 66, .tmp 67], none, [0, 1, 2]⟩, 
  ⟨(some (69)), .bin .plain .sub (.tmp 63) (.tmp 68), none, [0, 1, 2]⟩, 
  ⟨(some (70)), .bin .plain .mul (.tmp 57) (.tmp 69), none, [0, 1]⟩], 
  [
  ⟨(some (71)), .bin .plain .add (.tmp 56) (.tmp 70), none, []⟩], 
  [
  ⟨(some (72)), .fieldAddr 1 (.tmp 16), none, []⟩], 
  [
  ⟨none, .store 1 (.tmp 72) (.tmp 71), none, []⟩]]
theorem k_curve_steepness_curve_byPlate_r9_sg : segs k_curve_steepness_curve_byPlate_r9 = k_curve_steepness_curve_byPlate_r9s := by kernel_rfl
theorem k_curve_steepness_curve_byPlate_r9_st : statOK k_curve_steepness_curve_byPlate_r9 = true := by kernel_rfl
def k_curve_steepness_curve_byPlate_r10 : List AOper := [
  ⟨(some (73)), .bin .plain .add (.tmp 26) (.const (.int .i64 1)), none, []⟩, 
  ⟨(some (26)), .move (.tmp 73), none, []⟩]
def k_curve_steepness_curve_byPlate_r11 : ACode := (.seq (.reg k_curve_steepness_curve_byPlate_r4 false) (.seq (.cond (.tmp 27) .skip (.exit 0)) (.seq (.block 1 (.seq (.reg k_curve_steepness_curve_byPlate_r5 false) (.seq (.seq (.reg k_curve_steepness_curve_byPlate_r6 false) (.cond (.tmp 31) (.exit 1) .skip)) (.seq (.reg k_curve_steepness_curve_byPlate_r7 false) (.seq (.reg k_curve_steepness_curve_byPlate_r8 true) (.reg k_curve_steepness_curve_byPlate_r9 true)))))) (.reg k_curve_steepness_curve_byPlate_r10 false))))
def k_curve_steepness_curve_byPlate_r12 : List AOper := [
  ⟨(some (74)), .move (.tmp 2), none, []⟩, 
  ⟨(some (75)), .move (.tmp 4), none, [0]⟩, 
  ⟨(some (76)), .bin .plain .add (.tmp 75) (.const (.int .i64 1)), none, [0]⟩, 
  ⟨(some (77)), .indexAddr 1 (.tmp 74) (.tmp 76), none, []⟩, 
  ⟨(some (78)), .load none (.tmp 77), none, []⟩, 
  ⟨(some (79)), .move (.tmp 2), none, [0, 1, 2, 3, 4]⟩, 
  ⟨(some (80)), .move (.tmp 4), none, [0, 1, 2, 3, 4, 5]⟩, 
  ⟨(some (81)), .indexAddr 1 (.tmp 79) (.tmp 80), none, [0, 1, 2, 3, 4]⟩, 
  ⟨(some (82)), .load none (.tmp 81), none, [0, 1, 2, 3, 4]⟩, 
  ⟨(some (83)), .bin .plain .sub (.tmp 78) (.tmp 82), none, []⟩, 
  ⟨(some (84)), .fieldAddr 2 (.tmp 15), none, [0, 1, 2, 3, 4, 5, 6, 7, 8, 9]⟩, 
  ⟨(some (85)), .load none (.tmp 84), none, [0, 1, 2, 3, 4, 5, 6, 7, 8, 9]⟩, 
  ⟨(some (86)), .bin .plain .mul (.tmp 83) (.tmp 85), none, []⟩, 
  ⟨(some (20)), .move (.tmp 86), none, []⟩]
def k_curve_steepness_curve_byPlate_r12s : List (List AOper) := [
  [
  ⟨(some (74)), .move (.tmp 2), none, []⟩, 
  ⟨(some (75)), .move (.tmp 4), none, [0]⟩, 
  ⟨(some (76)), .bin .plain .add (.tmp 75) (.const (.int .i64 1)), none, [0]⟩, 
  ⟨(some (77)), .indexAddr 1 (.tmp 74) (.tmp 76), none, []⟩, 
  ⟨(some (78)), .load none (.tmp 77), none, []⟩, 
  ⟨(some (79)), .move (.tmp 2), none, [0, 1, 2, 3, 4]⟩, 
  ⟨(some (80)), .move (.tmp 4), none, [0, 1, 2, 3, 4, 5]⟩, 
  ⟨(some (81)), .indexAddr 1 (.tmp 79) (.tmp 80), none, [0, 1, 2, 3, 4]⟩, 
  ⟨(some (82)), .load none (.tmp 81), none, [0, 1, 2, 3, 4]⟩, 
  ⟨(some (83)), .bin .plain .sub (.tmp 78) (.tmp 82), none, []⟩, 
  ⟨(some (84)), .fieldAddr 2 (.tmp 15), none, [0, 1, 2, 3, 4, 5, 6, 7, 8, 9]⟩, 
  ⟨(some (85)), .load none (.tmp 84), none, [0, 1, 2, 3, 4, 5, 6, 7, 8, 9]⟩], 
  [
  ⟨(some (86)), .bin .plain .mul (.tmp 83) (.tmp 85), none, []⟩], 
  [
  ⟨(some (20)), .move (.tmp 86), none, []⟩]]
theorem k_curve_steepness_curve_byPlate_r12_sg : segs k_curve_steepness_curve_byPlate_r12 = k_curve_steepness_curve_byPlate_r12s := by kernel_rfl
theorem k_curve_steepness_curve_byPlate_r12_st : statOK k_curve_steepness_curve_byPlate_r12 = true := by kernel_rfl
def k_curve_steepness_curve_byPlate_r13 : List AOper := [
  ⟨(some (87)), .move (.tmp 6), none, []⟩, 
  ⟨(some (88)), .fieldAddr 0 (.tmp 16), none, [0]⟩, 
  ⟨(some (89)), .load none (.tmp 88), none, [0]⟩, 
  ⟨(some (90)), .bin .plain .mul (.tmp 87) (.tmp 89), none, []⟩, 
  ⟨(some (91)), .move (.tmp 20), none, [0, 1, 2, 3]⟩, 
  ⟨(some (92)), .bin .plain .quo (.tmp 90) (.tmp 91), none, []⟩, 
  ⟨(some (93)), .move (.tmp 6), none, [0, 1, 2, 3, 4, 5]⟩, 
  ⟨(some (94)), .fieldAddr 1 (.tmp 16), none, [0, 1, 2, 3, 4, 5, 6]⟩, 
  ⟨(some (95)), .load none (.tmp 94), none, [0, 1, 2, 3, 4, 5, 6]⟩, 
  ⟨(some (96)), .bin .plain .mul (.tmp 93) (.tmp 95), none, [0, 1, 2, 3, 4, 5]⟩, 
  ⟨(some (97)), .move (.tmp 20), none, [0, 1, 2, 3, 4, 5, 6, 7, 8, 9]⟩, 
  ⟨(some (98)), .call (.const (.fn (.func 85) [] [])) [.tmp 96, .tmp 97], none, [0, 1, 2, 3, 4, 5]⟩, 
  ⟨(some (99)), .build [.int .i64 0, .int .i64 0] [(0, 1, .tmp 92), (1, 1, .tmp 98)], none, []⟩, 
  ⟨none, .store 2 (.tmp 14) (.tmp 99), none, []⟩]
def k_curve_steepness_curve_byPlate_r13s : List (List AOper) := [
  [
  ⟨(some (87)), .move (.tmp 6), none, []⟩, 
  ⟨(some (88)), .fieldAddr 0 (.tmp 16), none, [0]⟩, 
  ⟨(some (89)), .load none (.tmp 88), none, [0]⟩, 
  ⟨(some (90)), .bin .plain .mul (.tmp 87) (.tmp 89), none, []⟩, 
  ⟨(some (91)), .move (.tmp 20), none, [0, 1, 2, 3]⟩, 
  ⟨(some (92)), .bin .plain .quo (.tmp 90) (.tmp 91), none, []⟩, 
  ⟨(some (93)), .move (.tmp 6), none, [0, 1, 2, 3, 4, 5]⟩, 
  ⟨(some (94)), .fieldAddr 1 (.tmp 16), none, [0, 1, 2, 3, 4, 5, 6]⟩, 
  ⟨(some (95)), .load none (.tmp 94), none, [0, 1, 2, 3, 4, 5, 6]⟩, 
  ⟨(some (96)), .bin .plain .mul (.tmp 93) (.tmp 95), none, [0, 1, 2, 3, 4, 5]⟩, 
  ⟨(some (97)), .move (.tmp 20), none, [0, 1, 2, 3, 4, 5, 6, 7, 8, 9]⟩, 
  ⟨(some (98)), .call (.const (.fn (.func 85) [] [])) [.tmp 96, .tmp 97], none, [0, 1, 2, 3, 4, 5]⟩], 
  [
  ⟨(some (99)), .build [.int .i64 0, .int .i64 0] [(0, 1, .tmp 92), (1, 1, .tmp 98)], none, []⟩], 
  [
  ⟨none, .store 2 (.tmp 14) (.tmp 99), none, []⟩]]
theorem k_curve_steepness_curve_byPlate_r13_sg : segs k_curve_steepness_curve_byPlate_r13 = k_curve_steepness_curve_byPlate_r13s := by kernel_rfl
theorem k_curve_steepness_curve_byPlate_r13_st : statOK k_curve_steepness_curve_byPlate_r13 = true := by kernel_rfl
def k_curve_steepness_curve_byPlate : AFun := { params := 7, ntmps := 100, body := (.seq (.reg k_curve_steepness_curve_byPlate_r0 false) (.seq (.reg k_curve_steepness_curve_byPlate_r1 false) (.seq (.reg k_curve_steepness_curve_byPlate_r2 false) (.seq (.seq (.reg k_curve_steepness_curve_byPlate_r3 false) (.block 0 (.loop k_curve_steepness_curve_byPlate_r11))) (.seq (.reg k_curve_steepness_curve_byPlate_r12 true) (.seq (.reg k_curve_steepness_curve_byPlate_r13 true) .ret)))))), res := [.cell 14 (some ((some (2))))] }
theorem k_curve_steepness_curve_byPlate_ok : cfun Try.prog Try.f119 = k_curve_steepness_curve_byPlate := by kernel_rfl

def k_curve_byGrid_at_r0 : List AOper := [
  ⟨(some (6)), .move (.const (.int .i64 0)), none, []⟩]
def k_curve_byGrid_at_r1 : List AOper := [
  ⟨(some (7)), .move (.tmp 0), none, []⟩, 
  ⟨(some (8)), .move (.tmp 1), none, []⟩, 
  ⟨(some (9)), .indexAddr 1 (.tmp 7) (.tmp 8), none, []⟩, 
  ⟨(some (10)), .load none (.tmp 9), none, []⟩, 
  ⟨(some (11)), .move (.tmp 2), none, []⟩, 
  ⟨(some (12)), .indexAddr 1 (.tmp 10) (.tmp 11), none, []⟩, 
  ⟨(some (13)), .load none (.tmp 12), none, []⟩, 
  ⟨(some (6)), .move (.tmp 13), none, []⟩]
def k_curve_byGrid_at : AFun := { params := 3, ntmps := 14, body := (.seq (.reg k_curve_byGrid_at_r0 false) (.seq (.reg k_curve_byGrid_at_r1 false) .ret)), res := [.tmp 6] }
theorem k_curve_byGrid_at_ok : cfun Try.prog Try.f142 = k_curve_byGrid_at := by kernel_rfl

def k_curve_byPlate_at_r0 : List AOper := [
  ⟨(some (6)), .move (.const (.int .i64 0)), none, []⟩]
def k_curve_byPlate_at_r1 : List AOper := [
  ⟨(some (7)), .move (.tmp 0), none, []⟩, 
  ⟨(some (8)), .move (.tmp 2), none, []⟩, 
  ⟨(some (9)), .indexAddr 1 (.tmp 7) (.tmp 8), none, []⟩, 
  ⟨(some (10)), .load none (.tmp 9), none, []⟩, 
  ⟨(some (11)), .move (.tmp 1), none, []⟩, 
  ⟨(some (12)), .indexAddr 1 (.tmp 10) (.tmp 11), none, []⟩, 
  ⟨(some (13)), .load none (.tmp 12), none, []⟩, 
  ⟨(some (6)), .move (.tmp 13), none, []⟩]
def k_curve_byPlate_at : AFun := { params := 3, ntmps := 14, body := (.seq (.reg k_curve_byPlate_at_r0 false) (.seq (.reg k_curve_byPlate_at_r1 false) .ret)), res := [.tmp 6] }
theorem k_curve_byPlate_at_ok : cfun Try.prog Try.f143 = k_curve_byPlate_at := by kernel_rfl


abbrev n_law02_CurveSlopes : Nat := 7
theorem e_law02_CurveSlopes : EntryOK Try.prog n_law02_CurveSlopes k_law02_CurveSlopes := ⟨Try.f7, Try.func7, k_law02_CurveSlopes_ok, by kernel_rfl⟩
abbrev n_curve_Slope : Nat := 41
theorem e_curve_Slope : EntryOK Try.prog n_curve_Slope k_curve_Slope := ⟨Try.f41, Try.func41, k_curve_Slope_ok, by kernel_rfl⟩
abbrev n_ref02_Slope : Nat := 42
theorem e_ref02_Slope : EntryOK Try.prog n_ref02_Slope k_ref02_Slope := ⟨Try.f42, Try.func42, k_ref02_Slope_ok, by kernel_rfl⟩
abbrev n_curve_Yield : Nat := 43
theorem e_curve_Yield : EntryOK Try.prog n_curve_Yield k_curve_Yield := ⟨Try.f43, Try.func43, k_curve_Yield_ok, by kernel_rfl⟩
abbrev n_ref02_Yield : Nat := 44
theorem e_ref02_Yield : EntryOK Try.prog n_ref02_Yield k_ref02_Yield := ⟨Try.f44, Try.func44, k_ref02_Yield_ok, by kernel_rfl⟩
abbrev n_curve_Gain : Nat := 45
theorem e_curve_Gain : EntryOK Try.prog n_curve_Gain k_curve_Gain := ⟨Try.f45, Try.func45, k_curve_Gain_ok, by kernel_rfl⟩
abbrev n_ref02_Gain : Nat := 46
theorem e_ref02_Gain : EntryOK Try.prog n_ref02_Gain k_ref02_Gain := ⟨Try.f46, Try.func46, k_ref02_Gain_ok, by kernel_rfl⟩
abbrev n_curve_isCell : Nat := 93
theorem e_curve_isCell : EntryOK Try.prog n_curve_isCell k_curve_isCell := ⟨Try.f93, Try.func93, k_curve_isCell_ok, by kernel_rfl⟩
abbrev n_curve_slope : Nat := 94
theorem e_curve_slope : EntryOK Try.prog n_curve_slope k_curve_slope := ⟨Try.f94, Try.func94, k_curve_slope_ok, by kernel_rfl⟩
abbrev n_ref02_slope : Nat := 95
theorem e_ref02_slope : EntryOK Try.prog n_ref02_slope k_ref02_slope := ⟨Try.f95, Try.func95, k_ref02_slope_ok, by kernel_rfl⟩
abbrev n_curve_yield : Nat := 96
theorem e_curve_yield : EntryOK Try.prog n_curve_yield k_curve_yield := ⟨Try.f96, Try.func96, k_curve_yield_ok, by kernel_rfl⟩
abbrev n_ref02_across : Nat := 97
theorem e_ref02_across : EntryOK Try.prog n_ref02_across k_ref02_across := ⟨Try.f97, Try.func97, k_ref02_across_ok, by kernel_rfl⟩
abbrev n_curve_hull : Nat := 98
theorem e_curve_hull : EntryOK Try.prog n_curve_hull k_curve_hull := ⟨Try.f98, Try.func98, k_curve_hull_ok, by kernel_rfl⟩
abbrev n_ref02_hull : Nat := 99
theorem e_ref02_hull : EntryOK Try.prog n_ref02_hull k_ref02_hull := ⟨Try.f99, Try.func99, k_ref02_hull_ok, by kernel_rfl⟩
abbrev n_curve_steepness_curve_byGrid : Nat := 118
theorem e_curve_steepness_curve_byGrid : EntryOK Try.prog n_curve_steepness_curve_byGrid k_curve_steepness_curve_byGrid := ⟨Try.f118, Try.func118, k_curve_steepness_curve_byGrid_ok, by kernel_rfl⟩
abbrev n_curve_steepness_curve_byPlate : Nat := 119
theorem e_curve_steepness_curve_byPlate : EntryOK Try.prog n_curve_steepness_curve_byPlate k_curve_steepness_curve_byPlate := ⟨Try.f119, Try.func119, k_curve_steepness_curve_byPlate_ok, by kernel_rfl⟩
abbrev n_curve_byGrid_at : Nat := 142
theorem e_curve_byGrid_at : EntryOK Try.prog n_curve_byGrid_at k_curve_byGrid_at := ⟨Try.f142, Try.func142, k_curve_byGrid_at_ok, by kernel_rfl⟩
abbrev n_curve_byPlate_at : Nat := 143
theorem e_curve_byPlate_at : EntryOK Try.prog n_curve_byPlate_at k_curve_byPlate_at := ⟨Try.f143, Try.func143, k_curve_byPlate_at_ok, by kernel_rfl⟩

attribute [go_sem] k_law02_CurveSlopes_r0 k_law02_CurveSlopes_r1 k_law02_CurveSlopes_r2 k_law02_CurveSlopes_r3 k_law02_CurveSlopes_r4 k_law02_CurveSlopes_r5s k_law02_CurveSlopes_r6 k_law02_CurveSlopes_r7 k_law02_CurveSlopes_r8s k_law02_CurveSlopes_r9s k_law02_CurveSlopes_r10s k_law02_CurveSlopes_r11s
attribute [go_sem] k_law02_CurveSlopes_r12s k_law02_CurveSlopes_r13s k_law02_CurveSlopes_r14 k_law02_CurveSlopes_r15 k_law02_CurveSlopes_r16 k_law02_CurveSlopes_r18 k_curve_Slope_r0 k_curve_Slope_r1 k_curve_Slope_r2 k_curve_Slope_r3 k_curve_Slope_r4 k_curve_Slope_r5
attribute [go_sem] k_curve_Slope_r6 k_curve_Slope_r7 k_curve_Slope_r8 k_ref02_Slope_r0 k_ref02_Slope_r1 k_ref02_Slope_r2 k_ref02_Slope_r3 k_ref02_Slope_r4 k_ref02_Slope_r5 k_ref02_Slope_r6 k_ref02_Slope_r7 k_ref02_Slope_r8
attribute [go_sem] k_curve_Yield_r0 k_curve_Yield_r1 k_curve_Yield_r2 k_curve_Yield_r3 k_curve_Yield_r4 k_curve_Yield_r5 k_curve_Yield_r6 k_curve_Yield_r7 k_curve_Yield_r8 k_ref02_Yield_r0 k_ref02_Yield_r1 k_ref02_Yield_r2
attribute [go_sem] k_ref02_Yield_r3 k_ref02_Yield_r4 k_ref02_Yield_r5 k_ref02_Yield_r6 k_ref02_Yield_r7 k_ref02_Yield_r8 k_curve_Gain_r0 k_curve_Gain_r1 k_curve_Gain_r2 k_curve_Gain_r3 k_curve_Gain_r4 k_curve_Gain_r5
attribute [go_sem] k_curve_Gain_r6s k_curve_Gain_r7s k_curve_Gain_r8 k_curve_Gain_r9 k_curve_Gain_r10s k_ref02_Gain_r0 k_ref02_Gain_r1 k_ref02_Gain_r2 k_ref02_Gain_r3 k_ref02_Gain_r4 k_ref02_Gain_r5 k_ref02_Gain_r6s
attribute [go_sem] k_ref02_Gain_r7 k_ref02_Gain_r8s k_ref02_Gain_r9 k_ref02_Gain_r10 k_ref02_Gain_r11s k_curve_isCell_r0 k_curve_isCell_r1 k_curve_slope_r0 k_curve_slope_r1 k_ref02_slope_r0 k_ref02_slope_r1 k_ref02_slope_r2s
attribute [go_sem] k_ref02_slope_r3s k_ref02_slope_r4s k_ref02_slope_r5 k_ref02_slope_r6s k_ref02_slope_r7s k_ref02_slope_r8s k_curve_yield_r0 k_curve_yield_r1 k_ref02_across_r0 k_ref02_across_r1s k_ref02_across_r2 k_ref02_across_r3
attribute [go_sem] k_ref02_across_r4 k_ref02_across_r5 k_ref02_across_r6 k_ref02_across_r7s k_ref02_across_r8 k_ref02_across_r10s k_ref02_across_r11 k_ref02_across_r13 k_curve_hull_r0 k_curve_hull_r1 k_ref02_hull_r0 k_ref02_hull_r1
attribute [go_sem] k_curve_steepness_curve_byGrid_r0 k_curve_steepness_curve_byGrid_r1 k_curve_steepness_curve_byGrid_r2 k_curve_steepness_curve_byGrid_r3 k_curve_steepness_curve_byGrid_r4 k_curve_steepness_curve_byGrid_r5 k_curve_steepness_curve_byGrid_r6 k_curve_steepness_curve_byGrid_r7 k_curve_steepness_curve_byGrid_r8s k_curve_steepness_curve_byGrid_r9s k_curve_steepness_curve_byGrid_r10 k_curve_steepness_curve_byGrid_r12s
attribute [go_sem] k_curve_steepness_curve_byGrid_r13s k_curve_steepness_curve_byPlate_r0 k_curve_steepness_curve_byPlate_r1 k_curve_steepness_curve_byPlate_r2 k_curve_steepness_curve_byPlate_r3 k_curve_steepness_curve_byPlate_r4 k_curve_steepness_curve_byPlate_r5 k_curve_steepness_curve_byPlate_r6 k_curve_steepness_curve_byPlate_r7 k_curve_steepness_curve_byPlate_r8s k_curve_steepness_curve_byPlate_r9s k_curve_steepness_curve_byPlate_r10
attribute [go_sem] k_curve_steepness_curve_byPlate_r12s k_curve_steepness_curve_byPlate_r13s k_curve_byGrid_at_r0 k_curve_byGrid_at_r1 k_curve_byPlate_at_r0 k_curve_byPlate_at_r1 k_ref02_slope_r8_sg k_curve_steepness_curve_byPlate_r13_sg k_ref02_slope_r4_sg k_curve_steepness_curve_byGrid_r9_sg k_curve_steepness_curve_byPlate_r8_sg k_ref02_across_r10_sg
attribute [go_sem] k_ref02_slope_r6_sg k_law02_CurveSlopes_r5_sg k_curve_Gain_r6_sg k_ref02_Gain_r6_sg k_curve_steepness_curve_byPlate_r9_sg k_curve_steepness_curve_byGrid_r13_sg k_ref02_slope_r3_sg k_law02_CurveSlopes_r10_sg k_ref02_across_r7_sg k_ref02_slope_r2_sg k_ref02_Gain_r11_sg k_ref02_across_r1_sg
attribute [go_sem] k_ref02_Gain_r8_sg k_curve_steepness_curve_byGrid_r8_sg k_law02_CurveSlopes_r12_sg k_curve_Gain_r7_sg k_law02_CurveSlopes_r11_sg k_law02_CurveSlopes_r9_sg k_curve_Gain_r10_sg k_ref02_slope_r7_sg k_curve_steepness_curve_byGrid_r12_sg k_law02_CurveSlopes_r8_sg k_law02_CurveSlopes_r13_sg k_curve_steepness_curve_byPlate_r12_sg
attribute [go_sem] k_ref02_slope_r8_st k_curve_steepness_curve_byPlate_r13_st k_ref02_slope_r4_st k_curve_steepness_curve_byGrid_r9_st k_curve_steepness_curve_byPlate_r8_st k_ref02_across_r10_st k_ref02_slope_r6_st k_law02_CurveSlopes_r5_st k_curve_Gain_r6_st k_ref02_Gain_r6_st k_curve_steepness_curve_byPlate_r9_st k_curve_steepness_curve_byGrid_r13_st
attribute [go_sem] k_ref02_slope_r3_st k_law02_CurveSlopes_r10_st k_ref02_across_r7_st k_ref02_slope_r2_st k_ref02_Gain_r11_st k_ref02_across_r1_st k_ref02_Gain_r8_st k_curve_steepness_curve_byGrid_r8_st k_law02_CurveSlopes_r12_st k_curve_Gain_r7_st k_law02_CurveSlopes_r11_st k_law02_CurveSlopes_r9_st
attribute [go_sem] k_curve_Gain_r10_st k_ref02_slope_r7_st k_curve_steepness_curve_byGrid_r12_st k_law02_CurveSlopes_r8_st k_law02_CurveSlopes_r13_st k_curve_steepness_curve_byPlate_r12_st k_law02_CurveSlopes k_curve_Slope k_ref02_Slope k_curve_Yield k_ref02_Yield k_curve_Gain
attribute [go_sem] k_ref02_Gain k_curve_isCell k_curve_slope k_ref02_slope k_curve_yield k_ref02_across k_curve_hull k_ref02_hull k_curve_steepness_curve_byGrid k_curve_steepness_curve_byPlate k_curve_byGrid_at k_curve_byPlate_at
end Go.Proofs

