/- A part of the proof. -/
import Derived.Test.YtechakihgojbgaaPB
set_option linter.unusedSimpArgs false
set_option linter.unusedVariables false
namespace Go.Proofs
open Go Go.Sx

def k_law06_PumpKnown_r0 : List AOper := [
  ⟨some 0, .move (.const (.bool false)), none, []⟩]
def k_law06_PumpKnown_r1 : List AOper := [
  ⟨some 20, .call (.const (.fn (.func 20) [] [])) [], none, []⟩,
 ⟨some 21, .not (.tmp 20), none, []⟩,
 ⟨some 22, .move (.tmp 21), none, []⟩,
 ⟨some 23, .call (.const (.fn (.func 61) [] [])) [], (some (22, false)), []⟩,
 ⟨some 24, .not (.tmp 23), (some (22, false)), []⟩,
 ⟨some 25, .pick (.tmp 22) (.const (.bool true)) (.tmp 24), none, []⟩]
def k_law06_PumpKnown_r2 : List AOper := [
  ⟨some 0, .move (.const (.bool false)), none, []⟩]
def k_law06_PumpKnown_r3 : List AOper := [
  ⟨some 26, .call (.const (.fn (.func 62) [] [])) [], none, []⟩,
 ⟨some 27, .call (.const (.fn (.func 62) [] [])) [], none, []⟩,
 ⟨some 1, .box (.const (.agg [.nilsl, .nilsl, .nilsl, .nilsl, .nilsl])), none, []⟩,
 ⟨some 2, .box (.const (.agg [.nilsl, .nilsl, .nilsl, .nilsl, .nilsl])), none, []⟩,
 ⟨none, .store 5 (.tmp 1) (.tmp 26), none, []⟩,
 ⟨none, .store 5 (.tmp 2) (.tmp 27), none, []⟩]
def k_law06_PumpKnown_r4 : List AOper := [
  ⟨some 28, .fieldAddr 2 (.tmp 1), none, []⟩,
 ⟨some 29, .load none (.tmp 28), none, []⟩,
 ⟨some 30, .call (.const (.fn (.func 63) [] [])) [.const (.int .i64 500001)], none, [0, 1]⟩,
 ⟨some 31, .build [.int .i64 0, .int .i64 0, .int .i64 0] [(1, 2, .tmp 30)], none, [0, 1]⟩,
 ⟨some 32, .buildSlice 3 [.tmp 31], none, [0, 1]⟩,
 ⟨some 33, .append 3 24 true (.tmp 29) (.tmp 32), none, []⟩,
 ⟨some 34, .fieldAddr 2 (.tmp 2), none, [0, 1, 2, 3, 4, 5]⟩,
 ⟨some 35, .load none (.tmp 34), none, [0, 1, 2, 3, 4, 5]⟩,
 ⟨some 36, .call (.const (.fn (.func 63) [] [])) [.const (.int .i64 500000)], none, [6, 7]⟩,
 ⟨some 37, .build [.int .i64 0, .int .i64 0, .int .i64 0] [(1, 2, .tmp 36)], none, [6, 7]⟩,
 ⟨some 38, .buildSlice 3 [.tmp 37], none, [6, 7]⟩,
 ⟨some 39, .append 3 24 true (.tmp 35) (.tmp 38), none, []⟩,
 ⟨some 40, .fieldAddr 2 (.tmp 1), none, [6, 7, 8, 9, 10, 11]⟩,
 ⟨none, .store 1 (.tmp 40) (.tmp 33), none, []⟩,
 ⟨some 41, .fieldAddr 2 (.tmp 2), none, []⟩,
 ⟨none, .store 1 (.tmp 41) (.tmp 39), none, []⟩]
def k_law06_PumpKnown_r4s : List (List AOper) := [
  [
  ⟨some 28, .fieldAddr 2 (.tmp 1), none, []⟩,
 ⟨some 29, .load none (.tmp 28), none, []⟩,
 ⟨some 30, .call (.const (.fn (.func 63) [] [])) [.const (.int .i64 500001)], none, [0, 1]⟩,
 ⟨some 31, .build [.int .i64 0, .int .i64 0, .int .i64 0] [(1, 2, .tmp 30)], none, [0, 1]⟩,
 ⟨some 32, .buildSlice 3 [.tmp 31], none, [0, 1]⟩,
 ⟨some 33, .append 3 24 true (.tmp 29) (.tmp 32), none, []⟩,
 ⟨some 34, .fieldAddr 2 (.tmp 2), none, [0, 1, 2, 3, 4, 5]⟩,
 ⟨some 35, .load none (.tmp 34), none, [0, 1, 2, 3, 4, 5]⟩,
 ⟨some 36, .call (.const (.fn (.func 63) [] [])) [.const (.int .i64 500000)], none, [6, 7]⟩,
 ⟨some 37, .build [.int .i64 0, .int .i64 0, .int .i64 0] [(1, 2, .tmp 36)], none, [6, 7]⟩,
 ⟨some 38, .buildSlice 3 [.tmp 37], none, [6, 7]⟩,
 ⟨some 39, .append 3 24 true (.tmp 35) (.tmp 38), none, []⟩,
 ⟨some 40, .fieldAddr 2 (.tmp 1), none, [6, 7, 8, 9, 10, 11]⟩], 
  [
  ⟨none, .store 1 (.tmp 40) (.tmp 33), none, []⟩], 
  [
  ⟨some 41, .fieldAddr 2 (.tmp 2), none, []⟩], 
  [
  ⟨none, .store 1 (.tmp 41) (.tmp 39), none, []⟩]]
theorem k_law06_PumpKnown_r4_sg : segs k_law06_PumpKnown_r4 = k_law06_PumpKnown_r4s := by kernel_rfl
theorem k_law06_PumpKnown_r4_st : statOK k_law06_PumpKnown_r4 = true := by kernel_rfl
def k_law06_PumpKnown_r5 : List AOper := [
  ⟨some 43, .call (.const (.fn (.func 62) [] [])) [], none, []⟩,
 ⟨some 44, .build [.int .i64 0, .int .i64 0, .nilsl, .bool false] [(0, 1, .const (.int .i64 3))], none, []⟩,
 ⟨some 45, .buildSlice 4 [.tmp 44], none, []⟩,
 ⟨some 46, .call (.const (.fn (.func 44) [] [])) [.tmp 43, .tmp 45], none, []⟩,
 ⟨some 42, .move (.tmp 46), none, []⟩,
 ⟨some 47, .extract (.tmp 42) 0, none, []⟩,
 ⟨some 48, .extract (.tmp 42) 1, none, []⟩,
 ⟨some 3, .box (.const (.agg [.nilsl, .nilsl, .nilsl, .int .i64 0, .bool false])), none, []⟩,
 ⟨none, .store 5 (.tmp 3) (.tmp 47), none, []⟩,
 ⟨some 4, .move (.tmp 48), none, []⟩]
def k_law06_PumpKnown_r6 : List AOper := [
  ⟨some 50, .call (.const (.fn (.func 62) [] [])) [], none, []⟩,
 ⟨some 51, .load (some (5)) (.tmp 3), none, [0]⟩,
 ⟨some 52, .call (.const (.fn (.func 32) [] [])) [.tmp 50, .tmp 51, .const (.int .i64 0)], none, []⟩,
 ⟨some 49, .move (.tmp 52), none, []⟩,
 ⟨some 53, .extract (.tmp 49) 0, none, []⟩,
 ⟨some 54, .extract (.tmp 49) 1, none, [4]⟩,
 ⟨some 5, .box (.const (.agg [.int .i64 0, .int .i64 0])), none, [0, 1, 2, 3, 4, 5]⟩,
 ⟨none, .store 2 (.tmp 5) (.tmp 53), none, [5]⟩,
 ⟨some 6, .move (.tmp 54), none, []⟩]
def k_law06_PumpKnown_r6s : List (List AOper) := [
  [
  ⟨some 50, .call (.const (.fn (.func 62) [] [])) [], none, []⟩,
 ⟨some 51, .load (some (5)) (.tmp 3), none, [0]⟩,
 ⟨some 52, .call (.const (.fn (.func 32) [] [])) [.tmp 50, .tmp 51, .const (.int .i64 0)], none, []⟩,
 ⟨some 49, .move (.tmp 52), none, []⟩,
 ⟨some 53, .extract (.tmp 49) 0, none, []⟩,
 ⟨some 54, .extract (.tmp 49) 1, none, [4]⟩,
 ⟨some 5, .box (.const (.agg [.int .i64 0, .int .i64 0])), none, [0, 1, 2, 3, 4, 5]⟩,
 ⟨none, .store 2 (.tmp 5) (.tmp 53), none, [5]⟩], 
  [
  ⟨some 6, .move (.tmp 54), none, []⟩]]
theorem k_law06_PumpKnown_r6_sg : segs k_law06_PumpKnown_r6 = k_law06_PumpKnown_r6s := by kernel_rfl
theorem k_law06_PumpKnown_r6_st : statOK k_law06_PumpKnown_r6 = true := by kernel_rfl
def k_law06_PumpKnown_r7 : List AOper := [
  ⟨some 56, .call (.const (.fn (.func 62) [] [])) [], none, []⟩,
 ⟨some 57, .build [.int .i64 0, .int .i64 0, .nilsl, .bool false] [(0, 1, .const (.int .i64 9))], none, []⟩,
 ⟨some 58, .buildSlice 4 [.tmp 57], none, []⟩,
 ⟨some 59, .call (.const (.fn (.func 48) [] [])) [.tmp 56, .tmp 58, .const (.int .i64 0), .const (.int .i64 5000)], none, []⟩,
 ⟨some 55, .move (.tmp 59), none, []⟩,
 ⟨some 60, .extract (.tmp 55) 0, none, []⟩,
 ⟨some 61, .extract (.tmp 55) 1, none, []⟩,
 ⟨some 7, .move (.tmp 60), none, []⟩,
 ⟨some 8, .move (.tmp 61), none, []⟩]
def k_law06_PumpKnown_r8 : List AOper := [
  ⟨some 63, .call (.const (.fn (.func 62) [] [])) [], none, []⟩,
 ⟨some 64, .build [.int .i64 0, .int .i64 0, .nilsl, .bool false] [(0, 1, .const (.int .i64 9))], none, []⟩,
 ⟨some 65, .buildSlice 4 [.tmp 64], none, []⟩,
 ⟨some 66, .call (.const (.fn (.func 48) [] [])) [.tmp 63, .tmp 65, .const (.int .i64 0), .const (.int .i64 1)], none, []⟩,
 ⟨some 62, .move (.tmp 66), none, []⟩,
 ⟨some 67, .extract (.tmp 62) 0, none, []⟩,
 ⟨some 68, .extract (.tmp 62) 1, none, []⟩,
 ⟨some 9, .move (.tmp 67), none, []⟩,
 ⟨some 10, .move (.tmp 68), none, []⟩]
def k_law06_PumpKnown_r9 : List AOper := [
  ⟨some 70, .call (.const (.fn (.func 62) [] [])) [], none, []⟩,
 ⟨some 71, .build [.int .i64 0, .int .i64 0, .nilsl, .bool false] [(0, 1, .const (.int .i64 3))], none, []⟩,
 ⟨some 72, .buildSlice 4 [.tmp 71], none, []⟩,
 ⟨some 73, .call (.const (.fn (.func 46) [] [])) [.tmp 70, .tmp 72, .const (.int .i64 0)], none, []⟩,
 ⟨some 69, .move (.tmp 73), none, []⟩,
 ⟨some 74, .extract (.tmp 69) 0, none, []⟩,
 ⟨some 75, .extract (.tmp 69) 1, none, []⟩,
 ⟨some 11, .move (.tmp 74), none, []⟩,
 ⟨some 12, .move (.tmp 75), none, []⟩]
def k_law06_PumpKnown_r10 : List AOper := [
  ⟨some 76, .call (.const (.fn (.func 62) [] [])) [], none, []⟩,
 ⟨some 77, .call (.const (.fn (.func 25) [] [])) [.tmp 76], none, []⟩,
 ⟨some 78, .bin .plain .neq (.tmp 77) (.const (.int .i64 0)), none, []⟩,
 ⟨some 79, .move (.tmp 78), none, []⟩,
 ⟨some 80, .load (some (5)) (.tmp 1), (some (79, false)), []⟩,
 ⟨some 81, .call (.const (.fn (.func 25) [] [])) [.tmp 80], (some (79, false)), []⟩,
 ⟨some 82, .bin .plain .neq (.tmp 81) (.const (.int .i64 14)), (some (79, false)), []⟩,
 ⟨some 83, .pick (.tmp 79) (.const (.bool true)) (.tmp 82), none, []⟩,
 ⟨some 84, .move (.tmp 83), none, []⟩,
 ⟨some 85, .load (some (5)) (.tmp 2), (some (84, false)), []⟩,
 ⟨some 86, .call (.const (.fn (.func 25) [] [])) [.tmp 85], (some (84, false)), []⟩,
 ⟨some 87, .bin .plain .neq (.tmp 86) (.const (.int .i64 0)), (some (84, false)), []⟩,
 ⟨some 88, .pick (.tmp 84) (.const (.bool true)) (.tmp 87), none, []⟩,
 ⟨some 89, .move (.tmp 88), none, []⟩,
 ⟨some 90, .move (.tmp 4), (some (89, false)), []⟩,
 ⟨some 91, .bin .plain .neq (.tmp 90) (.const (.int .i64 0)), (some (89, false)), []⟩,
 ⟨some 92, .pick (.tmp 89) (.const (.bool true)) (.tmp 91), none, []⟩,
 ⟨some 93, .move (.tmp 92), none, []⟩,
 ⟨some 94, .move (.tmp 6), (some (93, false)), []⟩,
 ⟨some 95, .bin .plain .neq (.tmp 94) (.const (.int .i64 0)), (some (93, false)), []⟩,
 ⟨some 96, .pick (.tmp 93) (.const (.bool true)) (.tmp 95), none, []⟩,
 ⟨some 97, .move (.tmp 96), none, []⟩,
 ⟨some 98, .move (.tmp 8), (some (97, false)), []⟩,
 ⟨some 99, .bin .plain .neq (.tmp 98) (.const (.int .i64 0)), (some (97, false)), []⟩,
 ⟨some 100, .pick (.tmp 97) (.const (.bool true)) (.tmp 99), none, []⟩,
 ⟨some 101, .move (.tmp 100), none, []⟩,
 ⟨some 102, .move (.tmp 10), (some (101, false)), []⟩,
 ⟨some 103, .bin .plain .neq (.tmp 102) (.const (.int .i64 15)), (some (101, false)), []⟩,
 ⟨some 104, .pick (.tmp 101) (.const (.bool true)) (.tmp 103), none, []⟩,
 ⟨some 105, .move (.tmp 104), none, []⟩,
 ⟨some 106, .move (.tmp 12), (some (105, false)), []⟩,
 ⟨some 107, .bin .plain .neq (.tmp 106) (.const (.int .i64 0)), (some (105, false)), []⟩,
 ⟨some 108, .pick (.tmp 105) (.const (.bool true)) (.tmp 107), none, []⟩,
 ⟨some 109, .move (.tmp 108), none, []⟩,
 ⟨some 110, .load (some (2)) (.tmp 5), (some (109, false)), []⟩,
 ⟨some 111, .call (.const (.fn (.func 63) [] [])) [.const (.int .i64 12500)], (some (109, false)), [34]⟩,
 ⟨some 112, .eqAgg true [.int, .int] (.tmp 110) (.tmp 111), (some (109, false)), []⟩,
 ⟨some 113, .pick (.tmp 109) (.const (.bool true)) (.tmp 112), none, []⟩,
 ⟨some 114, .move (.tmp 113), none, []⟩,
 ⟨some 115, .move (.tmp 7), (some (114, false)), []⟩,
 ⟨some 116, .bin .plain .neq (.tmp 115) (.const (.int .i64 5)), (some (114, false)), []⟩,
 ⟨some 117, .pick (.tmp 114) (.const (.bool true)) (.tmp 116), none, []⟩,
 ⟨some 118, .move (.tmp 117), none, []⟩,
 ⟨some 119, .move (.tmp 11), (some (118, false)), []⟩,
 ⟨some 120, .bin .plain .neq (.tmp 119) (.const (.int .i64 100000)), (some (118, false)), []⟩,
 ⟨some 121, .pick (.tmp 118) (.const (.bool true)) (.tmp 120), none, []⟩]
def k_law06_PumpKnown_r10s : List (List AOper) := [
  [
  ⟨some 76, .call (.const (.fn (.func 62) [] [])) [], none, []⟩], 
  [
  ⟨some 77, .call (.const (.fn (.func 25) [] [])) [.tmp 76], none, []⟩], 
  [
  ⟨some 78, .bin .plain .neq (.tmp 77) (.const (.int .i64 0)), none, []⟩], 
  [
  ⟨some 79, .move (.tmp 78), none, []⟩], 
  [
  ⟨some 80, .load (some (5)) (.tmp 1), (some (79, false)), []⟩], 
  [
  ⟨some 81, .call (.const (.fn (.func 25) [] [])) [.tmp 80], (some (79, false)), []⟩], 
  [
  ⟨some 82, .bin .plain .neq (.tmp 81) (.const (.int .i64 14)), (some (79, false)), []⟩], 
  [
  ⟨some 83, .pick (.tmp 79) (.const (.bool true)) (.tmp 82), none, []⟩], 
  [
  ⟨some 84, .move (.tmp 83), none, []⟩], 
  [
  ⟨some 85, .load (some (5)) (.tmp 2), (some (84, false)), []⟩], 
  [
  ⟨some 86, .call (.const (.fn (.func 25) [] [])) [.tmp 85], (some (84, false)), []⟩], 
  [
  ⟨some 87, .bin .plain .neq (.tmp 86) (.const (.int .i64 0)), (some (84, false)), []⟩], 
  [
  ⟨some 88, .pick (.tmp 84) (.const (.bool true)) (.tmp 87), none, []⟩], 
  [
  ⟨some 89, .move (.tmp 88), none, []⟩], 
  [
  ⟨some 90, .move (.tmp 4), (some (89, false)), []⟩], 
  [
  ⟨some 91, .bin .plain .neq (.tmp 90) (.const (.int .i64 0)), (some (89, false)), []⟩], 
  [
  ⟨some 92, .pick (.tmp 89) (.const (.bool true)) (.tmp 91), none, []⟩], 
  [
  ⟨some 93, .move (.tmp 92), none, []⟩], 
  [
  ⟨some 94, .move (.tmp 6), (some (93, false)), []⟩], 
  [
  ⟨some 95, .bin .plain .neq (.tmp 94) (.const (.int .i64 0)), (some (93, false)), []⟩], 
  [
  ⟨some 96, .pick (.tmp 93) (.const (.bool true)) (.tmp 95), none, []⟩], 
  [
  ⟨some 97, .move (.tmp 96), none, []⟩], 
  [
  ⟨some 98, .move (.tmp 8), (some (97, false)), []⟩], 
  [
  ⟨some 99, .bin .plain .neq (.tmp 98) (.const (.int .i64 0)), (some (97, false)), []⟩], 
  [
  ⟨some 100, .pick (.tmp 97) (.const (.bool true)) (.tmp 99), none, []⟩], 
  [
  ⟨some 101, .move (.tmp 100), none, []⟩], 
  [
  ⟨some 102, .move (.tmp 10), (some (101, false)), []⟩], 
  [
  ⟨some 103, .bin .plain .neq (.tmp 102) (.const (.int .i64 15)), (some (101, false)), []⟩], 
  [
  ⟨some 104, .pick (.tmp 101) (.const (.bool true)) (.tmp 103), none, []⟩], 
  [
  ⟨some 105, .move (.tmp 104), none, []⟩], 
  [
  ⟨some 106, .move (.tmp 12), (some (105, false)), []⟩], 
  [
  ⟨some 107, .bin .plain .neq (.tmp 106) (.const (.int .i64 0)), (some (105, false)), []⟩], 
  [
  ⟨some 108, .pick (.tmp 105) (.const (.bool true)) (.tmp 107), none, []⟩], 
  [
  ⟨some 109, .move (.tmp 108), none, []⟩], 
  [
  ⟨some 110, .load (some (2)) (.tmp 5), (some (109, false)), []⟩,
 ⟨some 111, .call (.const (.fn (.func 63) [] [])) [.const (.int .i64 12500)], (some (109, false)), [34]⟩], 
  [
  ⟨some 112, .eqAgg true [.int, .int] (.tmp 110) (.tmp 111), (some (109, false)), []⟩], 
  [
  ⟨some 113, .pick (.tmp 109) (.const (.bool true)) (.tmp 112), none, []⟩], 
  [
  ⟨some 114, .move (.tmp 113), none, []⟩], 
  [
  ⟨some 115, .move (.tmp 7), (some (114, false)), []⟩], 
  [
  ⟨some 116, .bin .plain .neq (.tmp 115) (.const (.int .i64 5)), (some (114, false)), []⟩], 
  [
  ⟨some 117, .pick (.tmp 114) (.const (.bool true)) (.tmp 116), none, []⟩], 
  [
  ⟨some 118, .move (.tmp 117), none, []⟩], 
  [
  ⟨some 119, .move (.tmp 11), (some (118, false)), []⟩], 
  [
  ⟨some 120, .bin .plain .neq (.tmp 119) (.const (.int .i64 100000)), (some (118, false)), []⟩], 
  [
  ⟨some 121, .pick (.tmp 118) (.const (.bool true)) (.tmp 120), none, []⟩]]
theorem k_law06_PumpKnown_r10_sg : segs k_law06_PumpKnown_r10 = k_law06_PumpKnown_r10s := by kernel_rfl
theorem k_law06_PumpKnown_r10_st : statOK k_law06_PumpKnown_r10 = true := by kernel_rfl
def k_law06_PumpKnown_r11 : List AOper := [
  ⟨some 0, .move (.const (.bool false)), none, []⟩]
def k_law06_PumpKnown_r12 : List AOper := [
  ⟨some 123, .call (.const (.fn (.func 64) [] [])) [], none, []⟩,
 ⟨some 124, .buildSlice 1 [.const (.int .i64 1), .const (.int .i64 3)], none, []⟩,
 ⟨some 125, .call (.const (.fn (.func 54) [] [])) [.tmp 123, .tmp 124], none, []⟩,
 ⟨some 122, .move (.tmp 125), none, []⟩,
 ⟨some 126, .extract (.tmp 122) 0, none, []⟩,
 ⟨some 127, .extract (.tmp 122) 1, none, []⟩,
 ⟨some 128, .extract (.tmp 122) 2, none, []⟩,
 ⟨some 13, .move (.tmp 126), none, []⟩,
 ⟨some 14, .move (.tmp 127), none, []⟩,
 ⟨some 4, .move (.tmp 128), none, []⟩]
def k_law06_PumpKnown_r13 : List AOper := [
  ⟨some 130, .call (.const (.fn (.func 64) [] [])) [], none, []⟩,
 ⟨some 131, .buildSlice 1 [.const (.int .i64 2)], none, []⟩,
 ⟨some 132, .call (.const (.fn (.func 54) [] [])) [.tmp 130, .tmp 131], none, []⟩,
 ⟨some 129, .move (.tmp 132), none, []⟩,
 ⟨some 133, .extract (.tmp 129) 0, none, []⟩,
 ⟨some 134, .extract (.tmp 129) 1, none, []⟩,
 ⟨some 135, .extract (.tmp 129) 2, none, []⟩,
 ⟨some 15, .move (.tmp 133), none, []⟩,
 ⟨some 16, .move (.tmp 134), none, []⟩,
 ⟨some 6, .move (.tmp 135), none, []⟩]
def k_law06_PumpKnown_r14 : List AOper := [
  ⟨some 137, .call (.const (.fn (.func 64) [] [])) [], none, []⟩,
 ⟨some 138, .call (.const (.fn (.func 56) [] [])) [.tmp 137, .const (.int .i64 2)], none, []⟩,
 ⟨some 136, .move (.tmp 138), none, []⟩,
 ⟨some 139, .extract (.tmp 136) 0, none, []⟩,
 ⟨some 140, .extract (.tmp 136) 1, none, []⟩,
 ⟨some 141, .extract (.tmp 136) 2, none, []⟩,
 ⟨some 17, .move (.tmp 139), none, []⟩,
 ⟨some 18, .move (.tmp 140), none, []⟩,
 ⟨some 8, .move (.tmp 141), none, []⟩]
def k_law06_PumpKnown_r15 : List AOper := [
  ⟨some 142, .call (.const (.fn (.func 64) [] [])) [], none, []⟩,
 ⟨some 19, .box (.const (.agg [.int .i64 0, .nilsl])), none, []⟩,
 ⟨none, .store 2 (.tmp 19) (.tmp 142), none, []⟩]
def k_law06_PumpKnown_r16 : List AOper := [
  ⟨some 143, .fieldAddr 1 (.tmp 19), none, []⟩,
 ⟨some 144, .load none (.tmp 143), none, []⟩,
 ⟨some 145, .slice false 2 (.tmp 144) none (some (.const (.int .i64 2))), none, []⟩,
 ⟨some 146, .fieldAddr 1 (.tmp 19), none, []⟩,
 ⟨none, .store 1 (.tmp 146) (.tmp 145), none, []⟩]
def k_law06_PumpKnown_r17 : List AOper := [
  ⟨some 148, .load (some (2)) (.tmp 19), none, []⟩,
 ⟨some 149, .buildSlice 1 [.const (.int .i64 0), .const (.int .i64 1), .const (.int .i64 2), .const (.int .i64 3)], none, []⟩,
 ⟨some 150, .call (.const (.fn (.func 54) [] [])) [.tmp 148, .tmp 149], none, []⟩,
 ⟨some 147, .move (.tmp 150), none, []⟩,
 ⟨some 151, .extract (.tmp 147) 0, none, []⟩,
 ⟨some 152, .extract (.tmp 147) 1, none, []⟩,
 ⟨some 153, .extract (.tmp 147) 2, none, []⟩,
 ⟨some 10, .move (.tmp 153), none, []⟩]
def k_law06_PumpKnown_r18 : List AOper := [
  ⟨some 154, .move (.tmp 4), none, []⟩,
 ⟨some 155, .bin .plain .eql (.tmp 154) (.const (.int .i64 0)), none, []⟩,
 ⟨some 156, .move (.tmp 155), none, []⟩,
 ⟨some 157, .move (.tmp 6), (some (156, true)), []⟩,
 ⟨some 158, .bin .plain .eql (.tmp 157) (.const (.int .i64 0)), (some (156, true)), []⟩,
 ⟨some 159, .pick (.tmp 156) (.tmp 158) (.const (.bool false)), none, []⟩,
 ⟨some 160, .move (.tmp 159), none, []⟩,
 ⟨some 161, .move (.tmp 8), (some (160, true)), []⟩,
 ⟨some 162, .bin .plain .eql (.tmp 161) (.const (.int .i64 0)), (some (160, true)), []⟩,
 ⟨some 163, .pick (.tmp 160) (.tmp 162) (.const (.bool false)), none, []⟩,
 ⟨some 164, .move (.tmp 163), none, []⟩,
 ⟨some 165, .move (.tmp 10), (some (164, true)), []⟩,
 ⟨some 166, .bin .plain .eql (.tmp 165) (.const (.int .i64 15)), (some (164, true)), []⟩,
 ⟨some 167, .pick (.tmp 164) (.tmp 166) (.const (.bool false)), none, []⟩,
 ⟨some 168, .move (.tmp 167), none, []⟩,
 ⟨some 169, .move (.tmp 13), (some (168, true)), []⟩,
 ⟨some 170, .bin .plain .eql (.tmp 169) (.const (.int .i64 1)), (some (168, true)), []⟩,
 ⟨some 171, .pick (.tmp 168) (.tmp 170) (.const (.bool false)), none, []⟩,
 ⟨some 172, .move (.tmp 171), none, []⟩,
 ⟨some 173, .move (.tmp 14), (some (172, true)), []⟩,
 ⟨some 174, .bin .plain .eql (.tmp 173) (.const (.int .i64 1)), (some (172, true)), []⟩,
 ⟨some 175, .pick (.tmp 172) (.tmp 174) (.const (.bool false)), none, []⟩,
 ⟨some 176, .move (.tmp 175), none, []⟩,
 ⟨some 177, .move (.tmp 15), (some (176, true)), []⟩,
 ⟨some 178, .bin .plain .eql (.tmp 177) (.const (.int .i64 0)), (some (176, true)), []⟩,
 ⟨some 179, .pick (.tmp 176) (.tmp 178) (.const (.bool false)), none, []⟩,
 ⟨some 180, .move (.tmp 179), none, []⟩,
 ⟨some 181, .move (.tmp 16), (some (180, true)), []⟩,
 ⟨some 182, .bin .plain .eql (.tmp 181) (.const (.int .i64 (-1))), (some (180, true)), []⟩,
 ⟨some 183, .pick (.tmp 180) (.tmp 182) (.const (.bool false)), none, []⟩,
 ⟨some 184, .move (.tmp 183), none, []⟩,
 ⟨some 185, .move (.tmp 18), (some (184, true)), []⟩,
 ⟨some 186, .bin .plain .eql (.tmp 185) (.const (.int .i64 2)), (some (184, true)), []⟩,
 ⟨some 187, .pick (.tmp 184) (.tmp 186) (.const (.bool false)), none, []⟩,
 ⟨some 188, .move (.tmp 187), none, []⟩,
 ⟨some 189, .move (.tmp 17), (some (188, true)), []⟩,
 ⟨some 190, .build [.int .i64 0, .bool false] [(0, 1, .const (.int .i64 1))], (some (188, true)), []⟩,
 ⟨some 191, .build [.int .i64 0, .bool false] [(0, 1, .const (.int .i64 2)), (1, 1, .const (.bool true))], (some (188, true)), []⟩,
 ⟨some 192, .buildSlice 2 [.tmp 190, .tmp 191], (some (188, true)), []⟩,
 ⟨some 193, .call (.const (.fn (.func 60) [] [])) [.tmp 189, .tmp 192], (some (188, true)), []⟩,
 ⟨some 194, .pick (.tmp 188) (.tmp 193) (.const (.bool false)), none, []⟩,
 ⟨some 0, .move (.tmp 194), none, []⟩]
def k_law06_PumpKnown : AFun := { params := 0, ntmps := 195, body := (.seq (.reg k_law06_PumpKnown_r0 false) (.seq (.seq (.reg k_law06_PumpKnown_r1 false) (.cond (.tmp 25) (.seq (.reg k_law06_PumpKnown_r2 false) .ret) .skip)) (.seq (.reg k_law06_PumpKnown_r3 false) (.seq (.reg k_law06_PumpKnown_r4 true) (.seq (.reg k_law06_PumpKnown_r5 false) (.seq (.reg k_law06_PumpKnown_r6 true) (.seq (.reg k_law06_PumpKnown_r7 false) (.seq (.reg k_law06_PumpKnown_r8 false) (.seq (.reg k_law06_PumpKnown_r9 false) (.seq (.seq (.reg k_law06_PumpKnown_r10 true) (.cond (.tmp 121) (.seq (.reg k_law06_PumpKnown_r11 false) .ret) .skip)) (.seq (.reg k_law06_PumpKnown_r12 false) (.seq (.reg k_law06_PumpKnown_r13 false) (.seq (.reg k_law06_PumpKnown_r14 false) (.seq (.reg k_law06_PumpKnown_r15 false) (.seq (.reg k_law06_PumpKnown_r16 false) (.seq (.reg k_law06_PumpKnown_r17 false) (.seq (.reg k_law06_PumpKnown_r18 false) .ret))))))))))))))))), res := [.tmp 0] }
theorem k_law06_PumpKnown_ok : cfun Try.prog Try.f8 = k_law06_PumpKnown := by kernel_rfl

def k_pump_Begin_r0 : List AOper := [
  ⟨some 1, .box (.tmp 0), none, []⟩,
 ⟨some 2, .box (.const (.agg [.nilsl, .nilsl, .nilsl, .int .i64 0, .bool false])), none, []⟩,
 ⟨some 3, .move (.const (.int .i64 0)), none, []⟩]
def k_pump_Begin_r1 : List AOper := [
  ⟨some 5, .load (some (5)) (.tmp 1), none, []⟩,
 ⟨some 6, .call (.const (.fn (.func 25) [] [])) [.tmp 5], none, []⟩,
 ⟨some 4, .move (.tmp 6), none, []⟩]
def k_pump_Begin_r2 : List AOper := [
  ⟨some 7, .move (.tmp 4), none, []⟩,
 ⟨some 8, .bin .plain .neq (.tmp 7) (.const (.int .i64 0)), none, []⟩]
def k_pump_Begin_r3 : List AOper := [
  ⟨some 9, .build [.nilsl, .nilsl, .nilsl, .int .i64 0, .bool false] [], none, []⟩,
 ⟨some 10, .move (.tmp 4), none, []⟩,
 ⟨none, .store 5 (.tmp 2) (.tmp 9), none, []⟩,
 ⟨some 3, .move (.tmp 10), none, []⟩]
def k_pump_Begin_r4 : List AOper := [
  ⟨some 11, .load (some (5)) (.tmp 1), none, []⟩,
 ⟨some 12, .call (.const (.fn (.func 81) [] [])) [.tmp 11], none, []⟩,
 ⟨none, .store 5 (.tmp 2) (.tmp 12), none, []⟩,
 ⟨some 3, .move (.const (.int .i64 0)), none, []⟩]
def k_pump_Begin : AFun := { params := 1, ntmps := 13, body := (.seq (.reg k_pump_Begin_r0 false) (.seq (.seq (.reg k_pump_Begin_r1 false) (.seq (.reg k_pump_Begin_r2 false) (.cond (.tmp 8) (.seq (.reg k_pump_Begin_r3 false) .ret) .skip))) (.seq (.reg k_pump_Begin_r4 false) .ret))), res := [.cell 2 (some ((some (5)))), .tmp 3] }
theorem k_pump_Begin_ok : cfun Try.prog Try.f23 = k_pump_Begin := by kernel_rfl

def k_pump_Pressure_r0 : List AOper := [
  ⟨some 3, .box (.tmp 0), none, []⟩,
 ⟨some 4, .box (.tmp 1), none, []⟩,
 ⟨some 6, .box (.const (.agg [.int .i64 0, .int .i64 0])), none, []⟩,
 ⟨some 7, .move (.const (.int .i64 0)), none, []⟩]
def k_pump_Pressure_r1 : List AOper := [
  ⟨some 9, .load (some (5)) (.tmp 3), none, []⟩,
 ⟨some 10, .load (some (5)) (.tmp 4), none, []⟩,
 ⟨some 11, .call (.const (.fn (.func 34) [] [])) [.tmp 9, .tmp 10], none, []⟩,
 ⟨some 8, .move (.tmp 11), none, []⟩]
def k_pump_Pressure_r2 : List AOper := [
  ⟨some 12, .move (.tmp 8), none, []⟩,
 ⟨some 13, .bin .plain .neq (.tmp 12) (.const (.int .i64 0)), none, []⟩]
def k_pump_Pressure_r3 : List AOper := [
  ⟨some 14, .build [.int .i64 0, .int .i64 0] [], none, []⟩,
 ⟨some 15, .move (.tmp 8), none, []⟩,
 ⟨none, .store 2 (.tmp 6) (.tmp 14), none, []⟩,
 ⟨some 7, .move (.tmp 15), none, []⟩]
def k_pump_Pressure_r4 : List AOper := [
  ⟨some 16, .load (some (5)) (.tmp 3), none, []⟩,
 ⟨some 17, .move (.tmp 2), none, []⟩,
 ⟨some 18, .call (.const (.fn (.func 93) [] [])) [.tmp 16, .tmp 17], none, []⟩,
 ⟨some 19, .not (.tmp 18), none, []⟩]
def k_pump_Pressure_r5 : List AOper := [
  ⟨some 20, .build [.int .i64 0, .int .i64 0] [], none, []⟩,
 ⟨none, .store 2 (.tmp 6) (.tmp 20), none, []⟩,
 ⟨some 7, .move (.const (.int .i64 7)), none, []⟩]
def k_pump_Pressure_r6 : List AOper := [
  ⟨some 21, .load (some (5)) (.tmp 3), none, []⟩,
 ⟨some 22, .load (some (5)) (.tmp 4), none, []⟩,
 ⟨some 23, .move (.tmp 2), none, []⟩,
 ⟨some 24, .call (.const (.fn (.func 94) [] [])) [.tmp 21, .tmp 22, .tmp 23], none, []⟩,
 ⟨none, .store 2 (.tmp 6) (.tmp 24), none, []⟩,
 ⟨some 7, .move (.const (.int .i64 0)), none, []⟩]
def k_pump_Pressure : AFun := { params := 3, ntmps := 25, body := (.seq (.reg k_pump_Pressure_r0 false) (.seq (.seq (.reg k_pump_Pressure_r1 false) (.seq (.reg k_pump_Pressure_r2 false) (.cond (.tmp 13) (.seq (.reg k_pump_Pressure_r3 false) .ret) .skip))) (.seq (.seq (.reg k_pump_Pressure_r4 false) (.cond (.tmp 19) (.seq (.reg k_pump_Pressure_r5 false) .ret) .skip)) (.seq (.reg k_pump_Pressure_r6 false) .ret)))), res := [.cell 6 (some ((some (2)))), .tmp 7] }
theorem k_pump_Pressure_ok : cfun Try.prog Try.f32 = k_pump_Pressure := by kernel_rfl

def k_pump_Belongs_r0 : List AOper := [
  ⟨some 2, .box (.tmp 0), none, []⟩,
 ⟨some 3, .box (.tmp 1), none, []⟩,
 ⟨some 4, .move (.const (.int .i64 0)), none, []⟩]
def k_pump_Belongs_r1 : List AOper := [
  ⟨some 7, .load (some (5)) (.tmp 2), none, []⟩,
 ⟨some 8, .call (.const (.fn (.func 25) [] [])) [.tmp 7], none, []⟩,
 ⟨some 5, .move (.tmp 8), none, []⟩]
def k_pump_Belongs_r2 : List AOper := [
  ⟨some 9, .move (.tmp 5), none, []⟩,
 ⟨some 10, .bin .plain .neq (.tmp 9) (.const (.int .i64 0)), none, []⟩]
def k_pump_Belongs_r3 : List AOper := [
  ⟨some 11, .move (.tmp 5), none, []⟩,
 ⟨some 4, .move (.tmp 11), none, []⟩]
def k_pump_Belongs_r4 : List AOper := [
  ⟨some 12, .fieldAddr 0 (.tmp 3), none, []⟩,
 ⟨some 13, .load none (.tmp 12), none, []⟩,
 ⟨some 14, .len false (.tmp 13), none, []⟩,
 ⟨some 15, .fieldAddr 0 (.tmp 2), none, []⟩,
 ⟨some 16, .load none (.tmp 15), none, []⟩,
 ⟨some 17, .len false (.tmp 16), none, []⟩,
 ⟨some 18, .bin .plain .neq (.tmp 14) (.tmp 17), none, []⟩,
 ⟨some 19, .move (.tmp 18), none, []⟩,
 ⟨some 20, .fieldAddr 1 (.tmp 3), (some (19, false)), []⟩,
 ⟨some 21, .load none (.tmp 20), (some (19, false)), []⟩,
 ⟨some 22, .len false (.tmp 21), (some (19, false)), []⟩,
 ⟨some 23, .fieldAddr 0 (.tmp 2), (some (19, false)), []⟩,
 ⟨some 24, .load none (.tmp 23), (some (19, false)), []⟩,
 ⟨some 25, .len false (.tmp 24), (some (19, false)), []⟩,
 ⟨some 26, .bin .plain .neq (.tmp 22) (.tmp 25), (some (19, false)), []⟩,
 ⟨some 27, .pick (.tmp 19) (.const (.bool true)) (.tmp 26), none, []⟩,
 ⟨some 28, .move (.tmp 27), none, []⟩,
 ⟨some 29, .fieldAddr 2 (.tmp 3), (some (28, false)), []⟩,
 ⟨some 30, .load none (.tmp 29), (some (28, false)), []⟩,
 ⟨some 31, .len false (.tmp 30), (some (28, false)), []⟩,
 ⟨some 32, .fieldAddr 4 (.tmp 2), (some (28, false)), []⟩,
 ⟨some 33, .load none (.tmp 32), (some (28, false)), []⟩,
 ⟨some 34, .len false (.tmp 33), (some (28, false)), []⟩,
 ⟨some 35, .bin .plain .neq (.tmp 31) (.tmp 34), (some (28, false)), []⟩,
 ⟨some 36, .pick (.tmp 28) (.const (.bool true)) (.tmp 35), none, []⟩]
def k_pump_Belongs_r5 : List AOper := [
  ⟨some 4, .move (.const (.int .i64 3)), none, []⟩]
def k_pump_Belongs_r6 : List AOper := [
  ⟨some 37, .fieldAddr 0 (.tmp 3), none, []⟩,
 ⟨some 38, .load none (.tmp 37), none, []⟩,
 ⟨some 39, .fieldAddr 1 (.tmp 3), none, []⟩,
 ⟨some 40, .load none (.tmp 39), none, []⟩,
 ⟨some 41, .fieldAddr 2 (.tmp 3), none, []⟩,
 ⟨some 42, .load none (.tmp 41), none, []⟩,
 ⟨some 43, .buildSlice 1 [.tmp 38, .tmp 40, .tmp 42], none, []⟩,
 ⟨some 44, .call (.const (.fn (.func 98) [] [])) [.tmp 43], none, []⟩,
 ⟨some 45, .call (.const (.fn (.func 97) [] [])) [.const (.int .i64 68719476736), .tmp 44], none, []⟩,
 ⟨some 6, .move (.tmp 45), none, []⟩]
def k_pump_Belongs_r7 : List AOper := [
  ⟨some 46, .move (.tmp 6), none, []⟩,
 ⟨some 47, .bin .plain .neq (.tmp 46) (.const (.int .i64 0)), none, []⟩]
def k_pump_Belongs_r8 : List AOper := [
  ⟨some 48, .move (.tmp 6), none, []⟩,
 ⟨some 4, .move (.tmp 48), none, []⟩]
def k_pump_Belongs_r9 : List AOper := [
  ⟨some 49, .fieldAddr 3 (.tmp 3), none, []⟩,
 ⟨some 50, .load none (.tmp 49), none, []⟩,
 ⟨some 51, .call (.const (.fn (.func 99) [] [])) [.tmp 50, .const (.int .i64 0), .const (.int .i64 68719476736)], none, []⟩,
 ⟨some 52, .not (.tmp 51), none, []⟩]
def k_pump_Belongs_r10 : List AOper := [
  ⟨some 4, .move (.const (.int .i64 2)), none, []⟩]
def k_pump_Belongs_r11 : List AOper := [
  ⟨some 4, .move (.const (.int .i64 0)), none, []⟩]
def k_pump_Belongs : AFun := { params := 2, ntmps := 53, body := (.seq (.reg k_pump_Belongs_r0 false) (.seq (.seq (.reg k_pump_Belongs_r1 false) (.seq (.reg k_pump_Belongs_r2 false) (.cond (.tmp 10) (.seq (.reg k_pump_Belongs_r3 false) .ret) .skip))) (.seq (.seq (.reg k_pump_Belongs_r4 false) (.cond (.tmp 36) (.seq (.reg k_pump_Belongs_r5 false) .ret) .skip)) (.seq (.seq (.reg k_pump_Belongs_r6 false) (.seq (.reg k_pump_Belongs_r7 false) (.cond (.tmp 47) (.seq (.reg k_pump_Belongs_r8 false) .ret) .skip))) (.seq (.seq (.reg k_pump_Belongs_r9 false) (.cond (.tmp 52) (.seq (.reg k_pump_Belongs_r10 false) .ret) .skip)) (.seq (.reg k_pump_Belongs_r11 false) .ret)))))), res := [.tmp 4] }
theorem k_pump_Belongs_ok : cfun Try.prog Try.f34 = k_pump_Belongs := by kernel_rfl

def k_pump_Seal_r0 : List AOper := [
  ⟨some 4, .box (.tmp 0), none, []⟩,
 ⟨some 5, .box (.tmp 1), none, []⟩,
 ⟨some 8, .move (.const (.int .i64 0)), none, []⟩,
 ⟨some 9, .move (.const (.int .i64 0)), none, []⟩]
def k_pump_Seal_r1 : List AOper := [
  ⟨some 13, .load (some (5)) (.tmp 4), none, []⟩,
 ⟨some 14, .load (some (5)) (.tmp 5), none, []⟩,
 ⟨some 15, .move (.tmp 2), none, []⟩,
 ⟨some 16, .call (.const (.fn (.func 32) [] [])) [.tmp 13, .tmp 14, .tmp 15], none, []⟩,
 ⟨some 12, .move (.tmp 16), none, []⟩,
 ⟨some 17, .extract (.tmp 12) 0, none, []⟩,
 ⟨some 18, .extract (.tmp 12) 1, none, []⟩,
 ⟨some 10, .box (.const (.agg [.int .i64 0, .int .i64 0])), none, []⟩,
 ⟨none, .store 2 (.tmp 10) (.tmp 17), none, []⟩,
 ⟨some 11, .move (.tmp 18), none, []⟩]
def k_pump_Seal_r2 : List AOper := [
  ⟨some 19, .move (.tmp 11), none, []⟩,
 ⟨some 20, .bin .plain .neq (.tmp 19) (.const (.int .i64 0)), none, []⟩]
def k_pump_Seal_r3 : List AOper := [
  ⟨some 21, .move (.tmp 11), none, []⟩,
 ⟨some 8, .move (.const (.int .i64 0)), none, []⟩,
 ⟨some 9, .move (.tmp 21), none, []⟩]
def k_pump_Seal_r4 : List AOper := [
  ⟨some 22, .move (.tmp 3), none, []⟩,
 ⟨some 23, .bin .plain .lss (.tmp 22) (.const (.int .i64 0)), none, []⟩]
def k_pump_Seal_r5 : List AOper := [
  ⟨some 8, .move (.const (.int .i64 0)), none, []⟩,
 ⟨some 9, .move (.const (.int .i64 2)), none, []⟩]
def k_pump_Seal_r6 : List AOper := [
  ⟨some 24, .load (some (2)) (.tmp 10), none, []⟩,
 ⟨some 25, .move (.tmp 3), none, []⟩,
 ⟨some 26, .call (.const (.fn (.func 101) [] [])) [.tmp 24, .tmp 25], none, []⟩,
 ⟨some 8, .move (.tmp 26), none, []⟩,
 ⟨some 9, .move (.const (.int .i64 0)), none, []⟩]
def k_pump_Seal : AFun := { params := 4, ntmps := 27, body := (.seq (.reg k_pump_Seal_r0 false) (.seq (.reg k_pump_Seal_r1 false) (.seq (.seq (.reg k_pump_Seal_r2 false) (.cond (.tmp 20) (.seq (.reg k_pump_Seal_r3 false) .ret) .skip)) (.seq (.seq (.reg k_pump_Seal_r4 false) (.cond (.tmp 23) (.seq (.reg k_pump_Seal_r5 false) .ret) .skip)) (.seq (.reg k_pump_Seal_r6 false) .ret))))), res := [.tmp 8, .tmp 9] }
theorem k_pump_Seal_ok : cfun Try.prog Try.f37 = k_pump_Seal := by kernel_rfl

def k_pump_Tick_r0 : List AOper := [
  ⟨some 3, .box (.tmp 0), none, []⟩,
 ⟨some 4, .box (.tmp 1), none, []⟩,
 ⟨some 5, .box (.tmp 2), none, []⟩,
 ⟨some 6, .box (.const (.agg [.nilsl, .nilsl, .nilsl, .int .i64 0, .bool false])), none, []⟩,
 ⟨some 7, .move (.const (.int .i64 0)), none, []⟩]
def k_pump_Tick_r1 : List AOper := [
  ⟨some 10, .load (some (5)) (.tmp 3), none, []⟩,
 ⟨some 11, .load (some (5)) (.tmp 4), none, []⟩,
 ⟨some 12, .call (.const (.fn (.func 34) [] [])) [.tmp 10, .tmp 11], none, []⟩,
 ⟨some 8, .move (.tmp 12), none, []⟩]
def k_pump_Tick_r2 : List AOper := [
  ⟨some 13, .move (.tmp 8), none, []⟩,
 ⟨some 14, .bin .plain .neq (.tmp 13) (.const (.int .i64 0)), none, []⟩]
def k_pump_Tick_r3 : List AOper := [
  ⟨some 15, .build [.nilsl, .nilsl, .nilsl, .int .i64 0, .bool false] [], none, []⟩,
 ⟨some 16, .move (.tmp 8), none, []⟩,
 ⟨none, .store 5 (.tmp 6) (.tmp 15), none, []⟩,
 ⟨some 7, .move (.tmp 16), none, []⟩]
def k_pump_Tick_r4 : List AOper := [
  ⟨some 17, .load (some (5)) (.tmp 3), none, []⟩,
 ⟨some 18, .load (some (4)) (.tmp 5), none, []⟩,
 ⟨some 19, .call (.const (.fn (.func 91) [] [])) [.tmp 17, .tmp 18], none, []⟩,
 ⟨some 9, .move (.tmp 19), none, []⟩]
def k_pump_Tick_r5 : List AOper := [
  ⟨some 20, .move (.tmp 9), none, []⟩,
 ⟨some 21, .bin .plain .neq (.tmp 20) (.const (.int .i64 0)), none, []⟩]
def k_pump_Tick_r6 : List AOper := [
  ⟨some 22, .build [.nilsl, .nilsl, .nilsl, .int .i64 0, .bool false] [], none, []⟩,
 ⟨some 23, .move (.tmp 9), none, []⟩,
 ⟨none, .store 5 (.tmp 6) (.tmp 22), none, []⟩,
 ⟨some 7, .move (.tmp 23), none, []⟩]
def k_pump_Tick_r7 : List AOper := [
  ⟨some 24, .load (some (5)) (.tmp 3), none, []⟩,
 ⟨some 25, .load (some (5)) (.tmp 4), none, []⟩,
 ⟨some 26, .load (some (4)) (.tmp 5), none, []⟩,
 ⟨some 27, .call (.const (.fn (.func 102) [] [])) [.tmp 24, .tmp 25, .tmp 26], none, []⟩,
 ⟨none, .store 5 (.tmp 6) (.tmp 27), none, []⟩,
 ⟨some 7, .move (.const (.int .i64 0)), none, []⟩]
def k_pump_Tick : AFun := { params := 3, ntmps := 28, body := (.seq (.reg k_pump_Tick_r0 false) (.seq (.seq (.reg k_pump_Tick_r1 false) (.seq (.reg k_pump_Tick_r2 false) (.cond (.tmp 14) (.seq (.reg k_pump_Tick_r3 false) .ret) .skip))) (.seq (.seq (.reg k_pump_Tick_r4 false) (.seq (.reg k_pump_Tick_r5 false) (.cond (.tmp 21) (.seq (.reg k_pump_Tick_r6 false) .ret) .skip))) (.seq (.reg k_pump_Tick_r7 false) .ret)))), res := [.cell 6 (some ((some (5)))), .tmp 7] }
theorem k_pump_Tick_ok : cfun Try.prog Try.f40 = k_pump_Tick := by kernel_rfl

def k_pump_Peak_r0 : List AOper := [
  ⟨some 3, .box (.tmp 0), none, []⟩,
 ⟨some 5, .box (.tmp 2), none, []⟩,
 ⟨some 6, .move (.const (.int .i64 0)), none, []⟩,
 ⟨some 7, .move (.const (.int .i64 0)), none, []⟩]
def k_pump_Peak_r1 : List AOper := [
  ⟨some 12, .load (some (5)) (.tmp 3), none, []⟩,
 ⟨some 13, .move (.tmp 1), none, []⟩,
 ⟨some 14, .load none (.tmp 5), none, []⟩,
 ⟨some 15, .call (.const (.fn (.func 107) [] [])) [.tmp 12, .tmp 13, .tmp 14], none, []⟩,
 ⟨some 8, .move (.tmp 15), none, []⟩]
def k_pump_Peak_r2 : List AOper := [
  ⟨some 16, .move (.tmp 8), none, []⟩,
 ⟨some 17, .bin .plain .neq (.tmp 16) (.const (.int .i64 0)), none, []⟩]
def k_pump_Peak_r3 : List AOper := [
  ⟨some 18, .move (.tmp 8), none, []⟩,
 ⟨some 6, .move (.const (.int .i64 0)), none, []⟩,
 ⟨some 7, .move (.tmp 18), none, []⟩]
def k_pump_Peak_r4 : List AOper := [
  ⟨some 9, .box (.const (.int .i64 0)), none, []⟩,
 ⟨none, .store 1 (.tmp 9) (.const (.int .i64 0)), none, []⟩]
def k_pump_Peak_r5 : List AOper := [
  ⟨some 19, .load (some (5)) (.tmp 3), none, []⟩,
 ⟨some 20, .load (some (5)) (.tmp 3), none, [0]⟩,
 ⟨some 21, .call (.const (.fn (.func 81) [] [])) [.tmp 20], none, [0]⟩,
 ⟨some 22, .move (.tmp 1), none, [0, 1, 2]⟩,
 ⟨some 23, .call (.const (.fn (.func 108) [] [])) [.tmp 19, .tmp 21, .tmp 22], none, []⟩]
def k_pump_Peak_r5s : List (List AOper) := [
  [
  ⟨some 19, .load (some (5)) (.tmp 3), none, []⟩,
 ⟨some 20, .load (some (5)) (.tmp 3), none, [0]⟩,
 ⟨some 21, .call (.const (.fn (.func 81) [] [])) [.tmp 20], none, [0]⟩,
 ⟨some 22, .move (.tmp 1), none, [0, 1, 2]⟩], 
  [
  ⟨some 23, .call (.const (.fn (.func 108) [] [])) [.tmp 19, .tmp 21, .tmp 22], none, []⟩]]
theorem k_pump_Peak_r5_sg : segs k_pump_Peak_r5 = k_pump_Peak_r5s := by kernel_rfl
theorem k_pump_Peak_r5_st : statOK k_pump_Peak_r5 = true := by kernel_rfl
def k_pump_Peak_r6 : List AOper := [
  ⟨some 11, .box (.const (.agg [.nilsl, .nilsl, .nilsl, .int .i64 0, .bool false])), none, []⟩,
 ⟨none, .store 5 (.tmp 11) (.tmp 25), none, []⟩]
def k_pump_Peak_r7 : List AOper := [
  ⟨some 26, .load none (.tmp 9), none, []⟩,
 ⟨some 27, .load (some (5)) (.tmp 3), none, [0]⟩,
 ⟨some 28, .load (some (5)) (.tmp 11), none, [0, 1]⟩,
 ⟨some 29, .load none (.tmp 5), none, [0, 1, 2]⟩,
 ⟨some 30, .call (.const (.fn (.func 94) [] [])) [.tmp 27, .tmp 28, .tmp 29], none, [0]⟩,
 ⟨some 31, .field none 1 (.tmp 30), none, [0]⟩,
 ⟨some 32, .minmax true [.tmp 26, .tmp 31], none, []⟩,
 ⟨none, .store 1 (.tmp 9) (.tmp 32), none, []⟩]
def k_pump_Peak_r7s : List (List AOper) := [
  [
  ⟨some 26, .load none (.tmp 9), none, []⟩,
 ⟨some 27, .load (some (5)) (.tmp 3), none, [0]⟩,
 ⟨some 28, .load (some (5)) (.tmp 11), none, [0, 1]⟩,
 ⟨some 29, .load none (.tmp 5), none, [0, 1, 2]⟩,
 ⟨some 30, .call (.const (.fn (.func 94) [] [])) [.tmp 27, .tmp 28, .tmp 29], none, [0]⟩,
 ⟨some 31, .field none 1 (.tmp 30), none, [0]⟩], 
  [
  ⟨some 32, .minmax true [.tmp 26, .tmp 31], none, []⟩], 
  [
  ⟨none, .store 1 (.tmp 9) (.tmp 32), none, []⟩]]
theorem k_pump_Peak_r7_sg : segs k_pump_Peak_r7 = k_pump_Peak_r7s := by kernel_rfl
theorem k_pump_Peak_r7_st : statOK k_pump_Peak_r7 = true := by kernel_rfl
def k_pump_Peak_r8 : ACode := (.reg k_pump_Peak_r6 false)
def k_pump_Peak_r9 : ACode := (.block 1 (.reg k_pump_Peak_r7 true))
def k_pump_Peak_r10 : List AOper := [
  ⟨some 33, .load none (.tmp 9), none, []⟩,
 ⟨some 6, .move (.tmp 33), none, []⟩,
 ⟨some 7, .move (.const (.int .i64 0)), none, []⟩]
def k_pump_Peak : AFun := { params := 3, ntmps := 34, body := (.seq (.reg k_pump_Peak_r0 false) (.seq (.seq (.reg k_pump_Peak_r1 false) (.seq (.reg k_pump_Peak_r2 false) (.cond (.tmp 17) (.seq (.reg k_pump_Peak_r3 false) .ret) .skip))) (.seq (.reg k_pump_Peak_r4 false) (.seq (.seq (.reg k_pump_Peak_r5 true) (.block 0 (.rng (.tmp 23) [24, 25] k_pump_Peak_r8 k_pump_Peak_r9))) (.seq (.reg k_pump_Peak_r10 false) .ret))))), res := [.tmp 6, .tmp 7] }
theorem k_pump_Peak_ok : cfun Try.prog Try.f46 = k_pump_Peak := by kernel_rfl

def k_pump_Hold_r0 : List AOper := [
  ⟨some 4, .box (.tmp 0), none, []⟩,
 ⟨some 6, .box (.tmp 2), none, []⟩,
 ⟨some 7, .box (.tmp 3), none, []⟩,
 ⟨some 8, .box (.const (.int .i64 0)), none, []⟩,
 ⟨some 9, .box (.const (.int .i64 0)), none, []⟩]
def k_pump_Hold_r1 : List AOper := [
  ⟨some 15, .load (some (5)) (.tmp 4), none, []⟩,
 ⟨some 16, .move (.tmp 1), none, []⟩,
 ⟨some 17, .load none (.tmp 6), none, []⟩,
 ⟨some 18, .call (.const (.fn (.func 107) [] [])) [.tmp 15, .tmp 16, .tmp 17], none, []⟩,
 ⟨some 10, .move (.tmp 18), none, []⟩]
def k_pump_Hold_r2 : List AOper := [
  ⟨some 19, .move (.tmp 10), none, []⟩,
 ⟨some 20, .bin .plain .neq (.tmp 19) (.const (.int .i64 0)), none, []⟩]
def k_pump_Hold_r3 : List AOper := [
  ⟨some 21, .move (.tmp 10), none, []⟩,
 ⟨none, .store 1 (.tmp 8) (.const (.int .i64 0)), none, []⟩,
 ⟨none, .store 1 (.tmp 9) (.tmp 21), none, []⟩]
def k_pump_Hold_r4 : List AOper := [
  ⟨some 22, .load none (.tmp 7), none, []⟩,
 ⟨some 23, .bin .plain .lss (.tmp 22) (.const (.int .i64 0)), none, []⟩]
def k_pump_Hold_r5 : List AOper := [
  ⟨none, .store 1 (.tmp 8) (.const (.int .i64 0)), none, []⟩,
 ⟨none, .store 1 (.tmp 9) (.const (.int .i64 2)), none, []⟩]
def k_pump_Hold_r6 : List AOper := [
  ⟨some 24, .move (.tmp 1), none, []⟩,
 ⟨some 25, .len false (.tmp 24), none, []⟩,
 ⟨some 26, .bin .plain .eql (.tmp 25) (.const (.int .i64 0)), none, []⟩]
def k_pump_Hold_r7 : List AOper := [
  ⟨none, .store 1 (.tmp 8) (.const (.int .i64 0)), none, []⟩,
 ⟨none, .store 1 (.tmp 9) (.const (.int .i64 6)), none, []⟩]
def k_pump_Hold_r8 : List AOper := [
  ⟨some 27, .move (.tmp 1), none, []⟩,
 ⟨some 28, .move (.tmp 1), none, [0]⟩,
 ⟨some 29, .len false (.tmp 28), none, [0]⟩,
 ⟨some 30, .bin .plain .sub (.tmp 29) (.const (.int .i64 1)), none, [0]⟩,
 ⟨some 31, .slice false 4 (.tmp 27) none (some (.tmp 30)), none, []⟩,
 ⟨some 32, .move (.tmp 1), none, [0, 1, 2, 3, 4]⟩,
 ⟨some 33, .move (.tmp 1), none, [0, 1, 2, 3, 4, 5]⟩,
 ⟨some 34, .len false (.tmp 33), none, [0, 1, 2, 3, 4, 5]⟩,
 ⟨some 35, .bin .plain .sub (.tmp 34) (.const (.int .i64 1)), none, [0, 1, 2, 3, 4, 5]⟩,
 ⟨some 36, .slice false 4 (.tmp 32) (some (.tmp 35)) none, none, [0, 1, 2, 3, 4]⟩,
 ⟨some 11, .move (.tmp 31), none, [5, 6, 7, 8, 9]⟩,
 ⟨some 12, .move (.tmp 36), none, []⟩]
def k_pump_Hold_r8s : List (List AOper) := [
  [
  ⟨some 27, .move (.tmp 1), none, []⟩,
 ⟨some 28, .move (.tmp 1), none, [0]⟩,
 ⟨some 29, .len false (.tmp 28), none, [0]⟩,
 ⟨some 30, .bin .plain .sub (.tmp 29) (.const (.int .i64 1)), none, [0]⟩,
 ⟨some 31, .slice false 4 (.tmp 27) none (some (.tmp 30)), none, []⟩,
 ⟨some 32, .move (.tmp 1), none, [0, 1, 2, 3, 4]⟩,
 ⟨some 33, .move (.tmp 1), none, [0, 1, 2, 3, 4, 5]⟩,
 ⟨some 34, .len false (.tmp 33), none, [0, 1, 2, 3, 4, 5]⟩,
 ⟨some 35, .bin .plain .sub (.tmp 34) (.const (.int .i64 1)), none, [0, 1, 2, 3, 4, 5]⟩,
 ⟨some 36, .slice false 4 (.tmp 32) (some (.tmp 35)) none, none, [0, 1, 2, 3, 4]⟩,
 ⟨some 11, .move (.tmp 31), none, [5, 6, 7, 8, 9]⟩], 
  [
  ⟨some 12, .move (.tmp 36), none, []⟩]]
theorem k_pump_Hold_r8_sg : segs k_pump_Hold_r8 = k_pump_Hold_r8s := by kernel_rfl
theorem k_pump_Hold_r8_st : statOK k_pump_Hold_r8 = true := by kernel_rfl
def k_pump_Hold_r9 : List AOper := [
  ⟨some 37, .load (some (5)) (.tmp 4), none, []⟩,
 ⟨some 38, .load (some (5)) (.tmp 4), none, [0]⟩,
 ⟨some 39, .move (.tmp 11), none, [0, 1]⟩,
 ⟨some 40, .call (.const (.fn (.func 105) [] [])) [.tmp 38, .tmp 39], none, [0]⟩,
 ⟨some 41, .move (.tmp 12), none, [0, 1, 2, 3]⟩,
 ⟨some 42, .call (.const (.fn (.func 108) [] [])) [.tmp 37, .tmp 40, .tmp 41], none, []⟩]
def k_pump_Hold_r9s : List (List AOper) := [
  [
  ⟨some 37, .load (some (5)) (.tmp 4), none, []⟩,
 ⟨some 38, .load (some (5)) (.tmp 4), none, [0]⟩,
 ⟨some 39, .move (.tmp 11), none, [0, 1]⟩,
 ⟨some 40, .call (.const (.fn (.func 105) [] [])) [.tmp 38, .tmp 39], none, [0]⟩,
 ⟨some 41, .move (.tmp 12), none, [0, 1, 2, 3]⟩], 
  [
  ⟨some 42, .call (.const (.fn (.func 108) [] [])) [.tmp 37, .tmp 40, .tmp 41], none, []⟩]]
theorem k_pump_Hold_r9_sg : segs k_pump_Hold_r9 = k_pump_Hold_r9s := by kernel_rfl
theorem k_pump_Hold_r9_st : statOK k_pump_Hold_r9 = true := by kernel_rfl
def k_pump_Hold_r10 : List AOper := [
  ⟨some 13, .move (.tmp 43), none, []⟩]
def k_pump_Hold_r11 : List AOper := [
  ⟨some 14, .box (.const (.agg [.nilsl, .nilsl, .nilsl, .int .i64 0, .bool false])), none, []⟩,
 ⟨none, .store 5 (.tmp 14) (.tmp 44), none, []⟩]
def k_pump_Hold_r12 : List AOper := [
  ⟨some 45, .load (some (5)) (.tmp 4), none, []⟩,
 ⟨some 46, .load (some (5)) (.tmp 14), none, [0]⟩,
 ⟨some 47, .load none (.tmp 6), none, [0, 1]⟩,
 ⟨some 48, .call (.const (.fn (.func 94) [] [])) [.tmp 45, .tmp 46, .tmp 47], none, []⟩,
 ⟨some 49, .load none (.tmp 7), none, [0, 1, 2, 3]⟩,
 ⟨some 50, .call (.const (.fn (.func 101) [] [])) [.tmp 48, .tmp 49], none, []⟩,
 ⟨some 51, .bin .plain .eql (.tmp 50) (.const (.int .i64 1)), none, []⟩]
def k_pump_Hold_r12s : List (List AOper) := [
  [
  ⟨some 45, .load (some (5)) (.tmp 4), none, []⟩,
 ⟨some 46, .load (some (5)) (.tmp 14), none, [0]⟩,
 ⟨some 47, .load none (.tmp 6), none, [0, 1]⟩,
 ⟨some 48, .call (.const (.fn (.func 94) [] [])) [.tmp 45, .tmp 46, .tmp 47], none, []⟩,
 ⟨some 49, .load none (.tmp 7), none, [0, 1, 2, 3]⟩], 
  [
  ⟨some 50, .call (.const (.fn (.func 101) [] [])) [.tmp 48, .tmp 49], none, []⟩], 
  [
  ⟨some 51, .bin .plain .eql (.tmp 50) (.const (.int .i64 1)), none, []⟩]]
theorem k_pump_Hold_r12_sg : segs k_pump_Hold_r12 = k_pump_Hold_r12s := by kernel_rfl
theorem k_pump_Hold_r12_st : statOK k_pump_Hold_r12 = true := by kernel_rfl
def k_pump_Hold_r13 : List AOper := [
  ⟨some 52, .move (.tmp 13), none, []⟩,
 ⟨none, .store 1 (.tmp 8) (.tmp 52), none, []⟩,
 ⟨none, .store 1 (.tmp 9) (.const (.int .i64 0)), none, []⟩]
def k_pump_Hold_r14 : ACode := (.seq (.reg k_pump_Hold_r10 false) (.reg k_pump_Hold_r11 false))
def k_pump_Hold_r15 : ACode := (.block 1 (.seq (.reg k_pump_Hold_r12 true) (.cond (.tmp 51) (.seq (.reg k_pump_Hold_r13 false) .ret) .skip)))
def k_pump_Hold_r16 : List AOper := [
  ⟨none, .store 1 (.tmp 8) (.const (.int .i64 0)), none, []⟩,
 ⟨none, .store 1 (.tmp 9) (.const (.int .i64 15)), none, []⟩]
def k_pump_Hold : AFun := { params := 4, ntmps := 53, body := (.seq (.reg k_pump_Hold_r0 false) (.seq (.seq (.reg k_pump_Hold_r1 false) (.seq (.reg k_pump_Hold_r2 false) (.cond (.tmp 20) (.seq (.reg k_pump_Hold_r3 false) .ret) .skip))) (.seq (.seq (.reg k_pump_Hold_r4 false) (.cond (.tmp 23) (.seq (.reg k_pump_Hold_r5 false) .ret) .skip)) (.seq (.seq (.reg k_pump_Hold_r6 false) (.cond (.tmp 26) (.seq (.reg k_pump_Hold_r7 false) .ret) .skip)) (.seq (.reg k_pump_Hold_r8 true) (.seq (.seq (.reg k_pump_Hold_r9 true) (.block 0 (.rng (.tmp 42) [43, 44] k_pump_Hold_r14 k_pump_Hold_r15))) (.seq (.reg k_pump_Hold_r16 false) .ret))))))), res := [.cell 8 (some (none)), .cell 9 (some (none))] }
theorem k_pump_Hold_ok : cfun Try.prog Try.f48 = k_pump_Hold := by kernel_rfl

def k_pump_Find_r0 : List AOper := [
  ⟨some 2, .box (.tmp 0), none, []⟩,
 ⟨some 4, .move (.const (.nilsl)), none, []⟩,
 ⟨some 5, .move (.const (.int .i64 0)), none, []⟩,
 ⟨some 6, .move (.const (.int .i64 0)), none, []⟩]
def k_pump_Find_r1 : List AOper := [
  ⟨some 12, .load (some (2)) (.tmp 2), none, []⟩,
 ⟨some 13, .call (.const (.fn (.func 58) [] [])) [.tmp 12], none, []⟩,
 ⟨some 7, .move (.tmp 13), none, []⟩]
def k_pump_Find_r2 : List AOper := [
  ⟨some 14, .move (.tmp 7), none, []⟩,
 ⟨some 15, .bin .plain .neq (.tmp 14) (.const (.int .i64 0)), none, []⟩]
def k_pump_Find_r3 : List AOper := [
  ⟨some 16, .move (.tmp 7), none, []⟩,
 ⟨some 4, .move (.const (.nilsl)), none, []⟩,
 ⟨some 5, .move (.const (.int .i64 0)), none, []⟩,
 ⟨some 6, .move (.tmp 16), none, []⟩]
def k_pump_Find_r4 : List AOper := [
  ⟨some 17, .move (.tmp 1), none, []⟩,
 ⟨some 18, .fieldAddr 0 (.tmp 2), none, []⟩,
 ⟨some 19, .load none (.tmp 18), none, []⟩,
 ⟨some 20, .bin .plain .sub (.tmp 19) (.const (.int .i64 1)), none, []⟩,
 ⟨some 21, .call (.const (.fn (.func 99) [] [])) [.tmp 17, .const (.int .i64 0), .tmp 20], none, []⟩,
 ⟨some 22, .not (.tmp 21), none, []⟩]
def k_pump_Find_r5 : List AOper := [
  ⟨some 4, .move (.const (.nilsl)), none, []⟩,
 ⟨some 5, .move (.const (.int .i64 0)), none, []⟩,
 ⟨some 6, .move (.const (.int .i64 7)), none, []⟩]
def k_pump_Find_r6 : List AOper := [
  ⟨some 23, .load (some (2)) (.tmp 2), none, []⟩,
 ⟨some 24, .call (.const (.fn (.func 110) [] [])) [.tmp 23], none, []⟩,
 ⟨some 25, .fieldAddr 0 (.tmp 2), none, [0, 1]⟩,
 ⟨some 26, .load none (.tmp 25), none, [0, 1]⟩,
 ⟨some 27, .bin .plain .shl (.const (.int .u16 1)) (.tmp 26), none, [0, 1]⟩,
 ⟨some 28, .bin .plain .sub (.tmp 27) (.const (.int .u16 1)), none, [0, 1]⟩,
 ⟨some 8, .box (.const (.agg [.nilsl, .nilsl, .nilmap])), none, [0, 1, 2, 3, 4, 5]⟩,
 ⟨none, .store 3 (.tmp 8) (.tmp 24), none, [2, 3, 4, 5]⟩,
 ⟨some 9, .move (.tmp 28), none, []⟩]
def k_pump_Find_r6s : List (List AOper) := [
  [
  ⟨some 23, .load (some (2)) (.tmp 2), none, []⟩,
 ⟨some 24, .call (.const (.fn (.func 110) [] [])) [.tmp 23], none, []⟩,
 ⟨some 25, .fieldAddr 0 (.tmp 2), none, [0, 1]⟩,
 ⟨some 26, .load none (.tmp 25), none, [0, 1]⟩,
 ⟨some 27, .bin .plain .shl (.const (.int .u16 1)) (.tmp 26), none, [0, 1]⟩,
 ⟨some 28, .bin .plain .sub (.tmp 27) (.const (.int .u16 1)), none, [0, 1]⟩,
 ⟨some 8, .box (.const (.agg [.nilsl, .nilsl, .nilmap])), none, [0, 1, 2, 3, 4, 5]⟩,
 ⟨none, .store 3 (.tmp 8) (.tmp 24), none, [2, 3, 4, 5]⟩], 
  [
  ⟨some 9, .move (.tmp 28), none, []⟩]]
theorem k_pump_Find_r6_sg : segs k_pump_Find_r6 = k_pump_Find_r6s := by kernel_rfl
theorem k_pump_Find_r6_st : statOK k_pump_Find_r6 = true := by kernel_rfl
def k_pump_Find_r7 : List AOper := [
  ⟨some 29, .load (some (3)) (.tmp 8), none, []⟩,
 ⟨some 30, .move (.tmp 9), none, []⟩,
 ⟨some 31, .call (.const (.fn (.func 111) [] [])) [.tmp 29, .tmp 30], none, []⟩,
 ⟨some 32, .field none 0 (.tmp 31), none, []⟩,
 ⟨some 33, .not (.tmp 32), none, []⟩]
def k_pump_Find_r8 : List AOper := [
  ⟨some 4, .move (.const (.nilsl)), none, []⟩,
 ⟨some 5, .move (.const (.int .i64 0)), none, []⟩,
 ⟨some 6, .move (.const (.int .i64 15)), none, []⟩]
def k_pump_Find_r9 : List AOper := [
  ⟨some 34, .move (.tmp 9), none, []⟩,
 ⟨some 35, .call (.const (.fn (.func 116) [] [])) [.tmp 34], none, []⟩,
 ⟨some 36, .not (.tmp 35), none, []⟩]
def k_pump_Find_r10 : List AOper := [
  ⟨some 37, .load (some (3)) (.tmp 8), none, []⟩,
 ⟨some 38, .move (.tmp 9), none, []⟩,
 ⟨some 39, .call (.const (.fn (.func 111) [] [])) [.tmp 37, .tmp 38], none, []⟩,
 ⟨some 40, .field none 2 (.tmp 39), none, []⟩,
 ⟨some 10, .move (.tmp 40), none, []⟩]
def k_pump_Find_r11 : List AOper := [
  ⟨some 41, .fieldAddr 0 (.tmp 8), none, []⟩,
 ⟨some 42, .load none (.tmp 41), none, []⟩,
 ⟨some 43, .move (.tmp 10), none, []⟩,
 ⟨some 44, .indexAddr 1 (.tmp 42) (.tmp 43), none, []⟩,
 ⟨some 45, .load none (.tmp 44), none, []⟩,
 ⟨some 46, .move (.tmp 1), none, []⟩,
 ⟨some 47, .call (.const (.fn (.func 117) [] [])) [.tmp 45, .tmp 46], none, []⟩,
 ⟨some 11, .move (.tmp 47), none, []⟩]
def k_pump_Find_r12 : List AOper := [
  ⟨some 48, .move (.tmp 4), none, []⟩,
 ⟨some 49, .move (.tmp 10), none, []⟩,
 ⟨some 50, .move (.tmp 11), none, []⟩,
 ⟨some 51, .build [.int .i64 0, .bool false] [(0, 1, .tmp 49), (1, 1, .tmp 50)], none, []⟩,
 ⟨some 52, .buildSlice 2 [.tmp 51], none, []⟩,
 ⟨some 53, .append 2 16 true (.tmp 48) (.tmp 52), none, []⟩,
 ⟨some 4, .move (.tmp 53), none, []⟩]
def k_pump_Find_r13 : List AOper := [
  ⟨some 54, .move (.tmp 5), none, []⟩,
 ⟨some 55, .fieldAddr 1 (.tmp 8), none, []⟩,
 ⟨some 56, .load none (.tmp 55), none, []⟩,
 ⟨some 57, .move (.tmp 10), none, []⟩,
 ⟨some 58, .indexAddr 1 (.tmp 56) (.tmp 57), none, []⟩,
 ⟨some 59, .load none (.tmp 58), none, []⟩,
 ⟨some 60, .bin .plain .add (.tmp 54) (.tmp 59), none, []⟩,
 ⟨some 5, .move (.tmp 60), none, []⟩]
def k_pump_Find_r14 : List AOper := [
  ⟨some 61, .move (.tmp 11), none, []⟩]
def k_pump_Find_r15 : List AOper := [
  ⟨some 62, .move (.tmp 9), none, []⟩,
 ⟨some 63, .fieldAddr 0 (.tmp 8), none, []⟩,
 ⟨some 64, .load none (.tmp 63), none, []⟩,
 ⟨some 65, .move (.tmp 10), none, []⟩,
 ⟨some 66, .indexAddr 1 (.tmp 64) (.tmp 65), none, []⟩,
 ⟨some 67, .load none (.tmp 66), none, []⟩,
 ⟨some 68, .bin .plain .and (.tmp 62) (.tmp 67), none, []⟩,
 ⟨some 9, .move (.tmp 68), none, []⟩]
def k_pump_Find_r16 : List AOper := [
  ⟨some 69, .move (.tmp 9), none, []⟩,
 ⟨some 70, .fieldAddr 0 (.tmp 8), none, []⟩,
 ⟨some 71, .load none (.tmp 70), none, []⟩,
 ⟨some 72, .move (.tmp 10), none, []⟩,
 ⟨some 73, .indexAddr 1 (.tmp 71) (.tmp 72), none, []⟩,
 ⟨some 74, .load none (.tmp 73), none, []⟩,
 ⟨some 75, .bin .plain .andNot (.tmp 69) (.tmp 74), none, []⟩,
 ⟨some 9, .move (.tmp 75), none, []⟩]
def k_pump_Find_r17 : ACode := (.seq (.seq (.reg k_pump_Find_r9 false) (.cond (.tmp 36) .skip (.exit 0))) (.block 1 (.seq (.reg k_pump_Find_r10 false) (.seq (.reg k_pump_Find_r11 false) (.seq (.reg k_pump_Find_r12 false) (.seq (.reg k_pump_Find_r13 false) (.seq (.reg k_pump_Find_r14 false) (.cond (.tmp 61) (.reg k_pump_Find_r15 false) (.reg k_pump_Find_r16 false)))))))))
def k_pump_Find_r18 : List AOper := [
  ⟨some 76, .move (.tmp 4), none, []⟩,
 ⟨some 77, .move (.tmp 5), none, []⟩,
 ⟨some 4, .move (.tmp 76), none, []⟩,
 ⟨some 5, .move (.tmp 77), none, []⟩,
 ⟨some 6, .move (.const (.int .i64 0)), none, []⟩]
def k_pump_Find : AFun := { params := 2, ntmps := 78, body := (.seq (.reg k_pump_Find_r0 false) (.seq (.seq (.reg k_pump_Find_r1 false) (.seq (.reg k_pump_Find_r2 false) (.cond (.tmp 15) (.seq (.reg k_pump_Find_r3 false) .ret) .skip))) (.seq (.seq (.reg k_pump_Find_r4 false) (.cond (.tmp 22) (.seq (.reg k_pump_Find_r5 false) .ret) .skip)) (.seq (.reg k_pump_Find_r6 true) (.seq (.seq (.reg k_pump_Find_r7 false) (.cond (.tmp 33) (.seq (.reg k_pump_Find_r8 false) .ret) .skip)) (.seq (.block 0 (.loop k_pump_Find_r17)) (.seq (.reg k_pump_Find_r18 false) .ret))))))), res := [.tmp 4, .tmp 5, .tmp 6] }
theorem k_pump_Find_ok : cfun Try.prog Try.f56 = k_pump_Find := by kernel_rfl

def k_law06_sameTries_r0 : List AOper := [
  ⟨some 4, .move (.const (.bool false)), none, []⟩]
def k_law06_sameTries_r1 : List AOper := [
  ⟨some 6, .move (.tmp 0), none, []⟩,
 ⟨some 7, .len false (.tmp 6), none, []⟩,
 ⟨some 8, .move (.tmp 1), none, []⟩,
 ⟨some 9, .len false (.tmp 8), none, []⟩,
 ⟨some 10, .bin .plain .neq (.tmp 7) (.tmp 9), none, []⟩]
def k_law06_sameTries_r2 : List AOper := [
  ⟨some 4, .move (.const (.bool false)), none, []⟩]
def k_law06_sameTries_r3 : List AOper := [
  ⟨some 5, .move (.const (.int .i64 0)), none, []⟩]
def k_law06_sameTries_r4 : List AOper := [
  ⟨some 11, .move (.tmp 5), none, []⟩,
 ⟨some 12, .move (.tmp 0), none, []⟩,
 ⟨some 13, .len false (.tmp 12), none, []⟩,
 ⟨some 14, .bin .plain .lss (.tmp 11) (.tmp 13), none, []⟩]
def k_law06_sameTries_r5 : List AOper := [
  ⟨some 17, .move (.tmp 0), none, []⟩,
 ⟨some 18, .move (.tmp 5), none, [0]⟩,
 ⟨some 19, .indexAddr 2 (.tmp 17) (.tmp 18), none, []⟩,
 ⟨some 20, .load (some (2)) (.tmp 19), none, []⟩,
 ⟨some 21, .move (.tmp 1), none, [0, 1, 2, 3]⟩,
 ⟨some 22, .move (.tmp 5), none, [0, 1, 2, 3, 4]⟩,
 ⟨some 23, .indexAddr 2 (.tmp 21) (.tmp 22), none, [0, 1, 2, 3]⟩,
 ⟨some 24, .load (some (2)) (.tmp 23), none, [0, 1, 2, 3]⟩,
 ⟨some 25, .eqAgg true [.int, .bool] (.tmp 20) (.tmp 24), none, []⟩]
def k_law06_sameTries_r5s : List (List AOper) := [
  [
  ⟨some 17, .move (.tmp 0), none, []⟩,
 ⟨some 18, .move (.tmp 5), none, [0]⟩,
 ⟨some 19, .indexAddr 2 (.tmp 17) (.tmp 18), none, []⟩,
 ⟨some 20, .load (some (2)) (.tmp 19), none, []⟩,
 ⟨some 21, .move (.tmp 1), none, [0, 1, 2, 3]⟩,
 ⟨some 22, .move (.tmp 5), none, [0, 1, 2, 3, 4]⟩,
 ⟨some 23, .indexAddr 2 (.tmp 21) (.tmp 22), none, [0, 1, 2, 3]⟩,
 ⟨some 24, .load (some (2)) (.tmp 23), none, [0, 1, 2, 3]⟩], 
  [
  ⟨some 25, .eqAgg true [.int, .bool] (.tmp 20) (.tmp 24), none, []⟩]]
theorem k_law06_sameTries_r5_sg : segs k_law06_sameTries_r5 = k_law06_sameTries_r5s := by kernel_rfl
theorem k_law06_sameTries_r5_st : statOK k_law06_sameTries_r5 = true := by kernel_rfl
def k_law06_sameTries_r6 : List AOper := [
  ⟨some 4, .move (.const (.bool false)), none, []⟩]
def k_law06_sameTries_r7 : List AOper := [
  ⟨some 15, .move (.tmp 5), none, []⟩,
 ⟨some 16, .bin .plain .add (.tmp 15) (.const (.int .i64 1)), none, []⟩,
 ⟨some 5, .move (.tmp 16), none, []⟩]
def k_law06_sameTries_r8 : ACode := (.seq (.seq (.reg k_law06_sameTries_r4 false) (.cond (.tmp 14) .skip (.exit 0))) (.seq (.block 1 (.seq (.reg k_law06_sameTries_r5 true) (.cond (.tmp 25) (.seq (.reg k_law06_sameTries_r6 false) .ret) .skip))) (.reg k_law06_sameTries_r7 false)))
def k_law06_sameTries_r9 : List AOper := [
  ⟨some 4, .move (.const (.bool true)), none, []⟩]
def k_law06_sameTries : AFun := { params := 2, ntmps := 26, body := (.seq (.reg k_law06_sameTries_r0 false) (.seq (.seq (.reg k_law06_sameTries_r1 false) (.cond (.tmp 10) (.seq (.reg k_law06_sameTries_r2 false) .ret) .skip)) (.seq (.seq (.reg k_law06_sameTries_r3 false) (.block 0 (.loop k_law06_sameTries_r8))) (.seq (.reg k_law06_sameTries_r9 false) .ret)))), res := [.tmp 4] }
theorem k_law06_sameTries_ok : cfun Try.prog Try.f60 = k_law06_sameTries := by kernel_rfl

def k_law06_ticks_r0 : List AOper := [
  ⟨some 0, .move (.const (.bool false)), none, []⟩]
def k_law06_ticks_r1 : List AOper := [
  ⟨some 15, .call (.const (.fn (.func 119) [] [])) [], none, []⟩,
 ⟨some 16, .call (.const (.fn (.func 23) [] [])) [.tmp 15], none, []⟩,
 ⟨some 14, .move (.tmp 16), none, []⟩,
 ⟨some 17, .extract (.tmp 14) 0, none, []⟩,
 ⟨some 18, .extract (.tmp 14) 1, none, []⟩,
 ⟨some 1, .box (.const (.agg [.nilsl, .nilsl, .nilsl, .int .i64 0, .bool false])), none, []⟩,
 ⟨none, .store 5 (.tmp 1) (.tmp 17), none, []⟩,
 ⟨some 2, .move (.tmp 18), none, []⟩]
def k_law06_ticks_r2 : List AOper := [
  ⟨some 20, .call (.const (.fn (.func 119) [] [])) [], none, []⟩,
 ⟨some 21, .load (some (5)) (.tmp 1), none, [0]⟩,
 ⟨some 22, .build [.int .i64 0, .int .i64 0, .nilsl, .bool false] [], none, [0, 1]⟩,
 ⟨some 23, .call (.const (.fn (.func 40) [] [])) [.tmp 20, .tmp 21, .tmp 22], none, []⟩,
 ⟨some 19, .move (.tmp 23), none, []⟩,
 ⟨some 24, .extract (.tmp 19) 0, none, []⟩,
 ⟨some 25, .extract (.tmp 19) 1, none, [5]⟩,
 ⟨some 3, .box (.const (.agg [.nilsl, .nilsl, .nilsl, .int .i64 0, .bool false])), none, [0, 1, 2, 3, 4, 5, 6]⟩,
 ⟨none, .store 5 (.tmp 3) (.tmp 24), none, [6]⟩,
 ⟨some 4, .move (.tmp 25), none, []⟩]
def k_law06_ticks_r2s : List (List AOper) := [
  [
  ⟨some 20, .call (.const (.fn (.func 119) [] [])) [], none, []⟩,
 ⟨some 21, .load (some (5)) (.tmp 1), none, [0]⟩,
 ⟨some 22, .build [.int .i64 0, .int .i64 0, .nilsl, .bool false] [], none, [0, 1]⟩,
 ⟨some 23, .call (.const (.fn (.func 40) [] [])) [.tmp 20, .tmp 21, .tmp 22], none, []⟩,
 ⟨some 19, .move (.tmp 23), none, []⟩,
 ⟨some 24, .extract (.tmp 19) 0, none, []⟩,
 ⟨some 25, .extract (.tmp 19) 1, none, [5]⟩,
 ⟨some 3, .box (.const (.agg [.nilsl, .nilsl, .nilsl, .int .i64 0, .bool false])), none, [0, 1, 2, 3, 4, 5, 6]⟩,
 ⟨none, .store 5 (.tmp 3) (.tmp 24), none, [6]⟩], 
  [
  ⟨some 4, .move (.tmp 25), none, []⟩]]
theorem k_law06_ticks_r2_sg : segs k_law06_ticks_r2 = k_law06_ticks_r2s := by kernel_rfl
theorem k_law06_ticks_r2_st : statOK k_law06_ticks_r2 = true := by kernel_rfl
def k_law06_ticks_r3 : List AOper := [
  ⟨some 27, .call (.const (.fn (.func 119) [] [])) [], none, []⟩,
 ⟨some 28, .load (some (5)) (.tmp 1), none, [0]⟩,
 ⟨some 29, .build [.int .i64 0, .int .i64 0, .nilsl, .bool false] [(1, 1, .const (.int .i64 500))], none, [0, 1]⟩,
 ⟨some 30, .call (.const (.fn (.func 40) [] [])) [.tmp 27, .tmp 28, .tmp 29], none, []⟩,
 ⟨some 26, .move (.tmp 30), none, []⟩,
 ⟨some 31, .extract (.tmp 26) 0, none, []⟩,
 ⟨some 32, .extract (.tmp 26) 1, none, [5]⟩,
 ⟨some 5, .box (.const (.agg [.nilsl, .nilsl, .nilsl, .int .i64 0, .bool false])), none, [0, 1, 2, 3, 4, 5, 6]⟩,
 ⟨none, .store 5 (.tmp 5) (.tmp 31), none, [6]⟩,
 ⟨some 6, .move (.tmp 32), none, []⟩]
def k_law06_ticks_r3s : List (List AOper) := [
  [
  ⟨some 27, .call (.const (.fn (.func 119) [] [])) [], none, []⟩,
 ⟨some 28, .load (some (5)) (.tmp 1), none, [0]⟩,
 ⟨some 29, .build [.int .i64 0, .int .i64 0, .nilsl, .bool false] [(1, 1, .const (.int .i64 500))], none, [0, 1]⟩,
 ⟨some 30, .call (.const (.fn (.func 40) [] [])) [.tmp 27, .tmp 28, .tmp 29], none, []⟩,
 ⟨some 26, .move (.tmp 30), none, []⟩,
 ⟨some 31, .extract (.tmp 26) 0, none, []⟩,
 ⟨some 32, .extract (.tmp 26) 1, none, [5]⟩,
 ⟨some 5, .box (.const (.agg [.nilsl, .nilsl, .nilsl, .int .i64 0, .bool false])), none, [0, 1, 2, 3, 4, 5, 6]⟩,
 ⟨none, .store 5 (.tmp 5) (.tmp 31), none, [6]⟩], 
  [
  ⟨some 6, .move (.tmp 32), none, []⟩]]
theorem k_law06_ticks_r3_sg : segs k_law06_ticks_r3 = k_law06_ticks_r3s := by kernel_rfl
theorem k_law06_ticks_r3_st : statOK k_law06_ticks_r3 = true := by kernel_rfl
def k_law06_ticks_r4 : List AOper := [
  ⟨some 34, .call (.const (.fn (.func 119) [] [])) [], none, []⟩,
 ⟨some 35, .load (some (5)) (.tmp 1), none, [0]⟩,
 ⟨some 36, .build [.int .i64 0, .int .i64 0, .nilsl, .bool false] [(3, 1, .const (.bool true))], none, [0, 1]⟩,
 ⟨some 37, .call (.const (.fn (.func 40) [] [])) [.tmp 34, .tmp 35, .tmp 36], none, []⟩,
 ⟨some 33, .move (.tmp 37), none, []⟩,
 ⟨some 38, .extract (.tmp 33) 0, none, []⟩,
 ⟨some 39, .extract (.tmp 33) 1, none, [5]⟩,
 ⟨some 7, .box (.const (.agg [.nilsl, .nilsl, .nilsl, .int .i64 0, .bool false])), none, [0, 1, 2, 3, 4, 5, 6]⟩,
 ⟨none, .store 5 (.tmp 7) (.tmp 38), none, [6]⟩,
 ⟨some 8, .move (.tmp 39), none, []⟩]
def k_law06_ticks_r4s : List (List AOper) := [
  [
  ⟨some 34, .call (.const (.fn (.func 119) [] [])) [], none, []⟩,
 ⟨some 35, .load (some (5)) (.tmp 1), none, [0]⟩,
 ⟨some 36, .build [.int .i64 0, .int .i64 0, .nilsl, .bool false] [(3, 1, .const (.bool true))], none, [0, 1]⟩,
 ⟨some 37, .call (.const (.fn (.func 40) [] [])) [.tmp 34, .tmp 35, .tmp 36], none, []⟩,
 ⟨some 33, .move (.tmp 37), none, []⟩,
 ⟨some 38, .extract (.tmp 33) 0, none, []⟩,
 ⟨some 39, .extract (.tmp 33) 1, none, [5]⟩,
 ⟨some 7, .box (.const (.agg [.nilsl, .nilsl, .nilsl, .int .i64 0, .bool false])), none, [0, 1, 2, 3, 4, 5, 6]⟩,
 ⟨none, .store 5 (.tmp 7) (.tmp 38), none, [6]⟩], 
  [
  ⟨some 8, .move (.tmp 39), none, []⟩]]
theorem k_law06_ticks_r4_sg : segs k_law06_ticks_r4 = k_law06_ticks_r4s := by kernel_rfl
theorem k_law06_ticks_r4_st : statOK k_law06_ticks_r4 = true := by kernel_rfl
def k_law06_ticks_r5 : List AOper := [
  ⟨some 41, .call (.const (.fn (.func 119) [] [])) [], none, []⟩,
 ⟨some 42, .load (some (5)) (.tmp 1), none, [0]⟩,
 ⟨some 43, .buildSlice 1 [.const (.int .i64 0)], none, [0, 1]⟩,
 ⟨some 44, .build [.int .i64 0, .int .i64 0, .nilsl, .bool false] [(2, 1, .tmp 43)], none, [0, 1]⟩,
 ⟨some 45, .call (.const (.fn (.func 40) [] [])) [.tmp 41, .tmp 42, .tmp 44], none, []⟩,
 ⟨some 40, .move (.tmp 45), none, []⟩,
 ⟨some 46, .extract (.tmp 40) 0, none, []⟩,
 ⟨some 47, .extract (.tmp 40) 1, none, [6]⟩,
 ⟨some 9, .box (.const (.agg [.nilsl, .nilsl, .nilsl, .int .i64 0, .bool false])), none, [0, 1, 2, 3, 4, 5, 6, 7]⟩,
 ⟨none, .store 5 (.tmp 9) (.tmp 46), none, [7]⟩,
 ⟨some 10, .move (.tmp 47), none, []⟩]
def k_law06_ticks_r5s : List (List AOper) := [
  [
  ⟨some 41, .call (.const (.fn (.func 119) [] [])) [], none, []⟩,
 ⟨some 42, .load (some (5)) (.tmp 1), none, [0]⟩,
 ⟨some 43, .buildSlice 1 [.const (.int .i64 0)], none, [0, 1]⟩,
 ⟨some 44, .build [.int .i64 0, .int .i64 0, .nilsl, .bool false] [(2, 1, .tmp 43)], none, [0, 1]⟩,
 ⟨some 45, .call (.const (.fn (.func 40) [] [])) [.tmp 41, .tmp 42, .tmp 44], none, []⟩,
 ⟨some 40, .move (.tmp 45), none, []⟩,
 ⟨some 46, .extract (.tmp 40) 0, none, []⟩,
 ⟨some 47, .extract (.tmp 40) 1, none, [6]⟩,
 ⟨some 9, .box (.const (.agg [.nilsl, .nilsl, .nilsl, .int .i64 0, .bool false])), none, [0, 1, 2, 3, 4, 5, 6, 7]⟩,
 ⟨none, .store 5 (.tmp 9) (.tmp 46), none, [7]⟩], 
  [
  ⟨some 10, .move (.tmp 47), none, []⟩]]
theorem k_law06_ticks_r5_sg : segs k_law06_ticks_r5 = k_law06_ticks_r5s := by kernel_rfl
theorem k_law06_ticks_r5_st : statOK k_law06_ticks_r5 = true := by kernel_rfl
def k_law06_ticks_r6 : List AOper := [
  ⟨some 48, .move (.tmp 2), none, []⟩,
 ⟨some 49, .bin .plain .neq (.tmp 48) (.const (.int .i64 0)), none, []⟩,
 ⟨some 50, .move (.tmp 49), none, []⟩,
 ⟨some 51, .move (.tmp 4), (some (50, false)), []⟩,
 ⟨some 52, .bin .plain .neq (.tmp 51) (.const (.int .i64 0)), (some (50, false)), []⟩,
 ⟨some 53, .pick (.tmp 50) (.const (.bool true)) (.tmp 52), none, []⟩,
 ⟨some 54, .move (.tmp 53), none, []⟩,
 ⟨some 55, .move (.tmp 6), (some (54, false)), []⟩,
 ⟨some 56, .bin .plain .neq (.tmp 55) (.const (.int .i64 0)), (some (54, false)), []⟩,
 ⟨some 57, .pick (.tmp 54) (.const (.bool true)) (.tmp 56), none, []⟩,
 ⟨some 58, .move (.tmp 57), none, []⟩,
 ⟨some 59, .move (.tmp 8), (some (58, false)), []⟩,
 ⟨some 60, .bin .plain .neq (.tmp 59) (.const (.int .i64 0)), (some (58, false)), []⟩,
 ⟨some 61, .pick (.tmp 58) (.const (.bool true)) (.tmp 60), none, []⟩,
 ⟨some 62, .move (.tmp 61), none, []⟩,
 ⟨some 63, .move (.tmp 10), (some (62, false)), []⟩,
 ⟨some 64, .bin .plain .neq (.tmp 63) (.const (.int .i64 0)), (some (62, false)), []⟩,
 ⟨some 65, .pick (.tmp 62) (.const (.bool true)) (.tmp 64), none, []⟩]
def k_law06_ticks_r7 : List AOper := [
  ⟨some 0, .move (.const (.bool false)), none, []⟩]
def k_law06_ticks_r8 : List AOper := [
  ⟨some 66, .fieldAddr 0 (.tmp 3), none, []⟩,
 ⟨some 67, .load none (.tmp 66), none, []⟩,
 ⟨some 68, .call (.const (.fn (.func 72) [] [])) [.const (.int .i64 50), .const (.int .i64 60)], none, [0, 1]⟩,
 ⟨some 69, .call (.const (.fn (.func 72) [] [])) [.const (.int .i64 41), .const (.int .i64 52)], none, [0, 1]⟩,
 ⟨some 70, .buildSlice 2 [.tmp 68, .tmp 69], none, [0, 1]⟩,
 ⟨some 71, .call (.const (.fn (.func 76) [] [])) [.tmp 67, .tmp 70], none, []⟩,
 ⟨some 72, .not (.tmp 71), none, []⟩,
 ⟨some 73, .move (.tmp 72), none, []⟩,
 ⟨some 74, .fieldAddr 1 (.tmp 3), (some (73, false)), []⟩,
 ⟨some 75, .load none (.tmp 74), (some (73, false)), []⟩,
 ⟨some 76, .call (.const (.fn (.func 72) [] [])) [.const (.int .i64 100), .const (.int .i64 200)], (some (73, false)), [8, 9]⟩,
 ⟨some 77, .build [.int .i64 0, .int .i64 0] [], (some (73, false)), [8, 9, 10]⟩,
 ⟨some 78, .buildSlice 2 [.tmp 76, .tmp 77], (some (73, false)), [8, 9]⟩,
 ⟨some 79, .call (.const (.fn (.func 76) [] [])) [.tmp 75, .tmp 78], (some (73, false)), []⟩,
 ⟨some 80, .not (.tmp 79), (some (73, false)), []⟩,
 ⟨some 81, .pick (.tmp 73) (.const (.bool true)) (.tmp 80), none, []⟩,
 ⟨some 82, .move (.tmp 81), none, []⟩,
 ⟨some 83, .fieldAddr 3 (.tmp 3), (some (82, false)), []⟩,
 ⟨some 84, .load none (.tmp 83), (some (82, false)), []⟩,
 ⟨some 85, .bin .plain .neq (.tmp 84) (.const (.int .i64 302)), (some (82, false)), []⟩,
 ⟨some 86, .pick (.tmp 82) (.const (.bool true)) (.tmp 85), none, []⟩,
 ⟨some 87, .move (.tmp 86), none, []⟩,
 ⟨some 88, .fieldAddr 4 (.tmp 3), (some (87, false)), []⟩,
 ⟨some 89, .load none (.tmp 88), (some (87, false)), []⟩,
 ⟨some 90, .pick (.tmp 87) (.const (.bool true)) (.tmp 89), none, []⟩]
def k_law06_ticks_r8s : List (List AOper) := [
  [
  ⟨some 66, .fieldAddr 0 (.tmp 3), none, []⟩,
 ⟨some 67, .load none (.tmp 66), none, []⟩,
 ⟨some 68, .call (.const (.fn (.func 72) [] [])) [.const (.int .i64 50), .const (.int .i64 60)], none, [0, 1]⟩,
 ⟨some 69, .call (.const (.fn (.func 72) [] [])) [.const (.int .i64 41), .const (.int .i64 52)], none, [0, 1]⟩,
 ⟨some 70, .buildSlice 2 [.tmp 68, .tmp 69], none, [0, 1]⟩], 
  [
  ⟨some 71, .call (.const (.fn (.func 76) [] [])) [.tmp 67, .tmp 70], none, []⟩], 
  [
  ⟨some 72, .not (.tmp 71), none, []⟩], 
  [
  ⟨some 73, .move (.tmp 72), none, []⟩], 
  [
  ⟨some 74, .fieldAddr 1 (.tmp 3), (some (73, false)), []⟩,
 ⟨some 75, .load none (.tmp 74), (some (73, false)), []⟩,
 ⟨some 76, .call (.const (.fn (.func 72) [] [])) [.const (.int .i64 100), .const (.int .i64 200)], (some (73, false)), [8, 9]⟩,
 ⟨some 77, .build [.int .i64 0, .int .i64 0] [], (some (73, false)), [8, 9, 10]⟩,
 ⟨some 78, .buildSlice 2 [.tmp 76, .tmp 77], (some (73, false)), [8, 9]⟩], 
  [
  ⟨some 79, .call (.const (.fn (.func 76) [] [])) [.tmp 75, .tmp 78], (some (73, false)), []⟩], 
  [
  ⟨some 80, .not (.tmp 79), (some (73, false)), []⟩], 
  [
  ⟨some 81, .pick (.tmp 73) (.const (.bool true)) (.tmp 80), none, []⟩], 
  [
  ⟨some 82, .move (.tmp 81), none, []⟩], 
  [
  ⟨some 83, .fieldAddr 3 (.tmp 3), (some (82, false)), []⟩], 
  [
  ⟨some 84, .load none (.tmp 83), (some (82, false)), []⟩], 
  [
  ⟨some 85, .bin .plain .neq (.tmp 84) (.const (.int .i64 302)), (some (82, false)), []⟩], 
  [
  ⟨some 86, .pick (.tmp 82) (.const (.bool true)) (.tmp 85), none, []⟩], 
  [
  ⟨some 87, .move (.tmp 86), none, []⟩], 
  [
  ⟨some 88, .fieldAddr 4 (.tmp 3), (some (87, false)), []⟩], 
  [
  ⟨some 89, .load none (.tmp 88), (some (87, false)), []⟩], 
  [
  ⟨some 90, .pick (.tmp 87) (.const (.bool true)) (.tmp 89), none, []⟩]]
theorem k_law06_ticks_r8_sg : segs k_law06_ticks_r8 = k_law06_ticks_r8s := by kernel_rfl
theorem k_law06_ticks_r8_st : statOK k_law06_ticks_r8 = true := by kernel_rfl
def k_law06_ticks_r9 : List AOper := [
  ⟨some 0, .move (.const (.bool false)), none, []⟩]
def k_law06_ticks_r10 : List AOper := [
  ⟨some 91, .fieldAddr 0 (.tmp 5), none, []⟩,
 ⟨some 92, .load none (.tmp 91), none, []⟩,
 ⟨some 93, .call (.const (.fn (.func 72) [] [])) [.const (.int .i64 55), .const (.int .i64 84)], none, [0, 1]⟩,
 ⟨some 94, .call (.const (.fn (.func 72) [] [])) [.const (.int .i64 45), .const (.int .i64 72)], none, [0, 1]⟩,
 ⟨some 95, .buildSlice 2 [.tmp 93, .tmp 94], none, [0, 1]⟩,
 ⟨some 96, .call (.const (.fn (.func 76) [] [])) [.tmp 92, .tmp 95], none, []⟩,
 ⟨some 97, .not (.tmp 96), none, []⟩,
 ⟨some 98, .move (.tmp 97), none, []⟩,
 ⟨some 99, .fieldAddr 1 (.tmp 5), (some (98, false)), []⟩,
 ⟨some 100, .load none (.tmp 99), (some (98, false)), []⟩,
 ⟨some 101, .call (.const (.fn (.func 72) [] [])) [.const (.int .i64 80), .const (.int .i64 180)], (some (98, false)), [8, 9]⟩,
 ⟨some 102, .build [.int .i64 0, .int .i64 0] [], (some (98, false)), [8, 9, 10]⟩,
 ⟨some 103, .buildSlice 2 [.tmp 101, .tmp 102], (some (98, false)), [8, 9]⟩,
 ⟨some 104, .call (.const (.fn (.func 76) [] [])) [.tmp 100, .tmp 103], (some (98, false)), []⟩,
 ⟨some 105, .not (.tmp 104), (some (98, false)), []⟩,
 ⟨some 106, .pick (.tmp 98) (.const (.bool true)) (.tmp 105), none, []⟩]
def k_law06_ticks_r10s : List (List AOper) := [
  [
  ⟨some 91, .fieldAddr 0 (.tmp 5), none, []⟩,
 ⟨some 92, .load none (.tmp 91), none, []⟩,
 ⟨some 93, .call (.const (.fn (.func 72) [] [])) [.const (.int .i64 55), .const (.int .i64 84)], none, [0, 1]⟩,
 ⟨some 94, .call (.const (.fn (.func 72) [] [])) [.const (.int .i64 45), .const (.int .i64 72)], none, [0, 1]⟩,
 ⟨some 95, .buildSlice 2 [.tmp 93, .tmp 94], none, [0, 1]⟩], 
  [
  ⟨some 96, .call (.const (.fn (.func 76) [] [])) [.tmp 92, .tmp 95], none, []⟩], 
  [
  ⟨some 97, .not (.tmp 96), none, []⟩], 
  [
  ⟨some 98, .move (.tmp 97), none, []⟩], 
  [
  ⟨some 99, .fieldAddr 1 (.tmp 5), (some (98, false)), []⟩,
 ⟨some 100, .load none (.tmp 99), (some (98, false)), []⟩,
 ⟨some 101, .call (.const (.fn (.func 72) [] [])) [.const (.int .i64 80), .const (.int .i64 180)], (some (98, false)), [8, 9]⟩,
 ⟨some 102, .build [.int .i64 0, .int .i64 0] [], (some (98, false)), [8, 9, 10]⟩,
 ⟨some 103, .buildSlice 2 [.tmp 101, .tmp 102], (some (98, false)), [8, 9]⟩], 
  [
  ⟨some 104, .call (.const (.fn (.func 76) [] [])) [.tmp 100, .tmp 103], (some (98, false)), []⟩], 
  [
  ⟨some 105, .not (.tmp 104), (some (98, false)), []⟩], 
  [
  ⟨some 106, .pick (.tmp 98) (.const (.bool true)) (.tmp 105), none, []⟩]]
theorem k_law06_ticks_r10_sg : segs k_law06_ticks_r10 = k_law06_ticks_r10s := by kernel_rfl
theorem k_law06_ticks_r10_st : statOK k_law06_ticks_r10 = true := by kernel_rfl
def k_law06_ticks_r11 : List AOper := [
  ⟨some 0, .move (.const (.bool false)), none, []⟩]
def k_law06_ticks_r12 : List AOper := [
  ⟨some 108, .call (.const (.fn (.func 119) [] [])) [], none, []⟩,
 ⟨some 109, .load (some (5)) (.tmp 1), none, [0]⟩,
 ⟨some 110, .call (.const (.fn (.func 37) [] [])) [.tmp 108, .tmp 109, .const (.int .i64 0), .const (.int .i64 100000)], none, []⟩,
 ⟨some 107, .move (.tmp 110), none, []⟩,
 ⟨some 111, .extract (.tmp 107) 0, none, []⟩,
 ⟨some 112, .extract (.tmp 107) 1, none, [4]⟩,
 ⟨some 11, .move (.tmp 111), none, [5]⟩,
 ⟨some 2, .move (.tmp 112), none, []⟩]
def k_law06_ticks_r12s : List (List AOper) := [
  [
  ⟨some 108, .call (.const (.fn (.func 119) [] [])) [], none, []⟩,
 ⟨some 109, .load (some (5)) (.tmp 1), none, [0]⟩], 
  [
  ⟨some 110, .call (.const (.fn (.func 37) [] [])) [.tmp 108, .tmp 109, .const (.int .i64 0), .const (.int .i64 100000)], none, []⟩], 
  [
  ⟨some 107, .move (.tmp 110), none, []⟩], 
  [
  ⟨some 111, .extract (.tmp 107) 0, none, []⟩,
 ⟨some 112, .extract (.tmp 107) 1, none, [4]⟩,
 ⟨some 11, .move (.tmp 111), none, [5]⟩], 
  [
  ⟨some 2, .move (.tmp 112), none, []⟩]]
theorem k_law06_ticks_r12_sg : segs k_law06_ticks_r12 = k_law06_ticks_r12s := by kernel_rfl
theorem k_law06_ticks_r12_st : statOK k_law06_ticks_r12 = true := by kernel_rfl
def k_law06_ticks_r13 : List AOper := [
  ⟨some 114, .call (.const (.fn (.func 119) [] [])) [], none, []⟩,
 ⟨some 115, .load (some (5)) (.tmp 1), none, [0]⟩,
 ⟨some 116, .call (.const (.fn (.func 37) [] [])) [.tmp 114, .tmp 115, .const (.int .i64 0), .const (.int .i64 99999)], none, []⟩,
 ⟨some 113, .move (.tmp 116), none, []⟩,
 ⟨some 117, .extract (.tmp 113) 0, none, []⟩,
 ⟨some 118, .extract (.tmp 113) 1, none, [4]⟩,
 ⟨some 12, .move (.tmp 117), none, [5]⟩,
 ⟨some 4, .move (.tmp 118), none, []⟩]
def k_law06_ticks_r13s : List (List AOper) := [
  [
  ⟨some 114, .call (.const (.fn (.func 119) [] [])) [], none, []⟩,
 ⟨some 115, .load (some (5)) (.tmp 1), none, [0]⟩], 
  [
  ⟨some 116, .call (.const (.fn (.func 37) [] [])) [.tmp 114, .tmp 115, .const (.int .i64 0), .const (.int .i64 99999)], none, []⟩], 
  [
  ⟨some 113, .move (.tmp 116), none, []⟩], 
  [
  ⟨some 117, .extract (.tmp 113) 0, none, []⟩,
 ⟨some 118, .extract (.tmp 113) 1, none, [4]⟩,
 ⟨some 12, .move (.tmp 117), none, [5]⟩], 
  [
  ⟨some 4, .move (.tmp 118), none, []⟩]]
theorem k_law06_ticks_r13_sg : segs k_law06_ticks_r13 = k_law06_ticks_r13s := by kernel_rfl
theorem k_law06_ticks_r13_st : statOK k_law06_ticks_r13 = true := by kernel_rfl
def k_law06_ticks_r14 : List AOper := [
  ⟨some 120, .call (.const (.fn (.func 119) [] [])) [], none, []⟩,
 ⟨some 121, .load (some (5)) (.tmp 1), none, [0]⟩,
 ⟨some 122, .call (.const (.fn (.func 37) [] [])) [.tmp 120, .tmp 121, .const (.int .i64 1), .const (.int .i64 0)], none, []⟩,
 ⟨some 119, .move (.tmp 122), none, []⟩,
 ⟨some 123, .extract (.tmp 119) 0, none, []⟩,
 ⟨some 124, .extract (.tmp 119) 1, none, [4]⟩,
 ⟨some 13, .move (.tmp 123), none, [5]⟩,
 ⟨some 6, .move (.tmp 124), none, []⟩]
def k_law06_ticks_r14s : List (List AOper) := [
  [
  ⟨some 120, .call (.const (.fn (.func 119) [] [])) [], none, []⟩,
 ⟨some 121, .load (some (5)) (.tmp 1), none, [0]⟩], 
  [
  ⟨some 122, .call (.const (.fn (.func 37) [] [])) [.tmp 120, .tmp 121, .const (.int .i64 1), .const (.int .i64 0)], none, []⟩], 
  [
  ⟨some 119, .move (.tmp 122), none, []⟩], 
  [
  ⟨some 123, .extract (.tmp 119) 0, none, []⟩,
 ⟨some 124, .extract (.tmp 119) 1, none, [4]⟩,
 ⟨some 13, .move (.tmp 123), none, [5]⟩], 
  [
  ⟨some 6, .move (.tmp 124), none, []⟩]]
theorem k_law06_ticks_r14_sg : segs k_law06_ticks_r14 = k_law06_ticks_r14s := by kernel_rfl
theorem k_law06_ticks_r14_st : statOK k_law06_ticks_r14 = true := by kernel_rfl
def k_law06_ticks_r15 : List AOper := [
  ⟨some 125, .fieldAddr 0 (.tmp 7), none, []⟩,
 ⟨some 126, .load none (.tmp 125), none, []⟩,
 ⟨some 127, .call (.const (.fn (.func 72) [] [])) [.const (.int .i64 50), .const (.int .i64 60)], none, [0, 1]⟩,
 ⟨some 128, .call (.const (.fn (.func 72) [] [])) [.const (.int .i64 21), .const (.int .i64 42)], none, [0, 1]⟩,
 ⟨some 129, .buildSlice 2 [.tmp 127, .tmp 128], none, [0, 1]⟩,
 ⟨some 130, .call (.const (.fn (.func 76) [] [])) [.tmp 126, .tmp 129], none, []⟩,
 ⟨some 131, .move (.tmp 130), none, []⟩,
 ⟨some 132, .fieldAddr 2 (.tmp 7), (some (131, true)), []⟩,
 ⟨some 133, .load none (.tmp 132), (some (131, true)), []⟩,
 ⟨some 134, .build [.int .i64 0, .int .i64 0] [], (some (131, true)), [7, 8]⟩,
 ⟨some 135, .buildSlice 2 [.tmp 134], (some (131, true)), [7, 8]⟩,
 ⟨some 136, .call (.const (.fn (.func 76) [] [])) [.tmp 133, .tmp 135], (some (131, true)), []⟩,
 ⟨some 137, .pick (.tmp 131) (.tmp 136) (.const (.bool false)), none, []⟩,
 ⟨some 138, .move (.tmp 137), none, []⟩,
 ⟨some 139, .fieldAddr 4 (.tmp 7), (some (138, true)), []⟩,
 ⟨some 140, .load none (.tmp 139), (some (138, true)), []⟩,
 ⟨some 141, .pick (.tmp 138) (.tmp 140) (.const (.bool false)), none, []⟩,
 ⟨some 142, .move (.tmp 141), none, []⟩,
 ⟨some 143, .fieldAddr 0 (.tmp 9), (some (142, true)), []⟩,
 ⟨some 144, .load none (.tmp 143), (some (142, true)), []⟩,
 ⟨some 145, .call (.const (.fn (.func 63) [] [])) [.const (.int .i64 100)], (some (142, true)), [18, 19]⟩,
 ⟨some 146, .call (.const (.fn (.func 72) [] [])) [.const (.int .i64 1), .const (.int .i64 2)], (some (142, true)), [18, 19]⟩,
 ⟨some 147, .buildSlice 2 [.tmp 145, .tmp 146], (some (142, true)), [18, 19]⟩,
 ⟨some 148, .call (.const (.fn (.func 76) [] [])) [.tmp 144, .tmp 147], (some (142, true)), []⟩,
 ⟨some 149, .pick (.tmp 142) (.tmp 148) (.const (.bool false)), none, []⟩,
 ⟨some 150, .move (.tmp 149), none, []⟩,
 ⟨some 151, .move (.tmp 2), (some (150, true)), []⟩,
 ⟨some 152, .bin .plain .eql (.tmp 151) (.const (.int .i64 0)), (some (150, true)), []⟩,
 ⟨some 153, .pick (.tmp 150) (.tmp 152) (.const (.bool false)), none, []⟩,
 ⟨some 154, .move (.tmp 153), none, []⟩,
 ⟨some 155, .move (.tmp 4), (some (154, true)), []⟩,
 ⟨some 156, .bin .plain .eql (.tmp 155) (.const (.int .i64 0)), (some (154, true)), []⟩,
 ⟨some 157, .pick (.tmp 154) (.tmp 156) (.const (.bool false)), none, []⟩,
 ⟨some 158, .move (.tmp 157), none, []⟩,
 ⟨some 159, .move (.tmp 6), (some (158, true)), []⟩,
 ⟨some 160, .bin .plain .eql (.tmp 159) (.const (.int .i64 0)), (some (158, true)), []⟩,
 ⟨some 161, .pick (.tmp 158) (.tmp 160) (.const (.bool false)), none, []⟩,
 ⟨some 162, .move (.tmp 161), none, []⟩,
 ⟨some 163, .move (.tmp 11), (some (162, true)), []⟩,
 ⟨some 164, .bin .plain .eql (.tmp 163) (.const (.int .i64 1)), (some (162, true)), []⟩,
 ⟨some 165, .pick (.tmp 162) (.tmp 164) (.const (.bool false)), none, []⟩,
 ⟨some 166, .move (.tmp 165), none, []⟩,
 ⟨some 167, .move (.tmp 12), (some (166, true)), []⟩,
 ⟨some 168, .bin .plain .eql (.tmp 167) (.const (.int .i64 2)), (some (166, true)), []⟩,
 ⟨some 169, .pick (.tmp 166) (.tmp 168) (.const (.bool false)), none, []⟩,
 ⟨some 170, .move (.tmp 169), none, []⟩,
 ⟨some 171, .move (.tmp 13), (some (170, true)), []⟩,
 ⟨some 172, .bin .plain .eql (.tmp 171) (.const (.int .i64 1)), (some (170, true)), []⟩,
 ⟨some 173, .pick (.tmp 170) (.tmp 172) (.const (.bool false)), none, []⟩,
 ⟨some 0, .move (.tmp 173), none, []⟩]
def k_law06_ticks_r15s : List (List AOper) := [
  [
  ⟨some 125, .fieldAddr 0 (.tmp 7), none, []⟩,
 ⟨some 126, .load none (.tmp 125), none, []⟩,
 ⟨some 127, .call (.const (.fn (.func 72) [] [])) [.const (.int .i64 50), .const (.int .i64 60)], none, [0, 1]⟩,
 ⟨some 128, .call (.const (.fn (.func 72) [] [])) [.const (.int .i64 21), .const (.int .i64 42)], none, [0, 1]⟩,
 ⟨some 129, .buildSlice 2 [.tmp 127, .tmp 128], none, [0, 1]⟩], 
  [
  ⟨some 130, .call (.const (.fn (.func 76) [] [])) [.tmp 126, .tmp 129], none, []⟩], 
  [
  ⟨some 131, .move (.tmp 130), none, []⟩], 
  [
  ⟨some 132, .fieldAddr 2 (.tmp 7), (some (131, true)), []⟩,
 ⟨some 133, .load none (.tmp 132), (some (131, true)), []⟩,
 ⟨some 134, .build [.int .i64 0, .int .i64 0] [], (some (131, true)), [7, 8]⟩,
 ⟨some 135, .buildSlice 2 [.tmp 134], (some (131, true)), [7, 8]⟩], 
  [
  ⟨some 136, .call (.const (.fn (.func 76) [] [])) [.tmp 133, .tmp 135], (some (131, true)), []⟩], 
  [
  ⟨some 137, .pick (.tmp 131) (.tmp 136) (.const (.bool false)), none, []⟩], 
  [
  ⟨some 138, .move (.tmp 137), none, []⟩], 
  [
  ⟨some 139, .fieldAddr 4 (.tmp 7), (some (138, true)), []⟩], 
  [
  ⟨some 140, .load none (.tmp 139), (some (138, true)), []⟩], 
  [
  ⟨some 141, .pick (.tmp 138) (.tmp 140) (.const (.bool false)), none, []⟩], 
  [
  ⟨some 142, .move (.tmp 141), none, []⟩], 
  [
  ⟨some 143, .fieldAddr 0 (.tmp 9), (some (142, true)), []⟩,
 ⟨some 144, .load none (.tmp 143), (some (142, true)), []⟩,
 ⟨some 145, .call (.const (.fn (.func 63) [] [])) [.const (.int .i64 100)], (some (142, true)), [18, 19]⟩,
 ⟨some 146, .call (.const (.fn (.func 72) [] [])) [.const (.int .i64 1), .const (.int .i64 2)], (some (142, true)), [18, 19]⟩,
 ⟨some 147, .buildSlice 2 [.tmp 145, .tmp 146], (some (142, true)), [18, 19]⟩], 
  [
  ⟨some 148, .call (.const (.fn (.func 76) [] [])) [.tmp 144, .tmp 147], (some (142, true)), []⟩], 
  [
  ⟨some 149, .pick (.tmp 142) (.tmp 148) (.const (.bool false)), none, []⟩], 
  [
  ⟨some 150, .move (.tmp 149), none, []⟩], 
  [
  ⟨some 151, .move (.tmp 2), (some (150, true)), []⟩], 
  [
  ⟨some 152, .bin .plain .eql (.tmp 151) (.const (.int .i64 0)), (some (150, true)), []⟩], 
  [
  ⟨some 153, .pick (.tmp 150) (.tmp 152) (.const (.bool false)), none, []⟩], 
  [
  ⟨some 154, .move (.tmp 153), none, []⟩], 
  [
  ⟨some 155, .move (.tmp 4), (some (154, true)), []⟩], 
  [
  ⟨some 156, .bin .plain .eql (.tmp 155) (.const (.int .i64 0)), (some (154, true)), []⟩], 
  [
  ⟨some 157, .pick (.tmp 154) (.tmp 156) (.const (.bool false)), none, []⟩], 
  [
  ⟨some 158, .move (.tmp 157), none, []⟩], 
  [
  ⟨some 159, .move (.tmp 6), (some (158, true)), []⟩], 
  [
  ⟨some 160, .bin .plain .eql (.tmp 159) (.const (.int .i64 0)), (some (158, true)), []⟩], 
  [
  ⟨some 161, .pick (.tmp 158) (.tmp 160) (.const (.bool false)), none, []⟩], 
  [
  ⟨some 162, .move (.tmp 161), none, []⟩], 
  [
  ⟨some 163, .move (.tmp 11), (some (162, true)), []⟩], 
  [
  ⟨some 164, .bin .plain .eql (.tmp 163) (.const (.int .i64 1)), (some (162, true)), []⟩], 
  [
  ⟨some 165, .pick (.tmp 162) (.tmp 164) (.const (.bool false)), none, []⟩], 
  [
  ⟨some 166, .move (.tmp 165), none, []⟩], 
  [
  ⟨some 167, .move (.tmp 12), (some (166, true)), []⟩], 
  [
  ⟨some 168, .bin .plain .eql (.tmp 167) (.const (.int .i64 2)), (some (166, true)), []⟩], 
  [
  ⟨some 169, .pick (.tmp 166) (.tmp 168) (.const (.bool false)), none, []⟩], 
  [
  ⟨some 170, .move (.tmp 169), none, []⟩], 
  [
  ⟨some 171, .move (.tmp 13), (some (170, true)), []⟩], 
  [
  ⟨some 172, .bin .plain .eql (.tmp 171) (.const (.int .i64 1)), (some (170, true)), []⟩], 
  [
  ⟨some 173, .pick (.tmp 170) (.tmp 172) (.const (.bool false)), none, []⟩], 
  [
  ⟨some 0, .move (.tmp 173), none, []⟩]]
theorem k_law06_ticks_r15_sg : segs k_law06_ticks_r15 = k_law06_ticks_r15s := by kernel_rfl
theorem k_law06_ticks_r15_st : statOK k_law06_ticks_r15 = true := by kernel_rfl
def k_law06_ticks : AFun := { params := 0, ntmps := 174, body := (.seq (.reg k_law06_ticks_r0 false) (.seq (.reg k_law06_ticks_r1 false) (.seq (.reg k_law06_ticks_r2 true) (.seq (.reg k_law06_ticks_r3 true) (.seq (.reg k_law06_ticks_r4 true) (.seq (.reg k_law06_ticks_r5 true) (.seq (.seq (.reg k_law06_ticks_r6 false) (.cond (.tmp 65) (.seq (.reg k_law06_ticks_r7 false) .ret) .skip)) (.seq (.seq (.reg k_law06_ticks_r8 true) (.cond (.tmp 90) (.seq (.reg k_law06_ticks_r9 false) .ret) .skip)) (.seq (.seq (.reg k_law06_ticks_r10 true) (.cond (.tmp 106) (.seq (.reg k_law06_ticks_r11 false) .ret) .skip)) (.seq (.reg k_law06_ticks_r12 true) (.seq (.reg k_law06_ticks_r13 true) (.seq (.reg k_law06_ticks_r14 true) (.seq (.reg k_law06_ticks_r15 true) .ret))))))))))))), res := [.tmp 0] }
theorem k_law06_ticks_ok : cfun Try.prog Try.f61 = k_law06_ticks := by kernel_rfl

def k_pump_pressure_r0 : List AOper := [
  ⟨some 3, .box (.tmp 0), none, []⟩,
 ⟨some 4, .box (.tmp 1), none, []⟩,
 ⟨some 6, .box (.const (.agg [.int .i64 0, .int .i64 0])), none, []⟩]
def k_pump_pressure_r1 : List AOper := [
  ⟨some 9, .fieldAddr 0 (.tmp 4), none, []⟩,
 ⟨some 10, .load none (.tmp 9), none, []⟩,
 ⟨some 11, .move (.tmp 2), none, [0, 1]⟩,
 ⟨some 12, .indexAddr 2 (.tmp 10) (.tmp 11), none, []⟩,
 ⟨some 13, .load (some (2)) (.tmp 12), none, []⟩,
 ⟨some 14, .fieldAddr 0 (.tmp 3), none, [0, 1, 2, 3, 4]⟩,
 ⟨some 15, .load none (.tmp 14), none, [0, 1, 2, 3, 4]⟩,
 ⟨some 16, .move (.tmp 2), none, [0, 1, 2, 3, 4, 5, 6]⟩,
 ⟨some 17, .indexAddr 6 (.tmp 15) (.tmp 16), none, [0, 1, 2, 3, 4]⟩,
 ⟨some 18, .fieldAddr 0 (.tmp 17), none, [0, 1, 2, 3, 4]⟩,
 ⟨some 19, .load none (.tmp 18), none, [0, 1, 2, 3, 4]⟩,
 ⟨some 7, .box (.const (.agg [.int .i64 0, .int .i64 0])), none, [0, 1, 2, 3, 4, 5, 6, 7, 8, 9, 10]⟩,
 ⟨none, .store 2 (.tmp 7) (.tmp 13), none, [5, 6, 7, 8, 9, 10]⟩,
 ⟨some 8, .move (.tmp 19), none, []⟩]
def k_pump_pressure_r1s : List (List AOper) := [
  [
  ⟨some 9, .fieldAddr 0 (.tmp 4), none, []⟩,
 ⟨some 10, .load none (.tmp 9), none, []⟩,
 ⟨some 11, .move (.tmp 2), none, [0, 1]⟩,
 ⟨some 12, .indexAddr 2 (.tmp 10) (.tmp 11), none, []⟩,
 ⟨some 13, .load (some (2)) (.tmp 12), none, []⟩,
 ⟨some 14, .fieldAddr 0 (.tmp 3), none, [0, 1, 2, 3, 4]⟩,
 ⟨some 15, .load none (.tmp 14), none, [0, 1, 2, 3, 4]⟩,
 ⟨some 16, .move (.tmp 2), none, [0, 1, 2, 3, 4, 5, 6]⟩,
 ⟨some 17, .indexAddr 6 (.tmp 15) (.tmp 16), none, [0, 1, 2, 3, 4]⟩,
 ⟨some 18, .fieldAddr 0 (.tmp 17), none, [0, 1, 2, 3, 4]⟩,
 ⟨some 19, .load none (.tmp 18), none, [0, 1, 2, 3, 4]⟩,
 ⟨some 7, .box (.const (.agg [.int .i64 0, .int .i64 0])), none, [0, 1, 2, 3, 4, 5, 6, 7, 8, 9, 10]⟩,
 ⟨none, .store 2 (.tmp 7) (.tmp 13), none, [5, 6, 7, 8, 9, 10]⟩], 
  [
  ⟨some 8, .move (.tmp 19), none, []⟩]]
theorem k_pump_pressure_r1_sg : segs k_pump_pressure_r1 = k_pump_pressure_r1s := by kernel_rfl
theorem k_pump_pressure_r1_st : statOK k_pump_pressure_r1 = true := by kernel_rfl
def k_pump_pressure_r2 : List AOper := [
  ⟨some 20, .fieldAddr 0 (.tmp 7), none, []⟩,
 ⟨some 21, .load none (.tmp 20), none, []⟩,
 ⟨some 22, .bin .plain .mul (.const (.int .i64 1000)) (.tmp 21), none, []⟩,
 ⟨some 23, .move (.tmp 8), none, [0, 1, 2]⟩,
 ⟨some 24, .bin .plain .quo (.tmp 22) (.tmp 23), none, []⟩,
 ⟨some 25, .fieldAddr 1 (.tmp 7), none, [0, 1, 2, 3, 4]⟩,
 ⟨some 26, .load none (.tmp 25), none, [0, 1, 2, 3, 4]⟩,
 ⟨some 27, .bin .plain .mul (.const (.int .i64 1000)) (.tmp 26), none, [0, 1, 2, 3, 4]⟩,
 ⟨some 28, .move (.tmp 8), none, [0, 1, 2, 3, 4, 5, 6, 7]⟩,
 ⟨some 29, .bin .plain .add (.tmp 27) (.tmp 28), none, [0, 1, 2, 3, 4]⟩,
 ⟨some 30, .bin .plain .sub (.tmp 29) (.const (.int .i64 1)), none, [0, 1, 2, 3, 4]⟩,
 ⟨some 31, .move (.tmp 8), none, [0, 1, 2, 3, 4, 5, 6, 7, 8, 9, 10]⟩,
 ⟨some 32, .bin .plain .quo (.tmp 30) (.tmp 31), none, [0, 1, 2, 3, 4]⟩,
 ⟨some 33, .build [.int .i64 0, .int .i64 0] [(0, 1, .tmp 24), (1, 1, .tmp 32)], none, []⟩,
 ⟨none, .store 2 (.tmp 6) (.tmp 33), none, []⟩]
def k_pump_pressure_r2s : List (List AOper) := [
  [
  ⟨some 20, .fieldAddr 0 (.tmp 7), none, []⟩,
 ⟨some 21, .load none (.tmp 20), none, []⟩,
 ⟨some 22, .bin .plain .mul (.const (.int .i64 1000)) (.tmp 21), none, []⟩,
 ⟨some 23, .move (.tmp 8), none, [0, 1, 2]⟩,
 ⟨some 24, .bin .plain .quo (.tmp 22) (.tmp 23), none, []⟩,
 ⟨some 25, .fieldAddr 1 (.tmp 7), none, [0, 1, 2, 3, 4]⟩,
 ⟨some 26, .load none (.tmp 25), none, [0, 1, 2, 3, 4]⟩,
 ⟨some 27, .bin .plain .mul (.const (.int .i64 1000)) (.tmp 26), none, [0, 1, 2, 3, 4]⟩,
 ⟨some 28, .move (.tmp 8), none, [0, 1, 2, 3, 4, 5, 6, 7]⟩,
 ⟨some 29, .bin .plain .add (.tmp 27) (.tmp 28), none, [0, 1, 2, 3, 4]⟩,
 ⟨some 30, .bin .plain .sub (.tmp 29) (.const (.int .i64 1)), none, [0, 1, 2, 3, 4]⟩,
 ⟨some 31, .move (.tmp 8), none, [0, 1, 2, 3, 4, 5, 6, 7, 8, 9, 10]⟩,
 ⟨some 32, .bin .plain .quo (.tmp 30) (.tmp 31), none, [0, 1, 2, 3, 4]⟩], 
  [
  ⟨some 33, .build [.int .i64 0, .int .i64 0] [(0, 1, .tmp 24), (1, 1, .tmp 32)], none, []⟩], 
  [
  ⟨none, .store 2 (.tmp 6) (.tmp 33), none, []⟩]]
theorem k_pump_pressure_r2_sg : segs k_pump_pressure_r2 = k_pump_pressure_r2s := by kernel_rfl
theorem k_pump_pressure_r2_st : statOK k_pump_pressure_r2 = true := by kernel_rfl
def k_pump_pressure : AFun := { params := 3, ntmps := 34, body := (.seq (.reg k_pump_pressure_r0 false) (.seq (.reg k_pump_pressure_r1 true) (.seq (.reg k_pump_pressure_r2 true) .ret))), res := [.cell 6 (some ((some (2))))] }
theorem k_pump_pressure_ok : cfun Try.prog Try.f94 = k_pump_pressure := by kernel_rfl

def k_slices_Concat_api_Range_api_Range_r0 : List AOper := [
  ⟨some 2, .move (.const (.nilsl)), none, []⟩]
def k_slices_Concat_api_Range_api_Range_r1 : List AOper := [
  ⟨some 3, .move (.const (.int .i64 0)), none, []⟩]
def k_slices_Concat_api_Range_api_Range_r2 : List AOper := [
  ⟨some 9, .move (.tmp 0), none, []⟩,
 ⟨some 10, .len false (.tmp 9), none, []⟩,
 ⟨some 11, .move (.const (.int .i64 0)), none, []⟩]
def k_slices_Concat_api_Range_api_Range_r3 : List AOper := [
  ⟨some 12, .bin .plain .lss (.tmp 11) (.tmp 10), none, []⟩]
def k_slices_Concat_api_Range_api_Range_r4 : List AOper := [
  ⟨some 13, .indexAddr 1 (.tmp 9) (.tmp 11), none, []⟩,
 ⟨some 14, .load none (.tmp 13), none, []⟩,
 ⟨some 5, .move (.tmp 14), none, []⟩]
def k_slices_Concat_api_Range_api_Range_r5 : List AOper := [
  ⟨some 15, .move (.tmp 3), none, []⟩,
 ⟨some 16, .move (.tmp 5), none, []⟩,
 ⟨some 17, .len false (.tmp 16), none, []⟩,
 ⟨some 18, .bin .plain .add (.tmp 15) (.tmp 17), none, []⟩,
 ⟨some 3, .move (.tmp 18), none, []⟩]
def k_slices_Concat_api_Range_api_Range_r6 : List AOper := [
  ⟨some 19, .move (.tmp 3), none, []⟩,
 ⟨some 20, .bin .plain .lss (.tmp 19) (.const (.int .i64 0)), none, []⟩]
def k_slices_Concat_api_Range_api_Range_r7 : List AOper := [
  ⟨some 21, .makeIface 9 (.const (.str [108, 101, 110, 32, 111, 117, 116, 32, 111, 102, 32, 114, 97, 110, 103, 101])), none, []⟩,
 ⟨none, .bad, none, []⟩]
def k_slices_Concat_api_Range_api_Range_r8 : List AOper := [
  ⟨some 22, .bin .plain .add (.tmp 11) (.const (.int .i64 1)), none, []⟩,
 ⟨some 11, .move (.tmp 22), none, []⟩]
def k_slices_Concat_api_Range_api_Range_r9 : ACode := (.seq (.reg k_slices_Concat_api_Range_api_Range_r3 false) (.seq (.cond (.tmp 12) .skip (.exit 0)) (.seq (.block 1 (.seq (.reg k_slices_Concat_api_Range_api_Range_r4 false) (.seq (.reg k_slices_Concat_api_Range_api_Range_r5 false) (.seq (.reg k_slices_Concat_api_Range_api_Range_r6 false) (.cond (.tmp 20) (.reg k_slices_Concat_api_Range_api_Range_r7 false) .skip))))) (.reg k_slices_Concat_api_Range_api_Range_r8 false))))
def k_slices_Concat_api_Range_api_Range_r10 : List AOper := [
  ⟨some 23, .move (.tmp 3), none, []⟩,
 ⟨some 24, .call (.const (.fn (.func 130) [] [])) [.const (.nilsl), .tmp 23], none, []⟩,
 ⟨some 6, .move (.tmp 24), none, []⟩]
def k_slices_Concat_api_Range_api_Range_r11 : List AOper := [
  ⟨some 25, .move (.tmp 0), none, []⟩,
 ⟨some 26, .len false (.tmp 25), none, []⟩,
 ⟨some 27, .move (.const (.int .i64 0)), none, []⟩]
def k_slices_Concat_api_Range_api_Range_r12 : List AOper := [
  ⟨some 28, .bin .plain .lss (.tmp 27) (.tmp 26), none, []⟩]
def k_slices_Concat_api_Range_api_Range_r13 : List AOper := [
  ⟨some 29, .indexAddr 1 (.tmp 25) (.tmp 27), none, []⟩,
 ⟨some 30, .load none (.tmp 29), none, []⟩,
 ⟨some 8, .move (.tmp 30), none, []⟩]
def k_slices_Concat_api_Range_api_Range_r14 : List AOper := [
  ⟨some 31, .move (.tmp 6), none, []⟩,
 ⟨some 32, .move (.tmp 8), none, []⟩,
 ⟨some 33, .append 2 16 true (.tmp 31) (.tmp 32), none, []⟩,
 ⟨some 6, .move (.tmp 33), none, []⟩]
def k_slices_Concat_api_Range_api_Range_r15 : List AOper := [
  ⟨some 34, .bin .plain .add (.tmp 27) (.const (.int .i64 1)), none, []⟩,
 ⟨some 27, .move (.tmp 34), none, []⟩]
def k_slices_Concat_api_Range_api_Range_r16 : ACode := (.seq (.reg k_slices_Concat_api_Range_api_Range_r12 false) (.seq (.cond (.tmp 28) .skip (.exit 2)) (.seq (.block 3 (.seq (.reg k_slices_Concat_api_Range_api_Range_r13 false) (.reg k_slices_Concat_api_Range_api_Range_r14 false))) (.reg k_slices_Concat_api_Range_api_Range_r15 false))))
def k_slices_Concat_api_Range_api_Range_r17 : List AOper := [
  ⟨some 35, .move (.tmp 6), none, []⟩,
 ⟨some 2, .move (.tmp 35), none, []⟩]
def k_slices_Concat_api_Range_api_Range : AFun := { params := 1, ntmps := 36, body := (.seq (.reg k_slices_Concat_api_Range_api_Range_r0 false) (.seq (.reg k_slices_Concat_api_Range_api_Range_r1 false) (.seq (.seq (.reg k_slices_Concat_api_Range_api_Range_r2 false) (.block 0 (.loop k_slices_Concat_api_Range_api_Range_r9))) (.seq (.reg k_slices_Concat_api_Range_api_Range_r10 false) (.seq (.seq (.reg k_slices_Concat_api_Range_api_Range_r11 false) (.block 2 (.loop k_slices_Concat_api_Range_api_Range_r16))) (.seq (.reg k_slices_Concat_api_Range_api_Range_r17 false) .ret)))))), res := [.tmp 2] }
theorem k_slices_Concat_api_Range_api_Range_ok : cfun Try.prog Try.f98 = k_slices_Concat_api_Range_api_Range := by kernel_rfl

def k_pump_verdict_r0 : List AOper := [
  ⟨some 2, .box (.tmp 0), none, []⟩,
 ⟨some 4, .move (.const (.int .i64 0)), none, []⟩]
def k_pump_verdict_r1 : List AOper := [
  ⟨some 6, .fieldAddr 1 (.tmp 2), none, []⟩,
 ⟨some 7, .load none (.tmp 6), none, []⟩,
 ⟨some 8, .move (.tmp 1), none, []⟩,
 ⟨some 9, .bin .plain .leq (.tmp 7) (.tmp 8), none, []⟩,
 ⟨some 5, .move (.tmp 9), none, []⟩]
def k_pump_verdict_r2 : List AOper := [
  ⟨some 4, .move (.const (.int .i64 1)), none, []⟩]
def k_pump_verdict_r3 : List AOper := [
  ⟨some 11, .fieldAddr 0 (.tmp 2), none, []⟩,
 ⟨some 12, .load none (.tmp 11), none, []⟩,
 ⟨some 13, .move (.tmp 1), none, []⟩,
 ⟨some 14, .bin .plain .gtr (.tmp 12) (.tmp 13), none, []⟩,
 ⟨some 10, .move (.tmp 14), none, []⟩]
def k_pump_verdict_r4 : List AOper := [
  ⟨some 4, .move (.const (.int .i64 2)), none, []⟩]
def k_pump_verdict_r5 : List AOper := [
  ⟨some 4, .move (.const (.int .i64 3)), none, []⟩]
def k_pump_verdict : AFun := { params := 2, ntmps := 15, body := (.seq (.reg k_pump_verdict_r0 false) (.seq (.block 0 (.seq (.reg k_pump_verdict_r1 false) (.cond (.tmp 5) (.seq (.reg k_pump_verdict_r2 false) .ret) (.seq (.reg k_pump_verdict_r3 false) (.cond (.tmp 10) (.seq (.reg k_pump_verdict_r4 false) .ret) .skip))))) (.seq (.reg k_pump_verdict_r5 false) .ret))), res := [.tmp 4] }
theorem k_pump_verdict_ok : cfun Try.prog Try.f101 = k_pump_verdict := by kernel_rfl

def k_pump_checkVesselRun_r0 : List AOper := [
  ⟨some 3, .box (.tmp 0), none, []⟩,
 ⟨some 6, .move (.const (.int .i64 0)), none, []⟩]
def k_pump_checkVesselRun_r1 : List AOper := [
  ⟨some 8, .load (some (5)) (.tmp 3), none, []⟩,
 ⟨some 9, .move (.tmp 1), none, []⟩,
 ⟨some 10, .call (.const (.fn (.func 104) [] [])) [.tmp 8, .tmp 9], none, []⟩,
 ⟨some 7, .move (.tmp 10), none, []⟩]
def k_pump_checkVesselRun_r2 : List AOper := [
  ⟨some 11, .move (.tmp 7), none, []⟩,
 ⟨some 12, .bin .plain .neq (.tmp 11) (.const (.int .i64 0)), none, []⟩]
def k_pump_checkVesselRun_r3 : List AOper := [
  ⟨some 13, .move (.tmp 7), none, []⟩,
 ⟨some 6, .move (.tmp 13), none, []⟩]
def k_pump_checkVesselRun_r4 : List AOper := [
  ⟨some 14, .load (some (5)) (.tmp 3), none, []⟩,
 ⟨some 15, .move (.tmp 2), none, []⟩,
 ⟨some 16, .call (.const (.fn (.func 93) [] [])) [.tmp 14, .tmp 15], none, []⟩,
 ⟨some 17, .not (.tmp 16), none, []⟩]
def k_pump_checkVesselRun_r5 : List AOper := [
  ⟨some 6, .move (.const (.int .i64 7)), none, []⟩]
def k_pump_checkVesselRun_r6 : List AOper := [
  ⟨some 6, .move (.const (.int .i64 0)), none, []⟩]
def k_pump_checkVesselRun : AFun := { params := 3, ntmps := 18, body := (.seq (.reg k_pump_checkVesselRun_r0 false) (.seq (.seq (.reg k_pump_checkVesselRun_r1 false) (.seq (.reg k_pump_checkVesselRun_r2 false) (.cond (.tmp 12) (.seq (.reg k_pump_checkVesselRun_r3 false) .ret) .skip))) (.seq (.seq (.reg k_pump_checkVesselRun_r4 false) (.cond (.tmp 17) (.seq (.reg k_pump_checkVesselRun_r5 false) .ret) .skip)) (.seq (.reg k_pump_checkVesselRun_r6 false) .ret)))), res := [.tmp 6] }
theorem k_pump_checkVesselRun_ok : cfun Try.prog Try.f107 = k_pump_checkVesselRun := by kernel_rfl

def k_pump_set_has_r0 : List AOper := [
  ⟨some 4, .move (.const (.bool false)), none, []⟩]
def k_pump_set_has_r1 : List AOper := [
  ⟨some 5, .move (.tmp 0), none, []⟩,
 ⟨some 6, .move (.tmp 1), none, []⟩,
 ⟨some 7, .bin .plain .shr (.tmp 5) (.tmp 6), none, []⟩,
 ⟨some 8, .bin .plain .and (.tmp 7) (.const (.int .u16 1)), none, []⟩,
 ⟨some 9, .bin .plain .neq (.tmp 8) (.const (.int .u16 0)), none, []⟩,
 ⟨some 4, .move (.tmp 9), none, []⟩]
def k_pump_set_has : AFun := { params := 2, ntmps := 10, body := (.seq (.reg k_pump_set_has_r0 false) (.seq (.reg k_pump_set_has_r1 false) .ret)), res := [.tmp 4] }
theorem k_pump_set_has_ok : cfun Try.prog Try.f117 = k_pump_set_has := by kernel_rfl

def k_law06_pair_r0 : List AOper := [
  ⟨some 0, .box (.const (.agg [.nilsl, .nilsl, .nilsl, .nilsl, .nilsl])), none, []⟩]
def k_law06_pair_r1 : List AOper := [
  ⟨some 2, .call (.const (.fn (.func 63) [] [])) [.const (.int .i64 100)], none, []⟩,
 ⟨some 3, .call (.const (.fn (.func 72) [] [])) [.const (.int .i64 100), .const (.int .i64 200)], none, []⟩,
 ⟨some 4, .call (.const (.fn (.func 72) [] [])) [.const (.int .i64 100000), .const (.int .i64 200000)], none, []⟩,
 ⟨some 5, .build [.int .i64 0, .int .i64 0, .int .i64 0] [(0, 1, .const (.int .i64 500)), (1, 2, .tmp 4)], none, []⟩,
 ⟨some 6, .buildSlice 3 [.tmp 5], none, []⟩,
 ⟨some 7, .build [.int .i64 0, .int .i64 0, .int .i64 0, .int .i64 0, .int .i64 0, .nilsl] [(0, 1, .const (.int .i64 1)), (1, 2, .tmp 2), (3, 2, .tmp 3), (5, 1, .tmp 6)], none, []⟩,
 ⟨some 8, .build [.int .i64 0, .int .i64 0, .int .i64 0, .int .i64 0, .int .i64 0, .nilsl] [(0, 1, .const (.int .i64 2))], none, []⟩,
 ⟨some 9, .buildSlice 6 [.tmp 7, .tmp 8], none, []⟩,
 ⟨some 10, .build [.nilsl, .nilsl, .nilsl, .nilsl, .nilsl] [(0, 1, .tmp 9)], none, []⟩,
 ⟨some 1, .box (.const (.agg [.nilsl, .nilsl, .nilsl, .nilsl, .nilsl])), none, []⟩,
 ⟨none, .store 5 (.tmp 1) (.tmp 10), none, []⟩]
def k_law06_pair_r2 : List AOper := [
  ⟨some 11, .call (.const (.fn (.func 72) [] [])) [.const (.int .i64 400000), .const (.int .i64 500000)], none, []⟩,
 ⟨some 12, .call (.const (.fn (.func 63) [] [])) [.const (.int .i64 100000)], none, []⟩,
 ⟨some 13, .build [.int .i64 0, .int .i64 0, .int .i64 0, .int .i64 0, .int .i64 0, .int .i64 0] [(0, 1, .const (.int .i64 0)), (1, 1, .const (.int .i64 1)), (2, 2, .tmp 11), (4, 2, .tmp 12)], none, []⟩,
 ⟨some 14, .buildSlice 6 [.tmp 13], none, []⟩,
 ⟨some 15, .fieldAddr 1 (.tmp 1), none, []⟩,
 ⟨none, .store 1 (.tmp 15) (.tmp 14), none, []⟩]
def k_law06_pair_r3 : List AOper := [
  ⟨some 16, .call (.const (.fn (.func 72) [] [])) [.const (.int .i64 1), .const (.int .i64 2)], none, []⟩,
 ⟨some 17, .build [.int .i64 0, .int .i64 0, .int .i64 0] [(0, 1, .const (.int .i64 1)), (1, 2, .tmp 16)], none, []⟩,
 ⟨some 18, .buildSlice 3 [.tmp 17], none, []⟩,
 ⟨some 19, .fieldAddr 3 (.tmp 1), none, []⟩,
 ⟨none, .store 1 (.tmp 19) (.tmp 18), none, []⟩]
def k_law06_pair_r4 : List AOper := [
  ⟨some 20, .call (.const (.fn (.func 63) [] [])) [.const (.int .i64 500000)], none, []⟩,
 ⟨some 21, .call (.const (.fn (.func 72) [] [])) [.const (.int .i64 10), .const (.int .i64 20)], none, []⟩,
 ⟨some 22, .build [.int .i64 0, .int .i64 0, .int .i64 0, .int .i64 0, .int .i64 0] [(0, 1, .const (.int .i64 1)), (1, 2, .tmp 20), (3, 2, .tmp 21)], none, []⟩,
 ⟨some 23, .buildSlice 5 [.tmp 22], none, []⟩,
 ⟨some 24, .fieldAddr 4 (.tmp 1), none, []⟩,
 ⟨none, .store 1 (.tmp 24) (.tmp 23), none, []⟩]
def k_law06_pair_r5 : List AOper := [
  ⟨some 25, .load (some (5)) (.tmp 1), none, []⟩,
 ⟨none, .store 5 (.tmp 0) (.tmp 25), none, []⟩]
def k_law06_pair : AFun := { params := 0, ntmps := 26, body := (.seq (.reg k_law06_pair_r0 false) (.seq (.reg k_law06_pair_r1 false) (.seq (.reg k_law06_pair_r2 false) (.seq (.reg k_law06_pair_r3 false) (.seq (.reg k_law06_pair_r4 false) (.seq (.reg k_law06_pair_r5 false) .ret)))))), res := [.cell 0 (some ((some (5))))] }
theorem k_law06_pair_ok : cfun Try.prog Try.f119 = k_law06_pair := by kernel_rfl

def k_slices_Grow_api_Range_api_Range_r0 : List AOper := [
  ⟨some 4, .move (.const (.nilsl)), none, []⟩]
def k_slices_Grow_api_Range_api_Range_r1 : List AOper := [
  ⟨some 5, .move (.tmp 1), none, []⟩,
 ⟨some 6, .bin .plain .lss (.tmp 5) (.const (.int .i64 0)), none, []⟩]
def k_slices_Grow_api_Range_api_Range_r2 : List AOper := [
  ⟨some 7, .makeIface 9 (.const (.str [99, 97, 110, 110, 111, 116, 32, 98, 101, 32, 110, 101, 103, 97, 116, 105, 118, 101])), none, []⟩,
 ⟨none, .bad, none, []⟩]
def k_slices_Grow_api_Range_api_Range_r3 : List AOper := [
  ⟨some 8, .move (.tmp 1), none, []⟩,
 ⟨some 9, .move (.tmp 0), none, []⟩,
 ⟨some 10, .cap (.tmp 9), none, []⟩,
 ⟨some 11, .move (.tmp 0), none, []⟩,
 ⟨some 12, .len false (.tmp 11), none, []⟩,
 ⟨some 13, .bin .plain .sub (.tmp 10) (.tmp 12), none, []⟩,
 ⟨some 14, .bin .plain .sub (.tmp 8) (.tmp 13), none, []⟩,
 ⟨some 1, .move (.tmp 14), none, []⟩]
def k_slices_Grow_api_Range_api_Range_r4 : List AOper := [
  ⟨some 15, .move (.tmp 1), none, []⟩,
 ⟨some 16, .bin .plain .gtr (.tmp 15) (.const (.int .i64 0)), none, []⟩]
def k_slices_Grow_api_Range_api_Range_r5 : List AOper := [
  ⟨some 17, .move (.tmp 0), none, []⟩,
 ⟨some 18, .move (.tmp 0), none, []⟩,
 ⟨some 19, .cap (.tmp 18), none, []⟩,
 ⟨some 20, .slice false 2 (.tmp 17) none (some (.tmp 19)), none, []⟩,
 ⟨some 21, .move (.tmp 1), none, []⟩,
 ⟨some 22, .appendN 2 16 (.agg [.int .i64 0, .int .i64 0]) (.tmp 20) (.tmp 21), none, []⟩,
 ⟨some 23, .move (.tmp 0), none, []⟩,
 ⟨some 24, .len false (.tmp 23), none, []⟩,
 ⟨some 25, .slice false 2 (.tmp 22) none (some (.tmp 24)), none, []⟩,
 ⟨some 0, .move (.tmp 25), none, []⟩]
def k_slices_Grow_api_Range_api_Range_r6 : List AOper := [
  ⟨some 26, .move (.tmp 0), none, []⟩,
 ⟨some 4, .move (.tmp 26), none, []⟩]
def k_slices_Grow_api_Range_api_Range : AFun := { params := 2, ntmps := 27, body := (.seq (.reg k_slices_Grow_api_Range_api_Range_r0 false) (.seq (.seq (.reg k_slices_Grow_api_Range_api_Range_r1 false) (.cond (.tmp 6) (.reg k_slices_Grow_api_Range_api_Range_r2 false) .skip)) (.seq (.seq (.reg k_slices_Grow_api_Range_api_Range_r3 false) (.seq (.reg k_slices_Grow_api_Range_api_Range_r4 false) (.cond (.tmp 16) (.reg k_slices_Grow_api_Range_api_Range_r5 false) .skip))) (.seq (.reg k_slices_Grow_api_Range_api_Range_r6 false) .ret)))), res := [.tmp 4] }
theorem k_slices_Grow_api_Range_api_Range_ok : cfun Try.prog Try.f130 = k_slices_Grow_api_Range_api_Range := by kernel_rfl


abbrev n_law06_PumpKnown : Nat := 8
theorem e_law06_PumpKnown : EntryOK Try.prog n_law06_PumpKnown k_law06_PumpKnown := ⟨Try.f8, Try.func8, k_law06_PumpKnown_ok, by kernel_rfl⟩
abbrev n_pump_Begin : Nat := 23
theorem e_pump_Begin : EntryOK Try.prog n_pump_Begin k_pump_Begin := ⟨Try.f23, Try.func23, k_pump_Begin_ok, by kernel_rfl⟩
abbrev n_pump_Pressure : Nat := 32
theorem e_pump_Pressure : EntryOK Try.prog n_pump_Pressure k_pump_Pressure := ⟨Try.f32, Try.func32, k_pump_Pressure_ok, by kernel_rfl⟩
abbrev n_pump_Belongs : Nat := 34
theorem e_pump_Belongs : EntryOK Try.prog n_pump_Belongs k_pump_Belongs := ⟨Try.f34, Try.func34, k_pump_Belongs_ok, by kernel_rfl⟩
abbrev n_pump_Seal : Nat := 37
theorem e_pump_Seal : EntryOK Try.prog n_pump_Seal k_pump_Seal := ⟨Try.f37, Try.func37, k_pump_Seal_ok, by kernel_rfl⟩
abbrev n_pump_Tick : Nat := 40
theorem e_pump_Tick : EntryOK Try.prog n_pump_Tick k_pump_Tick := ⟨Try.f40, Try.func40, k_pump_Tick_ok, by kernel_rfl⟩
abbrev n_pump_Peak : Nat := 46
theorem e_pump_Peak : EntryOK Try.prog n_pump_Peak k_pump_Peak := ⟨Try.f46, Try.func46, k_pump_Peak_ok, by kernel_rfl⟩
abbrev n_pump_Hold : Nat := 48
theorem e_pump_Hold : EntryOK Try.prog n_pump_Hold k_pump_Hold := ⟨Try.f48, Try.func48, k_pump_Hold_ok, by kernel_rfl⟩
abbrev n_pump_Find : Nat := 56
theorem e_pump_Find : EntryOK Try.prog n_pump_Find k_pump_Find := ⟨Try.f56, Try.func56, k_pump_Find_ok, by kernel_rfl⟩
abbrev n_law06_sameTries : Nat := 60
theorem e_law06_sameTries : EntryOK Try.prog n_law06_sameTries k_law06_sameTries := ⟨Try.f60, Try.func60, k_law06_sameTries_ok, by kernel_rfl⟩
abbrev n_law06_ticks : Nat := 61
theorem e_law06_ticks : EntryOK Try.prog n_law06_ticks k_law06_ticks := ⟨Try.f61, Try.func61, k_law06_ticks_ok, by kernel_rfl⟩
abbrev n_pump_pressure : Nat := 94
theorem e_pump_pressure : EntryOK Try.prog n_pump_pressure k_pump_pressure := ⟨Try.f94, Try.func94, k_pump_pressure_ok, by kernel_rfl⟩
abbrev n_slices_Concat_api_Range_api_Range : Nat := 98
theorem e_slices_Concat_api_Range_api_Range : EntryOK Try.prog n_slices_Concat_api_Range_api_Range k_slices_Concat_api_Range_api_Range := ⟨Try.f98, Try.func98, k_slices_Concat_api_Range_api_Range_ok, by kernel_rfl⟩
abbrev n_pump_verdict : Nat := 101
theorem e_pump_verdict : EntryOK Try.prog n_pump_verdict k_pump_verdict := ⟨Try.f101, Try.func101, k_pump_verdict_ok, by kernel_rfl⟩
abbrev n_pump_checkVesselRun : Nat := 107
theorem e_pump_checkVesselRun : EntryOK Try.prog n_pump_checkVesselRun k_pump_checkVesselRun := ⟨Try.f107, Try.func107, k_pump_checkVesselRun_ok, by kernel_rfl⟩
abbrev n_pump_set_has : Nat := 117
theorem e_pump_set_has : EntryOK Try.prog n_pump_set_has k_pump_set_has := ⟨Try.f117, Try.func117, k_pump_set_has_ok, by kernel_rfl⟩
abbrev n_law06_pair : Nat := 119
theorem e_law06_pair : EntryOK Try.prog n_law06_pair k_law06_pair := ⟨Try.f119, Try.func119, k_law06_pair_ok, by kernel_rfl⟩
abbrev n_slices_Grow_api_Range_api_Range : Nat := 130
theorem e_slices_Grow_api_Range_api_Range : EntryOK Try.prog n_slices_Grow_api_Range_api_Range k_slices_Grow_api_Range_api_Range := ⟨Try.f130, Try.func130, k_slices_Grow_api_Range_api_Range_ok, by kernel_rfl⟩

attribute [go_sem] k_law06_PumpKnown_r0 k_law06_PumpKnown_r1 k_law06_PumpKnown_r2 k_law06_PumpKnown_r3 k_law06_PumpKnown_r4s k_law06_PumpKnown_r5 k_law06_PumpKnown_r6s k_law06_PumpKnown_r7 k_law06_PumpKnown_r8 k_law06_PumpKnown_r9 k_law06_PumpKnown_r10s k_law06_PumpKnown_r11
attribute [go_sem] k_law06_PumpKnown_r12 k_law06_PumpKnown_r13 k_law06_PumpKnown_r14 k_law06_PumpKnown_r15 k_law06_PumpKnown_r16 k_law06_PumpKnown_r17 k_law06_PumpKnown_r18 k_pump_Begin_r0 k_pump_Begin_r1 k_pump_Begin_r2 k_pump_Begin_r3 k_pump_Begin_r4
attribute [go_sem] k_pump_Pressure_r0 k_pump_Pressure_r1 k_pump_Pressure_r2 k_pump_Pressure_r3 k_pump_Pressure_r4 k_pump_Pressure_r5 k_pump_Pressure_r6 k_pump_Belongs_r0 k_pump_Belongs_r1 k_pump_Belongs_r2 k_pump_Belongs_r3 k_pump_Belongs_r4
attribute [go_sem] k_pump_Belongs_r5 k_pump_Belongs_r6 k_pump_Belongs_r7 k_pump_Belongs_r8 k_pump_Belongs_r9 k_pump_Belongs_r10 k_pump_Belongs_r11 k_pump_Seal_r0 k_pump_Seal_r1 k_pump_Seal_r2 k_pump_Seal_r3 k_pump_Seal_r4
attribute [go_sem] k_pump_Seal_r5 k_pump_Seal_r6 k_pump_Tick_r0 k_pump_Tick_r1 k_pump_Tick_r2 k_pump_Tick_r3 k_pump_Tick_r4 k_pump_Tick_r5 k_pump_Tick_r6 k_pump_Tick_r7 k_pump_Peak_r0 k_pump_Peak_r1
attribute [go_sem] k_pump_Peak_r2 k_pump_Peak_r3 k_pump_Peak_r4 k_pump_Peak_r5s k_pump_Peak_r6 k_pump_Peak_r7s k_pump_Peak_r10 k_pump_Hold_r0 k_pump_Hold_r1 k_pump_Hold_r2 k_pump_Hold_r3 k_pump_Hold_r4
attribute [go_sem] k_pump_Hold_r5 k_pump_Hold_r6 k_pump_Hold_r7 k_pump_Hold_r8s k_pump_Hold_r9s k_pump_Hold_r10 k_pump_Hold_r11 k_pump_Hold_r12s k_pump_Hold_r13 k_pump_Hold_r16 k_pump_Find_r0 k_pump_Find_r1
attribute [go_sem] k_pump_Find_r2 k_pump_Find_r3 k_pump_Find_r4 k_pump_Find_r5 k_pump_Find_r6s k_pump_Find_r7 k_pump_Find_r8 k_pump_Find_r9 k_pump_Find_r10 k_pump_Find_r11 k_pump_Find_r12 k_pump_Find_r13
attribute [go_sem] k_pump_Find_r14 k_pump_Find_r15 k_pump_Find_r16 k_pump_Find_r18 k_law06_sameTries_r0 k_law06_sameTries_r1 k_law06_sameTries_r2 k_law06_sameTries_r3 k_law06_sameTries_r4 k_law06_sameTries_r5s k_law06_sameTries_r6 k_law06_sameTries_r7
attribute [go_sem] k_law06_sameTries_r9 k_law06_ticks_r0 k_law06_ticks_r1 k_law06_ticks_r2s k_law06_ticks_r3s k_law06_ticks_r4s k_law06_ticks_r5s k_law06_ticks_r6 k_law06_ticks_r7 k_law06_ticks_r8s k_law06_ticks_r9 k_law06_ticks_r10s
attribute [go_sem] k_law06_ticks_r11 k_law06_ticks_r12s k_law06_ticks_r13s k_law06_ticks_r14s k_law06_ticks_r15s k_pump_pressure_r0 k_pump_pressure_r1s k_pump_pressure_r2s k_slices_Concat_api_Range_api_Range_r0 k_slices_Concat_api_Range_api_Range_r1 k_slices_Concat_api_Range_api_Range_r2 k_slices_Concat_api_Range_api_Range_r3
attribute [go_sem] k_slices_Concat_api_Range_api_Range_r4 k_slices_Concat_api_Range_api_Range_r5 k_slices_Concat_api_Range_api_Range_r6 k_slices_Concat_api_Range_api_Range_r7 k_slices_Concat_api_Range_api_Range_r8 k_slices_Concat_api_Range_api_Range_r10 k_slices_Concat_api_Range_api_Range_r11 k_slices_Concat_api_Range_api_Range_r12 k_slices_Concat_api_Range_api_Range_r13 k_slices_Concat_api_Range_api_Range_r14 k_slices_Concat_api_Range_api_Range_r15 k_slices_Concat_api_Range_api_Range_r17
attribute [go_sem] k_pump_verdict_r0 k_pump_verdict_r1 k_pump_verdict_r2 k_pump_verdict_r3 k_pump_verdict_r4 k_pump_verdict_r5 k_pump_checkVesselRun_r0 k_pump_checkVesselRun_r1 k_pump_checkVesselRun_r2 k_pump_checkVesselRun_r3 k_pump_checkVesselRun_r4 k_pump_checkVesselRun_r5
attribute [go_sem] k_pump_checkVesselRun_r6 k_pump_set_has_r0 k_pump_set_has_r1 k_law06_pair_r0 k_law06_pair_r1 k_law06_pair_r2 k_law06_pair_r3 k_law06_pair_r4 k_law06_pair_r5 k_slices_Grow_api_Range_api_Range_r0 k_slices_Grow_api_Range_api_Range_r1 k_slices_Grow_api_Range_api_Range_r2
attribute [go_sem] k_slices_Grow_api_Range_api_Range_r3 k_slices_Grow_api_Range_api_Range_r4 k_slices_Grow_api_Range_api_Range_r5 k_slices_Grow_api_Range_api_Range_r6 k_law06_ticks_r8_sg k_law06_PumpKnown_r4_sg k_law06_ticks_r14_sg k_law06_PumpKnown_r10_sg k_law06_ticks_r4_sg k_pump_pressure_r1_sg k_pump_Peak_r5_sg k_law06_ticks_r2_sg
attribute [go_sem] k_pump_Hold_r9_sg k_law06_ticks_r5_sg k_law06_PumpKnown_r6_sg k_pump_Hold_r12_sg k_law06_ticks_r13_sg k_law06_sameTries_r5_sg k_pump_pressure_r2_sg k_law06_ticks_r3_sg k_pump_Peak_r7_sg k_pump_Hold_r8_sg k_law06_ticks_r10_sg k_law06_ticks_r15_sg
attribute [go_sem] k_law06_ticks_r12_sg k_pump_Find_r6_sg k_law06_ticks_r8_st k_law06_PumpKnown_r4_st k_law06_ticks_r14_st k_law06_PumpKnown_r10_st k_law06_ticks_r4_st k_pump_pressure_r1_st k_pump_Peak_r5_st k_law06_ticks_r2_st k_pump_Hold_r9_st k_law06_ticks_r5_st
attribute [go_sem] k_law06_PumpKnown_r6_st k_pump_Hold_r12_st k_law06_ticks_r13_st k_law06_sameTries_r5_st k_pump_pressure_r2_st k_law06_ticks_r3_st k_pump_Peak_r7_st k_pump_Hold_r8_st k_law06_ticks_r10_st k_law06_ticks_r15_st k_law06_ticks_r12_st k_pump_Find_r6_st
attribute [go_sem] k_law06_PumpKnown k_pump_Begin k_pump_Pressure k_pump_Belongs k_pump_Seal k_pump_Tick k_pump_Peak k_pump_Hold k_pump_Find k_law06_sameTries k_law06_ticks k_pump_pressure
attribute [go_sem] k_slices_Concat_api_Range_api_Range k_pump_verdict k_pump_checkVesselRun k_pump_set_has k_law06_pair k_slices_Grow_api_Range_api_Range
def tabLK : List (Nat × AFun) := [(8, k_law06_PumpKnown), (20, k_law06_awake), (23, k_pump_Begin), (25, k_pump_Check), (32, k_pump_Pressure), (34, k_pump_Belongs), (37, k_pump_Seal), (40, k_pump_Tick), (44, k_pump_Run), (46, k_pump_Peak), (48, k_pump_Hold), (54, k_pump_Worst), (56, k_pump_Find), (58, k_pump_CheckHunt), (60, k_law06_sameTries), (61, k_law06_ticks), (62, k_law06_half), (63, k_law06_one), (64, k_law06_row), (72, k_law06_of), (76, k_kit_SameRanges), (81, k_pump_begin), (82, k_pump_firstError_api_Vacuum), (83, k_pump_checkCounts), (84, k_pump_checkVessels), (85, k_pump_checkPipes), (86, k_pump_checkBanks), (87, k_pump_checkOut), (91, k_pump_checkStage), (93, k_pump_isVessel), (94, k_pump_pressure), (97, k_pump_checkRanges), (98, k_slices_Concat_api_Range_api_Range), (99, k_pump_within), (101, k_pump_verdict), (102, k_pump_after), (104, k_pump_checkRun), (105, k_pump_last), (107, k_pump_checkVesselRun), (108, k_pump_ticks), (109, k_pump_checkNumbers), (110, k_pump_newHunter), (111, k_pump_hunter_plan), (112, k_pump_setOf), (116, k_pump_set_isOne), (117, k_pump_set_has), (119, k_law06_pair), (122, k_pump_checkBands), (123, k_pump_checkAt), (124, k_pump_goingOut), (129, k_pump_isHeat), (130, k_slices_Grow_api_Range_api_Range), (131, k_slices_Clone_api_Range_api_Range), (132, k_pump_tick_start), (133, k_pump_tick_release), (134, k_pump_tick_flow), (135, k_pump_tick_bind), (136, k_pump_tick_cut), (142, k_pump_ticks_1), (143, k_pump_hunter_with), (144, k_bits_OnesCount16), (146, k_pump_flows), (147, k_pump_plus), (148, k_pump_rateAt), (149, k_pump_perMillion), (150, k_pump_times), (151, k_pump_rest), (152, k_pump_up), (153, k_pump_down), (154, k_pump_atMost), (158, k_pump_flows_1), (159, k_slices_Contains_int_int), (160, k_slices_Index_int_int)]
def tabK (g : Nat) : Option AFun := tabGet tabLK g
theorem tabK_all : ∀ p ∈ tabLK, EntryOK Try.prog p.1 p.2 := AllOK.get (l := tabLK) (⟨e_law06_PumpKnown, ⟨e_law06_awake, ⟨e_pump_Begin, ⟨e_pump_Check, ⟨e_pump_Pressure, ⟨e_pump_Belongs, ⟨e_pump_Seal, ⟨e_pump_Tick, ⟨e_pump_Run, ⟨e_pump_Peak, ⟨e_pump_Hold, ⟨e_pump_Worst, ⟨e_pump_Find, ⟨e_pump_CheckHunt, ⟨e_law06_sameTries, ⟨e_law06_ticks, ⟨e_law06_half, ⟨e_law06_one, ⟨e_law06_row, ⟨e_law06_of, ⟨e_kit_SameRanges, ⟨e_pump_begin, ⟨e_pump_firstError_api_Vacuum, ⟨e_pump_checkCounts, ⟨e_pump_checkVessels, ⟨e_pump_checkPipes, ⟨e_pump_checkBanks, ⟨e_pump_checkOut, ⟨e_pump_checkStage, ⟨e_pump_isVessel, ⟨e_pump_pressure, ⟨e_pump_checkRanges, ⟨e_slices_Concat_api_Range_api_Range, ⟨e_pump_within, ⟨e_pump_verdict, ⟨e_pump_after, ⟨e_pump_checkRun, ⟨e_pump_last, ⟨e_pump_checkVesselRun, ⟨e_pump_ticks, ⟨e_pump_checkNumbers, ⟨e_pump_newHunter, ⟨e_pump_hunter_plan, ⟨e_pump_setOf, ⟨e_pump_set_isOne, ⟨e_pump_set_has, ⟨e_law06_pair, ⟨e_pump_checkBands, ⟨e_pump_checkAt, ⟨e_pump_goingOut, ⟨e_pump_isHeat, ⟨e_slices_Grow_api_Range_api_Range, ⟨e_slices_Clone_api_Range_api_Range, ⟨e_pump_tick_start, ⟨e_pump_tick_release, ⟨e_pump_tick_flow, ⟨e_pump_tick_bind, ⟨e_pump_tick_cut, ⟨e_pump_ticks_1, ⟨e_pump_hunter_with, ⟨e_bits_OnesCount16, ⟨e_pump_flows, ⟨e_pump_plus, ⟨e_pump_rateAt, ⟨e_pump_perMillion, ⟨e_pump_times, ⟨e_pump_rest, ⟨e_pump_up, ⟨e_pump_down, ⟨e_pump_atMost, ⟨e_pump_flows_1, ⟨e_slices_Contains_int_int, ⟨e_slices_Index_int_int, trivial⟩⟩⟩⟩⟩⟩⟩⟩⟩⟩⟩⟩⟩⟩⟩⟩⟩⟩⟩⟩⟩⟩⟩⟩⟩⟩⟩⟩⟩⟩⟩⟩⟩⟩⟩⟩⟩⟩⟩⟩⟩⟩⟩⟩⟩⟩⟩⟩⟩⟩⟩⟩⟩⟩⟩⟩⟩⟩⟩⟩⟩⟩⟩⟩⟩⟩⟩⟩⟩⟩⟩⟩⟩)
theorem tabK_ok (g : Nat) (af : AFun) (h : tabK g = some af) : EntryOK Try.prog g af := by
  have h2 := tabK_all _ (tabGet_mem _ _ _ h)
  exact h2
end Go.Proofs

