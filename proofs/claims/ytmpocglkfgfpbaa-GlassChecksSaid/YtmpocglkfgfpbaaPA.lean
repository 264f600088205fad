/- A part of the proof. -/
import Derived.Test.YtmpocglkfgfpbaaSxI
import Derived.Test.YtmpocglkfgfpbaaProg
import Derived.KernelRfl
set_option linter.unusedSimpArgs false
set_option linter.unusedVariables false
namespace Go.Proofs
open Go Go.Sx

def k_law05_awake_r0 : List AOper := [
  ⟨some 0, .move (.const (.bool false)), none, []⟩]
def k_law05_awake_r1 : List AOper := [
  ⟨some 9, .call (.const (.fn (.func 79) [] [])) [], none, []⟩,
 ⟨some 10, .call (.const (.fn (.func 80) [] [])) [], none, []⟩,
 ⟨some 11, .call (.const (.fn (.func 45) [] [])) [.tmp 9, .tmp 10, .const (.int .i64 800), .const (.int .i64 300)], none, []⟩,
 ⟨some 8, .move (.tmp 11), none, []⟩,
 ⟨some 12, .extract (.tmp 8) 0, none, []⟩,
 ⟨some 13, .extract (.tmp 8) 1, none, []⟩,
 ⟨some 14, .extract (.tmp 8) 2, none, []⟩,
 ⟨some 1, .move (.tmp 12), none, []⟩,
 ⟨some 2, .move (.tmp 13), none, []⟩,
 ⟨some 3, .move (.tmp 14), none, []⟩]
def k_law05_awake_r2 : List AOper := [
  ⟨some 16, .call (.const (.fn (.func 79) [] [])) [], none, []⟩,
 ⟨some 17, .build [.int .i64 0, .int .i64 0] [(0, 1, .const (.int .i64 10)), (1, 1, .const (.int .i64 700))], none, []⟩,
 ⟨some 18, .build [.int .i64 0, .int .i64 0] [(0, 1, .const (.int .i64 100)), (1, 1, .const (.int .i64 300))], none, []⟩,
 ⟨some 19, .buildSlice 2 [.tmp 17, .tmp 18], none, []⟩,
 ⟨some 20, .build [.int .i64 0, .nilsl] [(0, 1, .const (.int .i64 800)), (1, 1, .tmp 19)], none, []⟩,
 ⟨some 21, .call (.const (.fn (.func 51) [] [])) [.tmp 16, .const (.int .i64 100), .tmp 20], none, []⟩,
 ⟨some 15, .move (.tmp 21), none, []⟩,
 ⟨some 22, .extract (.tmp 15) 0, none, []⟩,
 ⟨some 23, .extract (.tmp 15) 1, none, []⟩,
 ⟨some 4, .move (.tmp 22), none, []⟩,
 ⟨some 5, .move (.tmp 23), none, []⟩]
def k_law05_awake_r3 : List AOper := [
  ⟨some 25, .call (.const (.fn (.func 81) [] [])) [.const (.int .i64 950)], none, []⟩,
 ⟨some 26, .call (.const (.fn (.func 58) [] [])) [.tmp 25], none, []⟩,
 ⟨some 24, .move (.tmp 26), none, []⟩,
 ⟨some 27, .extract (.tmp 24) 0, none, []⟩,
 ⟨some 28, .extract (.tmp 24) 1, none, []⟩,
 ⟨some 6, .move (.tmp 27), none, []⟩,
 ⟨some 7, .move (.tmp 28), none, []⟩]
def k_law05_awake_r4 : List AOper := [
  ⟨some 29, .move (.tmp 3), none, []⟩,
 ⟨some 30, .bin .plain .eql (.tmp 29) (.const (.int .i64 0)), none, []⟩,
 ⟨some 31, .move (.tmp 30), none, []⟩,
 ⟨some 32, .move (.tmp 5), (some (31, true)), []⟩,
 ⟨some 33, .bin .plain .eql (.tmp 32) (.const (.int .i64 0)), (some (31, true)), []⟩,
 ⟨some 34, .pick (.tmp 31) (.tmp 33) (.const (.bool false)), none, []⟩,
 ⟨some 35, .move (.tmp 34), none, []⟩,
 ⟨some 36, .move (.tmp 7), (some (35, true)), []⟩,
 ⟨some 37, .bin .plain .eql (.tmp 36) (.const (.int .i64 0)), (some (35, true)), []⟩,
 ⟨some 38, .pick (.tmp 35) (.tmp 37) (.const (.bool false)), none, []⟩,
 ⟨some 39, .move (.tmp 38), none, []⟩,
 ⟨some 40, .move (.tmp 1), (some (39, true)), []⟩,
 ⟨some 41, .bin .plain .eql (.tmp 40) (.const (.int .i64 2)), (some (39, true)), []⟩,
 ⟨some 42, .pick (.tmp 39) (.tmp 41) (.const (.bool false)), none, []⟩,
 ⟨some 43, .move (.tmp 42), none, []⟩,
 ⟨some 44, .move (.tmp 2), (some (43, true)), []⟩,
 ⟨some 45, .bin .plain .eql (.tmp 44) (.const (.int .i64 752)), (some (43, true)), []⟩,
 ⟨some 46, .pick (.tmp 43) (.tmp 45) (.const (.bool false)), none, []⟩,
 ⟨some 47, .move (.tmp 46), none, []⟩,
 ⟨some 48, .move (.tmp 4), (some (47, true)), []⟩,
 ⟨some 49, .len false (.tmp 48), (some (47, true)), []⟩,
 ⟨some 50, .bin .plain .eql (.tmp 49) (.const (.int .i64 2)), (some (47, true)), []⟩,
 ⟨some 51, .pick (.tmp 47) (.tmp 50) (.const (.bool false)), none, []⟩,
 ⟨some 52, .move (.tmp 51), none, []⟩,
 ⟨some 53, .move (.tmp 4), (some (52, true)), []⟩,
 ⟨some 54, .indexAddr 2 (.tmp 53) (.const (.int .i64 0)), (some (52, true)), []⟩,
 ⟨some 55, .load (some (2)) (.tmp 54), (some (52, true)), []⟩,
 ⟨some 56, .call (.const (.fn (.func 68) [] [])) [.const (.int .i64 399609), .const (.int .i64 399610)], (some (52, true)), [24, 25, 26]⟩,
 ⟨some 57, .eqAgg false [.int, .int] (.tmp 55) (.tmp 56), (some (52, true)), []⟩,
 ⟨some 58, .pick (.tmp 52) (.tmp 57) (.const (.bool false)), none, []⟩,
 ⟨some 59, .move (.tmp 58), none, []⟩,
 ⟨some 60, .move (.tmp 4), (some (59, true)), []⟩,
 ⟨some 61, .indexAddr 2 (.tmp 60) (.const (.int .i64 1)), (some (59, true)), []⟩,
 ⟨some 62, .load (some (2)) (.tmp 61), (some (59, true)), []⟩,
 ⟨some 63, .call (.const (.fn (.func 68) [] [])) [.const (.int .i64 3999609), .const (.int .i64 4399610)], (some (59, true)), [31, 32, 33]⟩,
 ⟨some 64, .eqAgg false [.int, .int] (.tmp 62) (.tmp 63), (some (59, true)), []⟩,
 ⟨some 65, .pick (.tmp 59) (.tmp 64) (.const (.bool false)), none, []⟩,
 ⟨some 66, .move (.tmp 65), none, []⟩,
 ⟨some 67, .move (.tmp 6), (some (66, true)), []⟩,
 ⟨some 68, .buildSlice 1 [.const (.int .i64 1), .const (.int .i64 0), .const (.int .i64 2)], (some (66, true)), [38]⟩,
 ⟨some 69, .call (.const (.fn (.func 49) [] [])) [.tmp 67, .tmp 68], (some (66, true)), []⟩,
 ⟨some 70, .pick (.tmp 66) (.tmp 69) (.const (.bool false)), none, []⟩,
 ⟨some 0, .move (.tmp 70), none, []⟩]
def k_law05_awake_r4s : List (List AOper) := [
  [
  ⟨some 29, .move (.tmp 3), none, []⟩], 
  [
  ⟨some 30, .bin .plain .eql (.tmp 29) (.const (.int .i64 0)), none, []⟩], 
  [
  ⟨some 31, .move (.tmp 30), none, []⟩], 
  [
  ⟨some 32, .move (.tmp 5), (some (31, true)), []⟩], 
  [
  ⟨some 33, .bin .plain .eql (.tmp 32) (.const (.int .i64 0)), (some (31, true)), []⟩], 
  [
  ⟨some 34, .pick (.tmp 31) (.tmp 33) (.const (.bool false)), none, []⟩], 
  [
  ⟨some 35, .move (.tmp 34), none, []⟩], 
  [
  ⟨some 36, .move (.tmp 7), (some (35, true)), []⟩], 
  [
  ⟨some 37, .bin .plain .eql (.tmp 36) (.const (.int .i64 0)), (some (35, true)), []⟩], 
  [
  ⟨some 38, .pick (.tmp 35) (.tmp 37) (.const (.bool false)), none, []⟩], 
  [
  ⟨some 39, .move (.tmp 38), none, []⟩], 
  [
  ⟨some 40, .move (.tmp 1), (some (39, true)), []⟩], 
  [
  ⟨some 41, .bin .plain .eql (.tmp 40) (.const (.int .i64 2)), (some (39, true)), []⟩], 
  [
  ⟨some 42, .pick (.tmp 39) (.tmp 41) (.const (.bool false)), none, []⟩], 
  [
  ⟨some 43, .move (.tmp 42), none, []⟩], 
  [
  ⟨some 44, .move (.tmp 2), (some (43, true)), []⟩], 
  [
  ⟨some 45, .bin .plain .eql (.tmp 44) (.const (.int .i64 752)), (some (43, true)), []⟩], 
  [
  ⟨some 46, .pick (.tmp 43) (.tmp 45) (.const (.bool false)), none, []⟩], 
  [
  ⟨some 47, .move (.tmp 46), none, []⟩], 
  [
  ⟨some 48, .move (.tmp 4), (some (47, true)), []⟩], 
  [
  ⟨some 49, .len false (.tmp 48), (some (47, true)), []⟩], 
  [
  ⟨some 50, .bin .plain .eql (.tmp 49) (.const (.int .i64 2)), (some (47, true)), []⟩], 
  [
  ⟨some 51, .pick (.tmp 47) (.tmp 50) (.const (.bool false)), none, []⟩], 
  [
  ⟨some 52, .move (.tmp 51), none, []⟩], 
  [
  ⟨some 53, .move (.tmp 4), (some (52, true)), []⟩,
 ⟨some 54, .indexAddr 2 (.tmp 53) (.const (.int .i64 0)), (some (52, true)), []⟩,
 ⟨some 55, .load (some (2)) (.tmp 54), (some (52, true)), []⟩,
 ⟨some 56, .call (.const (.fn (.func 68) [] [])) [.const (.int .i64 399609), .const (.int .i64 399610)], (some (52, true)), [24, 25, 26]⟩], 
  [
  ⟨some 57, .eqAgg false [.int, .int] (.tmp 55) (.tmp 56), (some (52, true)), []⟩], 
  [
  ⟨some 58, .pick (.tmp 52) (.tmp 57) (.const (.bool false)), none, []⟩], 
  [
  ⟨some 59, .move (.tmp 58), none, []⟩], 
  [
  ⟨some 60, .move (.tmp 4), (some (59, true)), []⟩,
 ⟨some 61, .indexAddr 2 (.tmp 60) (.const (.int .i64 1)), (some (59, true)), []⟩,
 ⟨some 62, .load (some (2)) (.tmp 61), (some (59, true)), []⟩,
 ⟨some 63, .call (.const (.fn (.func 68) [] [])) [.const (.int .i64 3999609), .const (.int .i64 4399610)], (some (59, true)), [31, 32, 33]⟩], 
  [
  ⟨some 64, .eqAgg false [.int, .int] (.tmp 62) (.tmp 63), (some (59, true)), []⟩], 
  [
  ⟨some 65, .pick (.tmp 59) (.tmp 64) (.const (.bool false)), none, []⟩], 
  [
  ⟨some 66, .move (.tmp 65), none, []⟩], 
  [
  ⟨some 67, .move (.tmp 6), (some (66, true)), []⟩,
 ⟨some 68, .buildSlice 1 [.const (.int .i64 1), .const (.int .i64 0), .const (.int .i64 2)], (some (66, true)), [38]⟩], 
  [
  ⟨some 69, .call (.const (.fn (.func 49) [] [])) [.tmp 67, .tmp 68], (some (66, true)), []⟩], 
  [
  ⟨some 70, .pick (.tmp 66) (.tmp 69) (.const (.bool false)), none, []⟩], 
  [
  ⟨some 0, .move (.tmp 70), none, []⟩]]
theorem k_law05_awake_r4_sg : segs k_law05_awake_r4 = k_law05_awake_r4s := by kernel_rfl
theorem k_law05_awake_r4_st : statOK k_law05_awake_r4 = true := by kernel_rfl
def k_law05_awake : AFun := { params := 0, ntmps := 71, body := (.seq (.reg k_law05_awake_r0 false) (.seq (.reg k_law05_awake_r1 false) (.seq (.reg k_law05_awake_r2 false) (.seq (.reg k_law05_awake_r3 false) (.seq (.reg k_law05_awake_r4 true) .ret))))), res := [.tmp 0] }
theorem k_law05_awake_ok : cfun Try.prog Try.f20 = k_law05_awake := by kernel_rfl

def k_glass_Check_r0 : List AOper := [
  ⟨some 1, .box (.tmp 0), none, []⟩,
 ⟨some 2, .move (.const (.int .i64 0)), none, []⟩]
def k_glass_Check_r1 : List AOper := [
  ⟨some 7, .fieldAddr 0 (.tmp 1), none, []⟩,
 ⟨some 8, .load none (.tmp 7), none, []⟩,
 ⟨some 9, .call (.const (.fn (.func 85) [] [])) [.tmp 8, .const (.int .i64 1), .const (.int .i64 1000000000)], none, []⟩,
 ⟨some 10, .not (.tmp 9), none, []⟩]
def k_glass_Check_r2 : List AOper := [
  ⟨some 2, .move (.const (.int .i64 2)), none, []⟩]
def k_glass_Check_r3 : List AOper := [
  ⟨some 11, .fieldAddr 1 (.tmp 1), none, []⟩,
 ⟨some 12, .load none (.tmp 11), none, []⟩,
 ⟨some 13, .len false (.tmp 12), none, []⟩,
 ⟨some 14, .bin .plain .eql (.tmp 13) (.const (.int .i64 0)), none, []⟩]
def k_glass_Check_r4 : List AOper := [
  ⟨some 2, .move (.const (.int .i64 6)), none, []⟩]
def k_glass_Check_r5 : List AOper := [
  ⟨some 15, .fieldAddr 1 (.tmp 1), none, []⟩,
 ⟨some 16, .load none (.tmp 15), none, []⟩,
 ⟨some 17, .len false (.tmp 16), none, []⟩,
 ⟨some 18, .bin .plain .gtr (.tmp 17) (.const (.int .i64 16)), none, []⟩]
def k_glass_Check_r6 : List AOper := [
  ⟨some 2, .move (.const (.int .i64 8)), none, []⟩]
def k_glass_Check_r7 : List AOper := [
  ⟨some 19, .fieldAddr 1 (.tmp 1), none, []⟩,
 ⟨some 20, .load none (.tmp 19), none, []⟩,
 ⟨some 21, .len false (.tmp 20), none, []⟩,
 ⟨some 22, .move (.const (.int .i64 0)), none, []⟩]
def k_glass_Check_r8 : List AOper := [
  ⟨some 23, .bin .plain .lss (.tmp 22) (.tmp 21), none, []⟩]
def k_glass_Check_r9 : List AOper := [
  ⟨some 24, .move (.tmp 22), none, []⟩,
 ⟨some 25, .indexAddr 5 (.tmp 20) (.tmp 22), none, []⟩,
 ⟨some 26, .load (some (5)) (.tmp 25), none, []⟩,
 ⟨some 4, .box (.const (.agg [.int .i64 0, .int .i64 0, .int .i64 0, .int .i64 0, .int .i64 0])), none, []⟩,
 ⟨some 3, .move (.tmp 24), none, []⟩,
 ⟨none, .store 5 (.tmp 4) (.tmp 26), none, []⟩]
def k_glass_Check_r10 : List AOper := [
  ⟨some 27, .fieldAddr 0 (.tmp 4), none, []⟩,
 ⟨some 28, .load none (.tmp 27), none, []⟩,
 ⟨some 29, .call (.const (.fn (.func 86) [] [])) [.tmp 28], none, []⟩,
 ⟨some 30, .not (.tmp 29), none, []⟩]
def k_glass_Check_r11 : List AOper := [
  ⟨some 2, .move (.const (.int .i64 2)), none, []⟩]
def k_glass_Check_r12 : List AOper := [
  ⟨some 31, .move (.tmp 3), none, []⟩,
 ⟨some 32, .bin .plain .eql (.tmp 31) (.const (.int .i64 0)), none, []⟩,
 ⟨some 33, .move (.tmp 32), none, []⟩,
 ⟨some 34, .fieldAddr 0 (.tmp 4), (some (33, true)), []⟩,
 ⟨some 35, .load none (.tmp 34), (some (33, true)), []⟩,
 ⟨some 36, .bin .plain .neq (.tmp 35) (.const (.int .i64 0)), (some (33, true)), []⟩,
 ⟨some 37, .pick (.tmp 33) (.tmp 36) (.const (.bool false)), none, []⟩,
 ⟨some 38, .move (.tmp 37), none, []⟩,
 ⟨some 39, .move (.tmp 3), (some (38, false)), []⟩,
 ⟨some 40, .bin .plain .gtr (.tmp 39) (.const (.int .i64 0)), (some (38, false)), []⟩,
 ⟨some 41, .move (.tmp 40), (some (38, false)), []⟩,
 ⟨some 42, .fieldAddr 0 (.tmp 4), (some (41, true)), []⟩,
 ⟨some 43, .load none (.tmp 42), (some (41, true)), []⟩,
 ⟨some 44, .fieldAddr 1 (.tmp 1), (some (41, true)), [11, 12]⟩,
 ⟨some 45, .load none (.tmp 44), (some (41, true)), [11, 12]⟩,
 ⟨some 46, .move (.tmp 3), (some (41, true)), [11, 12, 13, 14]⟩,
 ⟨some 47, .bin .plain .sub (.tmp 46) (.const (.int .i64 1)), (some (41, true)), [11, 12, 13, 14]⟩,
 ⟨some 48, .indexAddr 5 (.tmp 45) (.tmp 47), (some (41, true)), [11, 12]⟩,
 ⟨some 49, .fieldAddr 0 (.tmp 48), (some (41, true)), [11, 12]⟩,
 ⟨some 50, .load none (.tmp 49), (some (41, true)), [11, 12]⟩,
 ⟨some 51, .bin .plain .leq (.tmp 43) (.tmp 50), (some (41, true)), []⟩,
 ⟨some 52, .pick (.tmp 41) (.tmp 51) (.const (.bool false)), (some (38, false)), []⟩,
 ⟨some 53, .pick (.tmp 38) (.const (.bool true)) (.tmp 52), none, []⟩]
def k_glass_Check_r12s : List (List AOper) := [
  [
  ⟨some 31, .move (.tmp 3), none, []⟩], 
  [
  ⟨some 32, .bin .plain .eql (.tmp 31) (.const (.int .i64 0)), none, []⟩], 
  [
  ⟨some 33, .move (.tmp 32), none, []⟩], 
  [
  ⟨some 34, .fieldAddr 0 (.tmp 4), (some (33, true)), []⟩], 
  [
  ⟨some 35, .load none (.tmp 34), (some (33, true)), []⟩], 
  [
  ⟨some 36, .bin .plain .neq (.tmp 35) (.const (.int .i64 0)), (some (33, true)), []⟩], 
  [
  ⟨some 37, .pick (.tmp 33) (.tmp 36) (.const (.bool false)), none, []⟩], 
  [
  ⟨some 38, .move (.tmp 37), none, []⟩], 
  [
  ⟨some 39, .move (.tmp 3), (some (38, false)), []⟩], 
  [
  ⟨some 40, .bin .plain .gtr (.tmp 39) (.const (.int .i64 0)), (some (38, false)), []⟩], 
  [
  ⟨some 41, .move (.tmp 40), (some (38, false)), []⟩], 
  [
  ⟨some 42, .fieldAddr 0 (.tmp 4), (some (41, true)), []⟩,
 ⟨some 43, .load none (.tmp 42), (some (41, true)), []⟩,
 ⟨some 44, .fieldAddr 1 (.tmp 1), (some (41, true)), [11, 12]⟩,
 ⟨some 45, .load none (.tmp 44), (some (41, true)), [11, 12]⟩,
 ⟨some 46, .move (.tmp 3), (some (41, true)), [11, 12, 13, 14]⟩,
 ⟨some 47, .bin .plain .sub (.tmp 46) (.const (.int .i64 1)), (some (41, true)), [11, 12, 13, 14]⟩,
 ⟨some 48, .indexAddr 5 (.tmp 45) (.tmp 47), (some (41, true)), [11, 12]⟩,
 ⟨some 49, .fieldAddr 0 (.tmp 48), (some (41, true)), [11, 12]⟩,
 ⟨some 50, .load none (.tmp 49), (some (41, true)), [11, 12]⟩], 
  [
  ⟨some 51, .bin .plain .leq (.tmp 43) (.tmp 50), (some (41, true)), []⟩], 
  [
  ⟨some 52, .pick (.tmp 41) (.tmp 51) (.const (.bool false)), (some (38, false)), []⟩], 
  [
  ⟨some 53, .pick (.tmp 38) (.const (.bool true)) (.tmp 52), none, []⟩]]
theorem k_glass_Check_r12_sg : segs k_glass_Check_r12 = k_glass_Check_r12s := by kernel_rfl
theorem k_glass_Check_r12_st : statOK k_glass_Check_r12 = true := by kernel_rfl
def k_glass_Check_r13 : List AOper := [
  ⟨some 2, .move (.const (.int .i64 11)), none, []⟩]
def k_glass_Check_r14 : List AOper := [
  ⟨some 54, .fieldAddr 1 (.tmp 4), none, []⟩,
 ⟨some 55, .load (some (2)) (.tmp 54), none, []⟩,
 ⟨some 56, .call (.const (.fn (.func 87) [] [])) [.tmp 55, .const (.int .i64 100000)], none, []⟩,
 ⟨some 5, .move (.tmp 56), none, []⟩]
def k_glass_Check_r15 : List AOper := [
  ⟨some 57, .move (.tmp 5), none, []⟩,
 ⟨some 58, .bin .plain .neq (.tmp 57) (.const (.int .i64 0)), none, []⟩]
def k_glass_Check_r16 : List AOper := [
  ⟨some 59, .move (.tmp 5), none, []⟩,
 ⟨some 2, .move (.tmp 59), none, []⟩]
def k_glass_Check_r17 : List AOper := [
  ⟨some 60, .fieldAddr 3 (.tmp 4), none, []⟩,
 ⟨some 61, .load (some (2)) (.tmp 60), none, []⟩,
 ⟨some 62, .call (.const (.fn (.func 87) [] [])) [.tmp 61, .const (.int .i64 1000000)], none, []⟩,
 ⟨some 6, .move (.tmp 62), none, []⟩]
def k_glass_Check_r18 : List AOper := [
  ⟨some 63, .move (.tmp 6), none, []⟩,
 ⟨some 64, .bin .plain .neq (.tmp 63) (.const (.int .i64 0)), none, []⟩]
def k_glass_Check_r19 : List AOper := [
  ⟨some 65, .move (.tmp 6), none, []⟩,
 ⟨some 2, .move (.tmp 65), none, []⟩]
def k_glass_Check_r20 : List AOper := [
  ⟨some 66, .bin .plain .add (.tmp 22) (.const (.int .i64 1)), none, []⟩,
 ⟨some 22, .move (.tmp 66), none, []⟩]
def k_glass_Check_r21 : ACode := (.seq (.reg k_glass_Check_r8 false) (.seq (.cond (.tmp 23) .skip (.exit 0)) (.seq (.block 1 (.seq (.reg k_glass_Check_r9 false) (.seq (.seq (.reg k_glass_Check_r10 false) (.cond (.tmp 30) (.seq (.reg k_glass_Check_r11 false) .ret) .skip)) (.seq (.seq (.reg k_glass_Check_r12 true) (.cond (.tmp 53) (.seq (.reg k_glass_Check_r13 false) .ret) .skip)) (.seq (.seq (.reg k_glass_Check_r14 false) (.seq (.reg k_glass_Check_r15 false) (.cond (.tmp 58) (.seq (.reg k_glass_Check_r16 false) .ret) .skip))) (.seq (.reg k_glass_Check_r17 false) (.seq (.reg k_glass_Check_r18 false) (.cond (.tmp 64) (.seq (.reg k_glass_Check_r19 false) .ret) .skip)))))))) (.reg k_glass_Check_r20 false))))
def k_glass_Check_r22 : List AOper := [
  ⟨some 2, .move (.const (.int .i64 0)), none, []⟩]
def k_glass_Check : AFun := { params := 1, ntmps := 67, body := (.seq (.reg k_glass_Check_r0 false) (.seq (.seq (.reg k_glass_Check_r1 false) (.cond (.tmp 10) (.seq (.reg k_glass_Check_r2 false) .ret) .skip)) (.seq (.seq (.reg k_glass_Check_r3 false) (.cond (.tmp 14) (.seq (.reg k_glass_Check_r4 false) .ret) .skip)) (.seq (.seq (.reg k_glass_Check_r5 false) (.cond (.tmp 18) (.seq (.reg k_glass_Check_r6 false) .ret) .skip)) (.seq (.seq (.reg k_glass_Check_r7 false) (.block 0 (.loop k_glass_Check_r21))) (.seq (.reg k_glass_Check_r22 false) .ret)))))), res := [.tmp 2] }
theorem k_glass_Check_ok : cfun Try.prog Try.f30 = k_glass_Check := by kernel_rfl

def k_glass_CheckOven_r0 : List AOper := [
  ⟨some 1, .box (.tmp 0), none, []⟩,
 ⟨some 2, .move (.const (.int .i64 0)), none, []⟩]
def k_glass_CheckOven_r1 : List AOper := [
  ⟨some 5, .fieldAddr 0 (.tmp 1), none, []⟩,
 ⟨some 6, .load none (.tmp 5), none, []⟩,
 ⟨some 7, .call (.const (.fn (.func 86) [] [])) [.tmp 6], none, []⟩,
 ⟨some 8, .not (.tmp 7), none, []⟩]
def k_glass_CheckOven_r2 : List AOper := [
  ⟨some 2, .move (.const (.int .i64 2)), none, []⟩]
def k_glass_CheckOven_r3 : List AOper := [
  ⟨some 9, .fieldAddr 1 (.tmp 1), none, []⟩,
 ⟨some 10, .load none (.tmp 9), none, []⟩,
 ⟨some 11, .len false (.tmp 10), none, []⟩,
 ⟨some 12, .bin .plain .gtr (.tmp 11) (.const (.int .i64 20)), none, []⟩]
def k_glass_CheckOven_r4 : List AOper := [
  ⟨some 2, .move (.const (.int .i64 8)), none, []⟩]
def k_glass_CheckOven_r5 : List AOper := [
  ⟨some 13, .fieldAddr 1 (.tmp 1), none, []⟩,
 ⟨some 14, .load none (.tmp 13), none, []⟩,
 ⟨some 15, .len false (.tmp 14), none, []⟩,
 ⟨some 16, .move (.const (.int .i64 0)), none, []⟩]
def k_glass_CheckOven_r6 : List AOper := [
  ⟨some 17, .bin .plain .lss (.tmp 16) (.tmp 15), none, []⟩]
def k_glass_CheckOven_r7 : List AOper := [
  ⟨some 18, .indexAddr 2 (.tmp 14) (.tmp 16), none, []⟩,
 ⟨some 19, .load (some (2)) (.tmp 18), none, []⟩,
 ⟨some 4, .box (.const (.agg [.int .i64 0, .int .i64 0])), none, []⟩,
 ⟨none, .store 2 (.tmp 4) (.tmp 19), none, []⟩]
def k_glass_CheckOven_r8 : List AOper := [
  ⟨some 20, .fieldAddr 0 (.tmp 4), none, []⟩,
 ⟨some 21, .load none (.tmp 20), none, []⟩,
 ⟨some 22, .call (.const (.fn (.func 85) [] [])) [.tmp 21, .const (.int .i64 1), .const (.int .i64 2000)], none, []⟩,
 ⟨some 23, .not (.tmp 22), none, []⟩,
 ⟨some 24, .move (.tmp 23), none, []⟩,
 ⟨some 25, .fieldAddr 1 (.tmp 4), (some (24, false)), []⟩,
 ⟨some 26, .load none (.tmp 25), (some (24, false)), []⟩,
 ⟨some 27, .call (.const (.fn (.func 86) [] [])) [.tmp 26], (some (24, false)), []⟩,
 ⟨some 28, .not (.tmp 27), (some (24, false)), []⟩,
 ⟨some 29, .pick (.tmp 24) (.const (.bool true)) (.tmp 28), none, []⟩]
def k_glass_CheckOven_r9 : List AOper := [
  ⟨some 2, .move (.const (.int .i64 2)), none, []⟩]
def k_glass_CheckOven_r10 : List AOper := [
  ⟨some 30, .bin .plain .add (.tmp 16) (.const (.int .i64 1)), none, []⟩,
 ⟨some 16, .move (.tmp 30), none, []⟩]
def k_glass_CheckOven_r11 : ACode := (.seq (.reg k_glass_CheckOven_r6 false) (.seq (.cond (.tmp 17) .skip (.exit 0)) (.seq (.block 1 (.seq (.reg k_glass_CheckOven_r7 false) (.seq (.reg k_glass_CheckOven_r8 false) (.cond (.tmp 29) (.seq (.reg k_glass_CheckOven_r9 false) .ret) .skip)))) (.reg k_glass_CheckOven_r10 false))))
def k_glass_CheckOven_r12 : List AOper := [
  ⟨some 2, .move (.const (.int .i64 0)), none, []⟩]
def k_glass_CheckOven : AFun := { params := 1, ntmps := 31, body := (.seq (.reg k_glass_CheckOven_r0 false) (.seq (.seq (.reg k_glass_CheckOven_r1 false) (.cond (.tmp 8) (.seq (.reg k_glass_CheckOven_r2 false) .ret) .skip)) (.seq (.seq (.reg k_glass_CheckOven_r3 false) (.cond (.tmp 12) (.seq (.reg k_glass_CheckOven_r4 false) .ret) .skip)) (.seq (.seq (.reg k_glass_CheckOven_r5 false) (.block 0 (.loop k_glass_CheckOven_r11))) (.seq (.reg k_glass_CheckOven_r12 false) .ret))))), res := [.tmp 2] }
theorem k_glass_CheckOven_ok : cfun Try.prog Try.f32 = k_glass_CheckOven := by kernel_rfl

def k_glass_CheckFires_r0 : List AOper := [
  ⟨some 2, .move (.const (.int .i64 0)), none, []⟩]
def k_glass_CheckFires_r1 : List AOper := [
  ⟨some 7, .move (.tmp 0), none, []⟩,
 ⟨some 8, .len false (.tmp 7), none, []⟩,
 ⟨some 9, .bin .plain .gtr (.tmp 8) (.const (.int .i64 8)), none, []⟩]
def k_glass_CheckFires_r2 : List AOper := [
  ⟨some 2, .move (.const (.int .i64 8)), none, []⟩]
def k_glass_CheckFires_r3 : List AOper := [
  ⟨some 10, .move (.tmp 0), none, []⟩,
 ⟨some 11, .len false (.tmp 10), none, []⟩,
 ⟨some 12, .move (.const (.int .i64 0)), none, []⟩]
def k_glass_CheckFires_r4 : List AOper := [
  ⟨some 13, .bin .plain .lss (.tmp 12) (.tmp 11), none, []⟩]
def k_glass_CheckFires_r5 : List AOper := [
  ⟨some 14, .move (.tmp 12), none, []⟩,
 ⟨some 15, .indexAddr 3 (.tmp 10) (.tmp 12), none, []⟩,
 ⟨some 16, .load (some (3)) (.tmp 15), none, []⟩,
 ⟨some 4, .box (.const (.agg [.int .i64 0, .int .i64 0, .nilsl])), none, []⟩,
 ⟨some 3, .move (.tmp 14), none, []⟩,
 ⟨none, .store 3 (.tmp 4) (.tmp 16), none, []⟩]
def k_glass_CheckFires_r6 : List AOper := [
  ⟨some 17, .fieldAddr 0 (.tmp 4), none, []⟩,
 ⟨some 18, .load none (.tmp 17), none, []⟩,
 ⟨some 19, .call (.const (.fn (.func 86) [] [])) [.tmp 18], none, []⟩,
 ⟨some 20, .not (.tmp 19), none, []⟩,
 ⟨some 21, .move (.tmp 20), none, []⟩,
 ⟨some 22, .fieldAddr 1 (.tmp 4), (some (21, false)), []⟩,
 ⟨some 23, .load none (.tmp 22), (some (21, false)), []⟩,
 ⟨some 24, .call (.const (.fn (.func 86) [] [])) [.tmp 23], (some (21, false)), []⟩,
 ⟨some 25, .not (.tmp 24), (some (21, false)), []⟩,
 ⟨some 26, .pick (.tmp 21) (.const (.bool true)) (.tmp 25), none, []⟩]
def k_glass_CheckFires_r7 : List AOper := [
  ⟨some 2, .move (.const (.int .i64 2)), none, []⟩]
def k_glass_CheckFires_r8 : List AOper := [
  ⟨some 27, .fieldAddr 2 (.tmp 4), none, []⟩,
 ⟨some 28, .load none (.tmp 27), none, []⟩,
 ⟨some 29, .len false (.tmp 28), none, []⟩,
 ⟨some 30, .move (.const (.int .i64 0)), none, []⟩]
def k_glass_CheckFires_r9 : List AOper := [
  ⟨some 31, .bin .plain .lss (.tmp 30) (.tmp 29), none, []⟩]
def k_glass_CheckFires_r10 : List AOper := [
  ⟨some 32, .move (.tmp 30), none, []⟩,
 ⟨some 33, .indexAddr 1 (.tmp 28) (.tmp 30), none, []⟩,
 ⟨some 34, .load none (.tmp 33), none, []⟩,
 ⟨some 5, .move (.tmp 32), none, []⟩,
 ⟨some 6, .move (.tmp 34), none, []⟩]
def k_glass_CheckFires_r11 : List AOper := [
  ⟨some 36, .move (.tmp 6), none, []⟩,
 ⟨some 37, .move (.tmp 0), none, []⟩,
 ⟨some 38, .len false (.tmp 37), none, []⟩,
 ⟨some 39, .bin .plain .sub (.tmp 38) (.const (.int .i64 1)), none, []⟩,
 ⟨some 40, .call (.const (.fn (.func 85) [] [])) [.tmp 36, .const (.int .i64 0), .tmp 39], none, []⟩,
 ⟨some 41, .not (.tmp 40), none, []⟩,
 ⟨some 35, .move (.tmp 41), none, []⟩]
def k_glass_CheckFires_r12 : List AOper := [
  ⟨some 2, .move (.const (.int .i64 2)), none, []⟩]
def k_glass_CheckFires_r13 : List AOper := [
  ⟨some 43, .move (.tmp 6), none, []⟩,
 ⟨some 44, .move (.tmp 3), none, []⟩,
 ⟨some 45, .bin .plain .eql (.tmp 43) (.tmp 44), none, []⟩,
 ⟨some 42, .move (.tmp 45), none, []⟩]
def k_glass_CheckFires_r14 : List AOper := [
  ⟨some 2, .move (.const (.int .i64 12)), none, []⟩]
def k_glass_CheckFires_r15 : List AOper := [
  ⟨some 47, .move (.tmp 5), none, []⟩,
 ⟨some 48, .bin .plain .gtr (.tmp 47) (.const (.int .i64 0)), none, []⟩,
 ⟨some 49, .move (.tmp 48), none, []⟩,
 ⟨some 50, .move (.tmp 6), (some (49, true)), []⟩,
 ⟨some 51, .fieldAddr 2 (.tmp 4), (some (49, true)), []⟩,
 ⟨some 52, .load none (.tmp 51), (some (49, true)), []⟩,
 ⟨some 53, .move (.tmp 5), (some (49, true)), []⟩,
 ⟨some 54, .bin .plain .sub (.tmp 53) (.const (.int .i64 1)), (some (49, true)), []⟩,
 ⟨some 55, .indexAddr 1 (.tmp 52) (.tmp 54), (some (49, true)), []⟩,
 ⟨some 56, .load none (.tmp 55), (some (49, true)), []⟩,
 ⟨some 57, .bin .plain .leq (.tmp 50) (.tmp 56), (some (49, true)), []⟩,
 ⟨some 58, .pick (.tmp 49) (.tmp 57) (.const (.bool false)), none, []⟩,
 ⟨some 46, .move (.tmp 58), none, []⟩]
def k_glass_CheckFires_r16 : List AOper := [
  ⟨some 2, .move (.const (.int .i64 11)), none, []⟩]
def k_glass_CheckFires_r17 : List AOper := [
  ⟨some 59, .bin .plain .add (.tmp 30) (.const (.int .i64 1)), none, []⟩,
 ⟨some 30, .move (.tmp 59), none, []⟩]
def k_glass_CheckFires_r18 : ACode := (.seq (.reg k_glass_CheckFires_r9 false) (.seq (.cond (.tmp 31) .skip (.exit 2)) (.seq (.block 3 (.seq (.reg k_glass_CheckFires_r10 false) (.block 4 (.seq (.reg k_glass_CheckFires_r11 false) (.cond (.tmp 35) (.seq (.reg k_glass_CheckFires_r12 false) .ret) (.seq (.reg k_glass_CheckFires_r13 false) (.cond (.tmp 42) (.seq (.reg k_glass_CheckFires_r14 false) .ret) (.seq (.reg k_glass_CheckFires_r15 false) (.cond (.tmp 46) (.seq (.reg k_glass_CheckFires_r16 false) .ret) .skip))))))))) (.reg k_glass_CheckFires_r17 false))))
def k_glass_CheckFires_r19 : List AOper := [
  ⟨some 60, .bin .plain .add (.tmp 12) (.const (.int .i64 1)), none, []⟩,
 ⟨some 12, .move (.tmp 60), none, []⟩]
def k_glass_CheckFires_r20 : ACode := (.seq (.reg k_glass_CheckFires_r4 false) (.seq (.cond (.tmp 13) .skip (.exit 0)) (.seq (.block 1 (.seq (.reg k_glass_CheckFires_r5 false) (.seq (.seq (.reg k_glass_CheckFires_r6 false) (.cond (.tmp 26) (.seq (.reg k_glass_CheckFires_r7 false) .ret) .skip)) (.seq (.reg k_glass_CheckFires_r8 false) (.block 2 (.loop k_glass_CheckFires_r18)))))) (.reg k_glass_CheckFires_r19 false))))
def k_glass_CheckFires_r21 : List AOper := [
  ⟨some 2, .move (.const (.int .i64 0)), none, []⟩]
def k_glass_CheckFires : AFun := { params := 1, ntmps := 61, body := (.seq (.reg k_glass_CheckFires_r0 false) (.seq (.seq (.reg k_glass_CheckFires_r1 false) (.cond (.tmp 9) (.seq (.reg k_glass_CheckFires_r2 false) .ret) .skip)) (.seq (.seq (.reg k_glass_CheckFires_r3 false) (.block 0 (.loop k_glass_CheckFires_r20))) (.seq (.reg k_glass_CheckFires_r21 false) .ret)))), res := [.tmp 2] }
theorem k_glass_CheckFires_ok : cfun Try.prog Try.f34 = k_glass_CheckFires := by kernel_rfl

def k_glass_Seal_r0 : List AOper := [
  ⟨some 4, .box (.tmp 0), none, []⟩,
 ⟨some 5, .box (.tmp 1), none, []⟩,
 ⟨some 8, .move (.const (.int .i64 0)), none, []⟩,
 ⟨some 9, .move (.const (.int .i64 0)), none, []⟩,
 ⟨some 10, .move (.const (.int .i64 0)), none, []⟩]
def k_glass_Seal_r1 : List AOper := [
  ⟨some 12, .load (some (2)) (.tmp 4), none, []⟩,
 ⟨some 13, .load (some (2)) (.tmp 5), none, []⟩,
 ⟨some 14, .move (.tmp 2), none, []⟩,
 ⟨some 15, .move (.tmp 3), none, []⟩,
 ⟨some 16, .call (.const (.fn (.func 92) [] [])) [.tmp 12, .tmp 13, .tmp 14, .tmp 15], none, []⟩,
 ⟨some 11, .move (.tmp 16), none, []⟩]
def k_glass_Seal_r2 : List AOper := [
  ⟨some 17, .move (.tmp 11), none, []⟩,
 ⟨some 18, .bin .plain .neq (.tmp 17) (.const (.int .i64 0)), none, []⟩]
def k_glass_Seal_r3 : List AOper := [
  ⟨some 19, .move (.tmp 11), none, []⟩,
 ⟨some 8, .move (.const (.int .i64 0)), none, []⟩,
 ⟨some 9, .move (.const (.int .i64 0)), none, []⟩,
 ⟨some 10, .move (.tmp 19), none, []⟩]
def k_glass_Seal_r4 : List AOper := [
  ⟨some 20, .move (.tmp 3), none, []⟩,
 ⟨some 21, .move (.tmp 2), none, []⟩,
 ⟨some 22, .bin .plain .gtr (.tmp 20) (.tmp 21), none, []⟩]
def k_glass_Seal_r5 : List AOper := [
  ⟨some 8, .move (.const (.int .i64 0)), none, []⟩,
 ⟨some 9, .move (.const (.int .i64 0)), none, []⟩,
 ⟨some 10, .move (.const (.int .i64 2)), none, []⟩]
def k_glass_Seal_r6 : List AOper := [
  ⟨some 24, .load (some (2)) (.tmp 4), none, []⟩,
 ⟨some 25, .load (some (2)) (.tmp 5), none, []⟩,
 ⟨some 26, .move (.tmp 2), none, []⟩,
 ⟨some 27, .move (.tmp 3), none, []⟩,
 ⟨some 28, .call (.const (.fn (.func 97) [] [])) [.tmp 24, .tmp 25, .tmp 26, .tmp 27], none, []⟩,
 ⟨some 29, .call (.const (.fn (.func 96) [] [])) [.tmp 28], none, []⟩,
 ⟨some 23, .move (.tmp 29), none, []⟩,
 ⟨some 30, .extract (.tmp 23) 0, none, []⟩,
 ⟨some 31, .extract (.tmp 23) 1, none, []⟩,
 ⟨some 8, .move (.tmp 30), none, []⟩,
 ⟨some 9, .move (.tmp 31), none, []⟩]
def k_glass_Seal_r7 : List AOper := [
  ⟨some 32, .move (.tmp 8), none, []⟩,
 ⟨some 33, .move (.tmp 9), none, []⟩,
 ⟨some 8, .move (.tmp 32), none, []⟩,
 ⟨some 9, .move (.tmp 33), none, []⟩,
 ⟨some 10, .move (.const (.int .i64 0)), none, []⟩]
def k_glass_Seal : AFun := { params := 4, ntmps := 34, body := (.seq (.reg k_glass_Seal_r0 false) (.seq (.seq (.reg k_glass_Seal_r1 false) (.seq (.reg k_glass_Seal_r2 false) (.cond (.tmp 18) (.seq (.reg k_glass_Seal_r3 false) .ret) .skip))) (.seq (.seq (.reg k_glass_Seal_r4 false) (.cond (.tmp 22) (.seq (.reg k_glass_Seal_r5 false) .ret) .skip)) (.seq (.reg k_glass_Seal_r6 false) (.seq (.reg k_glass_Seal_r7 false) .ret))))), res := [.tmp 8, .tmp 9, .tmp 10] }
theorem k_glass_Seal_ok : cfun Try.prog Try.f45 = k_glass_Seal := by kernel_rfl

def k_kit_Same_r0 : List AOper := [
  ⟨some 4, .move (.const (.bool false)), none, []⟩]
def k_kit_Same_r1 : List AOper := [
  ⟨some 6, .move (.tmp 0), none, []⟩,
 ⟨some 7, .len false (.tmp 6), none, []⟩,
 ⟨some 8, .move (.tmp 1), none, []⟩,
 ⟨some 9, .len false (.tmp 8), none, []⟩,
 ⟨some 10, .bin .plain .neq (.tmp 7) (.tmp 9), none, []⟩]
def k_kit_Same_r2 : List AOper := [
  ⟨some 4, .move (.const (.bool false)), none, []⟩]
def k_kit_Same_r3 : List AOper := [
  ⟨some 5, .move (.const (.int .i64 0)), none, []⟩]
def k_kit_Same_r4 : List AOper := [
  ⟨some 11, .move (.tmp 5), none, []⟩,
 ⟨some 12, .move (.tmp 0), none, []⟩,
 ⟨some 13, .len false (.tmp 12), none, []⟩,
 ⟨some 14, .bin .plain .lss (.tmp 11) (.tmp 13), none, []⟩]
def k_kit_Same_r5 : List AOper := [
  ⟨some 17, .move (.tmp 0), none, []⟩,
 ⟨some 18, .move (.tmp 5), none, [0]⟩,
 ⟨some 19, .indexAddr 1 (.tmp 17) (.tmp 18), none, []⟩,
 ⟨some 20, .load none (.tmp 19), none, []⟩,
 ⟨some 21, .move (.tmp 1), none, [0, 1, 2, 3]⟩,
 ⟨some 22, .move (.tmp 5), none, [0, 1, 2, 3, 4]⟩,
 ⟨some 23, .indexAddr 1 (.tmp 21) (.tmp 22), none, [0, 1, 2, 3]⟩,
 ⟨some 24, .load none (.tmp 23), none, [0, 1, 2, 3]⟩,
 ⟨some 25, .bin .plain .neq (.tmp 20) (.tmp 24), none, []⟩]
def k_kit_Same_r5s : List (List AOper) := [
  [
  ⟨some 17, .move (.tmp 0), none, []⟩,
 ⟨some 18, .move (.tmp 5), none, [0]⟩,
 ⟨some 19, .indexAddr 1 (.tmp 17) (.tmp 18), none, []⟩,
 ⟨some 20, .load none (.tmp 19), none, []⟩,
 ⟨some 21, .move (.tmp 1), none, [0, 1, 2, 3]⟩,
 ⟨some 22, .move (.tmp 5), none, [0, 1, 2, 3, 4]⟩,
 ⟨some 23, .indexAddr 1 (.tmp 21) (.tmp 22), none, [0, 1, 2, 3]⟩,
 ⟨some 24, .load none (.tmp 23), none, [0, 1, 2, 3]⟩], 
  [
  ⟨some 25, .bin .plain .neq (.tmp 20) (.tmp 24), none, []⟩]]
theorem k_kit_Same_r5_sg : segs k_kit_Same_r5 = k_kit_Same_r5s := by kernel_rfl
theorem k_kit_Same_r5_st : statOK k_kit_Same_r5 = true := by kernel_rfl
def k_kit_Same_r6 : List AOper := [
  ⟨some 4, .move (.const (.bool false)), none, []⟩]
def k_kit_Same_r7 : List AOper := [
  ⟨some 15, .move (.tmp 5), none, []⟩,
 ⟨some 16, .bin .plain .add (.tmp 15) (.const (.int .i64 1)), none, []⟩,
 ⟨some 5, .move (.tmp 16), none, []⟩]
def k_kit_Same_r8 : ACode := (.seq (.seq (.reg k_kit_Same_r4 false) (.cond (.tmp 14) .skip (.exit 0))) (.seq (.block 1 (.seq (.reg k_kit_Same_r5 true) (.cond (.tmp 25) (.seq (.reg k_kit_Same_r6 false) .ret) .skip))) (.reg k_kit_Same_r7 false)))
def k_kit_Same_r9 : List AOper := [
  ⟨some 4, .move (.const (.bool true)), none, []⟩]
def k_kit_Same : AFun := { params := 2, ntmps := 26, body := (.seq (.reg k_kit_Same_r0 false) (.seq (.seq (.reg k_kit_Same_r1 false) (.cond (.tmp 10) (.seq (.reg k_kit_Same_r2 false) .ret) .skip)) (.seq (.seq (.reg k_kit_Same_r3 false) (.block 0 (.loop k_kit_Same_r8))) (.seq (.reg k_kit_Same_r9 false) .ret)))), res := [.tmp 4] }
theorem k_kit_Same_ok : cfun Try.prog Try.f49 = k_kit_Same := by kernel_rfl

def k_glass_Strain_r0 : List AOper := [
  ⟨some 3, .box (.tmp 0), none, []⟩,
 ⟨some 5, .box (.tmp 2), none, []⟩,
 ⟨some 6, .move (.const (.nilsl)), none, []⟩,
 ⟨some 7, .move (.const (.int .i64 0)), none, []⟩]
def k_glass_Strain_r1 : List AOper := [
  ⟨some 13, .load (some (2)) (.tmp 3), none, []⟩,
 ⟨some 14, .move (.tmp 1), none, []⟩,
 ⟨some 15, .build [.int .i64 0, .nilsl, .int .i64 0] [(0, 2, .tmp 13), (2, 1, .tmp 14)], none, []⟩,
 ⟨some 8, .box (.const (.agg [.int .i64 0, .nilsl, .int .i64 0])), none, []⟩,
 ⟨none, .store 3 (.tmp 8) (.tmp 15), none, []⟩]
def k_glass_Strain_r2 : List AOper := [
  ⟨some 16, .load (some (3)) (.tmp 8), none, []⟩,
 ⟨some 17, .load (some (2)) (.tmp 5), none, []⟩,
 ⟨some 18, .call (.const (.fn (.func 100) [] [])) [.tmp 16, .tmp 17], none, []⟩,
 ⟨some 9, .move (.tmp 18), none, []⟩]
def k_glass_Strain_r3 : List AOper := [
  ⟨some 19, .move (.tmp 9), none, []⟩,
 ⟨some 20, .bin .plain .neq (.tmp 19) (.const (.int .i64 0)), none, []⟩]
def k_glass_Strain_r4 : List AOper := [
  ⟨some 21, .move (.tmp 9), none, []⟩,
 ⟨some 6, .move (.const (.nilsl)), none, []⟩,
 ⟨some 7, .move (.tmp 21), none, []⟩]
def k_glass_Strain_r5 : List AOper := [
  ⟨some 22, .fieldAddr 1 (.tmp 5), none, []⟩,
 ⟨some 23, .load none (.tmp 22), none, []⟩,
 ⟨some 24, .len false (.tmp 23), none, []⟩,
 ⟨some 25, .makeSlice (.agg [.int .i64 0, .int .i64 0]) 16 (.tmp 24) (.tmp 24), none, []⟩,
 ⟨some 10, .box (.const (.nilsl)), none, []⟩,
 ⟨none, .store 1 (.tmp 10) (.tmp 25), none, []⟩]
def k_glass_Strain_r6 : List AOper := [
  ⟨some 26, .load (some (3)) (.tmp 8), none, []⟩,
 ⟨some 27, .load (some (2)) (.tmp 5), none, []⟩,
 ⟨some 28, .call (.const (.fn (.func 101) [] [])) [.tmp 26, .tmp 27], none, []⟩]
def k_glass_Strain_r7 : List AOper := [
  ⟨some 11, .move (.tmp 29), none, []⟩]
def k_glass_Strain_r8 : List AOper := [
  ⟨some 12, .box (.const (.agg [.int .i64 0, .int .i64 0])), none, []⟩,
 ⟨none, .store 2 (.tmp 12) (.tmp 30), none, []⟩]
def k_glass_Strain_r9 : List AOper := [
  ⟨some 31, .load none (.tmp 10), none, []⟩,
 ⟨some 32, .move (.tmp 11), none, []⟩,
 ⟨some 33, .load (some (2)) (.tmp 12), none, []⟩,
 ⟨some 34, .indexAddr 2 (.tmp 31) (.tmp 32), none, []⟩,
 ⟨none, .store 2 (.tmp 34) (.tmp 33), none, []⟩]
def k_glass_Strain_r10 : ACode := (.seq (.reg k_glass_Strain_r7 false) (.reg k_glass_Strain_r8 false))
def k_glass_Strain_r11 : ACode := (.block 1 (.reg k_glass_Strain_r9 false))
def k_glass_Strain_r12 : List AOper := [
  ⟨some 35, .load none (.tmp 10), none, []⟩,
 ⟨some 6, .move (.tmp 35), none, []⟩,
 ⟨some 7, .move (.const (.int .i64 0)), none, []⟩]
def k_glass_Strain : AFun := { params := 3, ntmps := 36, body := (.seq (.reg k_glass_Strain_r0 false) (.seq (.reg k_glass_Strain_r1 false) (.seq (.seq (.reg k_glass_Strain_r2 false) (.seq (.reg k_glass_Strain_r3 false) (.cond (.tmp 20) (.seq (.reg k_glass_Strain_r4 false) .ret) .skip))) (.seq (.reg k_glass_Strain_r5 false) (.seq (.seq (.reg k_glass_Strain_r6 false) (.block 0 (.rng (.tmp 28) [29, 30] k_glass_Strain_r10 k_glass_Strain_r11))) (.seq (.reg k_glass_Strain_r12 false) .ret)))))), res := [.tmp 6, .tmp 7] }
theorem k_glass_Strain_ok : cfun Try.prog Try.f51 = k_glass_Strain := by kernel_rfl

def k_glass_First_r0 : List AOper := [
  ⟨some 2, .box (.const (.nilsl)), none, []⟩,
 ⟨some 3, .box (.const (.int .i64 0)), none, []⟩]
def k_glass_First_r1 : List AOper := [
  ⟨some 6, .move (.tmp 0), none, []⟩,
 ⟨some 7, .call (.const (.fn (.func 34) [] [])) [.tmp 6], none, []⟩,
 ⟨some 4, .move (.tmp 7), none, []⟩]
def k_glass_First_r2 : List AOper := [
  ⟨some 8, .move (.tmp 4), none, []⟩,
 ⟨some 9, .bin .plain .neq (.tmp 8) (.const (.int .i64 0)), none, []⟩]
def k_glass_First_r3 : List AOper := [
  ⟨some 10, .move (.tmp 4), none, []⟩,
 ⟨none, .store 1 (.tmp 2) (.const (.nilsl)), none, []⟩,
 ⟨none, .store 1 (.tmp 3) (.tmp 10), none, []⟩]
def k_glass_First_r4 : List AOper := [
  ⟨some 11, .move (.tmp 0), none, []⟩,
 ⟨some 12, .call (.const (.fn (.func 109) [] [])) [.tmp 11, .const (.fn (.func 110) [] [])], none, []⟩]
def k_glass_First_r5 : List AOper := [
  ⟨some 5, .move (.tmp 13), none, []⟩]
def k_glass_First_r6 : List AOper := [
  ⟨some 14, .move (.tmp 5), none, []⟩,
 ⟨some 15, .call (.const (.fn (.func 111) [] [])) [.tmp 14], none, []⟩,
 ⟨none, .store 1 (.tmp 2) (.tmp 15), none, []⟩,
 ⟨none, .store 1 (.tmp 3) (.const (.int .i64 0)), none, []⟩]
def k_glass_First_r7 : ACode := (.reg k_glass_First_r5 false)
def k_glass_First_r8 : ACode := (.block 1 (.seq (.reg k_glass_First_r6 false) .ret))
def k_glass_First_r9 : List AOper := [
  ⟨none, .store 1 (.tmp 2) (.const (.nilsl)), none, []⟩,
 ⟨none, .store 1 (.tmp 3) (.const (.int .i64 7)), none, []⟩]
def k_glass_First : AFun := { params := 1, ntmps := 16, body := (.seq (.reg k_glass_First_r0 false) (.seq (.seq (.reg k_glass_First_r1 false) (.seq (.reg k_glass_First_r2 false) (.cond (.tmp 9) (.seq (.reg k_glass_First_r3 false) .ret) .skip))) (.seq (.seq (.reg k_glass_First_r4 false) (.block 0 (.rng (.tmp 12) [13] k_glass_First_r7 k_glass_First_r8))) (.seq (.reg k_glass_First_r9 false) .ret)))), res := [.cell 2 (some (none)), .cell 3 (some (none))] }
theorem k_glass_First_ok : cfun Try.prog Try.f58 = k_glass_First := by kernel_rfl

def k_law05_span_r0 : List AOper := [
  ⟨some 4, .box (.const (.agg [.int .i64 0, .int .i64 0])), none, []⟩]
def k_law05_span_r1 : List AOper := [
  ⟨some 5, .move (.tmp 0), none, []⟩,
 ⟨some 6, .move (.tmp 1), none, []⟩,
 ⟨some 7, .build [.int .i64 0, .int .i64 0] [(0, 1, .tmp 5), (1, 1, .tmp 6)], none, []⟩,
 ⟨none, .store 2 (.tmp 4) (.tmp 7), none, []⟩]
def k_law05_span : AFun := { params := 2, ntmps := 8, body := (.seq (.reg k_law05_span_r0 false) (.seq (.reg k_law05_span_r1 false) .ret)), res := [.cell 4 (some ((some (2))))] }
theorem k_law05_span_ok : cfun Try.prog Try.f68 = k_law05_span := by kernel_rfl

def k_law05_wall_r0 : List AOper := [
  ⟨some 0, .box (.const (.agg [.int .i64 0, .nilsl])), none, []⟩]
def k_law05_wall_r1 : List AOper := [
  ⟨some 1, .call (.const (.fn (.func 68) [] [])) [.const (.int .i64 9000), .const (.int .i64 10000)], none, []⟩,
 ⟨some 2, .build [.int .i64 0, .int .i64 0, .int .i64 0, .int .i64 0, .int .i64 0] [(1, 2, .tmp 1)], none, []⟩,
 ⟨some 3, .call (.const (.fn (.func 68) [] [])) [.const (.int .i64 20000), .const (.int .i64 20000)], none, []⟩,
 ⟨some 4, .call (.const (.fn (.func 68) [] [])) [.const (.int .i64 500000), .const (.int .i64 500000)], none, []⟩,
 ⟨some 5, .build [.int .i64 0, .int .i64 0, .int .i64 0, .int .i64 0, .int .i64 0] [(0, 1, .const (.int .i64 700)), (1, 2, .tmp 3), (3, 2, .tmp 4)], none, []⟩,
 ⟨some 6, .buildSlice 5 [.tmp 2, .tmp 5], none, []⟩,
 ⟨some 7, .build [.int .i64 0, .nilsl] [(0, 1, .const (.int .i64 500000)), (1, 1, .tmp 6)], none, []⟩,
 ⟨none, .store 2 (.tmp 0) (.tmp 7), none, []⟩]
def k_law05_wall : AFun := { params := 0, ntmps := 8, body := (.seq (.reg k_law05_wall_r0 false) (.seq (.reg k_law05_wall_r1 false) .ret)), res := [.cell 0 (some ((some (2))))] }
theorem k_law05_wall_ok : cfun Try.prog Try.f79 = k_law05_wall := by kernel_rfl

def k_law05_lead_r0 : List AOper := [
  ⟨some 0, .box (.const (.agg [.int .i64 0, .nilsl])), none, []⟩]
def k_law05_lead_r1 : List AOper := [
  ⟨some 1, .call (.const (.fn (.func 68) [] [])) [.const (.int .i64 9500), .const (.int .i64 9500)], none, []⟩,
 ⟨some 2, .build [.int .i64 0, .int .i64 0, .int .i64 0, .int .i64 0, .int .i64 0] [(1, 2, .tmp 1)], none, []⟩,
 ⟨some 3, .buildSlice 5 [.tmp 2], none, []⟩,
 ⟨some 4, .build [.int .i64 0, .nilsl] [(0, 1, .const (.int .i64 2000000)), (1, 1, .tmp 3)], none, []⟩,
 ⟨none, .store 2 (.tmp 0) (.tmp 4), none, []⟩]
def k_law05_lead : AFun := { params := 0, ntmps := 5, body := (.seq (.reg k_law05_lead_r0 false) (.seq (.reg k_law05_lead_r1 false) .ret)), res := [.cell 0 (some ((some (2))))] }
theorem k_law05_lead_ok : cfun Try.prog Try.f80 = k_law05_lead := by kernel_rfl

def k_law05_joins_r0 : List AOper := [
  ⟨some 2, .move (.const (.nilsl)), none, []⟩]
def k_law05_joins_r1 : List AOper := [
  ⟨some 3, .move (.tmp 0), none, []⟩,
 ⟨some 4, .build [.int .i64 0, .int .i64 0, .nilsl] [(0, 1, .const (.int .i64 900)), (1, 1, .tmp 3)], none, []⟩,
 ⟨some 5, .build [.int .i64 0, .int .i64 0, .nilsl] [(0, 1, .const (.int .i64 1000)), (1, 1, .const (.int .i64 1100))], none, []⟩,
 ⟨some 6, .buildSlice 1 [.const (.int .i64 0)], none, []⟩,
 ⟨some 7, .build [.int .i64 0, .int .i64 0, .nilsl] [(0, 1, .const (.int .i64 950)), (1, 1, .const (.int .i64 950)), (2, 1, .tmp 6)], none, []⟩,
 ⟨some 8, .buildSlice 3 [.tmp 4, .tmp 5, .tmp 7], none, []⟩,
 ⟨some 2, .move (.tmp 8), none, []⟩]
def k_law05_joins : AFun := { params := 1, ntmps := 9, body := (.seq (.reg k_law05_joins_r0 false) (.seq (.reg k_law05_joins_r1 false) .ret)), res := [.tmp 2] }
theorem k_law05_joins_ok : cfun Try.prog Try.f81 = k_law05_joins := by kernel_rfl

def k_glass_within_r0 : List AOper := [
  ⟨some 6, .move (.const (.bool false)), none, []⟩]
def k_glass_within_r1 : List AOper := [
  ⟨some 7, .move (.tmp 1), none, []⟩,
 ⟨some 8, .move (.tmp 0), none, []⟩,
 ⟨some 9, .bin .plain .leq (.tmp 7) (.tmp 8), none, []⟩,
 ⟨some 10, .move (.tmp 9), none, []⟩,
 ⟨some 11, .move (.tmp 0), (some (10, true)), []⟩,
 ⟨some 12, .move (.tmp 2), (some (10, true)), []⟩,
 ⟨some 13, .bin .plain .leq (.tmp 11) (.tmp 12), (some (10, true)), []⟩,
 ⟨some 14, .pick (.tmp 10) (.tmp 13) (.const (.bool false)), none, []⟩,
 ⟨some 6, .move (.tmp 14), none, []⟩]
def k_glass_within : AFun := { params := 3, ntmps := 15, body := (.seq (.reg k_glass_within_r0 false) (.seq (.reg k_glass_within_r1 false) .ret)), res := [.tmp 6] }
theorem k_glass_within_ok : cfun Try.prog Try.f85 = k_glass_within := by kernel_rfl

def k_glass_isHeat_r0 : List AOper := [
  ⟨some 2, .move (.const (.bool false)), none, []⟩]
def k_glass_isHeat_r1 : List AOper := [
  ⟨some 3, .move (.tmp 0), none, []⟩,
 ⟨some 4, .call (.const (.fn (.func 85) [] [])) [.tmp 3, .const (.int .i64 0), .const (.int .i64 2000)], none, []⟩,
 ⟨some 2, .move (.tmp 4), none, []⟩]
def k_glass_isHeat : AFun := { params := 1, ntmps := 5, body := (.seq (.reg k_glass_isHeat_r0 false) (.seq (.reg k_glass_isHeat_r1 false) .ret)), res := [.tmp 2] }
theorem k_glass_isHeat_ok : cfun Try.prog Try.f86 = k_glass_isHeat := by kernel_rfl

def k_glass_checkRange_r0 : List AOper := [
  ⟨some 2, .box (.tmp 0), none, []⟩,
 ⟨some 4, .move (.const (.int .i64 0)), none, []⟩]
def k_glass_checkRange_r1 : List AOper := [
  ⟨some 5, .fieldAddr 0 (.tmp 2), none, []⟩,
 ⟨some 6, .load none (.tmp 5), none, []⟩,
 ⟨some 7, .move (.tmp 1), none, []⟩,
 ⟨some 8, .call (.const (.fn (.func 85) [] [])) [.tmp 6, .const (.int .i64 0), .tmp 7], none, []⟩,
 ⟨some 9, .not (.tmp 8), none, []⟩,
 ⟨some 10, .move (.tmp 9), none, []⟩,
 ⟨some 11, .fieldAddr 1 (.tmp 2), (some (10, false)), []⟩,
 ⟨some 12, .load none (.tmp 11), (some (10, false)), []⟩,
 ⟨some 13, .move (.tmp 1), (some (10, false)), []⟩,
 ⟨some 14, .call (.const (.fn (.func 85) [] [])) [.tmp 12, .const (.int .i64 0), .tmp 13], (some (10, false)), []⟩,
 ⟨some 15, .not (.tmp 14), (some (10, false)), []⟩,
 ⟨some 16, .pick (.tmp 10) (.const (.bool true)) (.tmp 15), none, []⟩]
def k_glass_checkRange_r2 : List AOper := [
  ⟨some 4, .move (.const (.int .i64 2)), none, []⟩]
def k_glass_checkRange_r3 : List AOper := [
  ⟨some 17, .fieldAddr 0 (.tmp 2), none, []⟩,
 ⟨some 18, .load none (.tmp 17), none, []⟩,
 ⟨some 19, .fieldAddr 1 (.tmp 2), none, []⟩,
 ⟨some 20, .load none (.tmp 19), none, []⟩,
 ⟨some 21, .bin .plain .gtr (.tmp 18) (.tmp 20), none, []⟩]
def k_glass_checkRange_r4 : List AOper := [
  ⟨some 4, .move (.const (.int .i64 11)), none, []⟩]
def k_glass_checkRange_r5 : List AOper := [
  ⟨some 4, .move (.const (.int .i64 0)), none, []⟩]
def k_glass_checkRange : AFun := { params := 2, ntmps := 22, body := (.seq (.reg k_glass_checkRange_r0 false) (.seq (.seq (.reg k_glass_checkRange_r1 false) (.cond (.tmp 16) (.seq (.reg k_glass_checkRange_r2 false) .ret) .skip)) (.seq (.seq (.reg k_glass_checkRange_r3 false) (.cond (.tmp 21) (.seq (.reg k_glass_checkRange_r4 false) .ret) .skip)) (.seq (.reg k_glass_checkRange_r5 false) .ret)))), res := [.tmp 4] }
theorem k_glass_checkRange_ok : cfun Try.prog Try.f87 = k_glass_checkRange := by kernel_rfl

def k_glass_checkSeal_r0 : List AOper := [
  ⟨some 4, .box (.tmp 0), none, []⟩,
 ⟨some 5, .box (.tmp 1), none, []⟩,
 ⟨some 8, .move (.const (.int .i64 0)), none, []⟩]
def k_glass_checkSeal_r1 : List AOper := [
  ⟨some 11, .load (some (2)) (.tmp 4), none, []⟩,
 ⟨some 12, .call (.const (.fn (.func 30) [] [])) [.tmp 11], none, []⟩,
 ⟨some 9, .move (.tmp 12), none, []⟩]
def k_glass_checkSeal_r2 : List AOper := [
  ⟨some 13, .move (.tmp 9), none, []⟩,
 ⟨some 14, .bin .plain .neq (.tmp 13) (.const (.int .i64 0)), none, []⟩]
def k_glass_checkSeal_r3 : List AOper := [
  ⟨some 15, .move (.tmp 9), none, []⟩,
 ⟨some 8, .move (.tmp 15), none, []⟩]
def k_glass_checkSeal_r4 : List AOper := [
  ⟨some 16, .load (some (2)) (.tmp 5), none, []⟩,
 ⟨some 17, .call (.const (.fn (.func 30) [] [])) [.tmp 16], none, []⟩,
 ⟨some 10, .move (.tmp 17), none, []⟩]
def k_glass_checkSeal_r5 : List AOper := [
  ⟨some 18, .move (.tmp 10), none, []⟩,
 ⟨some 19, .bin .plain .neq (.tmp 18) (.const (.int .i64 0)), none, []⟩]
def k_glass_checkSeal_r6 : List AOper := [
  ⟨some 20, .move (.tmp 10), none, []⟩,
 ⟨some 8, .move (.tmp 20), none, []⟩]
def k_glass_checkSeal_r7 : List AOper := [
  ⟨some 21, .move (.tmp 2), none, []⟩,
 ⟨some 22, .call (.const (.fn (.func 86) [] [])) [.tmp 21], none, []⟩,
 ⟨some 23, .not (.tmp 22), none, []⟩,
 ⟨some 24, .move (.tmp 23), none, []⟩,
 ⟨some 25, .move (.tmp 3), (some (24, false)), []⟩,
 ⟨some 26, .call (.const (.fn (.func 86) [] [])) [.tmp 25], (some (24, false)), []⟩,
 ⟨some 27, .not (.tmp 26), (some (24, false)), []⟩,
 ⟨some 28, .pick (.tmp 24) (.const (.bool true)) (.tmp 27), none, []⟩]
def k_glass_checkSeal_r8 : List AOper := [
  ⟨some 8, .move (.const (.int .i64 2)), none, []⟩]
def k_glass_checkSeal_r9 : List AOper := [
  ⟨some 8, .move (.const (.int .i64 0)), none, []⟩]
def k_glass_checkSeal : AFun := { params := 4, ntmps := 29, body := (.seq (.reg k_glass_checkSeal_r0 false) (.seq (.seq (.reg k_glass_checkSeal_r1 false) (.seq (.reg k_glass_checkSeal_r2 false) (.cond (.tmp 14) (.seq (.reg k_glass_checkSeal_r3 false) .ret) .skip))) (.seq (.seq (.reg k_glass_checkSeal_r4 false) (.seq (.reg k_glass_checkSeal_r5 false) (.cond (.tmp 19) (.seq (.reg k_glass_checkSeal_r6 false) .ret) .skip))) (.seq (.seq (.reg k_glass_checkSeal_r7 false) (.cond (.tmp 28) (.seq (.reg k_glass_checkSeal_r8 false) .ret) .skip)) (.seq (.reg k_glass_checkSeal_r9 false) .ret))))), res := [.tmp 8] }
theorem k_glass_checkSeal_ok : cfun Try.prog Try.f92 = k_glass_checkSeal := by kernel_rfl

def k_glass_less_r0 : List AOper := [
  ⟨some 2, .box (.tmp 0), none, []⟩,
 ⟨some 3, .box (.tmp 1), none, []⟩,
 ⟨some 4, .box (.const (.agg [.int .i64 0, .int .i64 0])), none, []⟩]
def k_glass_less_r1 : List AOper := [
  ⟨some 5, .fieldAddr 0 (.tmp 2), none, []⟩,
 ⟨some 6, .load none (.tmp 5), none, []⟩,
 ⟨some 7, .fieldAddr 1 (.tmp 3), none, []⟩,
 ⟨some 8, .load none (.tmp 7), none, []⟩,
 ⟨some 9, .bin .plain .sub (.tmp 6) (.tmp 8), none, []⟩,
 ⟨some 10, .fieldAddr 1 (.tmp 2), none, []⟩,
 ⟨some 11, .load none (.tmp 10), none, []⟩,
 ⟨some 12, .fieldAddr 0 (.tmp 3), none, []⟩,
 ⟨some 13, .load none (.tmp 12), none, []⟩,
 ⟨some 14, .bin .plain .sub (.tmp 11) (.tmp 13), none, []⟩,
 ⟨some 15, .build [.int .i64 0, .int .i64 0] [(0, 1, .tmp 9), (1, 1, .tmp 14)], none, []⟩,
 ⟨none, .store 2 (.tmp 4) (.tmp 15), none, []⟩]
def k_glass_less : AFun := { params := 2, ntmps := 16, body := (.seq (.reg k_glass_less_r0 false) (.seq (.reg k_glass_less_r1 false) .ret)), res := [.cell 4 (some ((some (2))))] }
theorem k_glass_less_ok : cfun Try.prog Try.f93 = k_glass_less := by kernel_rfl

def k_glass_judge_glass_mismatch_r0 : List AOper := [
  ⟨some 2, .box (.const (.int .i64 0)), none, []⟩,
 ⟨some 3, .box (.const (.int .i64 0)), none, []⟩]
def k_glass_judge_glass_mismatch_r1 : List AOper := [
  ⟨none, .store 1 (.tmp 2) (.const (.int .i64 1)), none, []⟩]
def k_glass_judge_glass_mismatch_r2 : List AOper := [
  ⟨some 6, .move (.tmp 0), none, []⟩]
def k_glass_judge_glass_mismatch_r3 : List AOper := [
  ⟨some 4, .move (.tmp 7), none, []⟩]
def k_glass_judge_glass_mismatch_r4 : List AOper := [
  ⟨some 5, .box (.const (.agg [.int .i64 0, .int .i64 0, .int .i64 0])), none, []⟩,
 ⟨none, .store 3 (.tmp 5) (.tmp 8), none, []⟩]
def k_glass_judge_glass_mismatch_r5 : List AOper := [
  ⟨some 9, .load (some (3)) (.tmp 5), none, []⟩,
 ⟨some 10, .makeIface 121 (.tmp 9), none, []⟩,
 ⟨some 11, .callM [(121, 167), (136, 169)] (.tmp 10) [], none, []⟩]
def k_glass_judge_glass_mismatch_r6 : List AOper := [
  ⟨some 12, .move (.tmp 4), none, []⟩,
 ⟨none, .store 1 (.tmp 2) (.const (.int .i64 2)), none, []⟩,
 ⟨none, .store 1 (.tmp 3) (.tmp 12), none, []⟩]
def k_glass_judge_glass_mismatch_r7 : List AOper := [
  ⟨some 13, .load none (.tmp 2), none, []⟩,
 ⟨some 14, .bin .plain .eql (.tmp 13) (.const (.int .i64 1)), none, []⟩,
 ⟨some 15, .move (.tmp 14), none, []⟩,
 ⟨some 16, .load (some (3)) (.tmp 5), (some (15, true)), []⟩,
 ⟨some 17, .makeIface 121 (.tmp 16), (some (15, true)), []⟩,
 ⟨some 18, .callM [(121, 168), (136, 170)] (.tmp 17) [], (some (15, true)), []⟩,
 ⟨some 19, .not (.tmp 18), (some (15, true)), []⟩,
 ⟨some 20, .pick (.tmp 15) (.tmp 19) (.const (.bool false)), none, []⟩]
def k_glass_judge_glass_mismatch_r8 : List AOper := [
  ⟨some 21, .move (.tmp 4), none, []⟩,
 ⟨none, .store 1 (.tmp 2) (.const (.int .i64 3)), none, []⟩,
 ⟨none, .store 1 (.tmp 3) (.tmp 21), none, []⟩]
def k_glass_judge_glass_mismatch_r9 : ACode := (.seq (.reg k_glass_judge_glass_mismatch_r3 false) (.reg k_glass_judge_glass_mismatch_r4 false))
def k_glass_judge_glass_mismatch_r10 : ACode := (.block 1 (.seq (.seq (.reg k_glass_judge_glass_mismatch_r5 false) (.cond (.tmp 11) (.seq (.reg k_glass_judge_glass_mismatch_r6 false) .ret) .skip)) (.seq (.reg k_glass_judge_glass_mismatch_r7 false) (.cond (.tmp 20) (.reg k_glass_judge_glass_mismatch_r8 false) .skip))))
def k_glass_judge_glass_mismatch_r11 : List AOper := [
  ⟨some 22, .load none (.tmp 2), none, []⟩,
 ⟨some 23, .load none (.tmp 3), none, [0]⟩,
 ⟨none, .store 1 (.tmp 2) (.tmp 22), none, [1]⟩,
 ⟨none, .store 1 (.tmp 3) (.tmp 23), none, []⟩]
def k_glass_judge_glass_mismatch_r11s : List (List AOper) := [
  [
  ⟨some 22, .load none (.tmp 2), none, []⟩,
 ⟨some 23, .load none (.tmp 3), none, [0]⟩,
 ⟨none, .store 1 (.tmp 2) (.tmp 22), none, [1]⟩], 
  [
  ⟨none, .store 1 (.tmp 3) (.tmp 23), none, []⟩]]
theorem k_glass_judge_glass_mismatch_r11_sg : segs k_glass_judge_glass_mismatch_r11 = k_glass_judge_glass_mismatch_r11s := by kernel_rfl
theorem k_glass_judge_glass_mismatch_r11_st : statOK k_glass_judge_glass_mismatch_r11 = true := by kernel_rfl
def k_glass_judge_glass_mismatch : AFun := { params := 1, ntmps := 24, body := (.seq (.reg k_glass_judge_glass_mismatch_r0 false) (.seq (.reg k_glass_judge_glass_mismatch_r1 false) (.seq (.seq (.reg k_glass_judge_glass_mismatch_r2 false) (.block 0 (.rng (.tmp 6) [7, 8] k_glass_judge_glass_mismatch_r9 k_glass_judge_glass_mismatch_r10))) (.seq (.reg k_glass_judge_glass_mismatch_r11 true) .ret)))), res := [.cell 2 (some (none)), .cell 3 (some (none))] }
theorem k_glass_judge_glass_mismatch_ok : cfun Try.prog Try.f96 = k_glass_judge_glass_mismatch := by kernel_rfl

def k_glass_mismatches_r0 : List AOper := [
  ⟨some 4, .box (.tmp 0), none, []⟩,
 ⟨some 5, .box (.tmp 1), none, []⟩,
 ⟨some 6, .box (.tmp 2), none, []⟩,
 ⟨some 7, .box (.tmp 3), none, []⟩,
 ⟨some 8, .move (.const (.nilfn)), none, []⟩]
def k_glass_mismatches_r1 : List AOper := [
  ⟨some 9, .makeFunc (.func 132) [] [.tmp 4, .tmp 5, .tmp 6, .tmp 7], none, []⟩,
 ⟨some 8, .move (.tmp 9), none, []⟩]
def k_glass_mismatches : AFun := { params := 4, ntmps := 10, body := (.seq (.reg k_glass_mismatches_r0 false) (.seq (.reg k_glass_mismatches_r1 false) .ret)), res := [.tmp 8] }
theorem k_glass_mismatches_ok : cfun Try.prog Try.f97 = k_glass_mismatches := by kernel_rfl

def k_glass_checkHeated_r0 : List AOper := [
  ⟨some 2, .box (.tmp 0), none, []⟩,
 ⟨some 3, .box (.tmp 1), none, []⟩,
 ⟨some 4, .move (.const (.int .i64 0)), none, []⟩]
def k_glass_checkHeated_r1 : List AOper := [
  ⟨some 6, .load (some (3)) (.tmp 2), none, []⟩,
 ⟨some 7, .call (.const (.fn (.func 133) [] [])) [.tmp 6], none, []⟩,
 ⟨some 5, .move (.tmp 7), none, []⟩]
def k_glass_checkHeated_r2 : List AOper := [
  ⟨some 8, .move (.tmp 5), none, []⟩,
 ⟨some 9, .bin .plain .neq (.tmp 8) (.const (.int .i64 0)), none, []⟩]
def k_glass_checkHeated_r3 : List AOper := [
  ⟨some 10, .move (.tmp 5), none, []⟩,
 ⟨some 4, .move (.tmp 10), none, []⟩]
def k_glass_checkHeated_r4 : List AOper := [
  ⟨some 11, .load (some (2)) (.tmp 3), none, []⟩,
 ⟨some 12, .call (.const (.fn (.func 32) [] [])) [.tmp 11], none, []⟩,
 ⟨some 4, .move (.tmp 12), none, []⟩]
def k_glass_checkHeated : AFun := { params := 2, ntmps := 13, body := (.seq (.reg k_glass_checkHeated_r0 false) (.seq (.seq (.reg k_glass_checkHeated_r1 false) (.seq (.reg k_glass_checkHeated_r2 false) (.cond (.tmp 9) (.seq (.reg k_glass_checkHeated_r3 false) .ret) .skip))) (.seq (.reg k_glass_checkHeated_r4 false) .ret))), res := [.tmp 4] }
theorem k_glass_checkHeated_ok : cfun Try.prog Try.f100 = k_glass_checkHeated := by kernel_rfl

def k_glass_wall_strains_r0 : List AOper := [
  ⟨some 2, .box (.tmp 0), none, []⟩,
 ⟨some 3, .box (.tmp 1), none, []⟩,
 ⟨some 4, .move (.const (.nilfn)), none, []⟩]
def k_glass_wall_strains_r1 : List AOper := [
  ⟨some 5, .makeFunc (.func 134) [] [.tmp 3, .tmp 2], none, []⟩,
 ⟨some 4, .move (.tmp 5), none, []⟩]
def k_glass_wall_strains : AFun := { params := 2, ntmps := 6, body := (.seq (.reg k_glass_wall_strains_r0 false) (.seq (.reg k_glass_wall_strains_r1 false) .ret)), res := [.tmp 4] }
theorem k_glass_wall_strains_ok : cfun Try.prog Try.f101 = k_glass_wall_strains := by kernel_rfl

def k_glass_orders_r0 : List AOper := [
  ⟨some 2, .box (.tmp 0), none, []⟩,
 ⟨some 3, .box (.tmp 1), none, []⟩,
 ⟨some 4, .move (.const (.nilfn)), none, []⟩]
def k_glass_orders_r1 : List AOper := [
  ⟨some 5, .makeFunc (.func 141) [] [.tmp 2, .tmp 3], none, []⟩,
 ⟨some 4, .move (.tmp 5), none, []⟩]
def k_glass_orders : AFun := { params := 2, ntmps := 6, body := (.seq (.reg k_glass_orders_r0 false) (.seq (.reg k_glass_orders_r1 false) .ret)), res := [.tmp 4] }
theorem k_glass_orders_ok : cfun Try.prog Try.f109 = k_glass_orders := by kernel_rfl

def k_glass_anywhere_r0 : List AOper := [
  ⟨some 4, .move (.const (.bool false)), none, []⟩]
def k_glass_anywhere_r1 : List AOper := [
  ⟨some 4, .move (.const (.bool true)), none, []⟩]
def k_glass_anywhere : AFun := { params := 2, ntmps := 5, body := (.seq (.reg k_glass_anywhere_r0 false) (.seq (.reg k_glass_anywhere_r1 false) .ret)), res := [.tmp 4] }
theorem k_glass_anywhere_ok : cfun Try.prog Try.f110 = k_glass_anywhere := by kernel_rfl

def k_slices_Clone_int_int_r0 : List AOper := [
  ⟨some 2, .move (.const (.nilsl)), none, []⟩]
def k_slices_Clone_int_int_r1 : List AOper := [
  ⟨some 3, .move (.tmp 0), none, []⟩,
 ⟨some 4, .bin .slice .eql (.tmp 3) (.const (.nilsl)), none, []⟩]
def k_slices_Clone_int_int_r2 : List AOper := [
  ⟨some 2, .move (.const (.nilsl)), none, []⟩]
def k_slices_Clone_int_int_r3 : List AOper := [
  ⟨some 5, .buildSlice 1 [], none, []⟩,
 ⟨some 6, .move (.tmp 0), none, []⟩,
 ⟨some 7, .append 1 8 false (.tmp 5) (.tmp 6), none, []⟩,
 ⟨some 2, .move (.tmp 7), none, []⟩]
def k_slices_Clone_int_int : AFun := { params := 1, ntmps := 8, body := (.seq (.reg k_slices_Clone_int_int_r0 false) (.seq (.seq (.reg k_slices_Clone_int_int_r1 false) (.cond (.tmp 4) (.seq (.reg k_slices_Clone_int_int_r2 false) .ret) .skip)) (.seq (.reg k_slices_Clone_int_int_r3 false) .ret))), res := [.tmp 2] }
theorem k_slices_Clone_int_int_ok : cfun Try.prog Try.f111 = k_slices_Clone_int_int := by kernel_rfl

def k_glass_zoneOf_r0 : List AOper := [
  ⟨some 2, .box (.tmp 0), none, []⟩,
 ⟨some 4, .box (.const (.agg [.int .i64 0, .int .i64 0, .int .i64 0, .int .i64 0, .int .i64 0])), none, []⟩]
def k_glass_zoneOf_r1 : List AOper := [
  ⟨some 5, .box (.const (.agg [.int .i64 0, .int .i64 0, .int .i64 0, .int .i64 0, .int .i64 0])), none, []⟩]
def k_glass_zoneOf_r2 : List AOper := [
  ⟨some 8, .load (some (2)) (.tmp 2), none, []⟩,
 ⟨some 9, .move (.tmp 1), none, []⟩,
 ⟨some 10, .bin .plain .add (.tmp 9) (.const (.int .i64 1)), none, []⟩,
 ⟨some 11, .move (.tmp 1), none, []⟩,
 ⟨some 12, .call (.const (.fn (.func 129) [] [])) [.tmp 8, .tmp 10, .tmp 11], none, []⟩]
def k_glass_zoneOf_r3 : List AOper := [
  ⟨some 7, .box (.const (.agg [.int .i64 0, .int .i64 0, .int .i64 0, .int .i64 0, .int .i64 0])), none, []⟩,
 ⟨none, .store 5 (.tmp 7) (.tmp 14), none, []⟩]
def k_glass_zoneOf_r4 : List AOper := [
  ⟨some 15, .load (some (5)) (.tmp 7), none, []⟩,
 ⟨none, .store 5 (.tmp 5) (.tmp 15), none, []⟩]
def k_glass_zoneOf_r5 : ACode := (.reg k_glass_zoneOf_r3 false)
def k_glass_zoneOf_r6 : ACode := (.block 1 (.reg k_glass_zoneOf_r4 false))
def k_glass_zoneOf_r7 : List AOper := [
  ⟨some 16, .load (some (5)) (.tmp 5), none, []⟩,
 ⟨none, .store 5 (.tmp 4) (.tmp 16), none, []⟩]
def k_glass_zoneOf : AFun := { params := 2, ntmps := 17, body := (.seq (.reg k_glass_zoneOf_r0 false) (.seq (.reg k_glass_zoneOf_r1 false) (.seq (.seq (.reg k_glass_zoneOf_r2 false) (.block 0 (.rng (.tmp 12) [13, 14] k_glass_zoneOf_r5 k_glass_zoneOf_r6))) (.seq (.reg k_glass_zoneOf_r7 false) .ret)))), res := [.cell 4 (some ((some (5))))] }
theorem k_glass_zoneOf_ok : cfun Try.prog Try.f123 = k_glass_zoneOf := by kernel_rfl

def k_glass_leastLeft_r0 : List AOper := [
  ⟨some 3, .box (.tmp 1), none, []⟩,
 ⟨some 4, .move (.const (.int .i64 0)), none, []⟩]
def k_glass_leastLeft_r1 : List AOper := [
  ⟨some 5, .move (.tmp 0), none, []⟩,
 ⟨some 6, .move (.tmp 0), none, []⟩,
 ⟨some 7, .fieldAddr 3 (.tmp 3), none, []⟩,
 ⟨some 8, .fieldAddr 1 (.tmp 7), none, []⟩,
 ⟨some 9, .load none (.tmp 8), none, []⟩,
 ⟨some 10, .bin .plain .mul (.tmp 6) (.tmp 9), none, []⟩,
 ⟨some 11, .bin .plain .add (.tmp 10) (.const (.int .i64 1000000)), none, []⟩,
 ⟨some 12, .bin .plain .sub (.tmp 11) (.const (.int .i64 1)), none, []⟩,
 ⟨some 13, .bin .plain .quo (.tmp 12) (.const (.int .i64 1000000)), none, []⟩,
 ⟨some 14, .bin .plain .sub (.tmp 5) (.tmp 13), none, []⟩,
 ⟨some 4, .move (.tmp 14), none, []⟩]
def k_glass_leastLeft : AFun := { params := 2, ntmps := 15, body := (.seq (.reg k_glass_leastLeft_r0 false) (.seq (.reg k_glass_leastLeft_r1 false) .ret)), res := [.tmp 4] }
theorem k_glass_leastLeft_ok : cfun Try.prog Try.f125 = k_glass_leastLeft := by kernel_rfl

def k_glass_mostLeft_r0 : List AOper := [
  ⟨some 3, .box (.tmp 1), none, []⟩,
 ⟨some 4, .move (.const (.int .i64 0)), none, []⟩]
def k_glass_mostLeft_r1 : List AOper := [
  ⟨some 5, .move (.tmp 0), none, []⟩,
 ⟨some 6, .move (.tmp 0), none, []⟩,
 ⟨some 7, .fieldAddr 3 (.tmp 3), none, []⟩,
 ⟨some 8, .fieldAddr 0 (.tmp 7), none, []⟩,
 ⟨some 9, .load none (.tmp 8), none, []⟩,
 ⟨some 10, .bin .plain .mul (.tmp 6) (.tmp 9), none, []⟩,
 ⟨some 11, .bin .plain .quo (.tmp 10) (.const (.int .i64 1000000)), none, []⟩,
 ⟨some 12, .bin .plain .sub (.tmp 5) (.tmp 11), none, []⟩,
 ⟨some 4, .move (.tmp 12), none, []⟩]
def k_glass_mostLeft : AFun := { params := 2, ntmps := 13, body := (.seq (.reg k_glass_mostLeft_r0 false) (.seq (.reg k_glass_mostLeft_r1 false) .ret)), res := [.tmp 4] }
theorem k_glass_mostLeft_ok : cfun Try.prog Try.f126 = k_glass_mostLeft := by kernel_rfl

def k_glass_zonesDown_r0 : List AOper := [
  ⟨some 3, .box (.tmp 0), none, []⟩,
 ⟨some 4, .box (.tmp 1), none, []⟩,
 ⟨some 5, .box (.tmp 2), none, []⟩,
 ⟨some 6, .move (.const (.nilfn)), none, []⟩]
def k_glass_zonesDown_r1 : List AOper := [
  ⟨some 7, .makeFunc (.func 146) [] [.tmp 4, .tmp 3, .tmp 5], none, []⟩,
 ⟨some 6, .move (.tmp 7), none, []⟩]
def k_glass_zonesDown : AFun := { params := 3, ntmps := 8, body := (.seq (.reg k_glass_zonesDown_r0 false) (.seq (.reg k_glass_zonesDown_r1 false) .ret)), res := [.tmp 6] }
theorem k_glass_zonesDown_ok : cfun Try.prog Try.f129 = k_glass_zonesDown := by kernel_rfl

def k_glass_plus_r0 : List AOper := [
  ⟨some 2, .box (.tmp 0), none, []⟩,
 ⟨some 3, .box (.tmp 1), none, []⟩,
 ⟨some 4, .box (.const (.agg [.int .i64 0, .int .i64 0])), none, []⟩]
def k_glass_plus_r1 : List AOper := [
  ⟨some 5, .fieldAddr 0 (.tmp 2), none, []⟩,
 ⟨some 6, .load none (.tmp 5), none, []⟩,
 ⟨some 7, .fieldAddr 0 (.tmp 3), none, []⟩,
 ⟨some 8, .load none (.tmp 7), none, []⟩,
 ⟨some 9, .bin .plain .add (.tmp 6) (.tmp 8), none, []⟩,
 ⟨some 10, .fieldAddr 1 (.tmp 2), none, []⟩,
 ⟨some 11, .load none (.tmp 10), none, []⟩,
 ⟨some 12, .fieldAddr 1 (.tmp 3), none, []⟩,
 ⟨some 13, .load none (.tmp 12), none, []⟩,
 ⟨some 14, .bin .plain .add (.tmp 11) (.tmp 13), none, []⟩,
 ⟨some 15, .build [.int .i64 0, .int .i64 0] [(0, 1, .tmp 9), (1, 1, .tmp 14)], none, []⟩,
 ⟨none, .store 2 (.tmp 4) (.tmp 15), none, []⟩]
def k_glass_plus : AFun := { params := 2, ntmps := 16, body := (.seq (.reg k_glass_plus_r0 false) (.seq (.reg k_glass_plus_r1 false) .ret)), res := [.cell 4 (some ((some (2))))] }
theorem k_glass_plus_ok : cfun Try.prog Try.f130 = k_glass_plus := by kernel_rfl

def k_glass_mismatches_1_r0 : List AOper := [
  ⟨some 5, .box (.tmp 0), none, []⟩]
def k_glass_mismatches_1_r1 : List AOper := [
  ⟨some 9, .fieldAddr 0 (.tmp 1), none, []⟩,
 ⟨some 10, .load none (.tmp 9), none, []⟩,
 ⟨some 11, .fieldAddr 0 (.tmp 2), none, []⟩,
 ⟨some 12, .load none (.tmp 11), none, []⟩,
 ⟨some 13, .minmax false [.tmp 10, .tmp 12], none, []⟩,
 ⟨some 14, .build [.int .i64 0, .int .i64 0, .int .i64 0] [(2, 1, .tmp 13)], none, []⟩,
 ⟨some 6, .box (.const (.agg [.int .i64 0, .int .i64 0, .int .i64 0])), none, []⟩,
 ⟨none, .store 3 (.tmp 6) (.tmp 14), none, []⟩]
def k_glass_mismatches_1_r2 : List AOper := [
  ⟨some 15, .load none (.tmp 5), none, []⟩,
 ⟨some 16, .load none (.tmp 3), none, []⟩,
 ⟨some 17, .load (some (3)) (.tmp 6), none, []⟩,
 ⟨some 18, .call (.tmp 15) [.tmp 16, .tmp 17], none, []⟩,
 ⟨some 19, .not (.tmp 18), none, []⟩]
def k_glass_mismatches_1_r3 : List AOper := [
  ⟨some 20, .load (some (2)) (.tmp 1), none, []⟩,
 ⟨some 21, .load none (.tmp 3), none, []⟩,
 ⟨some 22, .load none (.tmp 4), none, []⟩,
 ⟨some 23, .call (.const (.fn (.func 129) [] [])) [.tmp 20, .tmp 21, .tmp 22], none, []⟩]
def k_glass_mismatches_1_r4 : List AOper := [
  ⟨some 7, .move (.tmp 24), none, []⟩]
def k_glass_mismatches_1_r5 : List AOper := [
  ⟨some 8, .box (.const (.agg [.int .i64 0, .int .i64 0, .int .i64 0, .int .i64 0, .int .i64 0])), none, []⟩,
 ⟨none, .store 5 (.tmp 8) (.tmp 25), none, []⟩]
def k_glass_mismatches_1_r6 : List AOper := [
  ⟨some 26, .fieldAddr 0 (.tmp 6), none, []⟩,
 ⟨some 27, .load (some (2)) (.tmp 26), none, []⟩,
 ⟨some 28, .load (some (2)) (.tmp 2), none, [0, 1]⟩,
 ⟨some 29, .move (.tmp 7), none, [0, 1, 2]⟩,
 ⟨some 30, .call (.const (.fn (.func 123) [] [])) [.tmp 28, .tmp 29], none, [0, 1]⟩,
 ⟨some 31, .field (some (2)) 1 (.tmp 30), none, [0, 1]⟩,
 ⟨some 32, .fieldAddr 1 (.tmp 8), none, [0, 1, 2, 3, 4, 5]⟩,
 ⟨some 33, .load (some (2)) (.tmp 32), none, [0, 1, 2, 3, 4, 5]⟩,
 ⟨some 34, .call (.const (.fn (.func 93) [] [])) [.tmp 31, .tmp 33], none, [0, 1]⟩,
 ⟨some 35, .call (.const (.fn (.func 130) [] [])) [.tmp 27, .tmp 34], none, []⟩,
 ⟨some 36, .fieldAddr 0 (.tmp 6), none, []⟩,
 ⟨none, .store 2 (.tmp 36) (.tmp 35), none, []⟩]
def k_glass_mismatches_1_r6s : List (List AOper) := [
  [
  ⟨some 26, .fieldAddr 0 (.tmp 6), none, []⟩,
 ⟨some 27, .load (some (2)) (.tmp 26), none, []⟩,
 ⟨some 28, .load (some (2)) (.tmp 2), none, [0, 1]⟩,
 ⟨some 29, .move (.tmp 7), none, [0, 1, 2]⟩,
 ⟨some 30, .call (.const (.fn (.func 123) [] [])) [.tmp 28, .tmp 29], none, [0, 1]⟩,
 ⟨some 31, .field (some (2)) 1 (.tmp 30), none, [0, 1]⟩,
 ⟨some 32, .fieldAddr 1 (.tmp 8), none, [0, 1, 2, 3, 4, 5]⟩,
 ⟨some 33, .load (some (2)) (.tmp 32), none, [0, 1, 2, 3, 4, 5]⟩,
 ⟨some 34, .call (.const (.fn (.func 93) [] [])) [.tmp 31, .tmp 33], none, [0, 1]⟩], 
  [
  ⟨some 35, .call (.const (.fn (.func 130) [] [])) [.tmp 27, .tmp 34], none, []⟩], 
  [
  ⟨some 36, .fieldAddr 0 (.tmp 6), none, []⟩], 
  [
  ⟨none, .store 2 (.tmp 36) (.tmp 35), none, []⟩]]
theorem k_glass_mismatches_1_r6_sg : segs k_glass_mismatches_1_r6 = k_glass_mismatches_1_r6s := by kernel_rfl
theorem k_glass_mismatches_1_r6_st : statOK k_glass_mismatches_1_r6 = true := by kernel_rfl
def k_glass_mismatches_1_r7 : List AOper := [
  ⟨some 37, .load none (.tmp 5), none, []⟩,
 ⟨some 38, .move (.tmp 7), none, []⟩,
 ⟨some 39, .load (some (3)) (.tmp 6), none, []⟩,
 ⟨some 40, .call (.tmp 37) [.tmp 38, .tmp 39], none, []⟩,
 ⟨some 41, .not (.tmp 40), none, []⟩]
def k_glass_mismatches_1_r8 : ACode := (.seq (.reg k_glass_mismatches_1_r4 false) (.reg k_glass_mismatches_1_r5 false))
def k_glass_mismatches_1_r9 : ACode := (.block 1 (.seq (.reg k_glass_mismatches_1_r6 true) (.seq (.reg k_glass_mismatches_1_r7 false) (.cond (.tmp 41) .ret .skip))))
def k_glass_mismatches_1 : AFun := { params := 5, ntmps := 42, body := (.seq (.reg k_glass_mismatches_1_r0 false) (.seq (.reg k_glass_mismatches_1_r1 false) (.seq (.seq (.reg k_glass_mismatches_1_r2 false) (.cond (.tmp 19) .ret .skip)) (.seq (.reg k_glass_mismatches_1_r3 false) (.block 0 (.rng (.tmp 23) [24, 25] k_glass_mismatches_1_r8 k_glass_mismatches_1_r9)))))), res := [] }
theorem k_glass_mismatches_1_ok : cfun Try.prog Try.f132 = k_glass_mismatches_1 := by kernel_rfl

def k_glass_wall_check_r0 : List AOper := [
  ⟨some 1, .box (.tmp 0), none, []⟩,
 ⟨some 2, .move (.const (.int .i64 0)), none, []⟩]
def k_glass_wall_check_r1 : List AOper := [
  ⟨some 4, .fieldAddr 0 (.tmp 1), none, []⟩,
 ⟨some 5, .load (some (2)) (.tmp 4), none, []⟩,
 ⟨some 6, .call (.const (.fn (.func 30) [] [])) [.tmp 5], none, []⟩,
 ⟨some 3, .move (.tmp 6), none, []⟩]
def k_glass_wall_check_r2 : List AOper := [
  ⟨some 7, .move (.tmp 3), none, []⟩,
 ⟨some 8, .bin .plain .neq (.tmp 7) (.const (.int .i64 0)), none, []⟩]
def k_glass_wall_check_r3 : List AOper := [
  ⟨some 9, .move (.tmp 3), none, []⟩,
 ⟨some 2, .move (.tmp 9), none, []⟩]
def k_glass_wall_check_r4 : List AOper := [
  ⟨some 10, .fieldAddr 2 (.tmp 1), none, []⟩,
 ⟨some 11, .load none (.tmp 10), none, []⟩,
 ⟨some 12, .call (.const (.fn (.func 85) [] [])) [.tmp 11, .const (.int .i64 1), .const (.int .i64 1000)], none, []⟩,
 ⟨some 13, .not (.tmp 12), none, []⟩]
def k_glass_wall_check_r5 : List AOper := [
  ⟨some 2, .move (.const (.int .i64 2)), none, []⟩]
def k_glass_wall_check_r6 : List AOper := [
  ⟨some 2, .move (.const (.int .i64 0)), none, []⟩]
def k_glass_wall_check : AFun := { params := 1, ntmps := 14, body := (.seq (.reg k_glass_wall_check_r0 false) (.seq (.seq (.reg k_glass_wall_check_r1 false) (.seq (.reg k_glass_wall_check_r2 false) (.cond (.tmp 8) (.seq (.reg k_glass_wall_check_r3 false) .ret) .skip))) (.seq (.seq (.reg k_glass_wall_check_r4 false) (.cond (.tmp 13) (.seq (.reg k_glass_wall_check_r5 false) .ret) .skip)) (.seq (.reg k_glass_wall_check_r6 false) .ret)))), res := [.tmp 2] }
theorem k_glass_wall_check_ok : cfun Try.prog Try.f133 = k_glass_wall_check := by kernel_rfl

def k_glass_wall_strains_1_r0 : List AOper := [
  ⟨some 3, .box (.tmp 0), none, []⟩]
def k_glass_wall_strains_1_r1 : List AOper := [
  ⟨some 4, .box (.const (.agg [.int .i64 0, .int .i64 0])), none, []⟩]
def k_glass_wall_strains_1_r2 : List AOper := [
  ⟨some 7, .load (some (2)) (.tmp 1), none, []⟩,
 ⟨some 8, .call (.const (.fn (.func 135) [] [])) [.tmp 7], none, []⟩]
def k_glass_wall_strains_1_r3 : List AOper := [
  ⟨some 5, .box (.const (.agg [.int .i64 0, .int .i64 0, .int .i64 0])), none, []⟩,
 ⟨none, .store 3 (.tmp 5) (.tmp 9), none, []⟩]
def k_glass_wall_strains_1_r4 : List AOper := [
  ⟨some 10, .fieldAddr 0 (.tmp 2), none, []⟩,
 ⟨some 11, .load (some (2)) (.tmp 10), none, []⟩,
 ⟨some 12, .fieldAddr 2 (.tmp 5), none, []⟩,
 ⟨some 13, .load none (.tmp 12), none, []⟩,
 ⟨some 14, .call (.const (.fn (.func 123) [] [])) [.tmp 11, .tmp 13], none, []⟩,
 ⟨some 6, .box (.const (.agg [.int .i64 0, .int .i64 0, .int .i64 0, .int .i64 0, .int .i64 0])), none, []⟩,
 ⟨none, .store 5 (.tmp 6) (.tmp 14), none, []⟩]
def k_glass_wall_strains_1_r5 : List AOper := [
  ⟨some 15, .load (some (2)) (.tmp 4), none, []⟩,
 ⟨some 16, .load (some (5)) (.tmp 6), none, [0]⟩,
 ⟨some 17, .call (.const (.fn (.func 137) [] [])) [.tmp 15, .tmp 16], none, []⟩,
 ⟨some 18, .load (some (3)) (.tmp 2), none, [0, 1, 2]⟩,
 ⟨some 19, .load (some (3)) (.tmp 5), none, [0, 1, 2, 3]⟩,
 ⟨some 20, .load (some (5)) (.tmp 6), none, [0, 1, 2, 3, 4]⟩,
 ⟨some 21, .call (.const (.fn (.func 138) [] [])) [.tmp 18, .tmp 19, .tmp 20], none, []⟩,
 ⟨some 22, .call (.const (.fn (.func 130) [] [])) [.tmp 17, .tmp 21], none, []⟩,
 ⟨some 23, .call (.const (.fn (.func 136) [] [])) [.tmp 22], none, []⟩,
 ⟨none, .store 2 (.tmp 4) (.tmp 23), none, []⟩]
def k_glass_wall_strains_1_r5s : List (List AOper) := [
  [
  ⟨some 15, .load (some (2)) (.tmp 4), none, []⟩,
 ⟨some 16, .load (some (5)) (.tmp 6), none, [0]⟩,
 ⟨some 17, .call (.const (.fn (.func 137) [] [])) [.tmp 15, .tmp 16], none, []⟩,
 ⟨some 18, .load (some (3)) (.tmp 2), none, [0, 1, 2]⟩,
 ⟨some 19, .load (some (3)) (.tmp 5), none, [0, 1, 2, 3]⟩,
 ⟨some 20, .load (some (5)) (.tmp 6), none, [0, 1, 2, 3, 4]⟩], 
  [
  ⟨some 21, .call (.const (.fn (.func 138) [] [])) [.tmp 18, .tmp 19, .tmp 20], none, []⟩], 
  [
  ⟨some 22, .call (.const (.fn (.func 130) [] [])) [.tmp 17, .tmp 21], none, []⟩], 
  [
  ⟨some 23, .call (.const (.fn (.func 136) [] [])) [.tmp 22], none, []⟩], 
  [
  ⟨none, .store 2 (.tmp 4) (.tmp 23), none, []⟩]]
theorem k_glass_wall_strains_1_r5_sg : segs k_glass_wall_strains_1_r5 = k_glass_wall_strains_1_r5s := by kernel_rfl
theorem k_glass_wall_strains_1_r5_st : statOK k_glass_wall_strains_1_r5 = true := by kernel_rfl
def k_glass_wall_strains_1_r6 : List AOper := [
  ⟨some 24, .load none (.tmp 3), none, []⟩,
 ⟨some 25, .fieldAddr 0 (.tmp 5), none, []⟩,
 ⟨some 26, .load none (.tmp 25), none, []⟩,
 ⟨some 27, .load (some (2)) (.tmp 4), none, []⟩,
 ⟨some 28, .call (.tmp 24) [.tmp 26, .tmp 27], none, []⟩,
 ⟨some 29, .not (.tmp 28), none, []⟩]
def k_glass_wall_strains_1_r7 : ACode := (.reg k_glass_wall_strains_1_r3 false)
def k_glass_wall_strains_1_r8 : ACode := (.block 1 (.seq (.reg k_glass_wall_strains_1_r4 false) (.seq (.reg k_glass_wall_strains_1_r5 true) (.seq (.reg k_glass_wall_strains_1_r6 false) (.cond (.tmp 29) .ret .skip)))))
def k_glass_wall_strains_1 : AFun := { params := 3, ntmps := 30, body := (.seq (.reg k_glass_wall_strains_1_r0 false) (.seq (.reg k_glass_wall_strains_1_r1 false) (.seq (.reg k_glass_wall_strains_1_r2 false) (.block 0 (.rng (.tmp 8) [9] k_glass_wall_strains_1_r7 k_glass_wall_strains_1_r8))))), res := [] }
theorem k_glass_wall_strains_1_ok : cfun Try.prog Try.f134 = k_glass_wall_strains_1 := by kernel_rfl

def k_glass_ticks_r0 : List AOper := [
  ⟨some 1, .box (.tmp 0), none, []⟩,
 ⟨some 2, .move (.const (.nilfn)), none, []⟩]
def k_glass_ticks_r1 : List AOper := [
  ⟨some 3, .makeFunc (.func 148) [] [.tmp 1], none, []⟩,
 ⟨some 2, .move (.tmp 3), none, []⟩]
def k_glass_ticks : AFun := { params := 1, ntmps := 4, body := (.seq (.reg k_glass_ticks_r0 false) (.seq (.reg k_glass_ticks_r1 false) .ret)), res := [.tmp 2] }
theorem k_glass_ticks_ok : cfun Try.prog Try.f135 = k_glass_ticks := by kernel_rfl

def k_glass_capped_r0 : List AOper := [
  ⟨some 1, .box (.tmp 0), none, []⟩,
 ⟨some 2, .box (.const (.agg [.int .i64 0, .int .i64 0])), none, []⟩]
def k_glass_capped_r1 : List AOper := [
  ⟨some 3, .fieldAddr 0 (.tmp 1), none, []⟩,
 ⟨some 4, .load none (.tmp 3), none, []⟩,
 ⟨some 5, .minmax false [.tmp 4, .const (.int .i64 1099511627776)], none, []⟩,
 ⟨some 6, .fieldAddr 1 (.tmp 1), none, []⟩,
 ⟨some 7, .load none (.tmp 6), none, []⟩,
 ⟨some 8, .minmax false [.tmp 7, .const (.int .i64 1099511627776)], none, []⟩,
 ⟨some 9, .build [.int .i64 0, .int .i64 0] [(0, 1, .tmp 5), (1, 1, .tmp 8)], none, []⟩,
 ⟨none, .store 2 (.tmp 2) (.tmp 9), none, []⟩]
def k_glass_capped : AFun := { params := 1, ntmps := 10, body := (.seq (.reg k_glass_capped_r0 false) (.seq (.reg k_glass_capped_r1 false) .ret)), res := [.cell 2 (some ((some (2))))] }
theorem k_glass_capped_ok : cfun Try.prog Try.f136 = k_glass_capped := by kernel_rfl

def k_glass_relaxed_r0 : List AOper := [
  ⟨some 2, .box (.tmp 0), none, []⟩,
 ⟨some 3, .box (.tmp 1), none, []⟩,
 ⟨some 4, .box (.const (.agg [.int .i64 0, .int .i64 0])), none, []⟩]
def k_glass_relaxed_r1 : List AOper := [
  ⟨some 5, .fieldAddr 0 (.tmp 2), none, []⟩,
 ⟨some 6, .load none (.tmp 5), none, []⟩,
 ⟨some 7, .load (some (5)) (.tmp 3), none, [0, 1]⟩,
 ⟨some 8, .call (.const (.fn (.func 125) [] [])) [.tmp 6, .tmp 7], none, []⟩,
 ⟨some 9, .fieldAddr 1 (.tmp 2), none, [0, 1, 2, 3]⟩,
 ⟨some 10, .load none (.tmp 9), none, [0, 1, 2, 3]⟩,
 ⟨some 11, .load (some (5)) (.tmp 3), none, [0, 1, 2, 3, 4, 5]⟩,
 ⟨some 12, .call (.const (.fn (.func 126) [] [])) [.tmp 10, .tmp 11], none, []⟩,
 ⟨some 13, .build [.int .i64 0, .int .i64 0] [(0, 1, .tmp 8), (1, 1, .tmp 12)], none, []⟩,
 ⟨none, .store 2 (.tmp 4) (.tmp 13), none, []⟩]
def k_glass_relaxed_r1s : List (List AOper) := [
  [
  ⟨some 5, .fieldAddr 0 (.tmp 2), none, []⟩,
 ⟨some 6, .load none (.tmp 5), none, []⟩,
 ⟨some 7, .load (some (5)) (.tmp 3), none, [0, 1]⟩,
 ⟨some 8, .call (.const (.fn (.func 125) [] [])) [.tmp 6, .tmp 7], none, []⟩,
 ⟨some 9, .fieldAddr 1 (.tmp 2), none, [0, 1, 2, 3]⟩,
 ⟨some 10, .load none (.tmp 9), none, [0, 1, 2, 3]⟩,
 ⟨some 11, .load (some (5)) (.tmp 3), none, [0, 1, 2, 3, 4, 5]⟩], 
  [
  ⟨some 12, .call (.const (.fn (.func 126) [] [])) [.tmp 10, .tmp 11], none, []⟩], 
  [
  ⟨some 13, .build [.int .i64 0, .int .i64 0] [(0, 1, .tmp 8), (1, 1, .tmp 12)], none, []⟩], 
  [
  ⟨none, .store 2 (.tmp 4) (.tmp 13), none, []⟩]]
theorem k_glass_relaxed_r1_sg : segs k_glass_relaxed_r1 = k_glass_relaxed_r1s := by kernel_rfl
theorem k_glass_relaxed_r1_st : statOK k_glass_relaxed_r1 = true := by kernel_rfl
def k_glass_relaxed : AFun := { params := 2, ntmps := 14, body := (.seq (.reg k_glass_relaxed_r0 false) (.seq (.reg k_glass_relaxed_r1 true) .ret)), res := [.cell 4 (some ((some (2))))] }
theorem k_glass_relaxed_ok : cfun Try.prog Try.f137 = k_glass_relaxed := by kernel_rfl

def k_glass_wall_added_r0 : List AOper := [
  ⟨some 3, .box (.tmp 0), none, []⟩,
 ⟨some 4, .box (.tmp 1), none, []⟩,
 ⟨some 5, .box (.tmp 2), none, []⟩,
 ⟨some 6, .box (.const (.agg [.int .i64 0, .int .i64 0])), none, []⟩]
def k_glass_wall_added_r1 : List AOper := [
  ⟨some 8, .fieldAddr 1 (.tmp 4), none, []⟩,
 ⟨some 9, .load none (.tmp 8), none, []⟩,
 ⟨some 10, .fieldAddr 2 (.tmp 4), none, []⟩,
 ⟨some 11, .load none (.tmp 10), none, []⟩,
 ⟨some 12, .bin .plain .sub (.tmp 9) (.tmp 11), none, []⟩,
 ⟨some 13, .fieldAddr 2 (.tmp 4), none, []⟩,
 ⟨some 14, .load none (.tmp 13), none, []⟩,
 ⟨some 15, .fieldAddr 1 (.tmp 4), none, []⟩,
 ⟨some 16, .load none (.tmp 15), none, []⟩,
 ⟨some 17, .bin .plain .sub (.tmp 14) (.tmp 16), none, []⟩,
 ⟨some 18, .minmax true [.tmp 12, .tmp 17], none, []⟩,
 ⟨some 19, .fieldAddr 2 (.tmp 3), none, []⟩,
 ⟨some 20, .load none (.tmp 19), none, []⟩,
 ⟨some 21, .bin .plain .mul (.tmp 18) (.tmp 20), none, []⟩,
 ⟨some 7, .move (.tmp 21), none, []⟩]
def k_glass_wall_added_r2 : List AOper := [
  ⟨some 22, .move (.tmp 7), none, []⟩,
 ⟨some 23, .fieldAddr 1 (.tmp 5), none, []⟩,
 ⟨some 24, .fieldAddr 0 (.tmp 23), none, []⟩,
 ⟨some 25, .load none (.tmp 24), none, []⟩,
 ⟨some 26, .bin .plain .mul (.tmp 22) (.tmp 25), none, []⟩,
 ⟨some 27, .bin .plain .quo (.tmp 26) (.const (.int .i64 100)), none, []⟩,
 ⟨some 28, .move (.tmp 7), none, []⟩,
 ⟨some 29, .fieldAddr 1 (.tmp 5), none, []⟩,
 ⟨some 30, .fieldAddr 1 (.tmp 29), none, []⟩,
 ⟨some 31, .load none (.tmp 30), none, []⟩,
 ⟨some 32, .bin .plain .mul (.tmp 28) (.tmp 31), none, []⟩,
 ⟨some 33, .bin .plain .add (.tmp 32) (.const (.int .i64 99)), none, []⟩,
 ⟨some 34, .bin .plain .quo (.tmp 33) (.const (.int .i64 100)), none, []⟩,
 ⟨some 35, .build [.int .i64 0, .int .i64 0] [(0, 1, .tmp 27), (1, 1, .tmp 34)], none, []⟩,
 ⟨none, .store 2 (.tmp 6) (.tmp 35), none, []⟩]
def k_glass_wall_added : AFun := { params := 3, ntmps := 36, body := (.seq (.reg k_glass_wall_added_r0 false) (.seq (.reg k_glass_wall_added_r1 false) (.seq (.reg k_glass_wall_added_r2 false) .ret))), res := [.cell 6 (some ((some (2))))] }
theorem k_glass_wall_added_ok : cfun Try.prog Try.f138 = k_glass_wall_added := by kernel_rfl

def k_glass_orders_1_r0 : List AOper := [
  ⟨some 3, .box (.tmp 0), none, []⟩]
def k_glass_orders_1_r1 : List AOper := [
  ⟨some 4, .box (.const (.nilsl)), none, []⟩]
def k_glass_orders_1_r2 : List AOper := [
  ⟨some 5, .box (.const (.nilfn)), none, []⟩]
def k_glass_orders_1_r3 : List AOper := [
  ⟨some 6, .makeFunc (.func 142) [] [.tmp 4, .tmp 1, .tmp 3, .tmp 2, .tmp 5], none, []⟩,
 ⟨none, .store 1 (.tmp 5) (.tmp 6), none, []⟩]
def k_glass_orders_1_r4 : List AOper := [
  ⟨some 7, .load none (.tmp 5), none, []⟩,
 ⟨some 8, .call (.tmp 7) [.const (.int .i64 0), .const (.int .i64 2000)], none, []⟩]
def k_glass_orders_1 : AFun := { params := 3, ntmps := 9, body := (.seq (.reg k_glass_orders_1_r0 false) (.seq (.reg k_glass_orders_1_r1 false) (.seq (.reg k_glass_orders_1_r2 false) (.seq (.reg k_glass_orders_1_r3 false) (.reg k_glass_orders_1_r4 false))))), res := [] }
theorem k_glass_orders_1_ok : cfun Try.prog Try.f141 = k_glass_orders_1 := by kernel_rfl

def k_glass_orders_1_1_r0 : List AOper := [
  ⟨some 9, .move (.const (.bool false)), none, []⟩]
def k_glass_orders_1_1_r1 : List AOper := [
  ⟨some 14, .load none (.tmp 2), none, []⟩,
 ⟨some 15, .len false (.tmp 14), none, []⟩,
 ⟨some 16, .load none (.tmp 3), none, []⟩,
 ⟨some 17, .len false (.tmp 16), none, []⟩,
 ⟨some 18, .bin .plain .eql (.tmp 15) (.tmp 17), none, []⟩]
def k_glass_orders_1_1_r2 : List AOper := [
  ⟨some 19, .load none (.tmp 4), none, []⟩,
 ⟨some 20, .load none (.tmp 2), none, []⟩,
 ⟨some 21, .call (.tmp 19) [.tmp 20], none, []⟩,
 ⟨some 9, .move (.tmp 21), none, []⟩]
def k_glass_orders_1_1_r3 : List AOper := [
  ⟨some 22, .load none (.tmp 3), none, []⟩,
 ⟨some 23, .len false (.tmp 22), none, []⟩,
 ⟨some 24, .move (.const (.int .i64 0)), none, []⟩]
def k_glass_orders_1_1_r4 : List AOper := [
  ⟨some 25, .bin .plain .lss (.tmp 24) (.tmp 23), none, []⟩]
def k_glass_orders_1_1_r5 : List AOper := [
  ⟨some 26, .move (.tmp 24), none, []⟩,
 ⟨some 27, .indexAddr 3 (.tmp 22) (.tmp 24), none, []⟩,
 ⟨some 28, .load (some (3)) (.tmp 27), none, []⟩,
 ⟨some 11, .box (.const (.agg [.int .i64 0, .int .i64 0, .nilsl])), none, []⟩,
 ⟨some 10, .move (.tmp 26), none, []⟩,
 ⟨none, .store 3 (.tmp 11) (.tmp 28), none, []⟩]
def k_glass_orders_1_1_r6 : List AOper := [
  ⟨some 29, .move (.tmp 0), none, []⟩,
 ⟨some 30, .move (.tmp 10), none, []⟩,
 ⟨some 31, .bin .plain .shr (.tmp 29) (.tmp 30), none, []⟩,
 ⟨some 32, .bin .plain .and (.tmp 31) (.const (.int .i64 1)), none, []⟩,
 ⟨some 33, .bin .plain .neq (.tmp 32) (.const (.int .i64 0)), none, []⟩,
 ⟨some 34, .move (.tmp 33), none, []⟩,
 ⟨some 35, .fieldAddr 0 (.tmp 11), (some (34, false)), []⟩,
 ⟨some 36, .load none (.tmp 35), (some (34, false)), []⟩,
 ⟨some 37, .move (.tmp 1), (some (34, false)), []⟩,
 ⟨some 38, .bin .plain .gtr (.tmp 36) (.tmp 37), (some (34, false)), []⟩,
 ⟨some 39, .pick (.tmp 34) (.const (.bool true)) (.tmp 38), none, []⟩,
 ⟨some 40, .move (.tmp 39), none, []⟩,
 ⟨some 41, .load none (.tmp 5), (some (40, false)), []⟩,
 ⟨some 42, .load none (.tmp 2), (some (40, false)), []⟩,
 ⟨some 43, .len false (.tmp 42), (some (40, false)), []⟩,
 ⟨some 44, .move (.tmp 10), (some (40, false)), []⟩,
 ⟨some 45, .call (.tmp 41) [.tmp 43, .tmp 44], (some (40, false)), []⟩,
 ⟨some 46, .not (.tmp 45), (some (40, false)), []⟩,
 ⟨some 47, .pick (.tmp 40) (.const (.bool true)) (.tmp 46), none, []⟩]
def k_glass_orders_1_1_r7 : List AOper := [
  ⟨some 48, .fieldAddr 2 (.tmp 11), none, []⟩,
 ⟨some 49, .load none (.tmp 48), none, []⟩,
 ⟨some 50, .len false (.tmp 49), none, []⟩,
 ⟨some 51, .move (.const (.int .i64 0)), none, []⟩]
def k_glass_orders_1_1_r8 : List AOper := [
  ⟨some 52, .bin .plain .lss (.tmp 51) (.tmp 50), none, []⟩]
def k_glass_orders_1_1_r9 : List AOper := [
  ⟨some 53, .indexAddr 1 (.tmp 49) (.tmp 51), none, []⟩,
 ⟨some 54, .load none (.tmp 53), none, []⟩,
 ⟨some 13, .move (.tmp 54), none, []⟩]
def k_glass_orders_1_1_r10 : List AOper := [
  ⟨some 55, .move (.tmp 0), none, []⟩,
 ⟨some 56, .move (.tmp 13), none, []⟩,
 ⟨some 57, .bin .plain .shr (.tmp 55) (.tmp 56), none, []⟩,
 ⟨some 58, .bin .plain .and (.tmp 57) (.const (.int .i64 1)), none, []⟩,
 ⟨some 59, .bin .plain .eql (.tmp 58) (.const (.int .i64 0)), none, []⟩]
def k_glass_orders_1_1_r11 : List AOper := [
  ⟨some 60, .bin .plain .add (.tmp 51) (.const (.int .i64 1)), none, []⟩,
 ⟨some 51, .move (.tmp 60), none, []⟩]
def k_glass_orders_1_1_r12 : ACode := (.seq (.reg k_glass_orders_1_1_r8 false) (.seq (.cond (.tmp 52) .skip (.exit 2)) (.seq (.block 3 (.seq (.reg k_glass_orders_1_1_r9 false) (.seq (.reg k_glass_orders_1_1_r10 false) (.cond (.tmp 59) (.exit 1) .skip)))) (.reg k_glass_orders_1_1_r11 false))))
def k_glass_orders_1_1_r13 : List AOper := [
  ⟨some 61, .load none (.tmp 2), none, []⟩,
 ⟨some 62, .move (.tmp 10), none, []⟩,
 ⟨some 63, .buildSlice 1 [.tmp 62], none, []⟩,
 ⟨some 64, .append 1 8 false (.tmp 61) (.tmp 63), none, []⟩,
 ⟨none, .store 1 (.tmp 2) (.tmp 64), none, []⟩]
def k_glass_orders_1_1_r14 : List AOper := [
  ⟨some 65, .load none (.tmp 6), none, []⟩,
 ⟨some 66, .move (.tmp 0), none, [0]⟩,
 ⟨some 67, .move (.tmp 10), none, [0, 1]⟩,
 ⟨some 68, .bin .plain .shl (.const (.int .i64 1)) (.tmp 67), none, [0, 1]⟩,
 ⟨some 69, .bin .plain .or (.tmp 66) (.tmp 68), none, [0]⟩,
 ⟨some 70, .move (.tmp 1), none, [0, 1, 2, 3, 4]⟩,
 ⟨some 71, .fieldAddr 1 (.tmp 11), none, [0, 1, 2, 3, 4, 5]⟩,
 ⟨some 72, .load none (.tmp 71), none, [0, 1, 2, 3, 4, 5]⟩,
 ⟨some 73, .minmax false [.tmp 70, .tmp 72], none, [0, 1, 2, 3, 4]⟩,
 ⟨some 74, .call (.tmp 65) [.tmp 69, .tmp 73], none, []⟩,
 ⟨some 75, .not (.tmp 74), none, []⟩]
def k_glass_orders_1_1_r14s : List (List AOper) := [
  [
  ⟨some 65, .load none (.tmp 6), none, []⟩,
 ⟨some 66, .move (.tmp 0), none, [0]⟩,
 ⟨some 67, .move (.tmp 10), none, [0, 1]⟩,
 ⟨some 68, .bin .plain .shl (.const (.int .i64 1)) (.tmp 67), none, [0, 1]⟩,
 ⟨some 69, .bin .plain .or (.tmp 66) (.tmp 68), none, [0]⟩,
 ⟨some 70, .move (.tmp 1), none, [0, 1, 2, 3, 4]⟩,
 ⟨some 71, .fieldAddr 1 (.tmp 11), none, [0, 1, 2, 3, 4, 5]⟩,
 ⟨some 72, .load none (.tmp 71), none, [0, 1, 2, 3, 4, 5]⟩,
 ⟨some 73, .minmax false [.tmp 70, .tmp 72], none, [0, 1, 2, 3, 4]⟩], 
  [
  ⟨some 74, .call (.tmp 65) [.tmp 69, .tmp 73], none, []⟩], 
  [
  ⟨some 75, .not (.tmp 74), none, []⟩]]
theorem k_glass_orders_1_1_r14_sg : segs k_glass_orders_1_1_r14 = k_glass_orders_1_1_r14s := by kernel_rfl
theorem k_glass_orders_1_1_r14_st : statOK k_glass_orders_1_1_r14 = true := by kernel_rfl
def k_glass_orders_1_1_r15 : List AOper := [
  ⟨some 9, .move (.const (.bool false)), none, []⟩]
def k_glass_orders_1_1_r16 : List AOper := [
  ⟨some 76, .load none (.tmp 2), none, []⟩,
 ⟨some 77, .load none (.tmp 2), none, []⟩,
 ⟨some 78, .len false (.tmp 77), none, []⟩,
 ⟨some 79, .bin .plain .sub (.tmp 78) (.const (.int .i64 1)), none, []⟩,
 ⟨some 80, .slice false 1 (.tmp 76) none (some (.tmp 79)), none, []⟩,
 ⟨none, .store 1 (.tmp 2) (.tmp 80), none, []⟩]
def k_glass_orders_1_1_r17 : List AOper := [
  ⟨some 81, .bin .plain .add (.tmp 24) (.const (.int .i64 1)), none, []⟩,
 ⟨some 24, .move (.tmp 81), none, []⟩]
def k_glass_orders_1_1_r18 : ACode := (.seq (.reg k_glass_orders_1_1_r4 false) (.seq (.cond (.tmp 25) .skip (.exit 0)) (.seq (.block 1 (.seq (.reg k_glass_orders_1_1_r5 false) (.seq (.seq (.reg k_glass_orders_1_1_r6 false) (.cond (.tmp 47) (.exit 1) .skip)) (.seq (.seq (.reg k_glass_orders_1_1_r7 false) (.block 2 (.loop k_glass_orders_1_1_r12))) (.seq (.reg k_glass_orders_1_1_r13 false) (.seq (.seq (.reg k_glass_orders_1_1_r14 true) (.cond (.tmp 75) (.seq (.reg k_glass_orders_1_1_r15 false) .ret) .skip)) (.reg k_glass_orders_1_1_r16 false))))))) (.reg k_glass_orders_1_1_r17 false))))
def k_glass_orders_1_1_r19 : List AOper := [
  ⟨some 9, .move (.const (.bool true)), none, []⟩]
def k_glass_orders_1_1 : AFun := { params := 7, ntmps := 82, body := (.seq (.reg k_glass_orders_1_1_r0 false) (.scope (.seq (.seq (.reg k_glass_orders_1_1_r1 false) (.cond (.tmp 18) (.seq (.reg k_glass_orders_1_1_r2 false) .ret) .skip)) (.seq (.label 0) (.seq (.seq (.reg k_glass_orders_1_1_r3 false) (.block 0 (.loop k_glass_orders_1_1_r18))) (.seq (.reg k_glass_orders_1_1_r19 false) .ret)))))), res := [.tmp 9] }
theorem k_glass_orders_1_1_ok : cfun Try.prog Try.f142 = k_glass_orders_1_1 := by kernel_rfl

def k_glass_zonesDown_1_r0 : List AOper := [
  ⟨some 4, .box (.tmp 0), none, []⟩]
def k_glass_zonesDown_1_r1 : List AOper := [
  ⟨some 8, .load none (.tmp 1), none, []⟩,
 ⟨some 9, .bin .plain .sub (.tmp 8) (.const (.int .i64 1)), none, []⟩,
 ⟨some 5, .box (.const (.int .i64 0)), none, []⟩,
 ⟨none, .store 1 (.tmp 5) (.tmp 9), none, []⟩]
def k_glass_zonesDown_1_r2 : List AOper := [
  ⟨some 10, .fieldAddr 1 (.tmp 2), none, []⟩,
 ⟨some 11, .load none (.tmp 10), none, []⟩,
 ⟨some 12, .call (.const (.fn (.func 147) [] [])) [.tmp 11], none, []⟩]
def k_glass_zonesDown_1_r3 : List AOper := [
  ⟨some 7, .box (.const (.agg [.int .i64 0, .int .i64 0, .int .i64 0, .int .i64 0, .int .i64 0])), none, []⟩,
 ⟨none, .store 5 (.tmp 7) (.tmp 14), none, []⟩]
def k_glass_zonesDown_1_r4 : List AOper := [
  ⟨some 15, .load none (.tmp 5), none, []⟩,
 ⟨some 16, .fieldAddr 0 (.tmp 7), none, []⟩,
 ⟨some 17, .load none (.tmp 16), none, []⟩,
 ⟨some 18, .load none (.tmp 3), none, []⟩,
 ⟨some 19, .minmax true [.tmp 17, .tmp 18], none, []⟩,
 ⟨some 20, .bin .plain .geq (.tmp 15) (.tmp 19), none, []⟩]
def k_glass_zonesDown_1_r5 : List AOper := [
  ⟨some 23, .load none (.tmp 4), none, []⟩,
 ⟨some 24, .load none (.tmp 5), none, []⟩,
 ⟨some 25, .load (some (5)) (.tmp 7), none, []⟩,
 ⟨some 26, .call (.tmp 23) [.tmp 24, .tmp 25], none, []⟩,
 ⟨some 27, .not (.tmp 26), none, []⟩]
def k_glass_zonesDown_1_r6 : List AOper := [
  ⟨some 21, .load none (.tmp 5), none, []⟩,
 ⟨some 22, .bin .plain .sub (.tmp 21) (.const (.int .i64 1)), none, []⟩,
 ⟨none, .store 1 (.tmp 5) (.tmp 22), none, []⟩]
def k_glass_zonesDown_1_r7 : ACode := (.seq (.seq (.reg k_glass_zonesDown_1_r4 false) (.cond (.tmp 20) .skip (.exit 2))) (.seq (.block 3 (.seq (.reg k_glass_zonesDown_1_r5 false) (.cond (.tmp 27) .ret .skip))) (.reg k_glass_zonesDown_1_r6 false)))
def k_glass_zonesDown_1_r8 : ACode := (.reg k_glass_zonesDown_1_r3 false)
def k_glass_zonesDown_1_r9 : ACode := (.block 1 (.block 2 (.loop k_glass_zonesDown_1_r7)))
def k_glass_zonesDown_1 : AFun := { params := 4, ntmps := 28, body := (.seq (.reg k_glass_zonesDown_1_r0 false) (.seq (.reg k_glass_zonesDown_1_r1 false) (.seq (.reg k_glass_zonesDown_1_r2 false) (.block 0 (.rng (.tmp 12) [13, 14] k_glass_zonesDown_1_r8 k_glass_zonesDown_1_r9))))), res := [] }
theorem k_glass_zonesDown_1_ok : cfun Try.prog Try.f146 = k_glass_zonesDown_1 := by kernel_rfl

def k_slices_Backward_api_Zone_api_Zone_r0 : List AOper := [
  ⟨some 1, .box (.tmp 0), none, []⟩,
 ⟨some 2, .move (.const (.nilfn)), none, []⟩]
def k_slices_Backward_api_Zone_api_Zone_r1 : List AOper := [
  ⟨some 3, .makeFunc (.func 150) [] [.tmp 1], none, []⟩,
 ⟨some 2, .move (.tmp 3), none, []⟩]
def k_slices_Backward_api_Zone_api_Zone : AFun := { params := 1, ntmps := 4, body := (.seq (.reg k_slices_Backward_api_Zone_api_Zone_r0 false) (.seq (.reg k_slices_Backward_api_Zone_api_Zone_r1 false) .ret)), res := [.tmp 2] }
theorem k_slices_Backward_api_Zone_api_Zone_ok : cfun Try.prog Try.f147 = k_slices_Backward_api_Zone_api_Zone := by kernel_rfl

def k_glass_ticks_1_r0 : List AOper := [
  ⟨some 8, .fieldAddr 0 (.tmp 1), none, []⟩,
 ⟨some 9, .load none (.tmp 8), none, []⟩,
 ⟨some 3, .move (.tmp 9), none, []⟩]
def k_glass_ticks_1_r1 : List AOper := [
  ⟨some 10, .fieldAddr 1 (.tmp 1), none, []⟩,
 ⟨some 11, .load none (.tmp 10), none, []⟩,
 ⟨some 12, .len false (.tmp 11), none, []⟩,
 ⟨some 13, .move (.const (.int .i64 0)), none, []⟩]
def k_glass_ticks_1_r2 : List AOper := [
  ⟨some 14, .bin .plain .lss (.tmp 13) (.tmp 12), none, []⟩]
def k_glass_ticks_1_r3 : List AOper := [
  ⟨some 15, .move (.tmp 13), none, []⟩,
 ⟨some 16, .indexAddr 2 (.tmp 11) (.tmp 13), none, []⟩,
 ⟨some 17, .load (some (2)) (.tmp 16), none, []⟩,
 ⟨some 5, .box (.const (.agg [.int .i64 0, .int .i64 0])), none, []⟩,
 ⟨some 4, .move (.tmp 15), none, []⟩,
 ⟨none, .store 2 (.tmp 5) (.tmp 17), none, []⟩]
def k_glass_ticks_1_r4 : List AOper := [
  ⟨some 18, .move (.tmp 4), none, []⟩,
 ⟨some 19, .move (.tmp 3), none, []⟩,
 ⟨some 20, .build [.int .i64 0, .int .i64 0, .int .i64 0] [(0, 1, .tmp 18), (2, 1, .tmp 19)], none, []⟩,
 ⟨some 6, .box (.const (.agg [.int .i64 0, .int .i64 0, .int .i64 0])), none, []⟩,
 ⟨none, .store 3 (.tmp 6) (.tmp 20), none, []⟩]
def k_glass_ticks_1_r5 : List AOper := [
  ⟨some 21, .fieldAddr 0 (.tmp 5), none, []⟩,
 ⟨some 22, .load none (.tmp 21), none, []⟩,
 ⟨some 23, .move (.const (.int .i64 0)), none, []⟩]
def k_glass_ticks_1_r6 : List AOper := [
  ⟨some 24, .bin .plain .lss (.tmp 23) (.tmp 22), none, []⟩]
def k_glass_ticks_1_r7 : List AOper := [
  ⟨some 25, .move (.tmp 23), none, []⟩,
 ⟨some 7, .move (.tmp 25), none, []⟩]
def k_glass_ticks_1_r8 : List AOper := [
  ⟨some 26, .fieldAddr 2 (.tmp 6), none, []⟩,
 ⟨some 27, .load none (.tmp 26), none, []⟩,
 ⟨some 28, .move (.tmp 3), none, [0, 1]⟩,
 ⟨some 29, .fieldAddr 1 (.tmp 5), none, [0, 1, 2]⟩,
 ⟨some 30, .load none (.tmp 29), none, [0, 1, 2]⟩,
 ⟨some 31, .move (.tmp 3), none, [0, 1, 2, 3, 4]⟩,
 ⟨some 32, .bin .plain .sub (.tmp 30) (.tmp 31), none, [0, 1, 2]⟩,
 ⟨some 33, .move (.tmp 7), none, [0, 1, 2, 3, 4, 5, 6]⟩,
 ⟨some 34, .bin .plain .add (.tmp 33) (.const (.int .i64 1)), none, [0, 1, 2, 3, 4, 5, 6]⟩,
 ⟨some 35, .bin .plain .mul (.tmp 32) (.tmp 34), none, [0, 1, 2]⟩,
 ⟨some 36, .fieldAddr 0 (.tmp 5), none, [0, 1, 2, 3, 4, 5, 6, 7, 8, 9]⟩,
 ⟨some 37, .load none (.tmp 36), none, [0, 1, 2, 3, 4, 5, 6, 7, 8, 9]⟩,
 ⟨some 38, .call (.const (.fn (.func 149) [] [])) [.tmp 35, .tmp 37], none, [0, 1, 2]⟩,
 ⟨some 39, .bin .plain .add (.tmp 28) (.tmp 38), none, [0, 1]⟩,
 ⟨some 40, .fieldAddr 1 (.tmp 6), none, [2, 3, 4, 5, 6, 7, 8, 9, 10, 11, 12, 13]⟩,
 ⟨none, .store 1 (.tmp 40) (.tmp 27), none, [2, 13]⟩,
 ⟨some 41, .fieldAddr 2 (.tmp 6), none, []⟩,
 ⟨none, .store 1 (.tmp 41) (.tmp 39), none, []⟩]
def k_glass_ticks_1_r8s : List (List AOper) := [
  [
  ⟨some 26, .fieldAddr 2 (.tmp 6), none, []⟩,
 ⟨some 27, .load none (.tmp 26), none, []⟩,
 ⟨some 28, .move (.tmp 3), none, [0, 1]⟩,
 ⟨some 29, .fieldAddr 1 (.tmp 5), none, [0, 1, 2]⟩,
 ⟨some 30, .load none (.tmp 29), none, [0, 1, 2]⟩,
 ⟨some 31, .move (.tmp 3), none, [0, 1, 2, 3, 4]⟩,
 ⟨some 32, .bin .plain .sub (.tmp 30) (.tmp 31), none, [0, 1, 2]⟩,
 ⟨some 33, .move (.tmp 7), none, [0, 1, 2, 3, 4, 5, 6]⟩,
 ⟨some 34, .bin .plain .add (.tmp 33) (.const (.int .i64 1)), none, [0, 1, 2, 3, 4, 5, 6]⟩,
 ⟨some 35, .bin .plain .mul (.tmp 32) (.tmp 34), none, [0, 1, 2]⟩,
 ⟨some 36, .fieldAddr 0 (.tmp 5), none, [0, 1, 2, 3, 4, 5, 6, 7, 8, 9]⟩,
 ⟨some 37, .load none (.tmp 36), none, [0, 1, 2, 3, 4, 5, 6, 7, 8, 9]⟩,
 ⟨some 38, .call (.const (.fn (.func 149) [] [])) [.tmp 35, .tmp 37], none, [0, 1, 2]⟩,
 ⟨some 39, .bin .plain .add (.tmp 28) (.tmp 38), none, [0, 1]⟩,
 ⟨some 40, .fieldAddr 1 (.tmp 6), none, [2, 3, 4, 5, 6, 7, 8, 9, 10, 11, 12, 13]⟩,
 ⟨none, .store 1 (.tmp 40) (.tmp 27), none, [2, 13]⟩], 
  [
  ⟨some 41, .fieldAddr 2 (.tmp 6), none, []⟩], 
  [
  ⟨none, .store 1 (.tmp 41) (.tmp 39), none, []⟩]]
theorem k_glass_ticks_1_r8_sg : segs k_glass_ticks_1_r8 = k_glass_ticks_1_r8s := by kernel_rfl
theorem k_glass_ticks_1_r8_st : statOK k_glass_ticks_1_r8 = true := by kernel_rfl
def k_glass_ticks_1_r9 : List AOper := [
  ⟨some 42, .move (.tmp 0), none, []⟩,
 ⟨some 43, .load (some (3)) (.tmp 6), none, []⟩,
 ⟨some 44, .call (.tmp 42) [.tmp 43], none, []⟩,
 ⟨some 45, .not (.tmp 44), none, []⟩]
def k_glass_ticks_1_r10 : List AOper := [
  ⟨some 46, .bin .plain .add (.tmp 23) (.const (.int .i64 1)), none, []⟩,
 ⟨some 23, .move (.tmp 46), none, []⟩]
def k_glass_ticks_1_r11 : ACode := (.seq (.reg k_glass_ticks_1_r6 false) (.seq (.cond (.tmp 24) .skip (.exit 2)) (.seq (.block 3 (.seq (.reg k_glass_ticks_1_r7 false) (.seq (.reg k_glass_ticks_1_r8 true) (.seq (.reg k_glass_ticks_1_r9 false) (.cond (.tmp 45) .ret .skip))))) (.reg k_glass_ticks_1_r10 false))))
def k_glass_ticks_1_r12 : List AOper := [
  ⟨some 47, .fieldAddr 1 (.tmp 5), none, []⟩,
 ⟨some 48, .load none (.tmp 47), none, []⟩,
 ⟨some 3, .move (.tmp 48), none, []⟩]
def k_glass_ticks_1_r13 : List AOper := [
  ⟨some 49, .bin .plain .add (.tmp 13) (.const (.int .i64 1)), none, []⟩,
 ⟨some 13, .move (.tmp 49), none, []⟩]
def k_glass_ticks_1_r14 : ACode := (.seq (.reg k_glass_ticks_1_r2 false) (.seq (.cond (.tmp 14) .skip (.exit 0)) (.seq (.block 1 (.seq (.reg k_glass_ticks_1_r3 false) (.seq (.reg k_glass_ticks_1_r4 false) (.seq (.seq (.reg k_glass_ticks_1_r5 false) (.block 2 (.loop k_glass_ticks_1_r11))) (.reg k_glass_ticks_1_r12 false))))) (.reg k_glass_ticks_1_r13 false))))
def k_glass_ticks_1 : AFun := { params := 2, ntmps := 50, body := (.seq (.reg k_glass_ticks_1_r0 false) (.seq (.reg k_glass_ticks_1_r1 false) (.block 0 (.loop k_glass_ticks_1_r14)))), res := [] }
theorem k_glass_ticks_1_ok : cfun Try.prog Try.f148 = k_glass_ticks_1 := by kernel_rfl

def k_glass_divideDown_r0 : List AOper := [
  ⟨some 4, .move (.const (.int .i64 0)), none, []⟩]
def k_glass_divideDown_r1 : List AOper := [
  ⟨some 5, .move (.tmp 0), none, []⟩,
 ⟨some 6, .move (.tmp 1), none, []⟩,
 ⟨some 7, .bin .plain .rem (.tmp 5) (.tmp 6), none, []⟩,
 ⟨some 8, .bin .plain .lss (.tmp 7) (.const (.int .i64 0)), none, []⟩]
def k_glass_divideDown_r2 : List AOper := [
  ⟨some 9, .move (.tmp 0), none, []⟩,
 ⟨some 10, .move (.tmp 1), none, []⟩,
 ⟨some 11, .bin .plain .quo (.tmp 9) (.tmp 10), none, []⟩,
 ⟨some 12, .bin .plain .sub (.tmp 11) (.const (.int .i64 1)), none, []⟩,
 ⟨some 4, .move (.tmp 12), none, []⟩]
def k_glass_divideDown_r3 : List AOper := [
  ⟨some 13, .move (.tmp 0), none, []⟩,
 ⟨some 14, .move (.tmp 1), none, []⟩,
 ⟨some 15, .bin .plain .quo (.tmp 13) (.tmp 14), none, []⟩,
 ⟨some 4, .move (.tmp 15), none, []⟩]
def k_glass_divideDown : AFun := { params := 2, ntmps := 16, body := (.seq (.reg k_glass_divideDown_r0 false) (.seq (.seq (.reg k_glass_divideDown_r1 false) (.cond (.tmp 8) (.seq (.reg k_glass_divideDown_r2 false) .ret) .skip)) (.seq (.reg k_glass_divideDown_r3 false) .ret))), res := [.tmp 4] }
theorem k_glass_divideDown_ok : cfun Try.prog Try.f149 = k_glass_divideDown := by kernel_rfl

def k_slices_Backward_api_Zone_api_Zone_1_r0 : List AOper := [
  ⟨some 4, .load none (.tmp 1), none, []⟩,
 ⟨some 5, .len false (.tmp 4), none, []⟩,
 ⟨some 6, .bin .plain .sub (.tmp 5) (.const (.int .i64 1)), none, []⟩,
 ⟨some 3, .move (.tmp 6), none, []⟩]
def k_slices_Backward_api_Zone_api_Zone_1_r1 : List AOper := [
  ⟨some 7, .move (.tmp 3), none, []⟩,
 ⟨some 8, .bin .plain .geq (.tmp 7) (.const (.int .i64 0)), none, []⟩]
def k_slices_Backward_api_Zone_api_Zone_1_r2 : List AOper := [
  ⟨some 11, .move (.tmp 0), none, []⟩,
 ⟨some 12, .move (.tmp 3), none, []⟩,
 ⟨some 13, .load none (.tmp 1), none, []⟩,
 ⟨some 14, .move (.tmp 3), none, []⟩,
 ⟨some 15, .indexAddr 5 (.tmp 13) (.tmp 14), none, []⟩,
 ⟨some 16, .load (some (5)) (.tmp 15), none, []⟩,
 ⟨some 17, .call (.tmp 11) [.tmp 12, .tmp 16], none, []⟩,
 ⟨some 18, .not (.tmp 17), none, []⟩]
def k_slices_Backward_api_Zone_api_Zone_1_r3 : List AOper := [
  ⟨some 9, .move (.tmp 3), none, []⟩,
 ⟨some 10, .bin .plain .sub (.tmp 9) (.const (.int .i64 1)), none, []⟩,
 ⟨some 3, .move (.tmp 10), none, []⟩]
def k_slices_Backward_api_Zone_api_Zone_1_r4 : ACode := (.seq (.seq (.reg k_slices_Backward_api_Zone_api_Zone_1_r1 false) (.cond (.tmp 8) .skip (.exit 0))) (.seq (.block 1 (.seq (.reg k_slices_Backward_api_Zone_api_Zone_1_r2 false) (.cond (.tmp 18) .ret .skip))) (.reg k_slices_Backward_api_Zone_api_Zone_1_r3 false)))
def k_slices_Backward_api_Zone_api_Zone_1 : AFun := { params := 2, ntmps := 19, body := (.seq (.reg k_slices_Backward_api_Zone_api_Zone_1_r0 false) (.block 0 (.loop k_slices_Backward_api_Zone_api_Zone_1_r4))), res := [] }
theorem k_slices_Backward_api_Zone_api_Zone_1_ok : cfun Try.prog Try.f150 = k_slices_Backward_api_Zone_api_Zone_1 := by kernel_rfl

def k_glass_mismatch_surelyBreaks_r0 : List AOper := [
  ⟨some 1, .box (.tmp 0), none, []⟩,
 ⟨some 2, .move (.const (.bool false)), none, []⟩]
def k_glass_mismatch_surelyBreaks_r1 : List AOper := [
  ⟨some 3, .fieldAddr 0 (.tmp 1), none, []⟩,
 ⟨some 4, .fieldAddr 0 (.tmp 3), none, []⟩,
 ⟨some 5, .load none (.tmp 4), none, []⟩,
 ⟨some 6, .fieldAddr 2 (.tmp 1), none, []⟩,
 ⟨some 7, .load none (.tmp 6), none, []⟩,
 ⟨some 8, .bin .plain .gtr (.tmp 5) (.tmp 7), none, []⟩,
 ⟨some 9, .move (.tmp 8), none, []⟩,
 ⟨some 10, .fieldAddr 0 (.tmp 1), (some (9, false)), []⟩,
 ⟨some 11, .fieldAddr 1 (.tmp 10), (some (9, false)), []⟩,
 ⟨some 12, .load none (.tmp 11), (some (9, false)), []⟩,
 ⟨some 13, .fieldAddr 2 (.tmp 1), (some (9, false)), []⟩,
 ⟨some 14, .load none (.tmp 13), (some (9, false)), []⟩,
 ⟨some 15, .neg (.tmp 14), (some (9, false)), []⟩,
 ⟨some 16, .bin .plain .lss (.tmp 12) (.tmp 15), (some (9, false)), []⟩,
 ⟨some 17, .pick (.tmp 9) (.const (.bool true)) (.tmp 16), none, []⟩,
 ⟨some 2, .move (.tmp 17), none, []⟩]
def k_glass_mismatch_surelyBreaks : AFun := { params := 1, ntmps := 18, body := (.seq (.reg k_glass_mismatch_surelyBreaks_r0 false) (.seq (.reg k_glass_mismatch_surelyBreaks_r1 false) .ret)), res := [.tmp 2] }
theorem k_glass_mismatch_surelyBreaks_ok : cfun Try.prog Try.f167 = k_glass_mismatch_surelyBreaks := by kernel_rfl

def k_glass_mismatch_surelyHolds_r0 : List AOper := [
  ⟨some 1, .box (.tmp 0), none, []⟩,
 ⟨some 2, .move (.const (.bool false)), none, []⟩]
def k_glass_mismatch_surelyHolds_r1 : List AOper := [
  ⟨some 3, .fieldAddr 0 (.tmp 1), none, []⟩,
 ⟨some 4, .fieldAddr 0 (.tmp 3), none, []⟩,
 ⟨some 5, .load none (.tmp 4), none, []⟩,
 ⟨some 6, .fieldAddr 2 (.tmp 1), none, []⟩,
 ⟨some 7, .load none (.tmp 6), none, []⟩,
 ⟨some 8, .neg (.tmp 7), none, []⟩,
 ⟨some 9, .bin .plain .geq (.tmp 5) (.tmp 8), none, []⟩,
 ⟨some 10, .move (.tmp 9), none, []⟩,
 ⟨some 11, .fieldAddr 0 (.tmp 1), (some (10, true)), []⟩,
 ⟨some 12, .fieldAddr 1 (.tmp 11), (some (10, true)), []⟩,
 ⟨some 13, .load none (.tmp 12), (some (10, true)), []⟩,
 ⟨some 14, .fieldAddr 2 (.tmp 1), (some (10, true)), []⟩,
 ⟨some 15, .load none (.tmp 14), (some (10, true)), []⟩,
 ⟨some 16, .bin .plain .leq (.tmp 13) (.tmp 15), (some (10, true)), []⟩,
 ⟨some 17, .pick (.tmp 10) (.tmp 16) (.const (.bool false)), none, []⟩,
 ⟨some 2, .move (.tmp 17), none, []⟩]
def k_glass_mismatch_surelyHolds : AFun := { params := 1, ntmps := 18, body := (.seq (.reg k_glass_mismatch_surelyHolds_r0 false) (.seq (.reg k_glass_mismatch_surelyHolds_r1 false) .ret)), res := [.tmp 2] }
theorem k_glass_mismatch_surelyHolds_ok : cfun Try.prog Try.f168 = k_glass_mismatch_surelyHolds := by kernel_rfl

def k_glass_strained_surelyBreaks_r0 : List AOper := [
  ⟨some 1, .box (.tmp 0), none, []⟩,
 ⟨some 2, .move (.const (.bool false)), none, []⟩]
def k_glass_strained_surelyBreaks_r1 : List AOper := [
  ⟨some 3, .fieldAddr 0 (.tmp 1), none, []⟩,
 ⟨some 4, .fieldAddr 0 (.tmp 3), none, []⟩,
 ⟨some 5, .load none (.tmp 4), none, []⟩,
 ⟨some 6, .fieldAddr 2 (.tmp 1), none, []⟩,
 ⟨some 7, .load none (.tmp 6), none, []⟩,
 ⟨some 8, .bin .plain .gtr (.tmp 5) (.tmp 7), none, []⟩,
 ⟨some 2, .move (.tmp 8), none, []⟩]
def k_glass_strained_surelyBreaks : AFun := { params := 1, ntmps := 9, body := (.seq (.reg k_glass_strained_surelyBreaks_r0 false) (.seq (.reg k_glass_strained_surelyBreaks_r1 false) .ret)), res := [.tmp 2] }
theorem k_glass_strained_surelyBreaks_ok : cfun Try.prog Try.f169 = k_glass_strained_surelyBreaks := by kernel_rfl

def k_glass_strained_surelyHolds_r0 : List AOper := [
  ⟨some 1, .box (.tmp 0), none, []⟩,
 ⟨some 2, .move (.const (.bool false)), none, []⟩]
def k_glass_strained_surelyHolds_r1 : List AOper := [
  ⟨some 3, .fieldAddr 0 (.tmp 1), none, []⟩,
 ⟨some 4, .fieldAddr 1 (.tmp 3), none, []⟩,
 ⟨some 5, .load none (.tmp 4), none, []⟩,
 ⟨some 6, .fieldAddr 2 (.tmp 1), none, []⟩,
 ⟨some 7, .load none (.tmp 6), none, []⟩,
 ⟨some 8, .bin .plain .leq (.tmp 5) (.tmp 7), none, []⟩,
 ⟨some 2, .move (.tmp 8), none, []⟩]
def k_glass_strained_surelyHolds : AFun := { params := 1, ntmps := 9, body := (.seq (.reg k_glass_strained_surelyHolds_r0 false) (.seq (.reg k_glass_strained_surelyHolds_r1 false) .ret)), res := [.tmp 2] }
theorem k_glass_strained_surelyHolds_ok : cfun Try.prog Try.f170 = k_glass_strained_surelyHolds := by kernel_rfl


abbrev n_law05_awake : Nat := 20
theorem e_law05_awake : EntryOK Try.prog n_law05_awake k_law05_awake := ⟨Try.f20, Try.func20, k_law05_awake_ok, by kernel_rfl⟩
abbrev n_glass_Check : Nat := 30
theorem e_glass_Check : EntryOK Try.prog n_glass_Check k_glass_Check := ⟨Try.f30, Try.func30, k_glass_Check_ok, by kernel_rfl⟩
abbrev n_glass_CheckOven : Nat := 32
theorem e_glass_CheckOven : EntryOK Try.prog n_glass_CheckOven k_glass_CheckOven := ⟨Try.f32, Try.func32, k_glass_CheckOven_ok, by kernel_rfl⟩
abbrev n_glass_CheckFires : Nat := 34
theorem e_glass_CheckFires : EntryOK Try.prog n_glass_CheckFires k_glass_CheckFires := ⟨Try.f34, Try.func34, k_glass_CheckFires_ok, by kernel_rfl⟩
abbrev n_glass_Seal : Nat := 45
theorem e_glass_Seal : EntryOK Try.prog n_glass_Seal k_glass_Seal := ⟨Try.f45, Try.func45, k_glass_Seal_ok, by kernel_rfl⟩
abbrev n_kit_Same : Nat := 49
theorem e_kit_Same : EntryOK Try.prog n_kit_Same k_kit_Same := ⟨Try.f49, Try.func49, k_kit_Same_ok, by kernel_rfl⟩
abbrev n_glass_Strain : Nat := 51
theorem e_glass_Strain : EntryOK Try.prog n_glass_Strain k_glass_Strain := ⟨Try.f51, Try.func51, k_glass_Strain_ok, by kernel_rfl⟩
abbrev n_glass_First : Nat := 58
theorem e_glass_First : EntryOK Try.prog n_glass_First k_glass_First := ⟨Try.f58, Try.func58, k_glass_First_ok, by kernel_rfl⟩
abbrev n_law05_span : Nat := 68
theorem e_law05_span : EntryOK Try.prog n_law05_span k_law05_span := ⟨Try.f68, Try.func68, k_law05_span_ok, by kernel_rfl⟩
abbrev n_law05_wall : Nat := 79
theorem e_law05_wall : EntryOK Try.prog n_law05_wall k_law05_wall := ⟨Try.f79, Try.func79, k_law05_wall_ok, by kernel_rfl⟩
abbrev n_law05_lead : Nat := 80
theorem e_law05_lead : EntryOK Try.prog n_law05_lead k_law05_lead := ⟨Try.f80, Try.func80, k_law05_lead_ok, by kernel_rfl⟩
abbrev n_law05_joins : Nat := 81
theorem e_law05_joins : EntryOK Try.prog n_law05_joins k_law05_joins := ⟨Try.f81, Try.func81, k_law05_joins_ok, by kernel_rfl⟩
abbrev n_glass_within : Nat := 85
theorem e_glass_within : EntryOK Try.prog n_glass_within k_glass_within := ⟨Try.f85, Try.func85, k_glass_within_ok, by kernel_rfl⟩
abbrev n_glass_isHeat : Nat := 86
theorem e_glass_isHeat : EntryOK Try.prog n_glass_isHeat k_glass_isHeat := ⟨Try.f86, Try.func86, k_glass_isHeat_ok, by kernel_rfl⟩
abbrev n_glass_checkRange : Nat := 87
theorem e_glass_checkRange : EntryOK Try.prog n_glass_checkRange k_glass_checkRange := ⟨Try.f87, Try.func87, k_glass_checkRange_ok, by kernel_rfl⟩
abbrev n_glass_checkSeal : Nat := 92
theorem e_glass_checkSeal : EntryOK Try.prog n_glass_checkSeal k_glass_checkSeal := ⟨Try.f92, Try.func92, k_glass_checkSeal_ok, by kernel_rfl⟩
abbrev n_glass_less : Nat := 93
theorem e_glass_less : EntryOK Try.prog n_glass_less k_glass_less := ⟨Try.f93, Try.func93, k_glass_less_ok, by kernel_rfl⟩
abbrev n_glass_judge_glass_mismatch : Nat := 96
theorem e_glass_judge_glass_mismatch : EntryOK Try.prog n_glass_judge_glass_mismatch k_glass_judge_glass_mismatch := ⟨Try.f96, Try.func96, k_glass_judge_glass_mismatch_ok, by kernel_rfl⟩
abbrev n_glass_mismatches : Nat := 97
theorem e_glass_mismatches : EntryOK Try.prog n_glass_mismatches k_glass_mismatches := ⟨Try.f97, Try.func97, k_glass_mismatches_ok, by kernel_rfl⟩
abbrev n_glass_checkHeated : Nat := 100
theorem e_glass_checkHeated : EntryOK Try.prog n_glass_checkHeated k_glass_checkHeated := ⟨Try.f100, Try.func100, k_glass_checkHeated_ok, by kernel_rfl⟩
abbrev n_glass_wall_strains : Nat := 101
theorem e_glass_wall_strains : EntryOK Try.prog n_glass_wall_strains k_glass_wall_strains := ⟨Try.f101, Try.func101, k_glass_wall_strains_ok, by kernel_rfl⟩
abbrev n_glass_orders : Nat := 109
theorem e_glass_orders : EntryOK Try.prog n_glass_orders k_glass_orders := ⟨Try.f109, Try.func109, k_glass_orders_ok, by kernel_rfl⟩
abbrev n_glass_anywhere : Nat := 110
theorem e_glass_anywhere : EntryOK Try.prog n_glass_anywhere k_glass_anywhere := ⟨Try.f110, Try.func110, k_glass_anywhere_ok, by kernel_rfl⟩
abbrev n_slices_Clone_int_int : Nat := 111
theorem e_slices_Clone_int_int : EntryOK Try.prog n_slices_Clone_int_int k_slices_Clone_int_int := ⟨Try.f111, Try.func111, k_slices_Clone_int_int_ok, by kernel_rfl⟩
abbrev n_glass_zoneOf : Nat := 123
theorem e_glass_zoneOf : EntryOK Try.prog n_glass_zoneOf k_glass_zoneOf := ⟨Try.f123, Try.func123, k_glass_zoneOf_ok, by kernel_rfl⟩
abbrev n_glass_leastLeft : Nat := 125
theorem e_glass_leastLeft : EntryOK Try.prog n_glass_leastLeft k_glass_leastLeft := ⟨Try.f125, Try.func125, k_glass_leastLeft_ok, by kernel_rfl⟩
abbrev n_glass_mostLeft : Nat := 126
theorem e_glass_mostLeft : EntryOK Try.prog n_glass_mostLeft k_glass_mostLeft := ⟨Try.f126, Try.func126, k_glass_mostLeft_ok, by kernel_rfl⟩
abbrev n_glass_zonesDown : Nat := 129
theorem e_glass_zonesDown : EntryOK Try.prog n_glass_zonesDown k_glass_zonesDown := ⟨Try.f129, Try.func129, k_glass_zonesDown_ok, by kernel_rfl⟩
abbrev n_glass_plus : Nat := 130
theorem e_glass_plus : EntryOK Try.prog n_glass_plus k_glass_plus := ⟨Try.f130, Try.func130, k_glass_plus_ok, by kernel_rfl⟩
abbrev n_glass_mismatches_1 : Nat := 132
theorem e_glass_mismatches_1 : EntryOK Try.prog n_glass_mismatches_1 k_glass_mismatches_1 := ⟨Try.f132, Try.func132, k_glass_mismatches_1_ok, by kernel_rfl⟩
abbrev n_glass_wall_check : Nat := 133
theorem e_glass_wall_check : EntryOK Try.prog n_glass_wall_check k_glass_wall_check := ⟨Try.f133, Try.func133, k_glass_wall_check_ok, by kernel_rfl⟩
abbrev n_glass_wall_strains_1 : Nat := 134
theorem e_glass_wall_strains_1 : EntryOK Try.prog n_glass_wall_strains_1 k_glass_wall_strains_1 := ⟨Try.f134, Try.func134, k_glass_wall_strains_1_ok, by kernel_rfl⟩
abbrev n_glass_ticks : Nat := 135
theorem e_glass_ticks : EntryOK Try.prog n_glass_ticks k_glass_ticks := ⟨Try.f135, Try.func135, k_glass_ticks_ok, by kernel_rfl⟩
abbrev n_glass_capped : Nat := 136
theorem e_glass_capped : EntryOK Try.prog n_glass_capped k_glass_capped := ⟨Try.f136, Try.func136, k_glass_capped_ok, by kernel_rfl⟩
abbrev n_glass_relaxed : Nat := 137
theorem e_glass_relaxed : EntryOK Try.prog n_glass_relaxed k_glass_relaxed := ⟨Try.f137, Try.func137, k_glass_relaxed_ok, by kernel_rfl⟩
abbrev n_glass_wall_added : Nat := 138
theorem e_glass_wall_added : EntryOK Try.prog n_glass_wall_added k_glass_wall_added := ⟨Try.f138, Try.func138, k_glass_wall_added_ok, by kernel_rfl⟩
abbrev n_glass_orders_1 : Nat := 141
theorem e_glass_orders_1 : EntryOK Try.prog n_glass_orders_1 k_glass_orders_1 := ⟨Try.f141, Try.func141, k_glass_orders_1_ok, by kernel_rfl⟩
abbrev n_glass_orders_1_1 : Nat := 142
theorem e_glass_orders_1_1 : EntryOK Try.prog n_glass_orders_1_1 k_glass_orders_1_1 := ⟨Try.f142, Try.func142, k_glass_orders_1_1_ok, by kernel_rfl⟩
abbrev n_glass_zonesDown_1 : Nat := 146
theorem e_glass_zonesDown_1 : EntryOK Try.prog n_glass_zonesDown_1 k_glass_zonesDown_1 := ⟨Try.f146, Try.func146, k_glass_zonesDown_1_ok, by kernel_rfl⟩
abbrev n_slices_Backward_api_Zone_api_Zone : Nat := 147
theorem e_slices_Backward_api_Zone_api_Zone : EntryOK Try.prog n_slices_Backward_api_Zone_api_Zone k_slices_Backward_api_Zone_api_Zone := ⟨Try.f147, Try.func147, k_slices_Backward_api_Zone_api_Zone_ok, by kernel_rfl⟩
abbrev n_glass_ticks_1 : Nat := 148
theorem e_glass_ticks_1 : EntryOK Try.prog n_glass_ticks_1 k_glass_ticks_1 := ⟨Try.f148, Try.func148, k_glass_ticks_1_ok, by kernel_rfl⟩
abbrev n_glass_divideDown : Nat := 149
theorem e_glass_divideDown : EntryOK Try.prog n_glass_divideDown k_glass_divideDown := ⟨Try.f149, Try.func149, k_glass_divideDown_ok, by kernel_rfl⟩
abbrev n_slices_Backward_api_Zone_api_Zone_1 : Nat := 150
theorem e_slices_Backward_api_Zone_api_Zone_1 : EntryOK Try.prog n_slices_Backward_api_Zone_api_Zone_1 k_slices_Backward_api_Zone_api_Zone_1 := ⟨Try.f150, Try.func150, k_slices_Backward_api_Zone_api_Zone_1_ok, by kernel_rfl⟩
abbrev n_glass_mismatch_surelyBreaks : Nat := 167
theorem e_glass_mismatch_surelyBreaks : EntryOK Try.prog n_glass_mismatch_surelyBreaks k_glass_mismatch_surelyBreaks := ⟨Try.f167, Try.func167, k_glass_mismatch_surelyBreaks_ok, by kernel_rfl⟩
abbrev n_glass_mismatch_surelyHolds : Nat := 168
theorem e_glass_mismatch_surelyHolds : EntryOK Try.prog n_glass_mismatch_surelyHolds k_glass_mismatch_surelyHolds := ⟨Try.f168, Try.func168, k_glass_mismatch_surelyHolds_ok, by kernel_rfl⟩
abbrev n_glass_strained_surelyBreaks : Nat := 169
theorem e_glass_strained_surelyBreaks : EntryOK Try.prog n_glass_strained_surelyBreaks k_glass_strained_surelyBreaks := ⟨Try.f169, Try.func169, k_glass_strained_surelyBreaks_ok, by kernel_rfl⟩
abbrev n_glass_strained_surelyHolds : Nat := 170
theorem e_glass_strained_surelyHolds : EntryOK Try.prog n_glass_strained_surelyHolds k_glass_strained_surelyHolds := ⟨Try.f170, Try.func170, k_glass_strained_surelyHolds_ok, by kernel_rfl⟩

@[go_sem] theorem mixed : Try.prog.follows .mixedOrders = true := by kernel_rfl
attribute [go_sem] k_law05_awake_r0 k_law05_awake_r1 k_law05_awake_r2 k_law05_awake_r3 k_law05_awake_r4s k_glass_Check_r0 k_glass_Check_r1 k_glass_Check_r2 k_glass_Check_r3 k_glass_Check_r4 k_glass_Check_r5 k_glass_Check_r6
attribute [go_sem] k_glass_Check_r7 k_glass_Check_r8 k_glass_Check_r9 k_glass_Check_r10 k_glass_Check_r11 k_glass_Check_r12s k_glass_Check_r13 k_glass_Check_r14 k_glass_Check_r15 k_glass_Check_r16 k_glass_Check_r17 k_glass_Check_r18
attribute [go_sem] k_glass_Check_r19 k_glass_Check_r20 k_glass_Check_r22 k_glass_CheckOven_r0 k_glass_CheckOven_r1 k_glass_CheckOven_r2 k_glass_CheckOven_r3 k_glass_CheckOven_r4 k_glass_CheckOven_r5 k_glass_CheckOven_r6 k_glass_CheckOven_r7 k_glass_CheckOven_r8
attribute [go_sem] k_glass_CheckOven_r9 k_glass_CheckOven_r10 k_glass_CheckOven_r12 k_glass_CheckFires_r0 k_glass_CheckFires_r1 k_glass_CheckFires_r2 k_glass_CheckFires_r3 k_glass_CheckFires_r4 k_glass_CheckFires_r5 k_glass_CheckFires_r6 k_glass_CheckFires_r7 k_glass_CheckFires_r8
attribute [go_sem] k_glass_CheckFires_r9 k_glass_CheckFires_r10 k_glass_CheckFires_r11 k_glass_CheckFires_r12 k_glass_CheckFires_r13 k_glass_CheckFires_r14 k_glass_CheckFires_r15 k_glass_CheckFires_r16 k_glass_CheckFires_r17 k_glass_CheckFires_r19 k_glass_CheckFires_r21 k_glass_Seal_r0
attribute [go_sem] k_glass_Seal_r1 k_glass_Seal_r2 k_glass_Seal_r3 k_glass_Seal_r4 k_glass_Seal_r5 k_glass_Seal_r6 k_glass_Seal_r7 k_kit_Same_r0 k_kit_Same_r1 k_kit_Same_r2 k_kit_Same_r3 k_kit_Same_r4
attribute [go_sem] k_kit_Same_r5s k_kit_Same_r6 k_kit_Same_r7 k_kit_Same_r9 k_glass_Strain_r0 k_glass_Strain_r1 k_glass_Strain_r2 k_glass_Strain_r3 k_glass_Strain_r4 k_glass_Strain_r5 k_glass_Strain_r6 k_glass_Strain_r7
attribute [go_sem] k_glass_Strain_r8 k_glass_Strain_r9 k_glass_Strain_r12 k_glass_First_r0 k_glass_First_r1 k_glass_First_r2 k_glass_First_r3 k_glass_First_r4 k_glass_First_r5 k_glass_First_r6 k_glass_First_r9 k_law05_span_r0
attribute [go_sem] k_law05_span_r1 k_law05_wall_r0 k_law05_wall_r1 k_law05_lead_r0 k_law05_lead_r1 k_law05_joins_r0 k_law05_joins_r1 k_glass_within_r0 k_glass_within_r1 k_glass_isHeat_r0 k_glass_isHeat_r1 k_glass_checkRange_r0
attribute [go_sem] k_glass_checkRange_r1 k_glass_checkRange_r2 k_glass_checkRange_r3 k_glass_checkRange_r4 k_glass_checkRange_r5 k_glass_checkSeal_r0 k_glass_checkSeal_r1 k_glass_checkSeal_r2 k_glass_checkSeal_r3 k_glass_checkSeal_r4 k_glass_checkSeal_r5 k_glass_checkSeal_r6
attribute [go_sem] k_glass_checkSeal_r7 k_glass_checkSeal_r8 k_glass_checkSeal_r9 k_glass_less_r0 k_glass_less_r1 k_glass_judge_glass_mismatch_r0 k_glass_judge_glass_mismatch_r1 k_glass_judge_glass_mismatch_r2 k_glass_judge_glass_mismatch_r3 k_glass_judge_glass_mismatch_r4 k_glass_judge_glass_mismatch_r5 k_glass_judge_glass_mismatch_r6
attribute [go_sem] k_glass_judge_glass_mismatch_r7 k_glass_judge_glass_mismatch_r8 k_glass_judge_glass_mismatch_r11s k_glass_mismatches_r0 k_glass_mismatches_r1 k_glass_checkHeated_r0 k_glass_checkHeated_r1 k_glass_checkHeated_r2 k_glass_checkHeated_r3 k_glass_checkHeated_r4 k_glass_wall_strains_r0 k_glass_wall_strains_r1
attribute [go_sem] k_glass_orders_r0 k_glass_orders_r1 k_glass_anywhere_r0 k_glass_anywhere_r1 k_slices_Clone_int_int_r0 k_slices_Clone_int_int_r1 k_slices_Clone_int_int_r2 k_slices_Clone_int_int_r3 k_glass_zoneOf_r0 k_glass_zoneOf_r1 k_glass_zoneOf_r2 k_glass_zoneOf_r3
attribute [go_sem] k_glass_zoneOf_r4 k_glass_zoneOf_r7 k_glass_leastLeft_r0 k_glass_leastLeft_r1 k_glass_mostLeft_r0 k_glass_mostLeft_r1 k_glass_zonesDown_r0 k_glass_zonesDown_r1 k_glass_plus_r0 k_glass_plus_r1 k_glass_mismatches_1_r0 k_glass_mismatches_1_r1
attribute [go_sem] k_glass_mismatches_1_r2 k_glass_mismatches_1_r3 k_glass_mismatches_1_r4 k_glass_mismatches_1_r5 k_glass_mismatches_1_r6s k_glass_mismatches_1_r7 k_glass_wall_check_r0 k_glass_wall_check_r1 k_glass_wall_check_r2 k_glass_wall_check_r3 k_glass_wall_check_r4 k_glass_wall_check_r5
attribute [go_sem] k_glass_wall_check_r6 k_glass_wall_strains_1_r0 k_glass_wall_strains_1_r1 k_glass_wall_strains_1_r2 k_glass_wall_strains_1_r3 k_glass_wall_strains_1_r4 k_glass_wall_strains_1_r5s k_glass_wall_strains_1_r6 k_glass_ticks_r0 k_glass_ticks_r1 k_glass_capped_r0 k_glass_capped_r1
attribute [go_sem] k_glass_relaxed_r0 k_glass_relaxed_r1s k_glass_wall_added_r0 k_glass_wall_added_r1 k_glass_wall_added_r2 k_glass_orders_1_r0 k_glass_orders_1_r1 k_glass_orders_1_r2 k_glass_orders_1_r3 k_glass_orders_1_r4 k_glass_orders_1_1_r0 k_glass_orders_1_1_r1
attribute [go_sem] k_glass_orders_1_1_r2 k_glass_orders_1_1_r3 k_glass_orders_1_1_r4 k_glass_orders_1_1_r5 k_glass_orders_1_1_r6 k_glass_orders_1_1_r7 k_glass_orders_1_1_r8 k_glass_orders_1_1_r9 k_glass_orders_1_1_r10 k_glass_orders_1_1_r11 k_glass_orders_1_1_r13 k_glass_orders_1_1_r14s
attribute [go_sem] k_glass_orders_1_1_r15 k_glass_orders_1_1_r16 k_glass_orders_1_1_r17 k_glass_orders_1_1_r19 k_glass_zonesDown_1_r0 k_glass_zonesDown_1_r1 k_glass_zonesDown_1_r2 k_glass_zonesDown_1_r3 k_glass_zonesDown_1_r4 k_glass_zonesDown_1_r5 k_glass_zonesDown_1_r6 k_slices_Backward_api_Zone_api_Zone_r0
attribute [go_sem] k_slices_Backward_api_Zone_api_Zone_r1 k_glass_ticks_1_r0 k_glass_ticks_1_r1 k_glass_ticks_1_r2 k_glass_ticks_1_r3 k_glass_ticks_1_r4 k_glass_ticks_1_r5 k_glass_ticks_1_r6 k_glass_ticks_1_r7 k_glass_ticks_1_r8s k_glass_ticks_1_r9 k_glass_ticks_1_r10
attribute [go_sem] k_glass_ticks_1_r12 k_glass_ticks_1_r13 k_glass_divideDown_r0 k_glass_divideDown_r1 k_glass_divideDown_r2 k_glass_divideDown_r3 k_slices_Backward_api_Zone_api_Zone_1_r0 k_slices_Backward_api_Zone_api_Zone_1_r1 k_slices_Backward_api_Zone_api_Zone_1_r2 k_slices_Backward_api_Zone_api_Zone_1_r3 k_glass_mismatch_surelyBreaks_r0 k_glass_mismatch_surelyBreaks_r1
attribute [go_sem] k_glass_mismatch_surelyHolds_r0 k_glass_mismatch_surelyHolds_r1 k_glass_strained_surelyBreaks_r0 k_glass_strained_surelyBreaks_r1 k_glass_strained_surelyHolds_r0 k_glass_strained_surelyHolds_r1 k_glass_relaxed_r1_sg k_glass_Check_r12_sg k_glass_mismatches_1_r6_sg k_glass_wall_strains_1_r5_sg k_glass_orders_1_1_r14_sg k_kit_Same_r5_sg
attribute [go_sem] k_law05_awake_r4_sg k_glass_judge_glass_mismatch_r11_sg k_glass_ticks_1_r8_sg k_glass_relaxed_r1_st k_glass_Check_r12_st k_glass_mismatches_1_r6_st k_glass_wall_strains_1_r5_st k_glass_orders_1_1_r14_st k_kit_Same_r5_st k_law05_awake_r4_st k_glass_judge_glass_mismatch_r11_st k_glass_ticks_1_r8_st
attribute [go_sem] k_law05_awake k_glass_Check k_glass_CheckOven k_glass_CheckFires k_glass_Seal k_kit_Same k_glass_Strain k_glass_First k_law05_span k_law05_wall k_law05_lead k_law05_joins
attribute [go_sem] k_glass_within k_glass_isHeat k_glass_checkRange k_glass_checkSeal k_glass_less k_glass_judge_glass_mismatch k_glass_mismatches k_glass_checkHeated k_glass_wall_strains k_glass_orders k_glass_anywhere k_slices_Clone_int_int
attribute [go_sem] k_glass_zoneOf k_glass_leastLeft k_glass_mostLeft k_glass_zonesDown k_glass_plus k_glass_mismatches_1 k_glass_wall_check k_glass_wall_strains_1 k_glass_ticks k_glass_capped k_glass_relaxed k_glass_wall_added
attribute [go_sem] k_glass_orders_1 k_glass_orders_1_1 k_glass_zonesDown_1 k_slices_Backward_api_Zone_api_Zone k_glass_ticks_1 k_glass_divideDown k_slices_Backward_api_Zone_api_Zone_1 k_glass_mismatch_surelyBreaks k_glass_mismatch_surelyHolds k_glass_strained_surelyBreaks k_glass_strained_surelyHolds
def tabL : List (Nat × AFun) := [(20, k_law05_awake), (30, k_glass_Check), (32, k_glass_CheckOven), (34, k_glass_CheckFires), (45, k_glass_Seal), (49, k_kit_Same), (51, k_glass_Strain), (58, k_glass_First), (68, k_law05_span), (79, k_law05_wall), (80, k_law05_lead), (81, k_law05_joins), (85, k_glass_within), (86, k_glass_isHeat), (87, k_glass_checkRange), (92, k_glass_checkSeal), (93, k_glass_less), (96, k_glass_judge_glass_mismatch), (97, k_glass_mismatches), (100, k_glass_checkHeated), (101, k_glass_wall_strains), (109, k_glass_orders), (110, k_glass_anywhere), (111, k_slices_Clone_int_int), (123, k_glass_zoneOf), (125, k_glass_leastLeft), (126, k_glass_mostLeft), (129, k_glass_zonesDown), (130, k_glass_plus), (132, k_glass_mismatches_1), (133, k_glass_wall_check), (134, k_glass_wall_strains_1), (135, k_glass_ticks), (136, k_glass_capped), (137, k_glass_relaxed), (138, k_glass_wall_added), (141, k_glass_orders_1), (142, k_glass_orders_1_1), (146, k_glass_zonesDown_1), (147, k_slices_Backward_api_Zone_api_Zone), (148, k_glass_ticks_1), (149, k_glass_divideDown), (150, k_slices_Backward_api_Zone_api_Zone_1), (167, k_glass_mismatch_surelyBreaks), (168, k_glass_mismatch_surelyHolds), (169, k_glass_strained_surelyBreaks), (170, k_glass_strained_surelyHolds)]
def tabGet : List (Nat × AFun) → Nat → Option AFun
  | [], _ => none
  | (n, c) :: l, g => if Nat.beq n g = true then some c else tabGet l g
def tab (g : Nat) : Option AFun := tabGet tabL g
def AllOK : List (Nat × AFun) → Prop
  | [] => True
  | p :: l => EntryOK Try.prog p.1 p.2 ∧ AllOK l
theorem AllOK.get : ∀ {l : List (Nat × AFun)}, AllOK l → ∀ p ∈ l, EntryOK Try.prog p.1 p.2
  | [], _, p, h => by simp at h
  | q :: l, h, p, hp => by
    rcases List.mem_cons.1 hp with rfl | hp
    · exact h.1
    · exact AllOK.get h.2 p hp
theorem tab_all : ∀ p ∈ tabL, EntryOK Try.prog p.1 p.2 := AllOK.get (l := tabL) (⟨e_law05_awake, ⟨e_glass_Check, ⟨e_glass_CheckOven, ⟨e_glass_CheckFires, ⟨e_glass_Seal, ⟨e_kit_Same, ⟨e_glass_Strain, ⟨e_glass_First, ⟨e_law05_span, ⟨e_law05_wall, ⟨e_law05_lead, ⟨e_law05_joins, ⟨e_glass_within, ⟨e_glass_isHeat, ⟨e_glass_checkRange, ⟨e_glass_checkSeal, ⟨e_glass_less, ⟨e_glass_judge_glass_mismatch, ⟨e_glass_mismatches, ⟨e_glass_checkHeated, ⟨e_glass_wall_strains, ⟨e_glass_orders, ⟨e_glass_anywhere, ⟨e_slices_Clone_int_int, ⟨e_glass_zoneOf, ⟨e_glass_leastLeft, ⟨e_glass_mostLeft, ⟨e_glass_zonesDown, ⟨e_glass_plus, ⟨e_glass_mismatches_1, ⟨e_glass_wall_check, ⟨e_glass_wall_strains_1, ⟨e_glass_ticks, ⟨e_glass_capped, ⟨e_glass_relaxed, ⟨e_glass_wall_added, ⟨e_glass_orders_1, ⟨e_glass_orders_1_1, ⟨e_glass_zonesDown_1, ⟨e_slices_Backward_api_Zone_api_Zone, ⟨e_glass_ticks_1, ⟨e_glass_divideDown, ⟨e_slices_Backward_api_Zone_api_Zone_1, ⟨e_glass_mismatch_surelyBreaks, ⟨e_glass_mismatch_surelyHolds, ⟨e_glass_strained_surelyBreaks, ⟨e_glass_strained_surelyHolds, trivial⟩⟩⟩⟩⟩⟩⟩⟩⟩⟩⟩⟩⟩⟩⟩⟩⟩⟩⟩⟩⟩⟩⟩⟩⟩⟩⟩⟩⟩⟩⟩⟩⟩⟩⟩⟩⟩⟩⟩⟩⟩⟩⟩⟩⟩⟩⟩)
theorem tabGet_mem : ∀ (l : List (Nat × AFun)) (g : Nat) (c : AFun), tabGet l g = some c → (g, c) ∈ l
  | [], _, _, h => by cases h
  | (n, c') :: l, g, c, h => by
    simp only [tabGet] at h
    split at h
    · rename_i hn
      cases h
      rw [Nat.eq_of_beq_eq_true hn]; exact List.mem_cons_self
    · exact List.mem_cons_of_mem _ (tabGet_mem l g c h)
theorem tab_ok (g : Nat) (af : AFun) (h : tab g = some af) : EntryOK Try.prog g af := by
  have h2 := tab_all _ (tabGet_mem _ _ _ h)
  exact h2
end Go.Proofs

