/- A part of the proof. -/
import Derived.Test.YtmpocglkfgfpbaaPG
set_option linter.unusedSimpArgs false
set_option linter.unusedVariables false
namespace Go.Proofs
open Go Go.Sx

def k_law05_GlassStrains_r0 : List AOper := [
  ⟨some 7, .box (.tmp 0), none, []⟩,
 ⟨some 9, .box (.tmp 2), none, []⟩,
 ⟨some 11, .box (.tmp 4), none, []⟩,
 ⟨some 14, .move (.const (.bool false)), none, []⟩]
def k_law05_GlassStrains_r1 : List AOper := [
  ⟨some 35, .fieldAddr 1 (.tmp 7), none, []⟩,
 ⟨some 36, .load none (.tmp 35), none, []⟩,
 ⟨some 37, .len false (.tmp 36), none, []⟩,
 ⟨some 38, .bin .plain .gtr (.tmp 37) (.const (.int .i64 30)), none, []⟩,
 ⟨some 39, .move (.tmp 38), none, []⟩,
 ⟨some 40, .fieldAddr 1 (.tmp 9), (some (39, false)), []⟩,
 ⟨some 41, .load none (.tmp 40), (some (39, false)), []⟩,
 ⟨some 42, .len false (.tmp 41), (some (39, false)), []⟩,
 ⟨some 43, .bin .plain .gtr (.tmp 42) (.const (.int .i64 30)), (some (39, false)), []⟩,
 ⟨some 44, .pick (.tmp 39) (.const (.bool true)) (.tmp 43), none, []⟩]
def k_law05_GlassStrains_r2 : List AOper := [
  ⟨some 45, .call (.const (.fn (.func 20) [] [])) [], none, []⟩,
 ⟨some 14, .move (.tmp 45), none, []⟩]
def k_law05_GlassStrains_r3 : List AOper := [
  ⟨some 46, .move (.tmp 6), none, []⟩,
 ⟨some 47, .call (.const (.fn (.func 21) [] [])) [.tmp 46], none, []⟩,
 ⟨some 15, .move (.tmp 47), none, []⟩]
def k_law05_GlassStrains_r4 : List AOper := [
  ⟨some 48, .move (.tmp 15), none, []⟩,
 ⟨some 49, .call (.const (.fn (.func 22) [] [])) [.tmp 48], none, []⟩,
 ⟨some 50, .move (.tmp 15), none, []⟩,
 ⟨some 51, .call (.const (.fn (.func 23) [] [])) [.tmp 50, .const (.int .i64 6), .const (.int .i64 60)], none, []⟩,
 ⟨some 16, .box (.const (.agg [.int .i64 0, .nilsl])), none, []⟩,
 ⟨some 17, .box (.const (.agg [.int .i64 0, .nilsl])), none, []⟩,
 ⟨none, .store 2 (.tmp 16) (.tmp 49), none, []⟩,
 ⟨none, .store 2 (.tmp 17) (.tmp 51), none, []⟩]
def k_law05_GlassStrains_r5 : List AOper := [
  ⟨some 52, .move (.tmp 15), none, []⟩,
 ⟨some 53, .buildSlice 1 [.const (.int .i64 20), .const (.int .i64 1000)], none, []⟩,
 ⟨some 54, .move (.tmp 15), none, []⟩,
 ⟨some 55, .call (.const (.fn (.func 26) [] [])) [.tmp 54, .const (.int .i64 2)], none, []⟩,
 ⟨some 56, .indexAddr 1 (.tmp 53) (.tmp 55), none, []⟩,
 ⟨some 57, .load none (.tmp 56), none, []⟩,
 ⟨some 58, .call (.const (.fn (.func 44) [] [])) [.tmp 52, .const (.int .i64 1), .tmp 57], none, []⟩,
 ⟨some 18, .move (.tmp 58), none, []⟩]
def k_law05_GlassStrains_r6 : List AOper := [
  ⟨some 59, .move (.tmp 15), none, []⟩,
 ⟨some 60, .load (some (2)) (.tmp 16), none, []⟩,
 ⟨some 61, .move (.tmp 18), none, []⟩,
 ⟨some 62, .load (some (2)) (.tmp 17), none, []⟩,
 ⟨some 63, .call (.const (.fn (.func 50) [] [])) [.tmp 59, .tmp 60, .tmp 61, .tmp 62], none, []⟩,
 ⟨some 19, .move (.tmp 63), none, []⟩]
def k_law05_GlassStrains_r7 : List AOper := [
  ⟨some 64, .load (some (2)) (.tmp 7), none, []⟩,
 ⟨some 65, .load (some (2)) (.tmp 16), none, [0]⟩,
 ⟨some 66, .buildSlice 2 [.tmp 64, .tmp 65], none, []⟩,
 ⟨some 67, .load (some (2)) (.tmp 9), none, [0, 1, 2]⟩,
 ⟨some 68, .load (some (2)) (.tmp 17), none, [0, 1, 2, 3]⟩,
 ⟨some 69, .buildSlice 2 [.tmp 67, .tmp 68], none, [0, 1, 2]⟩,
 ⟨some 70, .move (.tmp 1), none, [0, 1, 2, 3, 4, 5]⟩,
 ⟨some 71, .move (.tmp 18), none, [0, 1, 2, 3, 4, 5, 6]⟩,
 ⟨some 72, .buildSlice 1 [.tmp 70, .tmp 71], none, [0, 1, 2, 3, 4, 5]⟩,
 ⟨some 73, .move (.tmp 3), none, [0, 1, 2, 3, 4, 5, 6, 7, 8]⟩,
 ⟨some 74, .move (.tmp 19), none, [0, 1, 2, 3, 4, 5, 6, 7, 8, 9]⟩,
 ⟨some 75, .buildSlice 1 [.tmp 73, .tmp 74], none, [0, 1, 2, 3, 4, 5, 6, 7, 8]⟩,
 ⟨some 20, .move (.tmp 66), none, [3, 4, 5, 6, 7, 8, 9, 10, 11]⟩,
 ⟨some 21, .move (.tmp 69), none, [6, 7, 8, 9, 10, 11]⟩,
 ⟨some 22, .move (.tmp 72), none, [9, 10, 11]⟩,
 ⟨some 23, .move (.tmp 75), none, []⟩]
def k_law05_GlassStrains_r7s : List (List AOper) := [
  [
  ⟨some 64, .load (some (2)) (.tmp 7), none, []⟩,
 ⟨some 65, .load (some (2)) (.tmp 16), none, [0]⟩,
 ⟨some 66, .buildSlice 2 [.tmp 64, .tmp 65], none, []⟩,
 ⟨some 67, .load (some (2)) (.tmp 9), none, [0, 1, 2]⟩,
 ⟨some 68, .load (some (2)) (.tmp 17), none, [0, 1, 2, 3]⟩,
 ⟨some 69, .buildSlice 2 [.tmp 67, .tmp 68], none, [0, 1, 2]⟩,
 ⟨some 70, .move (.tmp 1), none, [0, 1, 2, 3, 4, 5]⟩,
 ⟨some 71, .move (.tmp 18), none, [0, 1, 2, 3, 4, 5, 6]⟩,
 ⟨some 72, .buildSlice 1 [.tmp 70, .tmp 71], none, [0, 1, 2, 3, 4, 5]⟩,
 ⟨some 73, .move (.tmp 3), none, [0, 1, 2, 3, 4, 5, 6, 7, 8]⟩,
 ⟨some 74, .move (.tmp 19), none, [0, 1, 2, 3, 4, 5, 6, 7, 8, 9]⟩,
 ⟨some 75, .buildSlice 1 [.tmp 73, .tmp 74], none, [0, 1, 2, 3, 4, 5, 6, 7, 8]⟩,
 ⟨some 20, .move (.tmp 66), none, [3, 4, 5, 6, 7, 8, 9, 10, 11]⟩,
 ⟨some 21, .move (.tmp 69), none, [6, 7, 8, 9, 10, 11]⟩,
 ⟨some 22, .move (.tmp 72), none, [9, 10, 11]⟩], 
  [
  ⟨some 23, .move (.tmp 75), none, []⟩]]
theorem k_law05_GlassStrains_r7_sg : segs k_law05_GlassStrains_r7 = k_law05_GlassStrains_r7s := by kernel_rfl
theorem k_law05_GlassStrains_r7_st : statOK k_law05_GlassStrains_r7 = true := by kernel_rfl
def k_law05_GlassStrains_r8 : List AOper := [
  ⟨some 24, .move (.const (.int .i64 0)), none, []⟩]
def k_law05_GlassStrains_r9 : List AOper := [
  ⟨some 76, .move (.tmp 24), none, []⟩,
 ⟨some 77, .bin .plain .lss (.tmp 76) (.const (.int .i64 2)), none, []⟩]
def k_law05_GlassStrains_r10 : List AOper := [
  ⟨some 81, .move (.tmp 20), none, []⟩,
 ⟨some 82, .move (.tmp 24), none, [0]⟩,
 ⟨some 83, .indexAddr 2 (.tmp 81) (.tmp 82), none, []⟩,
 ⟨some 84, .load (some (2)) (.tmp 83), none, []⟩,
 ⟨some 85, .move (.tmp 22), none, [0, 1, 2, 3]⟩,
 ⟨some 86, .move (.tmp 24), none, [0, 1, 2, 3, 4]⟩,
 ⟨some 87, .indexAddr 1 (.tmp 85) (.tmp 86), none, [0, 1, 2, 3]⟩,
 ⟨some 88, .load none (.tmp 87), none, [0, 1, 2, 3]⟩,
 ⟨some 89, .move (.tmp 21), none, [0, 1, 2, 3, 4, 5, 6, 7]⟩,
 ⟨some 90, .move (.tmp 24), none, [0, 1, 2, 3, 4, 5, 6, 7, 8]⟩,
 ⟨some 91, .indexAddr 2 (.tmp 89) (.tmp 90), none, [0, 1, 2, 3, 4, 5, 6, 7]⟩,
 ⟨some 92, .load (some (2)) (.tmp 91), none, [0, 1, 2, 3, 4, 5, 6, 7]⟩,
 ⟨some 93, .call (.const (.fn (.func 51) [] [])) [.tmp 84, .tmp 88, .tmp 92], none, []⟩,
 ⟨some 80, .move (.tmp 93), none, []⟩,
 ⟨some 94, .extract (.tmp 80) 0, none, []⟩,
 ⟨some 95, .extract (.tmp 80) 1, none, [14]⟩,
 ⟨some 25, .move (.tmp 94), none, [15]⟩,
 ⟨some 26, .move (.tmp 95), none, []⟩]
def k_law05_GlassStrains_r10s : List (List AOper) := [
  [
  ⟨some 81, .move (.tmp 20), none, []⟩,
 ⟨some 82, .move (.tmp 24), none, [0]⟩,
 ⟨some 83, .indexAddr 2 (.tmp 81) (.tmp 82), none, []⟩,
 ⟨some 84, .load (some (2)) (.tmp 83), none, []⟩,
 ⟨some 85, .move (.tmp 22), none, [0, 1, 2, 3]⟩,
 ⟨some 86, .move (.tmp 24), none, [0, 1, 2, 3, 4]⟩,
 ⟨some 87, .indexAddr 1 (.tmp 85) (.tmp 86), none, [0, 1, 2, 3]⟩,
 ⟨some 88, .load none (.tmp 87), none, [0, 1, 2, 3]⟩,
 ⟨some 89, .move (.tmp 21), none, [0, 1, 2, 3, 4, 5, 6, 7]⟩,
 ⟨some 90, .move (.tmp 24), none, [0, 1, 2, 3, 4, 5, 6, 7, 8]⟩,
 ⟨some 91, .indexAddr 2 (.tmp 89) (.tmp 90), none, [0, 1, 2, 3, 4, 5, 6, 7]⟩,
 ⟨some 92, .load (some (2)) (.tmp 91), none, [0, 1, 2, 3, 4, 5, 6, 7]⟩], 
  [
  ⟨some 93, .call (.const (.fn (.func 51) [] [])) [.tmp 84, .tmp 88, .tmp 92], none, []⟩], 
  [
  ⟨some 80, .move (.tmp 93), none, []⟩], 
  [
  ⟨some 94, .extract (.tmp 80) 0, none, []⟩,
 ⟨some 95, .extract (.tmp 80) 1, none, [14]⟩,
 ⟨some 25, .move (.tmp 94), none, [15]⟩], 
  [
  ⟨some 26, .move (.tmp 95), none, []⟩]]
theorem k_law05_GlassStrains_r10_sg : segs k_law05_GlassStrains_r10 = k_law05_GlassStrains_r10s := by kernel_rfl
theorem k_law05_GlassStrains_r10_st : statOK k_law05_GlassStrains_r10 = true := by kernel_rfl
def k_law05_GlassStrains_r11 : List AOper := [
  ⟨some 97, .move (.tmp 20), none, []⟩,
 ⟨some 98, .move (.tmp 24), none, [0]⟩,
 ⟨some 99, .indexAddr 2 (.tmp 97) (.tmp 98), none, []⟩,
 ⟨some 100, .load (some (2)) (.tmp 99), none, []⟩,
 ⟨some 101, .move (.tmp 22), none, [0, 1, 2, 3]⟩,
 ⟨some 102, .move (.tmp 24), none, [0, 1, 2, 3, 4]⟩,
 ⟨some 103, .indexAddr 1 (.tmp 101) (.tmp 102), none, [0, 1, 2, 3]⟩,
 ⟨some 104, .load none (.tmp 103), none, [0, 1, 2, 3]⟩,
 ⟨some 105, .move (.tmp 21), none, [0, 1, 2, 3, 4, 5, 6, 7]⟩,
 ⟨some 106, .move (.tmp 24), none, [0, 1, 2, 3, 4, 5, 6, 7, 8]⟩,
 ⟨some 107, .indexAddr 2 (.tmp 105) (.tmp 106), none, [0, 1, 2, 3, 4, 5, 6, 7]⟩,
 ⟨some 108, .load (some (2)) (.tmp 107), none, [0, 1, 2, 3, 4, 5, 6, 7]⟩,
 ⟨some 109, .call (.const (.fn (.func 52) [] [])) [.tmp 100, .tmp 104, .tmp 108], none, []⟩,
 ⟨some 96, .move (.tmp 109), none, []⟩,
 ⟨some 110, .extract (.tmp 96) 0, none, []⟩,
 ⟨some 111, .extract (.tmp 96) 1, none, [14]⟩,
 ⟨some 27, .move (.tmp 110), none, [15]⟩,
 ⟨some 28, .move (.tmp 111), none, []⟩]
def k_law05_GlassStrains_r11s : List (List AOper) := [
  [
  ⟨some 97, .move (.tmp 20), none, []⟩,
 ⟨some 98, .move (.tmp 24), none, [0]⟩,
 ⟨some 99, .indexAddr 2 (.tmp 97) (.tmp 98), none, []⟩,
 ⟨some 100, .load (some (2)) (.tmp 99), none, []⟩,
 ⟨some 101, .move (.tmp 22), none, [0, 1, 2, 3]⟩,
 ⟨some 102, .move (.tmp 24), none, [0, 1, 2, 3, 4]⟩,
 ⟨some 103, .indexAddr 1 (.tmp 101) (.tmp 102), none, [0, 1, 2, 3]⟩,
 ⟨some 104, .load none (.tmp 103), none, [0, 1, 2, 3]⟩,
 ⟨some 105, .move (.tmp 21), none, [0, 1, 2, 3, 4, 5, 6, 7]⟩,
 ⟨some 106, .move (.tmp 24), none, [0, 1, 2, 3, 4, 5, 6, 7, 8]⟩,
 ⟨some 107, .indexAddr 2 (.tmp 105) (.tmp 106), none, [0, 1, 2, 3, 4, 5, 6, 7]⟩,
 ⟨some 108, .load (some (2)) (.tmp 107), none, [0, 1, 2, 3, 4, 5, 6, 7]⟩], 
  [
  ⟨some 109, .call (.const (.fn (.func 52) [] [])) [.tmp 100, .tmp 104, .tmp 108], none, []⟩], 
  [
  ⟨some 96, .move (.tmp 109), none, []⟩], 
  [
  ⟨some 110, .extract (.tmp 96) 0, none, []⟩,
 ⟨some 111, .extract (.tmp 96) 1, none, [14]⟩,
 ⟨some 27, .move (.tmp 110), none, [15]⟩], 
  [
  ⟨some 28, .move (.tmp 111), none, []⟩]]
theorem k_law05_GlassStrains_r11_sg : segs k_law05_GlassStrains_r11 = k_law05_GlassStrains_r11s := by kernel_rfl
theorem k_law05_GlassStrains_r11_st : statOK k_law05_GlassStrains_r11 = true := by kernel_rfl
def k_law05_GlassStrains_r12 : List AOper := [
  ⟨some 113, .move (.tmp 20), none, []⟩,
 ⟨some 114, .move (.tmp 24), none, [0]⟩,
 ⟨some 115, .indexAddr 2 (.tmp 113) (.tmp 114), none, []⟩,
 ⟨some 116, .load (some (2)) (.tmp 115), none, []⟩,
 ⟨some 117, .move (.tmp 22), none, [0, 1, 2, 3]⟩,
 ⟨some 118, .move (.tmp 24), none, [0, 1, 2, 3, 4]⟩,
 ⟨some 119, .indexAddr 1 (.tmp 117) (.tmp 118), none, [0, 1, 2, 3]⟩,
 ⟨some 120, .load none (.tmp 119), none, [0, 1, 2, 3]⟩,
 ⟨some 121, .move (.tmp 21), none, [0, 1, 2, 3, 4, 5, 6, 7]⟩,
 ⟨some 122, .move (.tmp 24), none, [0, 1, 2, 3, 4, 5, 6, 7, 8]⟩,
 ⟨some 123, .indexAddr 2 (.tmp 121) (.tmp 122), none, [0, 1, 2, 3, 4, 5, 6, 7]⟩,
 ⟨some 124, .load (some (2)) (.tmp 123), none, [0, 1, 2, 3, 4, 5, 6, 7]⟩,
 ⟨some 125, .move (.tmp 23), none, [0, 1, 2, 3, 4, 5, 6, 7, 8, 9, 10, 11]⟩,
 ⟨some 126, .move (.tmp 24), none, [0, 1, 2, 3, 4, 5, 6, 7, 8, 9, 10, 11, 12]⟩,
 ⟨some 127, .indexAddr 1 (.tmp 125) (.tmp 126), none, [0, 1, 2, 3, 4, 5, 6, 7, 8, 9, 10, 11]⟩,
 ⟨some 128, .load none (.tmp 127), none, [0, 1, 2, 3, 4, 5, 6, 7, 8, 9, 10, 11]⟩,
 ⟨some 129, .call (.const (.fn (.func 53) [] [])) [.tmp 116, .tmp 120, .tmp 124, .tmp 128], none, []⟩,
 ⟨some 112, .move (.tmp 129), none, []⟩,
 ⟨some 130, .extract (.tmp 112) 0, none, []⟩,
 ⟨some 131, .extract (.tmp 112) 1, none, [18]⟩,
 ⟨some 132, .extract (.tmp 112) 2, none, [18, 19]⟩,
 ⟨some 29, .move (.tmp 130), none, [19, 20]⟩,
 ⟨some 30, .move (.tmp 131), none, [20]⟩,
 ⟨some 31, .move (.tmp 132), none, []⟩]
def k_law05_GlassStrains_r12s : List (List AOper) := [
  [
  ⟨some 113, .move (.tmp 20), none, []⟩,
 ⟨some 114, .move (.tmp 24), none, [0]⟩,
 ⟨some 115, .indexAddr 2 (.tmp 113) (.tmp 114), none, []⟩,
 ⟨some 116, .load (some (2)) (.tmp 115), none, []⟩,
 ⟨some 117, .move (.tmp 22), none, [0, 1, 2, 3]⟩,
 ⟨some 118, .move (.tmp 24), none, [0, 1, 2, 3, 4]⟩,
 ⟨some 119, .indexAddr 1 (.tmp 117) (.tmp 118), none, [0, 1, 2, 3]⟩,
 ⟨some 120, .load none (.tmp 119), none, [0, 1, 2, 3]⟩,
 ⟨some 121, .move (.tmp 21), none, [0, 1, 2, 3, 4, 5, 6, 7]⟩,
 ⟨some 122, .move (.tmp 24), none, [0, 1, 2, 3, 4, 5, 6, 7, 8]⟩,
 ⟨some 123, .indexAddr 2 (.tmp 121) (.tmp 122), none, [0, 1, 2, 3, 4, 5, 6, 7]⟩,
 ⟨some 124, .load (some (2)) (.tmp 123), none, [0, 1, 2, 3, 4, 5, 6, 7]⟩,
 ⟨some 125, .move (.tmp 23), none, [0, 1, 2, 3, 4, 5, 6, 7, 8, 9, 10, 11]⟩,
 ⟨some 126, .move (.tmp 24), none, [0, 1, 2, 3, 4, 5, 6, 7, 8, 9, 10, 11, 12]⟩,
 ⟨some 127, .indexAddr 1 (.tmp 125) (.tmp 126), none, [0, 1, 2, 3, 4, 5, 6, 7, 8, 9, 10, 11]⟩,
 ⟨some 128, .load none (.tmp 127), none, [0, 1, 2, 3, 4, 5, 6, 7, 8, 9, 10, 11]⟩], 
  [
  ⟨some 129, .call (.const (.fn (.func 53) [] [])) [.tmp 116, .tmp 120, .tmp 124, .tmp 128], none, []⟩], 
  [
  ⟨some 112, .move (.tmp 129), none, []⟩], 
  [
  ⟨some 130, .extract (.tmp 112) 0, none, []⟩,
 ⟨some 131, .extract (.tmp 112) 1, none, [18]⟩,
 ⟨some 132, .extract (.tmp 112) 2, none, [18, 19]⟩,
 ⟨some 29, .move (.tmp 130), none, [19, 20]⟩,
 ⟨some 30, .move (.tmp 131), none, [20]⟩], 
  [
  ⟨some 31, .move (.tmp 132), none, []⟩]]
theorem k_law05_GlassStrains_r12_sg : segs k_law05_GlassStrains_r12 = k_law05_GlassStrains_r12s := by kernel_rfl
theorem k_law05_GlassStrains_r12_st : statOK k_law05_GlassStrains_r12 = true := by kernel_rfl
def k_law05_GlassStrains_r13 : List AOper := [
  ⟨some 134, .move (.tmp 20), none, []⟩,
 ⟨some 135, .move (.tmp 24), none, [0]⟩,
 ⟨some 136, .indexAddr 2 (.tmp 134) (.tmp 135), none, []⟩,
 ⟨some 137, .load (some (2)) (.tmp 136), none, []⟩,
 ⟨some 138, .move (.tmp 22), none, [0, 1, 2, 3]⟩,
 ⟨some 139, .move (.tmp 24), none, [0, 1, 2, 3, 4]⟩,
 ⟨some 140, .indexAddr 1 (.tmp 138) (.tmp 139), none, [0, 1, 2, 3]⟩,
 ⟨some 141, .load none (.tmp 140), none, [0, 1, 2, 3]⟩,
 ⟨some 142, .move (.tmp 21), none, [0, 1, 2, 3, 4, 5, 6, 7]⟩,
 ⟨some 143, .move (.tmp 24), none, [0, 1, 2, 3, 4, 5, 6, 7, 8]⟩,
 ⟨some 144, .indexAddr 2 (.tmp 142) (.tmp 143), none, [0, 1, 2, 3, 4, 5, 6, 7]⟩,
 ⟨some 145, .load (some (2)) (.tmp 144), none, [0, 1, 2, 3, 4, 5, 6, 7]⟩,
 ⟨some 146, .move (.tmp 23), none, [0, 1, 2, 3, 4, 5, 6, 7, 8, 9, 10, 11]⟩,
 ⟨some 147, .move (.tmp 24), none, [0, 1, 2, 3, 4, 5, 6, 7, 8, 9, 10, 11, 12]⟩,
 ⟨some 148, .indexAddr 1 (.tmp 146) (.tmp 147), none, [0, 1, 2, 3, 4, 5, 6, 7, 8, 9, 10, 11]⟩,
 ⟨some 149, .load none (.tmp 148), none, [0, 1, 2, 3, 4, 5, 6, 7, 8, 9, 10, 11]⟩,
 ⟨some 150, .call (.const (.fn (.func 54) [] [])) [.tmp 137, .tmp 141, .tmp 145, .tmp 149], none, []⟩,
 ⟨some 133, .move (.tmp 150), none, []⟩,
 ⟨some 151, .extract (.tmp 133) 0, none, []⟩,
 ⟨some 152, .extract (.tmp 133) 1, none, [18]⟩,
 ⟨some 153, .extract (.tmp 133) 2, none, [18, 19]⟩,
 ⟨some 32, .move (.tmp 151), none, [19, 20]⟩,
 ⟨some 33, .move (.tmp 152), none, [20]⟩,
 ⟨some 34, .move (.tmp 153), none, []⟩]
def k_law05_GlassStrains_r13s : List (List AOper) := [
  [
  ⟨some 134, .move (.tmp 20), none, []⟩,
 ⟨some 135, .move (.tmp 24), none, [0]⟩,
 ⟨some 136, .indexAddr 2 (.tmp 134) (.tmp 135), none, []⟩,
 ⟨some 137, .load (some (2)) (.tmp 136), none, []⟩,
 ⟨some 138, .move (.tmp 22), none, [0, 1, 2, 3]⟩,
 ⟨some 139, .move (.tmp 24), none, [0, 1, 2, 3, 4]⟩,
 ⟨some 140, .indexAddr 1 (.tmp 138) (.tmp 139), none, [0, 1, 2, 3]⟩,
 ⟨some 141, .load none (.tmp 140), none, [0, 1, 2, 3]⟩,
 ⟨some 142, .move (.tmp 21), none, [0, 1, 2, 3, 4, 5, 6, 7]⟩,
 ⟨some 143, .move (.tmp 24), none, [0, 1, 2, 3, 4, 5, 6, 7, 8]⟩,
 ⟨some 144, .indexAddr 2 (.tmp 142) (.tmp 143), none, [0, 1, 2, 3, 4, 5, 6, 7]⟩,
 ⟨some 145, .load (some (2)) (.tmp 144), none, [0, 1, 2, 3, 4, 5, 6, 7]⟩,
 ⟨some 146, .move (.tmp 23), none, [0, 1, 2, 3, 4, 5, 6, 7, 8, 9, 10, 11]⟩,
 ⟨some 147, .move (.tmp 24), none, [0, 1, 2, 3, 4, 5, 6, 7, 8, 9, 10, 11, 12]⟩,
 ⟨some 148, .indexAddr 1 (.tmp 146) (.tmp 147), none, [0, 1, 2, 3, 4, 5, 6, 7, 8, 9, 10, 11]⟩,
 ⟨some 149, .load none (.tmp 148), none, [0, 1, 2, 3, 4, 5, 6, 7, 8, 9, 10, 11]⟩], 
  [
  ⟨some 150, .call (.const (.fn (.func 54) [] [])) [.tmp 137, .tmp 141, .tmp 145, .tmp 149], none, []⟩], 
  [
  ⟨some 133, .move (.tmp 150), none, []⟩], 
  [
  ⟨some 151, .extract (.tmp 133) 0, none, []⟩,
 ⟨some 152, .extract (.tmp 133) 1, none, [18]⟩,
 ⟨some 153, .extract (.tmp 133) 2, none, [18, 19]⟩,
 ⟨some 32, .move (.tmp 151), none, [19, 20]⟩,
 ⟨some 33, .move (.tmp 152), none, [20]⟩], 
  [
  ⟨some 34, .move (.tmp 153), none, []⟩]]
theorem k_law05_GlassStrains_r13_sg : segs k_law05_GlassStrains_r13 = k_law05_GlassStrains_r13s := by kernel_rfl
theorem k_law05_GlassStrains_r13_st : statOK k_law05_GlassStrains_r13 = true := by kernel_rfl
def k_law05_GlassStrains_r14 : List AOper := [
  ⟨some 154, .move (.tmp 25), none, []⟩,
 ⟨some 155, .move (.tmp 27), none, []⟩,
 ⟨some 156, .call (.const (.fn (.func 55) [] [])) [.tmp 154, .tmp 155], none, []⟩,
 ⟨some 157, .not (.tmp 156), none, []⟩,
 ⟨some 158, .move (.tmp 157), none, []⟩,
 ⟨some 159, .move (.tmp 26), (some (158, false)), []⟩,
 ⟨some 160, .move (.tmp 28), (some (158, false)), []⟩,
 ⟨some 161, .bin .plain .neq (.tmp 159) (.tmp 160), (some (158, false)), []⟩,
 ⟨some 162, .pick (.tmp 158) (.const (.bool true)) (.tmp 161), none, []⟩,
 ⟨some 163, .move (.tmp 162), none, []⟩,
 ⟨some 164, .move (.tmp 29), (some (163, false)), []⟩,
 ⟨some 165, .move (.tmp 32), (some (163, false)), []⟩,
 ⟨some 166, .bin .plain .neq (.tmp 164) (.tmp 165), (some (163, false)), []⟩,
 ⟨some 167, .pick (.tmp 163) (.const (.bool true)) (.tmp 166), none, []⟩,
 ⟨some 168, .move (.tmp 167), none, []⟩,
 ⟨some 169, .move (.tmp 30), (some (168, false)), []⟩,
 ⟨some 170, .move (.tmp 33), (some (168, false)), []⟩,
 ⟨some 171, .bin .plain .neq (.tmp 169) (.tmp 170), (some (168, false)), []⟩,
 ⟨some 172, .pick (.tmp 168) (.const (.bool true)) (.tmp 171), none, []⟩,
 ⟨some 173, .move (.tmp 172), none, []⟩,
 ⟨some 174, .move (.tmp 31), (some (173, false)), []⟩,
 ⟨some 175, .move (.tmp 34), (some (173, false)), []⟩,
 ⟨some 176, .bin .plain .neq (.tmp 174) (.tmp 175), (some (173, false)), []⟩,
 ⟨some 177, .pick (.tmp 173) (.const (.bool true)) (.tmp 176), none, []⟩]
def k_law05_GlassStrains_r15 : List AOper := [
  ⟨some 14, .move (.const (.bool false)), none, []⟩]
def k_law05_GlassStrains_r16 : List AOper := [
  ⟨some 78, .move (.tmp 24), none, []⟩,
 ⟨some 79, .bin .plain .add (.tmp 78) (.const (.int .i64 1)), none, []⟩,
 ⟨some 24, .move (.tmp 79), none, []⟩]
def k_law05_GlassStrains_r17 : ACode := (.seq (.seq (.reg k_law05_GlassStrains_r9 false) (.cond (.tmp 77) .skip (.exit 0))) (.seq (.block 1 (.seq (.reg k_law05_GlassStrains_r10 true) (.seq (.reg k_law05_GlassStrains_r11 true) (.seq (.reg k_law05_GlassStrains_r12 true) (.seq (.reg k_law05_GlassStrains_r13 true) (.seq (.reg k_law05_GlassStrains_r14 false) (.cond (.tmp 177) (.seq (.reg k_law05_GlassStrains_r15 false) .ret) .skip))))))) (.reg k_law05_GlassStrains_r16 false)))
def k_law05_GlassStrains_r18 : List AOper := [
  ⟨some 178, .load (some (2)) (.tmp 7), none, []⟩,
 ⟨some 179, .load (some (2)) (.tmp 11), none, []⟩,
 ⟨some 180, .move (.tmp 5), none, []⟩,
 ⟨some 181, .move (.tmp 3), none, []⟩,
 ⟨some 182, .move (.tmp 6), none, []⟩,
 ⟨some 183, .call (.const (.fn (.func 56) [] [])) [.tmp 178, .tmp 179, .tmp 180, .tmp 181, .tmp 182], none, []⟩,
 ⟨some 184, .move (.tmp 183), none, []⟩,
 ⟨some 185, .call (.const (.fn (.func 20) [] [])) [], (some (184, true)), []⟩,
 ⟨some 186, .pick (.tmp 184) (.tmp 185) (.const (.bool false)), none, []⟩,
 ⟨some 14, .move (.tmp 186), none, []⟩]
def k_law05_GlassStrains : AFun := { params := 7, ntmps := 187, body := (.seq (.reg k_law05_GlassStrains_r0 false) (.seq (.seq (.reg k_law05_GlassStrains_r1 false) (.cond (.tmp 44) (.seq (.reg k_law05_GlassStrains_r2 false) .ret) .skip)) (.seq (.reg k_law05_GlassStrains_r3 false) (.seq (.reg k_law05_GlassStrains_r4 false) (.seq (.reg k_law05_GlassStrains_r5 false) (.seq (.reg k_law05_GlassStrains_r6 false) (.seq (.reg k_law05_GlassStrains_r7 true) (.seq (.seq (.reg k_law05_GlassStrains_r8 false) (.block 0 (.loop k_law05_GlassStrains_r17))) (.seq (.reg k_law05_GlassStrains_r18 false) .ret))))))))), res := [.tmp 14] }
theorem k_law05_GlassStrains_ok : cfun Try.prog Try.f6 = k_law05_GlassStrains := by kernel_rfl

def k_ref05_Judge_r0 : List AOper := [
  ⟨some 4, .box (.tmp 0), none, []⟩,
 ⟨some 6, .box (.tmp 2), none, []⟩,
 ⟨some 8, .move (.const (.int .i64 0)), none, []⟩,
 ⟨some 9, .move (.const (.int .i64 0)), none, []⟩,
 ⟨some 10, .move (.const (.int .i64 0)), none, []⟩]
def k_ref05_Judge_r1 : List AOper := [
  ⟨some 14, .load (some (2)) (.tmp 4), none, []⟩,
 ⟨some 15, .move (.tmp 1), none, []⟩,
 ⟨some 16, .load (some (2)) (.tmp 6), none, []⟩,
 ⟨some 17, .call (.const (.fn (.func 102) [] [])) [.tmp 14, .tmp 15, .tmp 16], none, []⟩,
 ⟨some 11, .move (.tmp 17), none, []⟩]
def k_ref05_Judge_r2 : List AOper := [
  ⟨some 18, .move (.tmp 11), none, []⟩,
 ⟨some 19, .bin .plain .neq (.tmp 18) (.const (.int .i64 0)), none, []⟩]
def k_ref05_Judge_r3 : List AOper := [
  ⟨some 20, .move (.tmp 11), none, []⟩,
 ⟨some 8, .move (.const (.int .i64 0)), none, []⟩,
 ⟨some 9, .move (.const (.int .i64 0)), none, []⟩,
 ⟨some 10, .move (.tmp 20), none, []⟩]
def k_ref05_Judge_r4 : List AOper := [
  ⟨some 21, .move (.tmp 3), none, []⟩,
 ⟨some 22, .call (.const (.fn (.func 88) [] [])) [.tmp 21, .const (.int .i64 0), .const (.int .i64 1099511627776)], none, []⟩]
def k_ref05_Judge_r5 : List AOper := [
  ⟨some 8, .move (.const (.int .i64 0)), none, []⟩,
 ⟨some 9, .move (.const (.int .i64 0)), none, []⟩,
 ⟨some 10, .move (.const (.int .i64 2)), none, []⟩]
def k_ref05_Judge_r6 : List AOper := [
  ⟨some 24, .load (some (2)) (.tmp 4), none, []⟩,
 ⟨some 25, .move (.tmp 1), none, []⟩,
 ⟨some 26, .load (some (2)) (.tmp 6), none, []⟩,
 ⟨some 27, .move (.tmp 3), none, []⟩,
 ⟨some 28, .call (.const (.fn (.func 107) [] [])) [.tmp 24, .tmp 25, .tmp 26, .tmp 27], none, []⟩,
 ⟨some 23, .move (.tmp 28), none, []⟩,
 ⟨some 29, .extract (.tmp 23) 0, none, []⟩,
 ⟨some 30, .extract (.tmp 23) 1, none, []⟩,
 ⟨some 12, .move (.tmp 29), none, []⟩,
 ⟨some 13, .move (.tmp 30), none, []⟩]
def k_ref05_Judge_r7 : List AOper := [
  ⟨some 31, .move (.tmp 12), none, []⟩,
 ⟨some 32, .move (.tmp 13), none, []⟩,
 ⟨some 8, .move (.tmp 31), none, []⟩,
 ⟨some 9, .move (.tmp 32), none, []⟩,
 ⟨some 10, .move (.const (.int .i64 0)), none, []⟩]
def k_ref05_Judge : AFun := { params := 4, ntmps := 33, body := (.seq (.reg k_ref05_Judge_r0 false) (.seq (.seq (.reg k_ref05_Judge_r1 false) (.seq (.reg k_ref05_Judge_r2 false) (.cond (.tmp 19) (.seq (.reg k_ref05_Judge_r3 false) .ret) .skip))) (.seq (.seq (.reg k_ref05_Judge_r4 false) (.cond (.tmp 22) (.seq (.reg k_ref05_Judge_r5 false) .ret) .skip)) (.seq (.reg k_ref05_Judge_r6 false) (.seq (.reg k_ref05_Judge_r7 false) .ret))))), res := [.tmp 8, .tmp 9, .tmp 10] }
theorem k_ref05_Judge_ok : cfun Try.prog Try.f54 = k_ref05_Judge := by kernel_rfl

def k_kit_SameRanges_r0 : List AOper := [
  ⟨some 4, .move (.const (.bool false)), none, []⟩]
def k_kit_SameRanges_r1 : List AOper := [
  ⟨some 6, .move (.tmp 0), none, []⟩,
 ⟨some 7, .len false (.tmp 6), none, []⟩,
 ⟨some 8, .move (.tmp 1), none, []⟩,
 ⟨some 9, .len false (.tmp 8), none, []⟩,
 ⟨some 10, .bin .plain .neq (.tmp 7) (.tmp 9), none, []⟩]
def k_kit_SameRanges_r2 : List AOper := [
  ⟨some 4, .move (.const (.bool false)), none, []⟩]
def k_kit_SameRanges_r3 : List AOper := [
  ⟨some 5, .move (.const (.int .i64 0)), none, []⟩]
def k_kit_SameRanges_r4 : List AOper := [
  ⟨some 11, .move (.tmp 5), none, []⟩,
 ⟨some 12, .move (.tmp 0), none, []⟩,
 ⟨some 13, .len false (.tmp 12), none, []⟩,
 ⟨some 14, .bin .plain .lss (.tmp 11) (.tmp 13), none, []⟩]
def k_kit_SameRanges_r5 : List AOper := [
  ⟨some 17, .move (.tmp 0), none, []⟩,
 ⟨some 18, .move (.tmp 5), none, [0]⟩,
 ⟨some 19, .indexAddr 2 (.tmp 17) (.tmp 18), none, []⟩,
 ⟨some 20, .load (some (2)) (.tmp 19), none, []⟩,
 ⟨some 21, .move (.tmp 1), none, [0, 1, 2, 3]⟩,
 ⟨some 22, .move (.tmp 5), none, [0, 1, 2, 3, 4]⟩,
 ⟨some 23, .indexAddr 2 (.tmp 21) (.tmp 22), none, [0, 1, 2, 3]⟩,
 ⟨some 24, .load (some (2)) (.tmp 23), none, [0, 1, 2, 3]⟩,
 ⟨some 25, .eqAgg true [.int, .int] (.tmp 20) (.tmp 24), none, []⟩]
def k_kit_SameRanges_r5s : List (List AOper) := [
  [
  ⟨some 17, .move (.tmp 0), none, []⟩,
 ⟨some 18, .move (.tmp 5), none, [0]⟩,
 ⟨some 19, .indexAddr 2 (.tmp 17) (.tmp 18), none, []⟩,
 ⟨some 20, .load (some (2)) (.tmp 19), none, []⟩,
 ⟨some 21, .move (.tmp 1), none, [0, 1, 2, 3]⟩,
 ⟨some 22, .move (.tmp 5), none, [0, 1, 2, 3, 4]⟩,
 ⟨some 23, .indexAddr 2 (.tmp 21) (.tmp 22), none, [0, 1, 2, 3]⟩,
 ⟨some 24, .load (some (2)) (.tmp 23), none, [0, 1, 2, 3]⟩], 
  [
  ⟨some 25, .eqAgg true [.int, .int] (.tmp 20) (.tmp 24), none, []⟩]]
theorem k_kit_SameRanges_r5_sg : segs k_kit_SameRanges_r5 = k_kit_SameRanges_r5s := by kernel_rfl
theorem k_kit_SameRanges_r5_st : statOK k_kit_SameRanges_r5 = true := by kernel_rfl
def k_kit_SameRanges_r6 : List AOper := [
  ⟨some 4, .move (.const (.bool false)), none, []⟩]
def k_kit_SameRanges_r7 : List AOper := [
  ⟨some 15, .move (.tmp 5), none, []⟩,
 ⟨some 16, .bin .plain .add (.tmp 15) (.const (.int .i64 1)), none, []⟩,
 ⟨some 5, .move (.tmp 16), none, []⟩]
def k_kit_SameRanges_r8 : ACode := (.seq (.seq (.reg k_kit_SameRanges_r4 false) (.cond (.tmp 14) .skip (.exit 0))) (.seq (.block 1 (.seq (.reg k_kit_SameRanges_r5 true) (.cond (.tmp 25) (.seq (.reg k_kit_SameRanges_r6 false) .ret) .skip))) (.reg k_kit_SameRanges_r7 false)))
def k_kit_SameRanges_r9 : List AOper := [
  ⟨some 4, .move (.const (.bool true)), none, []⟩]
def k_kit_SameRanges : AFun := { params := 2, ntmps := 26, body := (.seq (.reg k_kit_SameRanges_r0 false) (.seq (.seq (.reg k_kit_SameRanges_r1 false) (.cond (.tmp 10) (.seq (.reg k_kit_SameRanges_r2 false) .ret) .skip)) (.seq (.seq (.reg k_kit_SameRanges_r3 false) (.block 0 (.loop k_kit_SameRanges_r8))) (.seq (.reg k_kit_SameRanges_r9 false) .ret)))), res := [.tmp 4] }
theorem k_kit_SameRanges_ok : cfun Try.prog Try.f55 = k_kit_SameRanges := by kernel_rfl

def k_law05_soaks_r0 : List AOper := [
  ⟨some 5, .box (.tmp 0), none, []⟩,
 ⟨some 6, .box (.tmp 1), none, []⟩,
 ⟨some 10, .move (.const (.bool false)), none, []⟩]
def k_law05_soaks_r1 : List AOper := [
  ⟨some 22, .move (.tmp 4), none, []⟩,
 ⟨some 23, .call (.const (.fn (.func 21) [] [])) [.tmp 22], none, []⟩,
 ⟨some 11, .move (.tmp 23), none, []⟩]
def k_law05_soaks_r2 : List AOper := [
  ⟨some 24, .move (.tmp 11), none, []⟩,
 ⟨some 25, .call (.const (.fn (.func 22) [] [])) [.tmp 24], none, []⟩,
 ⟨some 12, .box (.const (.agg [.int .i64 0, .nilsl])), none, []⟩,
 ⟨none, .store 2 (.tmp 12) (.tmp 25), none, []⟩]
def k_law05_soaks_r3 : List AOper := [
  ⟨some 27, .load (some (2)) (.tmp 5), none, []⟩,
 ⟨some 28, .load (some (2)) (.tmp 6), none, []⟩,
 ⟨some 29, .move (.tmp 2), none, []⟩,
 ⟨some 30, .move (.tmp 3), none, []⟩,
 ⟨some 31, .call (.const (.fn (.func 74) [] [])) [.tmp 27, .tmp 28, .tmp 29, .tmp 30], none, []⟩,
 ⟨some 26, .move (.tmp 31), none, []⟩,
 ⟨some 32, .extract (.tmp 26) 0, none, []⟩,
 ⟨some 33, .extract (.tmp 26) 1, none, []⟩,
 ⟨some 13, .box (.const (.agg [.int .i64 0, .int .i64 0])), none, []⟩,
 ⟨none, .store 2 (.tmp 13) (.tmp 32), none, []⟩,
 ⟨some 14, .move (.tmp 33), none, []⟩]
def k_law05_soaks_r4 : List AOper := [
  ⟨some 35, .load (some (2)) (.tmp 5), none, []⟩,
 ⟨some 36, .load (some (2)) (.tmp 6), none, []⟩,
 ⟨some 37, .move (.tmp 2), none, []⟩,
 ⟨some 38, .move (.tmp 3), none, []⟩,
 ⟨some 39, .call (.const (.fn (.func 108) [] [])) [.tmp 35, .tmp 36, .tmp 37, .tmp 38], none, []⟩,
 ⟨some 34, .move (.tmp 39), none, []⟩,
 ⟨some 40, .extract (.tmp 34) 0, none, []⟩,
 ⟨some 41, .extract (.tmp 34) 1, none, []⟩,
 ⟨some 15, .box (.const (.agg [.int .i64 0, .int .i64 0])), none, []⟩,
 ⟨none, .store 2 (.tmp 15) (.tmp 40), none, []⟩,
 ⟨some 16, .move (.tmp 41), none, []⟩]
def k_law05_soaks_r5 : List AOper := [
  ⟨some 42, .move (.tmp 11), none, []⟩,
 ⟨some 43, .buildSlice 1 [.const (.int .i64 99), .const (.int .i64 100000), .const (.int .i64 1099511627776)], none, []⟩,
 ⟨some 44, .move (.tmp 11), none, []⟩,
 ⟨some 45, .call (.const (.fn (.func 26) [] [])) [.tmp 44, .const (.int .i64 3)], none, []⟩,
 ⟨some 46, .indexAddr 1 (.tmp 43) (.tmp 45), none, []⟩,
 ⟨some 47, .load none (.tmp 46), none, []⟩,
 ⟨some 48, .call (.const (.fn (.func 73) [] [])) [.tmp 42, .const (.int .i64 0), .tmp 47], none, []⟩,
 ⟨some 17, .box (.const (.agg [.int .i64 0, .int .i64 0])), none, []⟩,
 ⟨none, .store 2 (.tmp 17) (.tmp 48), none, []⟩]
def k_law05_soaks_r6 : List AOper := [
  ⟨some 50, .load (some (2)) (.tmp 12), none, []⟩,
 ⟨some 51, .load (some (2)) (.tmp 17), none, [0]⟩,
 ⟨some 52, .move (.tmp 2), none, [0, 1]⟩,
 ⟨some 53, .call (.const (.fn (.func 43) [] [])) [.tmp 52, .const (.int .i64 2001)], none, [0, 1]⟩,
 ⟨some 54, .move (.tmp 3), none, [0, 1, 2, 3]⟩,
 ⟨some 55, .fieldAddr 1 (.tmp 17), none, [0, 1, 2, 3, 4]⟩,
 ⟨some 56, .load none (.tmp 55), none, [0, 1, 2, 3, 4]⟩,
 ⟨some 57, .bin .plain .add (.tmp 56) (.const (.int .i64 2)), none, [0, 1, 2, 3, 4]⟩,
 ⟨some 58, .call (.const (.fn (.func 43) [] [])) [.tmp 54, .tmp 57], none, [0, 1]⟩,
 ⟨some 59, .call (.const (.fn (.func 74) [] [])) [.tmp 50, .tmp 51, .tmp 53, .tmp 58], none, []⟩,
 ⟨some 49, .move (.tmp 59), none, []⟩,
 ⟨some 60, .extract (.tmp 49) 0, none, []⟩,
 ⟨some 61, .extract (.tmp 49) 1, none, [11]⟩,
 ⟨some 18, .box (.const (.agg [.int .i64 0, .int .i64 0])), none, [0, 1, 2, 3, 4, 5, 6, 7, 8, 9, 10, 11, 12]⟩,
 ⟨none, .store 2 (.tmp 18) (.tmp 60), none, [12]⟩,
 ⟨some 19, .move (.tmp 61), none, []⟩]
def k_law05_soaks_r6s : List (List AOper) := [
  [
  ⟨some 50, .load (some (2)) (.tmp 12), none, []⟩,
 ⟨some 51, .load (some (2)) (.tmp 17), none, [0]⟩,
 ⟨some 52, .move (.tmp 2), none, [0, 1]⟩,
 ⟨some 53, .call (.const (.fn (.func 43) [] [])) [.tmp 52, .const (.int .i64 2001)], none, [0, 1]⟩,
 ⟨some 54, .move (.tmp 3), none, [0, 1, 2, 3]⟩,
 ⟨some 55, .fieldAddr 1 (.tmp 17), none, [0, 1, 2, 3, 4]⟩,
 ⟨some 56, .load none (.tmp 55), none, [0, 1, 2, 3, 4]⟩,
 ⟨some 57, .bin .plain .add (.tmp 56) (.const (.int .i64 2)), none, [0, 1, 2, 3, 4]⟩,
 ⟨some 58, .call (.const (.fn (.func 43) [] [])) [.tmp 54, .tmp 57], none, [0, 1]⟩,
 ⟨some 59, .call (.const (.fn (.func 74) [] [])) [.tmp 50, .tmp 51, .tmp 53, .tmp 58], none, []⟩,
 ⟨some 49, .move (.tmp 59), none, []⟩,
 ⟨some 60, .extract (.tmp 49) 0, none, []⟩,
 ⟨some 61, .extract (.tmp 49) 1, none, [11]⟩,
 ⟨some 18, .box (.const (.agg [.int .i64 0, .int .i64 0])), none, [0, 1, 2, 3, 4, 5, 6, 7, 8, 9, 10, 11, 12]⟩,
 ⟨none, .store 2 (.tmp 18) (.tmp 60), none, [12]⟩], 
  [
  ⟨some 19, .move (.tmp 61), none, []⟩]]
theorem k_law05_soaks_r6_sg : segs k_law05_soaks_r6 = k_law05_soaks_r6s := by kernel_rfl
theorem k_law05_soaks_r6_st : statOK k_law05_soaks_r6 = true := by kernel_rfl
def k_law05_soaks_r7 : List AOper := [
  ⟨some 63, .load (some (2)) (.tmp 12), none, []⟩,
 ⟨some 64, .load (some (2)) (.tmp 17), none, [0]⟩,
 ⟨some 65, .move (.tmp 2), none, [0, 1]⟩,
 ⟨some 66, .call (.const (.fn (.func 43) [] [])) [.tmp 65, .const (.int .i64 2001)], none, [0, 1]⟩,
 ⟨some 67, .move (.tmp 3), none, [0, 1, 2, 3]⟩,
 ⟨some 68, .fieldAddr 1 (.tmp 17), none, [0, 1, 2, 3, 4]⟩,
 ⟨some 69, .load none (.tmp 68), none, [0, 1, 2, 3, 4]⟩,
 ⟨some 70, .bin .plain .add (.tmp 69) (.const (.int .i64 2)), none, [0, 1, 2, 3, 4]⟩,
 ⟨some 71, .call (.const (.fn (.func 43) [] [])) [.tmp 67, .tmp 70], none, [0, 1]⟩,
 ⟨some 72, .call (.const (.fn (.func 108) [] [])) [.tmp 63, .tmp 64, .tmp 66, .tmp 71], none, []⟩,
 ⟨some 62, .move (.tmp 72), none, []⟩,
 ⟨some 73, .extract (.tmp 62) 0, none, []⟩,
 ⟨some 74, .extract (.tmp 62) 1, none, [11]⟩,
 ⟨some 20, .box (.const (.agg [.int .i64 0, .int .i64 0])), none, [0, 1, 2, 3, 4, 5, 6, 7, 8, 9, 10, 11, 12]⟩,
 ⟨none, .store 2 (.tmp 20) (.tmp 73), none, [12]⟩,
 ⟨some 21, .move (.tmp 74), none, []⟩]
def k_law05_soaks_r7s : List (List AOper) := [
  [
  ⟨some 63, .load (some (2)) (.tmp 12), none, []⟩,
 ⟨some 64, .load (some (2)) (.tmp 17), none, [0]⟩,
 ⟨some 65, .move (.tmp 2), none, [0, 1]⟩,
 ⟨some 66, .call (.const (.fn (.func 43) [] [])) [.tmp 65, .const (.int .i64 2001)], none, [0, 1]⟩,
 ⟨some 67, .move (.tmp 3), none, [0, 1, 2, 3]⟩,
 ⟨some 68, .fieldAddr 1 (.tmp 17), none, [0, 1, 2, 3, 4]⟩,
 ⟨some 69, .load none (.tmp 68), none, [0, 1, 2, 3, 4]⟩,
 ⟨some 70, .bin .plain .add (.tmp 69) (.const (.int .i64 2)), none, [0, 1, 2, 3, 4]⟩,
 ⟨some 71, .call (.const (.fn (.func 43) [] [])) [.tmp 67, .tmp 70], none, [0, 1]⟩,
 ⟨some 72, .call (.const (.fn (.func 108) [] [])) [.tmp 63, .tmp 64, .tmp 66, .tmp 71], none, []⟩,
 ⟨some 62, .move (.tmp 72), none, []⟩,
 ⟨some 73, .extract (.tmp 62) 0, none, []⟩,
 ⟨some 74, .extract (.tmp 62) 1, none, [11]⟩,
 ⟨some 20, .box (.const (.agg [.int .i64 0, .int .i64 0])), none, [0, 1, 2, 3, 4, 5, 6, 7, 8, 9, 10, 11, 12]⟩,
 ⟨none, .store 2 (.tmp 20) (.tmp 73), none, [12]⟩], 
  [
  ⟨some 21, .move (.tmp 74), none, []⟩]]
theorem k_law05_soaks_r7_sg : segs k_law05_soaks_r7 = k_law05_soaks_r7s := by kernel_rfl
theorem k_law05_soaks_r7_st : statOK k_law05_soaks_r7 = true := by kernel_rfl
def k_law05_soaks_r8 : List AOper := [
  ⟨some 75, .load (some (2)) (.tmp 13), none, []⟩,
 ⟨some 76, .load (some (2)) (.tmp 15), none, []⟩,
 ⟨some 77, .eqAgg false [.int, .int] (.tmp 75) (.tmp 76), none, []⟩,
 ⟨some 78, .move (.tmp 77), none, []⟩,
 ⟨some 79, .move (.tmp 14), (some (78, true)), []⟩,
 ⟨some 80, .move (.tmp 16), (some (78, true)), []⟩,
 ⟨some 81, .bin .plain .eql (.tmp 79) (.tmp 80), (some (78, true)), []⟩,
 ⟨some 82, .pick (.tmp 78) (.tmp 81) (.const (.bool false)), none, []⟩,
 ⟨some 83, .move (.tmp 82), none, []⟩,
 ⟨some 84, .load (some (2)) (.tmp 18), (some (83, true)), []⟩,
 ⟨some 85, .load (some (2)) (.tmp 20), (some (83, true)), []⟩,
 ⟨some 86, .eqAgg false [.int, .int] (.tmp 84) (.tmp 85), (some (83, true)), []⟩,
 ⟨some 87, .pick (.tmp 83) (.tmp 86) (.const (.bool false)), none, []⟩,
 ⟨some 88, .move (.tmp 87), none, []⟩,
 ⟨some 89, .move (.tmp 19), (some (88, true)), []⟩,
 ⟨some 90, .move (.tmp 21), (some (88, true)), []⟩,
 ⟨some 91, .bin .plain .eql (.tmp 89) (.tmp 90), (some (88, true)), []⟩,
 ⟨some 92, .pick (.tmp 88) (.tmp 91) (.const (.bool false)), none, []⟩,
 ⟨some 10, .move (.tmp 92), none, []⟩]
def k_law05_soaks : AFun := { params := 5, ntmps := 93, body := (.seq (.reg k_law05_soaks_r0 false) (.seq (.reg k_law05_soaks_r1 false) (.seq (.reg k_law05_soaks_r2 false) (.seq (.reg k_law05_soaks_r3 false) (.seq (.reg k_law05_soaks_r4 false) (.seq (.reg k_law05_soaks_r5 false) (.seq (.reg k_law05_soaks_r6 true) (.seq (.reg k_law05_soaks_r7 true) (.seq (.reg k_law05_soaks_r8 false) .ret))))))))), res := [.tmp 10] }
theorem k_law05_soaks_ok : cfun Try.prog Try.f56 = k_law05_soaks := by kernel_rfl

def k_glass_Soak_r0 : List AOper := [
  ⟨some 4, .box (.tmp 0), none, []⟩,
 ⟨some 5, .box (.tmp 1), none, []⟩,
 ⟨some 8, .box (.const (.agg [.int .i64 0, .int .i64 0])), none, []⟩,
 ⟨some 9, .move (.const (.int .i64 0)), none, []⟩]
def k_glass_Soak_r1 : List AOper := [
  ⟨some 13, .load (some (2)) (.tmp 4), none, []⟩,
 ⟨some 14, .call (.const (.fn (.func 30) [] [])) [.tmp 13], none, []⟩,
 ⟨some 10, .move (.tmp 14), none, []⟩]
def k_glass_Soak_r2 : List AOper := [
  ⟨some 15, .move (.tmp 10), none, []⟩,
 ⟨some 16, .bin .plain .neq (.tmp 15) (.const (.int .i64 0)), none, []⟩]
def k_glass_Soak_r3 : List AOper := [
  ⟨some 17, .build [.int .i64 0, .int .i64 0] [], none, []⟩,
 ⟨some 18, .move (.tmp 10), none, []⟩,
 ⟨none, .store 2 (.tmp 8) (.tmp 17), none, []⟩,
 ⟨some 9, .move (.tmp 18), none, []⟩]
def k_glass_Soak_r4 : List AOper := [
  ⟨some 19, .load (some (2)) (.tmp 5), none, []⟩,
 ⟨some 20, .call (.const (.fn (.func 87) [] [])) [.tmp 19, .const (.int .i64 1099511627776)], none, []⟩,
 ⟨some 11, .move (.tmp 20), none, []⟩]
def k_glass_Soak_r5 : List AOper := [
  ⟨some 21, .move (.tmp 11), none, []⟩,
 ⟨some 22, .bin .plain .neq (.tmp 21) (.const (.int .i64 0)), none, []⟩]
def k_glass_Soak_r6 : List AOper := [
  ⟨some 23, .build [.int .i64 0, .int .i64 0] [], none, []⟩,
 ⟨some 24, .move (.tmp 11), none, []⟩,
 ⟨none, .store 2 (.tmp 8) (.tmp 23), none, []⟩,
 ⟨some 9, .move (.tmp 24), none, []⟩]
def k_glass_Soak_r7 : List AOper := [
  ⟨some 25, .move (.tmp 2), none, []⟩,
 ⟨some 26, .call (.const (.fn (.func 86) [] [])) [.tmp 25], none, []⟩,
 ⟨some 27, .not (.tmp 26), none, []⟩,
 ⟨some 28, .move (.tmp 27), none, []⟩,
 ⟨some 29, .move (.tmp 3), (some (28, false)), []⟩,
 ⟨some 30, .call (.const (.fn (.func 104) [] [])) [.tmp 29], (some (28, false)), []⟩,
 ⟨some 31, .not (.tmp 30), (some (28, false)), []⟩,
 ⟨some 32, .pick (.tmp 28) (.const (.bool true)) (.tmp 31), none, []⟩]
def k_glass_Soak_r8 : List AOper := [
  ⟨some 33, .build [.int .i64 0, .int .i64 0] [], none, []⟩,
 ⟨none, .store 2 (.tmp 8) (.tmp 33), none, []⟩,
 ⟨some 9, .move (.const (.int .i64 2)), none, []⟩]
def k_glass_Soak_r9 : List AOper := [
  ⟨some 34, .load (some (2)) (.tmp 4), none, []⟩,
 ⟨some 35, .move (.tmp 2), none, []⟩,
 ⟨some 36, .call (.const (.fn (.func 123) [] [])) [.tmp 34, .tmp 35], none, []⟩,
 ⟨some 12, .box (.const (.agg [.int .i64 0, .int .i64 0, .int .i64 0, .int .i64 0, .int .i64 0])), none, []⟩,
 ⟨none, .store 5 (.tmp 12) (.tmp 36), none, []⟩]
def k_glass_Soak_r10 : List AOper := [
  ⟨some 37, .fieldAddr 0 (.tmp 5), none, []⟩,
 ⟨some 38, .load none (.tmp 37), none, []⟩,
 ⟨some 39, .move (.tmp 3), none, [0, 1]⟩,
 ⟨some 40, .load (some (5)) (.tmp 12), none, [0, 1, 2]⟩,
 ⟨some 41, .call (.const (.fn (.func 124) [] [])) [.tmp 38, .tmp 39, .tmp 40, .const (.fn (.func 125) [] [])], none, []⟩,
 ⟨some 42, .fieldAddr 1 (.tmp 5), none, [0, 1, 2, 3, 4]⟩,
 ⟨some 43, .load none (.tmp 42), none, [0, 1, 2, 3, 4]⟩,
 ⟨some 44, .move (.tmp 3), none, [0, 1, 2, 3, 4, 5, 6]⟩,
 ⟨some 45, .load (some (5)) (.tmp 12), none, [0, 1, 2, 3, 4, 5, 6, 7]⟩,
 ⟨some 46, .call (.const (.fn (.func 124) [] [])) [.tmp 43, .tmp 44, .tmp 45, .const (.fn (.func 126) [] [])], none, []⟩,
 ⟨some 47, .build [.int .i64 0, .int .i64 0] [(0, 1, .tmp 41), (1, 1, .tmp 46)], none, []⟩,
 ⟨none, .store 2 (.tmp 8) (.tmp 47), none, []⟩,
 ⟨some 9, .move (.const (.int .i64 0)), none, []⟩]
def k_glass_Soak_r10s : List (List AOper) := [
  [
  ⟨some 37, .fieldAddr 0 (.tmp 5), none, []⟩,
 ⟨some 38, .load none (.tmp 37), none, []⟩,
 ⟨some 39, .move (.tmp 3), none, [0, 1]⟩,
 ⟨some 40, .load (some (5)) (.tmp 12), none, [0, 1, 2]⟩,
 ⟨some 41, .call (.const (.fn (.func 124) [] [])) [.tmp 38, .tmp 39, .tmp 40, .const (.fn (.func 125) [] [])], none, []⟩,
 ⟨some 42, .fieldAddr 1 (.tmp 5), none, [0, 1, 2, 3, 4]⟩,
 ⟨some 43, .load none (.tmp 42), none, [0, 1, 2, 3, 4]⟩,
 ⟨some 44, .move (.tmp 3), none, [0, 1, 2, 3, 4, 5, 6]⟩,
 ⟨some 45, .load (some (5)) (.tmp 12), none, [0, 1, 2, 3, 4, 5, 6, 7]⟩], 
  [
  ⟨some 46, .call (.const (.fn (.func 124) [] [])) [.tmp 43, .tmp 44, .tmp 45, .const (.fn (.func 126) [] [])], none, []⟩], 
  [
  ⟨some 47, .build [.int .i64 0, .int .i64 0] [(0, 1, .tmp 41), (1, 1, .tmp 46)], none, []⟩], 
  [
  ⟨none, .store 2 (.tmp 8) (.tmp 47), none, []⟩], 
  [
  ⟨some 9, .move (.const (.int .i64 0)), none, []⟩]]
theorem k_glass_Soak_r10_sg : segs k_glass_Soak_r10 = k_glass_Soak_r10s := by kernel_rfl
theorem k_glass_Soak_r10_st : statOK k_glass_Soak_r10 = true := by kernel_rfl
def k_glass_Soak : AFun := { params := 4, ntmps := 48, body := (.seq (.reg k_glass_Soak_r0 false) (.seq (.seq (.reg k_glass_Soak_r1 false) (.seq (.reg k_glass_Soak_r2 false) (.cond (.tmp 16) (.seq (.reg k_glass_Soak_r3 false) .ret) .skip))) (.seq (.seq (.reg k_glass_Soak_r4 false) (.seq (.reg k_glass_Soak_r5 false) (.cond (.tmp 22) (.seq (.reg k_glass_Soak_r6 false) .ret) .skip))) (.seq (.seq (.reg k_glass_Soak_r7 false) (.cond (.tmp 32) (.seq (.reg k_glass_Soak_r8 false) .ret) .skip)) (.seq (.reg k_glass_Soak_r9 false) (.seq (.reg k_glass_Soak_r10 true) .ret)))))), res := [.cell 8 (some ((some (2)))), .tmp 9] }
theorem k_glass_Soak_ok : cfun Try.prog Try.f74 = k_glass_Soak := by kernel_rfl

def k_ref05_judge_r0 : List AOper := [
  ⟨some 4, .box (.tmp 0), none, []⟩,
 ⟨some 6, .box (.tmp 2), none, []⟩,
 ⟨some 8, .move (.const (.int .i64 0)), none, []⟩,
 ⟨some 9, .move (.const (.int .i64 0)), none, []⟩]
def k_ref05_judge_r1 : List AOper := [
  ⟨some 14, .load (some (2)) (.tmp 4), none, []⟩,
 ⟨some 15, .move (.tmp 1), none, []⟩,
 ⟨some 16, .load (some (2)) (.tmp 6), none, []⟩,
 ⟨some 17, .call (.const (.fn (.func 103) [] [])) [.tmp 14, .tmp 15, .tmp 16], none, []⟩,
 ⟨some 10, .move (.tmp 17), none, []⟩]
def k_ref05_judge_r2 : List AOper := [
  ⟨some 11, .move (.const (.int .i64 (-1))), none, []⟩]
def k_ref05_judge_r3 : List AOper := [
  ⟨some 12, .move (.const (.int .i64 0)), none, []⟩]
def k_ref05_judge_r4 : List AOper := [
  ⟨some 18, .move (.tmp 12), none, []⟩,
 ⟨some 19, .move (.tmp 10), none, []⟩,
 ⟨some 20, .len false (.tmp 19), none, []⟩,
 ⟨some 21, .bin .plain .lss (.tmp 18) (.tmp 20), none, []⟩]
def k_ref05_judge_r5 : List AOper := [
  ⟨some 24, .fieldAddr 0 (.tmp 4), none, []⟩,
 ⟨some 25, .load none (.tmp 24), none, []⟩,
 ⟨some 13, .move (.tmp 25), none, []⟩]
def k_ref05_judge_r6 : List AOper := [
  ⟨some 26, .move (.tmp 12), none, []⟩,
 ⟨some 27, .move (.tmp 10), none, []⟩,
 ⟨some 28, .len false (.tmp 27), none, []⟩,
 ⟨some 29, .bin .plain .sub (.tmp 28) (.const (.int .i64 1)), none, []⟩,
 ⟨some 30, .bin .plain .eql (.tmp 26) (.tmp 29), none, []⟩]
def k_ref05_judge_r7 : List AOper := [
  ⟨some 31, .move (.tmp 13), none, []⟩,
 ⟨some 32, .move (.tmp 3), none, []⟩,
 ⟨some 33, .minmax false [.tmp 31, .tmp 32], none, []⟩,
 ⟨some 13, .move (.tmp 33), none, []⟩]
def k_ref05_judge_r8 : List AOper := [
  ⟨some 34, .move (.tmp 10), none, []⟩,
 ⟨some 35, .move (.tmp 12), none, []⟩,
 ⟨some 36, .indexAddr 2 (.tmp 34) (.tmp 35), none, []⟩,
 ⟨some 37, .fieldAddr 0 (.tmp 36), none, []⟩,
 ⟨some 38, .load none (.tmp 37), none, []⟩,
 ⟨some 39, .move (.tmp 13), none, []⟩,
 ⟨some 40, .bin .plain .gtr (.tmp 38) (.tmp 39), none, []⟩]
def k_ref05_judge_r9 : List AOper := [
  ⟨some 41, .move (.tmp 12), none, []⟩,
 ⟨some 8, .move (.const (.int .i64 2)), none, []⟩,
 ⟨some 9, .move (.tmp 41), none, []⟩]
def k_ref05_judge_r10 : List AOper := [
  ⟨some 42, .move (.tmp 11), none, []⟩,
 ⟨some 43, .bin .plain .lss (.tmp 42) (.const (.int .i64 0)), none, []⟩,
 ⟨some 44, .move (.tmp 43), none, []⟩,
 ⟨some 45, .move (.tmp 10), (some (44, true)), []⟩,
 ⟨some 46, .move (.tmp 12), (some (44, true)), []⟩,
 ⟨some 47, .indexAddr 2 (.tmp 45) (.tmp 46), (some (44, true)), []⟩,
 ⟨some 48, .fieldAddr 1 (.tmp 47), (some (44, true)), []⟩,
 ⟨some 49, .load none (.tmp 48), (some (44, true)), []⟩,
 ⟨some 50, .move (.tmp 13), (some (44, true)), []⟩,
 ⟨some 51, .bin .plain .gtr (.tmp 49) (.tmp 50), (some (44, true)), []⟩,
 ⟨some 52, .pick (.tmp 44) (.tmp 51) (.const (.bool false)), none, []⟩]
def k_ref05_judge_r11 : List AOper := [
  ⟨some 53, .move (.tmp 12), none, []⟩,
 ⟨some 11, .move (.tmp 53), none, []⟩]
def k_ref05_judge_r12 : List AOper := [
  ⟨some 22, .move (.tmp 12), none, []⟩,
 ⟨some 23, .bin .plain .add (.tmp 22) (.const (.int .i64 1)), none, []⟩,
 ⟨some 12, .move (.tmp 23), none, []⟩]
def k_ref05_judge_r13 : ACode := (.seq (.seq (.reg k_ref05_judge_r4 false) (.cond (.tmp 21) .skip (.exit 0))) (.seq (.block 1 (.seq (.reg k_ref05_judge_r5 false) (.seq (.seq (.reg k_ref05_judge_r6 false) (.cond (.tmp 30) (.reg k_ref05_judge_r7 false) .skip)) (.seq (.seq (.reg k_ref05_judge_r8 false) (.cond (.tmp 40) (.seq (.reg k_ref05_judge_r9 false) .ret) .skip)) (.seq (.reg k_ref05_judge_r10 false) (.cond (.tmp 52) (.reg k_ref05_judge_r11 false) .skip)))))) (.reg k_ref05_judge_r12 false)))
def k_ref05_judge_r14 : List AOper := [
  ⟨some 54, .move (.tmp 11), none, []⟩,
 ⟨some 55, .bin .plain .geq (.tmp 54) (.const (.int .i64 0)), none, []⟩]
def k_ref05_judge_r15 : List AOper := [
  ⟨some 56, .move (.tmp 11), none, []⟩,
 ⟨some 8, .move (.const (.int .i64 3)), none, []⟩,
 ⟨some 9, .move (.tmp 56), none, []⟩]
def k_ref05_judge_r16 : List AOper := [
  ⟨some 8, .move (.const (.int .i64 1)), none, []⟩,
 ⟨some 9, .move (.const (.int .i64 0)), none, []⟩]
def k_ref05_judge : AFun := { params := 4, ntmps := 57, body := (.seq (.reg k_ref05_judge_r0 false) (.seq (.reg k_ref05_judge_r1 false) (.seq (.reg k_ref05_judge_r2 false) (.seq (.seq (.reg k_ref05_judge_r3 false) (.block 0 (.loop k_ref05_judge_r13))) (.seq (.seq (.reg k_ref05_judge_r14 false) (.cond (.tmp 55) (.seq (.reg k_ref05_judge_r15 false) .ret) .skip)) (.seq (.reg k_ref05_judge_r16 false) .ret)))))), res := [.tmp 8, .tmp 9] }
theorem k_ref05_judge_ok : cfun Try.prog Try.f107 = k_ref05_judge := by kernel_rfl

def k_ref05_Soak_r0 : List AOper := [
  ⟨some 4, .box (.tmp 0), none, []⟩,
 ⟨some 5, .box (.tmp 1), none, []⟩,
 ⟨some 8, .box (.const (.agg [.int .i64 0, .int .i64 0])), none, []⟩,
 ⟨some 9, .move (.const (.int .i64 0)), none, []⟩]
def k_ref05_Soak_r1 : List AOper := [
  ⟨some 15, .load (some (2)) (.tmp 4), none, []⟩,
 ⟨some 16, .call (.const (.fn (.func 31) [] [])) [.tmp 15], none, []⟩,
 ⟨some 10, .move (.tmp 16), none, []⟩]
def k_ref05_Soak_r2 : List AOper := [
  ⟨some 17, .move (.tmp 10), none, []⟩,
 ⟨some 18, .bin .plain .neq (.tmp 17) (.const (.int .i64 0)), none, []⟩]
def k_ref05_Soak_r3 : List AOper := [
  ⟨some 19, .build [.int .i64 0, .int .i64 0] [], none, []⟩,
 ⟨some 20, .move (.tmp 10), none, []⟩,
 ⟨none, .store 2 (.tmp 8) (.tmp 19), none, []⟩,
 ⟨some 9, .move (.tmp 20), none, []⟩]
def k_ref05_Soak_r4 : List AOper := [
  ⟨some 21, .load (some (2)) (.tmp 5), none, []⟩,
 ⟨some 22, .call (.const (.fn (.func 89) [] [])) [.tmp 21, .const (.int .i64 1099511627776)], none, []⟩,
 ⟨some 11, .move (.tmp 22), none, []⟩]
def k_ref05_Soak_r5 : List AOper := [
  ⟨some 23, .move (.tmp 11), none, []⟩,
 ⟨some 24, .bin .plain .neq (.tmp 23) (.const (.int .i64 0)), none, []⟩]
def k_ref05_Soak_r6 : List AOper := [
  ⟨some 25, .build [.int .i64 0, .int .i64 0] [], none, []⟩,
 ⟨some 26, .move (.tmp 11), none, []⟩,
 ⟨none, .store 2 (.tmp 8) (.tmp 25), none, []⟩,
 ⟨some 9, .move (.tmp 26), none, []⟩]
def k_ref05_Soak_r7 : List AOper := [
  ⟨some 27, .move (.tmp 2), none, []⟩,
 ⟨some 28, .call (.const (.fn (.func 88) [] [])) [.tmp 27, .const (.int .i64 0), .const (.int .i64 2000)], none, []⟩,
 ⟨some 29, .move (.tmp 28), none, []⟩,
 ⟨some 30, .move (.tmp 3), (some (29, false)), []⟩,
 ⟨some 31, .call (.const (.fn (.func 88) [] [])) [.tmp 30, .const (.int .i64 0), .const (.int .i64 1099511627776)], (some (29, false)), []⟩,
 ⟨some 32, .pick (.tmp 29) (.const (.bool true)) (.tmp 31), none, []⟩]
def k_ref05_Soak_r8 : List AOper := [
  ⟨some 33, .build [.int .i64 0, .int .i64 0] [], none, []⟩,
 ⟨none, .store 2 (.tmp 8) (.tmp 33), none, []⟩,
 ⟨some 9, .move (.const (.int .i64 2)), none, []⟩]
def k_ref05_Soak_r9 : List AOper := [
  ⟨some 12, .move (.const (.int .i64 5001)), none, []⟩]
def k_ref05_Soak_r10 : List AOper := [
  ⟨some 34, .move (.tmp 12), none, []⟩,
 ⟨some 35, .move (.tmp 12), none, []⟩,
 ⟨some 36, .build [.int .i64 0, .int .i64 0] [(0, 1, .tmp 34), (1, 1, .tmp 35)], none, []⟩,
 ⟨some 13, .box (.const (.agg [.int .i64 0, .int .i64 0])), none, []⟩,
 ⟨none, .store 2 (.tmp 13) (.tmp 36), none, []⟩]
def k_ref05_Soak_r11 : List AOper := [
  ⟨some 14, .move (.const (.int .i64 0)), none, []⟩]
def k_ref05_Soak_r12 : List AOper := [
  ⟨some 37, .move (.tmp 14), none, []⟩,
 ⟨some 38, .bin .plain .leq (.tmp 37) (.const (.int .i64 5000)), none, []⟩,
 ⟨some 39, .move (.tmp 38), none, []⟩,
 ⟨some 40, .fieldAddr 1 (.tmp 13), (some (39, true)), []⟩,
 ⟨some 41, .load none (.tmp 40), (some (39, true)), []⟩,
 ⟨some 42, .move (.tmp 12), (some (39, true)), []⟩,
 ⟨some 43, .bin .plain .eql (.tmp 41) (.tmp 42), (some (39, true)), []⟩,
 ⟨some 44, .pick (.tmp 39) (.tmp 43) (.const (.bool false)), none, []⟩]
def k_ref05_Soak_r13 : List AOper := [
  ⟨some 47, .fieldAddr 0 (.tmp 5), none, []⟩,
 ⟨some 48, .load none (.tmp 47), none, []⟩,
 ⟨some 49, .move (.tmp 3), none, []⟩,
 ⟨some 50, .bin .plain .leq (.tmp 48) (.tmp 49), none, []⟩,
 ⟨some 51, .move (.tmp 50), none, []⟩,
 ⟨some 52, .fieldAddr 0 (.tmp 13), (some (51, true)), []⟩,
 ⟨some 53, .load none (.tmp 52), (some (51, true)), []⟩,
 ⟨some 54, .move (.tmp 12), (some (51, true)), []⟩,
 ⟨some 55, .bin .plain .eql (.tmp 53) (.tmp 54), (some (51, true)), []⟩,
 ⟨some 56, .pick (.tmp 51) (.tmp 55) (.const (.bool false)), none, []⟩]
def k_ref05_Soak_r14 : List AOper := [
  ⟨some 57, .move (.tmp 14), none, []⟩,
 ⟨some 58, .fieldAddr 0 (.tmp 13), none, []⟩,
 ⟨none, .store 1 (.tmp 58) (.tmp 57), none, []⟩]
def k_ref05_Soak_r15 : List AOper := [
  ⟨some 59, .fieldAddr 1 (.tmp 5), none, []⟩,
 ⟨some 60, .load none (.tmp 59), none, []⟩,
 ⟨some 61, .move (.tmp 3), none, []⟩,
 ⟨some 62, .bin .plain .leq (.tmp 60) (.tmp 61), none, []⟩]
def k_ref05_Soak_r16 : List AOper := [
  ⟨some 63, .move (.tmp 14), none, []⟩,
 ⟨some 64, .fieldAddr 1 (.tmp 13), none, []⟩,
 ⟨none, .store 1 (.tmp 64) (.tmp 63), none, []⟩]
def k_ref05_Soak_r17 : List AOper := [
  ⟨some 65, .load (some (2)) (.tmp 4), none, []⟩,
 ⟨some 66, .move (.tmp 2), none, [0]⟩,
 ⟨some 67, .call (.const (.fn (.func 76) [] [])) [.tmp 65, .tmp 66], none, []⟩,
 ⟨some 68, .load (some (2)) (.tmp 5), none, [0, 1, 2]⟩,
 ⟨some 69, .call (.const (.fn (.func 139) [] [])) [.tmp 67, .tmp 68, .const (.int .i64 1), .const (.int .i64 0)], none, []⟩,
 ⟨none, .store 2 (.tmp 5) (.tmp 69), none, []⟩]
def k_ref05_Soak_r17s : List (List AOper) := [
  [
  ⟨some 65, .load (some (2)) (.tmp 4), none, []⟩,
 ⟨some 66, .move (.tmp 2), none, [0]⟩,
 ⟨some 67, .call (.const (.fn (.func 76) [] [])) [.tmp 65, .tmp 66], none, []⟩,
 ⟨some 68, .load (some (2)) (.tmp 5), none, [0, 1, 2]⟩], 
  [
  ⟨some 69, .call (.const (.fn (.func 139) [] [])) [.tmp 67, .tmp 68, .const (.int .i64 1), .const (.int .i64 0)], none, []⟩], 
  [
  ⟨none, .store 2 (.tmp 5) (.tmp 69), none, []⟩]]
theorem k_ref05_Soak_r17_sg : segs k_ref05_Soak_r17 = k_ref05_Soak_r17s := by kernel_rfl
theorem k_ref05_Soak_r17_st : statOK k_ref05_Soak_r17 = true := by kernel_rfl
def k_ref05_Soak_r18 : List AOper := [
  ⟨some 45, .move (.tmp 14), none, []⟩,
 ⟨some 46, .bin .plain .add (.tmp 45) (.const (.int .i64 1)), none, []⟩,
 ⟨some 14, .move (.tmp 46), none, []⟩]
def k_ref05_Soak_r19 : ACode := (.seq (.seq (.reg k_ref05_Soak_r12 false) (.cond (.tmp 44) .skip (.exit 0))) (.seq (.block 1 (.seq (.seq (.reg k_ref05_Soak_r13 false) (.cond (.tmp 56) (.reg k_ref05_Soak_r14 false) .skip)) (.seq (.seq (.reg k_ref05_Soak_r15 false) (.cond (.tmp 62) (.reg k_ref05_Soak_r16 false) .skip)) (.reg k_ref05_Soak_r17 true)))) (.reg k_ref05_Soak_r18 false)))
def k_ref05_Soak_r20 : List AOper := [
  ⟨some 70, .load (some (2)) (.tmp 13), none, []⟩,
 ⟨none, .store 2 (.tmp 8) (.tmp 70), none, []⟩,
 ⟨some 9, .move (.const (.int .i64 0)), none, []⟩]
def k_ref05_Soak : AFun := { params := 4, ntmps := 71, body := (.seq (.reg k_ref05_Soak_r0 false) (.seq (.seq (.reg k_ref05_Soak_r1 false) (.seq (.reg k_ref05_Soak_r2 false) (.cond (.tmp 18) (.seq (.reg k_ref05_Soak_r3 false) .ret) .skip))) (.seq (.seq (.reg k_ref05_Soak_r4 false) (.seq (.reg k_ref05_Soak_r5 false) (.cond (.tmp 24) (.seq (.reg k_ref05_Soak_r6 false) .ret) .skip))) (.seq (.seq (.reg k_ref05_Soak_r7 false) (.cond (.tmp 32) (.seq (.reg k_ref05_Soak_r8 false) .ret) .skip)) (.seq (.reg k_ref05_Soak_r9 false) (.seq (.reg k_ref05_Soak_r10 false) (.seq (.seq (.reg k_ref05_Soak_r11 false) (.block 0 (.loop k_ref05_Soak_r19))) (.seq (.reg k_ref05_Soak_r20 false) .ret)))))))), res := [.cell 8 (some ((some (2)))), .tmp 9] }
theorem k_ref05_Soak_ok : cfun Try.prog Try.f108 = k_ref05_Soak := by kernel_rfl

def k_glass_soaked_r0 : List AOper := [
  ⟨some 6, .box (.tmp 2), none, []⟩,
 ⟨some 8, .move (.const (.int .i64 0)), none, []⟩]
def k_glass_soaked_r1 : List AOper := [
  ⟨some 9, .move (.const (.int .i64 0)), none, []⟩]
def k_glass_soaked_r2 : List AOper := [
  ⟨some 10, .move (.tmp 0), none, []⟩,
 ⟨some 11, .move (.tmp 1), none, []⟩,
 ⟨some 12, .bin .plain .gtr (.tmp 10) (.tmp 11), none, []⟩,
 ⟨some 13, .move (.tmp 12), none, []⟩,
 ⟨some 14, .move (.tmp 9), (some (13, true)), []⟩,
 ⟨some 15, .bin .plain .leq (.tmp 14) (.const (.int .i64 5000)), (some (13, true)), []⟩,
 ⟨some 16, .pick (.tmp 13) (.tmp 15) (.const (.bool false)), none, []⟩]
def k_glass_soaked_r3 : List AOper := [
  ⟨some 19, .move (.tmp 3), none, []⟩,
 ⟨some 20, .move (.tmp 0), none, []⟩,
 ⟨some 21, .load (some (5)) (.tmp 6), none, []⟩,
 ⟨some 22, .call (.tmp 19) [.tmp 20, .tmp 21], none, []⟩,
 ⟨some 0, .move (.tmp 22), none, []⟩]
def k_glass_soaked_r4 : List AOper := [
  ⟨some 17, .move (.tmp 9), none, []⟩,
 ⟨some 18, .bin .plain .add (.tmp 17) (.const (.int .i64 1)), none, []⟩,
 ⟨some 9, .move (.tmp 18), none, []⟩]
def k_glass_soaked_r5 : ACode := (.seq (.seq (.reg k_glass_soaked_r2 false) (.cond (.tmp 16) .skip (.exit 0))) (.seq (.block 1 (.reg k_glass_soaked_r3 false)) (.reg k_glass_soaked_r4 false)))
def k_glass_soaked_r6 : List AOper := [
  ⟨some 23, .move (.tmp 9), none, []⟩,
 ⟨some 8, .move (.tmp 23), none, []⟩]
def k_glass_soaked : AFun := { params := 4, ntmps := 24, body := (.seq (.reg k_glass_soaked_r0 false) (.seq (.reg k_glass_soaked_r1 false) (.seq (.block 0 (.loop k_glass_soaked_r5)) (.seq (.reg k_glass_soaked_r6 false) .ret)))), res := [.tmp 8] }
theorem k_glass_soaked_ok : cfun Try.prog Try.f124 = k_glass_soaked := by kernel_rfl


abbrev n_law05_GlassStrains : Nat := 6
theorem e_law05_GlassStrains : EntryOK Try.prog n_law05_GlassStrains k_law05_GlassStrains := ⟨Try.f6, Try.func6, k_law05_GlassStrains_ok, by kernel_rfl⟩
abbrev n_ref05_Judge : Nat := 54
theorem e_ref05_Judge : EntryOK Try.prog n_ref05_Judge k_ref05_Judge := ⟨Try.f54, Try.func54, k_ref05_Judge_ok, by kernel_rfl⟩
abbrev n_kit_SameRanges : Nat := 55
theorem e_kit_SameRanges : EntryOK Try.prog n_kit_SameRanges k_kit_SameRanges := ⟨Try.f55, Try.func55, k_kit_SameRanges_ok, by kernel_rfl⟩
abbrev n_law05_soaks : Nat := 56
theorem e_law05_soaks : EntryOK Try.prog n_law05_soaks k_law05_soaks := ⟨Try.f56, Try.func56, k_law05_soaks_ok, by kernel_rfl⟩
abbrev n_glass_Soak : Nat := 74
theorem e_glass_Soak : EntryOK Try.prog n_glass_Soak k_glass_Soak := ⟨Try.f74, Try.func74, k_glass_Soak_ok, by kernel_rfl⟩
abbrev n_ref05_judge : Nat := 107
theorem e_ref05_judge : EntryOK Try.prog n_ref05_judge k_ref05_judge := ⟨Try.f107, Try.func107, k_ref05_judge_ok, by kernel_rfl⟩
abbrev n_ref05_Soak : Nat := 108
theorem e_ref05_Soak : EntryOK Try.prog n_ref05_Soak k_ref05_Soak := ⟨Try.f108, Try.func108, k_ref05_Soak_ok, by kernel_rfl⟩
abbrev n_glass_soaked : Nat := 124
theorem e_glass_soaked : EntryOK Try.prog n_glass_soaked k_glass_soaked := ⟨Try.f124, Try.func124, k_glass_soaked_ok, by kernel_rfl⟩

attribute [go_sem] k_law05_GlassStrains_r0 k_law05_GlassStrains_r1 k_law05_GlassStrains_r2 k_law05_GlassStrains_r3 k_law05_GlassStrains_r4 k_law05_GlassStrains_r5 k_law05_GlassStrains_r6 k_law05_GlassStrains_r7s k_law05_GlassStrains_r8 k_law05_GlassStrains_r9 k_law05_GlassStrains_r10s k_law05_GlassStrains_r11s
attribute [go_sem] k_law05_GlassStrains_r12s k_law05_GlassStrains_r13s k_law05_GlassStrains_r14 k_law05_GlassStrains_r15 k_law05_GlassStrains_r16 k_law05_GlassStrains_r18 k_ref05_Judge_r0 k_ref05_Judge_r1 k_ref05_Judge_r2 k_ref05_Judge_r3 k_ref05_Judge_r4 k_ref05_Judge_r5
attribute [go_sem] k_ref05_Judge_r6 k_ref05_Judge_r7 k_kit_SameRanges_r0 k_kit_SameRanges_r1 k_kit_SameRanges_r2 k_kit_SameRanges_r3 k_kit_SameRanges_r4 k_kit_SameRanges_r5s k_kit_SameRanges_r6 k_kit_SameRanges_r7 k_kit_SameRanges_r9 k_law05_soaks_r0
attribute [go_sem] k_law05_soaks_r1 k_law05_soaks_r2 k_law05_soaks_r3 k_law05_soaks_r4 k_law05_soaks_r5 k_law05_soaks_r6s k_law05_soaks_r7s k_law05_soaks_r8 k_glass_Soak_r0 k_glass_Soak_r1 k_glass_Soak_r2 k_glass_Soak_r3
attribute [go_sem] k_glass_Soak_r4 k_glass_Soak_r5 k_glass_Soak_r6 k_glass_Soak_r7 k_glass_Soak_r8 k_glass_Soak_r9 k_glass_Soak_r10s k_ref05_judge_r0 k_ref05_judge_r1 k_ref05_judge_r2 k_ref05_judge_r3 k_ref05_judge_r4
attribute [go_sem] k_ref05_judge_r5 k_ref05_judge_r6 k_ref05_judge_r7 k_ref05_judge_r8 k_ref05_judge_r9 k_ref05_judge_r10 k_ref05_judge_r11 k_ref05_judge_r12 k_ref05_judge_r14 k_ref05_judge_r15 k_ref05_judge_r16 k_ref05_Soak_r0
attribute [go_sem] k_ref05_Soak_r1 k_ref05_Soak_r2 k_ref05_Soak_r3 k_ref05_Soak_r4 k_ref05_Soak_r5 k_ref05_Soak_r6 k_ref05_Soak_r7 k_ref05_Soak_r8 k_ref05_Soak_r9 k_ref05_Soak_r10 k_ref05_Soak_r11 k_ref05_Soak_r12
attribute [go_sem] k_ref05_Soak_r13 k_ref05_Soak_r14 k_ref05_Soak_r15 k_ref05_Soak_r16 k_ref05_Soak_r17s k_ref05_Soak_r18 k_ref05_Soak_r20 k_glass_soaked_r0 k_glass_soaked_r1 k_glass_soaked_r2 k_glass_soaked_r3 k_glass_soaked_r4
attribute [go_sem] k_glass_soaked_r6 k_law05_GlassStrains_r13_sg k_glass_Soak_r10_sg k_law05_soaks_r7_sg k_law05_GlassStrains_r10_sg k_kit_SameRanges_r5_sg k_law05_GlassStrains_r11_sg k_law05_GlassStrains_r7_sg k_law05_soaks_r6_sg k_law05_GlassStrains_r12_sg k_ref05_Soak_r17_sg k_law05_GlassStrains_r13_st
attribute [go_sem] k_glass_Soak_r10_st k_law05_soaks_r7_st k_law05_GlassStrains_r10_st k_kit_SameRanges_r5_st k_law05_GlassStrains_r11_st k_law05_GlassStrains_r7_st k_law05_soaks_r6_st k_law05_GlassStrains_r12_st k_ref05_Soak_r17_st k_law05_GlassStrains k_ref05_Judge k_kit_SameRanges
attribute [go_sem] k_law05_soaks k_glass_Soak k_ref05_judge k_ref05_Soak k_glass_soaked
end Go.Proofs

