/- A part of the proof. -/
import Derived.Test.YtmpocglkfgfpbaaPF
set_option linter.unusedSimpArgs false
set_option linter.unusedVariables false
namespace Go.Proofs
open Go Go.Sx

def k_law05_GlassTruths_r0 : List AOper := [
  ⟨some 2, .move (.const (.bool false)), none, []⟩]
def k_law05_GlassTruths_r1 : List AOper := [
  ⟨some 18, .move (.tmp 0), none, []⟩,
 ⟨some 19, .call (.const (.fn (.func 21) [] [])) [.tmp 18], none, []⟩,
 ⟨some 3, .move (.tmp 19), none, []⟩]
def k_law05_GlassTruths_r2 : List AOper := [
  ⟨some 20, .move (.tmp 3), none, []⟩,
 ⟨some 21, .call (.const (.fn (.func 22) [] [])) [.tmp 20], none, []⟩,
 ⟨some 4, .box (.const (.agg [.int .i64 0, .nilsl])), none, []⟩,
 ⟨none, .store 2 (.tmp 4) (.tmp 21), none, []⟩]
def k_law05_GlassTruths_r3 : List AOper := [
  ⟨some 22, .move (.tmp 3), none, []⟩,
 ⟨some 23, .call (.const (.fn (.func 23) [] [])) [.tmp 22, .const (.int .i64 4), .const (.int .i64 30)], none, []⟩,
 ⟨some 5, .box (.const (.agg [.int .i64 0, .nilsl])), none, []⟩,
 ⟨none, .store 2 (.tmp 5) (.tmp 23), none, []⟩]
def k_law05_GlassTruths_r4 : List AOper := [
  ⟨some 24, .move (.tmp 3), none, []⟩,
 ⟨some 25, .buildSlice 1 [.const (.int .i64 20), .const (.int .i64 1000)], none, []⟩,
 ⟨some 26, .move (.tmp 3), none, []⟩,
 ⟨some 27, .call (.const (.fn (.func 26) [] [])) [.tmp 26, .const (.int .i64 2)], none, []⟩,
 ⟨some 28, .indexAddr 1 (.tmp 25) (.tmp 27), none, []⟩,
 ⟨some 29, .load none (.tmp 28), none, []⟩,
 ⟨some 30, .call (.const (.fn (.func 44) [] [])) [.tmp 24, .const (.int .i64 1), .tmp 29], none, []⟩,
 ⟨some 6, .move (.tmp 30), none, []⟩]
def k_law05_GlassTruths_r5 : List AOper := [
  ⟨some 31, .move (.tmp 3), none, []⟩,
 ⟨some 32, .load (some (2)) (.tmp 4), none, []⟩,
 ⟨some 33, .move (.tmp 6), none, []⟩,
 ⟨some 34, .load (some (2)) (.tmp 5), none, []⟩,
 ⟨some 35, .call (.const (.fn (.func 50) [] [])) [.tmp 31, .tmp 32, .tmp 33, .tmp 34], none, []⟩,
 ⟨some 7, .move (.tmp 35), none, []⟩]
def k_law05_GlassTruths_r6 : List AOper := [
  ⟨some 36, .move (.tmp 3), none, []⟩,
 ⟨some 37, .load (some (2)) (.tmp 4), none, []⟩,
 ⟨some 38, .move (.tmp 6), none, []⟩,
 ⟨some 39, .load (some (2)) (.tmp 5), none, []⟩,
 ⟨some 40, .call (.const (.fn (.func 72) [] [])) [.tmp 36, .tmp 37, .tmp 38, .tmp 39], none, []⟩,
 ⟨some 8, .move (.tmp 40), none, []⟩]
def k_law05_GlassTruths_r7 : List AOper := [
  ⟨some 42, .load (some (2)) (.tmp 4), none, []⟩,
 ⟨some 43, .move (.tmp 6), none, []⟩,
 ⟨some 44, .load (some (2)) (.tmp 5), none, []⟩,
 ⟨some 45, .call (.const (.fn (.func 51) [] [])) [.tmp 42, .tmp 43, .tmp 44], none, []⟩,
 ⟨some 41, .move (.tmp 45), none, []⟩,
 ⟨some 46, .extract (.tmp 41) 0, none, []⟩,
 ⟨some 47, .extract (.tmp 41) 1, none, []⟩,
 ⟨some 9, .move (.tmp 46), none, []⟩,
 ⟨some 10, .move (.tmp 47), none, []⟩]
def k_law05_GlassTruths_r8 : List AOper := [
  ⟨some 49, .load (some (2)) (.tmp 4), none, []⟩,
 ⟨some 50, .move (.tmp 6), none, []⟩,
 ⟨some 51, .load (some (2)) (.tmp 5), none, []⟩,
 ⟨some 52, .move (.tmp 7), none, []⟩,
 ⟨some 53, .call (.const (.fn (.func 53) [] [])) [.tmp 49, .tmp 50, .tmp 51, .tmp 52], none, []⟩,
 ⟨some 48, .move (.tmp 53), none, []⟩,
 ⟨some 54, .extract (.tmp 48) 0, none, []⟩,
 ⟨some 55, .extract (.tmp 48) 1, none, []⟩,
 ⟨some 56, .extract (.tmp 48) 2, none, []⟩,
 ⟨some 11, .move (.tmp 54), none, []⟩,
 ⟨some 12, .move (.tmp 55), none, []⟩,
 ⟨some 13, .move (.tmp 56), none, []⟩]
def k_law05_GlassTruths_r9 : List AOper := [
  ⟨some 57, .move (.tmp 10), none, []⟩,
 ⟨some 58, .bin .plain .neq (.tmp 57) (.const (.int .i64 0)), none, []⟩,
 ⟨some 59, .move (.tmp 58), none, []⟩,
 ⟨some 60, .move (.tmp 13), (some (59, false)), []⟩,
 ⟨some 61, .bin .plain .neq (.tmp 60) (.const (.int .i64 0)), (some (59, false)), []⟩,
 ⟨some 62, .pick (.tmp 59) (.const (.bool true)) (.tmp 61), none, []⟩,
 ⟨some 63, .move (.tmp 62), none, []⟩,
 ⟨some 64, .move (.tmp 9), (some (63, false)), []⟩,
 ⟨some 65, .len false (.tmp 64), (some (63, false)), []⟩,
 ⟨some 66, .fieldAddr 1 (.tmp 5), (some (63, false)), []⟩,
 ⟨some 67, .load none (.tmp 66), (some (63, false)), []⟩,
 ⟨some 68, .len false (.tmp 67), (some (63, false)), []⟩,
 ⟨some 69, .bin .plain .neq (.tmp 65) (.tmp 68), (some (63, false)), []⟩,
 ⟨some 70, .pick (.tmp 63) (.const (.bool true)) (.tmp 69), none, []⟩,
 ⟨some 71, .move (.tmp 70), none, []⟩,
 ⟨some 72, .move (.tmp 12), (some (71, false)), []⟩,
 ⟨some 73, .bin .plain .lss (.tmp 72) (.const (.int .i64 0)), (some (71, false)), []⟩,
 ⟨some 74, .pick (.tmp 71) (.const (.bool true)) (.tmp 73), none, []⟩,
 ⟨some 75, .move (.tmp 74), none, []⟩,
 ⟨some 76, .move (.tmp 12), (some (75, false)), []⟩,
 ⟨some 77, .move (.tmp 8), (some (75, false)), []⟩,
 ⟨some 78, .len false (.tmp 77), (some (75, false)), []⟩,
 ⟨some 79, .bin .plain .geq (.tmp 76) (.tmp 78), (some (75, false)), []⟩,
 ⟨some 80, .pick (.tmp 75) (.const (.bool true)) (.tmp 79), none, []⟩]
def k_law05_GlassTruths_r10 : List AOper := [
  ⟨some 2, .move (.const (.bool false)), none, []⟩]
def k_law05_GlassTruths_r11 : List AOper := [
  ⟨some 14, .move (.const (.int .i64 0)), none, []⟩]
def k_law05_GlassTruths_r12 : List AOper := [
  ⟨some 15, .move (.const (.int .i64 0)), none, []⟩]
def k_law05_GlassTruths_r13 : List AOper := [
  ⟨some 81, .move (.tmp 15), none, []⟩,
 ⟨some 82, .move (.tmp 9), none, []⟩,
 ⟨some 83, .len false (.tmp 82), none, []⟩,
 ⟨some 84, .bin .plain .lss (.tmp 81) (.tmp 83), none, []⟩]
def k_law05_GlassTruths_r14 : List AOper := [
  ⟨some 87, .move (.tmp 14), none, []⟩,
 ⟨some 88, .fieldAddr 1 (.tmp 5), none, []⟩,
 ⟨some 89, .load none (.tmp 88), none, []⟩,
 ⟨some 90, .move (.tmp 15), none, []⟩,
 ⟨some 91, .indexAddr 2 (.tmp 89) (.tmp 90), none, []⟩,
 ⟨some 92, .fieldAddr 0 (.tmp 91), none, []⟩,
 ⟨some 93, .load none (.tmp 92), none, []⟩,
 ⟨some 94, .bin .plain .add (.tmp 87) (.tmp 93), none, []⟩,
 ⟨some 14, .move (.tmp 94), none, []⟩]
def k_law05_GlassTruths_r15 : List AOper := [
  ⟨some 95, .move (.tmp 8), none, []⟩,
 ⟨some 96, .move (.tmp 14), none, [0]⟩,
 ⟨some 97, .indexAddr 1 (.tmp 95) (.tmp 96), none, []⟩,
 ⟨some 98, .load none (.tmp 97), none, []⟩,
 ⟨some 99, .move (.tmp 9), none, [0, 1, 2, 3]⟩,
 ⟨some 100, .move (.tmp 15), none, [0, 1, 2, 3, 4]⟩,
 ⟨some 101, .indexAddr 2 (.tmp 99) (.tmp 100), none, [0, 1, 2, 3]⟩,
 ⟨some 102, .fieldAddr 0 (.tmp 101), none, [0, 1, 2, 3]⟩,
 ⟨some 103, .load none (.tmp 102), none, [0, 1, 2, 3]⟩,
 ⟨some 104, .bin .plain .lss (.tmp 98) (.tmp 103), none, []⟩,
 ⟨some 105, .move (.tmp 104), none, []⟩,
 ⟨some 106, .move (.tmp 8), (some (105, false)), []⟩,
 ⟨some 107, .move (.tmp 14), (some (105, false)), [11]⟩,
 ⟨some 108, .indexAddr 1 (.tmp 106) (.tmp 107), (some (105, false)), []⟩,
 ⟨some 109, .load none (.tmp 108), (some (105, false)), []⟩,
 ⟨some 110, .move (.tmp 9), (some (105, false)), [11, 12, 13, 14]⟩,
 ⟨some 111, .move (.tmp 15), (some (105, false)), [11, 12, 13, 14, 15]⟩,
 ⟨some 112, .indexAddr 2 (.tmp 110) (.tmp 111), (some (105, false)), [11, 12, 13, 14]⟩,
 ⟨some 113, .fieldAddr 1 (.tmp 112), (some (105, false)), [11, 12, 13, 14]⟩,
 ⟨some 114, .load none (.tmp 113), (some (105, false)), [11, 12, 13, 14]⟩,
 ⟨some 115, .bin .plain .gtr (.tmp 109) (.tmp 114), (some (105, false)), []⟩,
 ⟨some 116, .pick (.tmp 105) (.const (.bool true)) (.tmp 115), none, []⟩]
def k_law05_GlassTruths_r15s : List (List AOper) := [
  [
  ⟨some 95, .move (.tmp 8), none, []⟩,
 ⟨some 96, .move (.tmp 14), none, [0]⟩,
 ⟨some 97, .indexAddr 1 (.tmp 95) (.tmp 96), none, []⟩,
 ⟨some 98, .load none (.tmp 97), none, []⟩,
 ⟨some 99, .move (.tmp 9), none, [0, 1, 2, 3]⟩,
 ⟨some 100, .move (.tmp 15), none, [0, 1, 2, 3, 4]⟩,
 ⟨some 101, .indexAddr 2 (.tmp 99) (.tmp 100), none, [0, 1, 2, 3]⟩,
 ⟨some 102, .fieldAddr 0 (.tmp 101), none, [0, 1, 2, 3]⟩,
 ⟨some 103, .load none (.tmp 102), none, [0, 1, 2, 3]⟩], 
  [
  ⟨some 104, .bin .plain .lss (.tmp 98) (.tmp 103), none, []⟩], 
  [
  ⟨some 105, .move (.tmp 104), none, []⟩], 
  [
  ⟨some 106, .move (.tmp 8), (some (105, false)), []⟩,
 ⟨some 107, .move (.tmp 14), (some (105, false)), [11]⟩,
 ⟨some 108, .indexAddr 1 (.tmp 106) (.tmp 107), (some (105, false)), []⟩,
 ⟨some 109, .load none (.tmp 108), (some (105, false)), []⟩,
 ⟨some 110, .move (.tmp 9), (some (105, false)), [11, 12, 13, 14]⟩,
 ⟨some 111, .move (.tmp 15), (some (105, false)), [11, 12, 13, 14, 15]⟩,
 ⟨some 112, .indexAddr 2 (.tmp 110) (.tmp 111), (some (105, false)), [11, 12, 13, 14]⟩,
 ⟨some 113, .fieldAddr 1 (.tmp 112), (some (105, false)), [11, 12, 13, 14]⟩,
 ⟨some 114, .load none (.tmp 113), (some (105, false)), [11, 12, 13, 14]⟩], 
  [
  ⟨some 115, .bin .plain .gtr (.tmp 109) (.tmp 114), (some (105, false)), []⟩], 
  [
  ⟨some 116, .pick (.tmp 105) (.const (.bool true)) (.tmp 115), none, []⟩]]
theorem k_law05_GlassTruths_r15_sg : segs k_law05_GlassTruths_r15 = k_law05_GlassTruths_r15s := by kernel_rfl
theorem k_law05_GlassTruths_r15_st : statOK k_law05_GlassTruths_r15 = true := by kernel_rfl
def k_law05_GlassTruths_r16 : List AOper := [
  ⟨some 2, .move (.const (.bool false)), none, []⟩]
def k_law05_GlassTruths_r17 : List AOper := [
  ⟨some 85, .move (.tmp 15), none, []⟩,
 ⟨some 86, .bin .plain .add (.tmp 85) (.const (.int .i64 1)), none, []⟩,
 ⟨some 15, .move (.tmp 86), none, []⟩]
def k_law05_GlassTruths_r18 : ACode := (.seq (.seq (.reg k_law05_GlassTruths_r13 false) (.cond (.tmp 84) .skip (.exit 0))) (.seq (.block 1 (.seq (.reg k_law05_GlassTruths_r14 false) (.seq (.reg k_law05_GlassTruths_r15 true) (.cond (.tmp 116) (.seq (.reg k_law05_GlassTruths_r16 false) .ret) .skip)))) (.reg k_law05_GlassTruths_r17 false)))
def k_law05_GlassTruths_r19 : List AOper := [
  ⟨some 16, .move (.const (.int .i64 0)), none, []⟩]
def k_law05_GlassTruths_r20 : List AOper := [
  ⟨some 117, .move (.tmp 16), none, []⟩,
 ⟨some 118, .move (.tmp 8), none, []⟩,
 ⟨some 119, .len false (.tmp 118), none, []⟩,
 ⟨some 120, .bin .plain .lss (.tmp 117) (.tmp 119), none, []⟩]
def k_law05_GlassTruths_r21 : List AOper := [
  ⟨some 123, .move (.tmp 8), none, []⟩,
 ⟨some 124, .move (.tmp 16), none, [0]⟩,
 ⟨some 125, .indexAddr 1 (.tmp 123) (.tmp 124), none, []⟩,
 ⟨some 126, .load none (.tmp 125), none, []⟩,
 ⟨some 127, .fieldAddr 0 (.tmp 4), none, [0, 1, 2, 3]⟩,
 ⟨some 128, .load none (.tmp 127), none, [0, 1, 2, 3]⟩,
 ⟨some 129, .bin .plain .leq (.tmp 126) (.tmp 128), none, []⟩,
 ⟨some 130, .move (.tmp 129), none, []⟩,
 ⟨some 131, .move (.tmp 16), (some (130, true)), []⟩,
 ⟨some 132, .move (.tmp 8), (some (130, true)), [8]⟩,
 ⟨some 133, .len false (.tmp 132), (some (130, true)), [8]⟩,
 ⟨some 134, .bin .plain .sub (.tmp 133) (.const (.int .i64 1)), (some (130, true)), [8]⟩,
 ⟨some 135, .bin .plain .lss (.tmp 131) (.tmp 134), (some (130, true)), []⟩,
 ⟨some 136, .move (.tmp 135), (some (130, true)), []⟩,
 ⟨some 137, .move (.tmp 8), (some (136, false)), []⟩,
 ⟨some 138, .move (.tmp 16), (some (136, false)), [14]⟩,
 ⟨some 139, .indexAddr 1 (.tmp 137) (.tmp 138), (some (136, false)), []⟩,
 ⟨some 140, .load none (.tmp 139), (some (136, false)), []⟩,
 ⟨some 141, .move (.tmp 7), (some (136, false)), [14, 15, 16, 17]⟩,
 ⟨some 142, .bin .plain .leq (.tmp 140) (.tmp 141), (some (136, false)), []⟩,
 ⟨some 143, .pick (.tmp 136) (.const (.bool true)) (.tmp 142), (some (130, true)), []⟩,
 ⟨some 144, .pick (.tmp 130) (.tmp 143) (.const (.bool false)), none, []⟩,
 ⟨some 17, .move (.tmp 144), none, []⟩]
def k_law05_GlassTruths_r21s : List (List AOper) := [
  [
  ⟨some 123, .move (.tmp 8), none, []⟩,
 ⟨some 124, .move (.tmp 16), none, [0]⟩,
 ⟨some 125, .indexAddr 1 (.tmp 123) (.tmp 124), none, []⟩,
 ⟨some 126, .load none (.tmp 125), none, []⟩,
 ⟨some 127, .fieldAddr 0 (.tmp 4), none, [0, 1, 2, 3]⟩,
 ⟨some 128, .load none (.tmp 127), none, [0, 1, 2, 3]⟩], 
  [
  ⟨some 129, .bin .plain .leq (.tmp 126) (.tmp 128), none, []⟩], 
  [
  ⟨some 130, .move (.tmp 129), none, []⟩], 
  [
  ⟨some 131, .move (.tmp 16), (some (130, true)), []⟩,
 ⟨some 132, .move (.tmp 8), (some (130, true)), [8]⟩,
 ⟨some 133, .len false (.tmp 132), (some (130, true)), [8]⟩,
 ⟨some 134, .bin .plain .sub (.tmp 133) (.const (.int .i64 1)), (some (130, true)), [8]⟩], 
  [
  ⟨some 135, .bin .plain .lss (.tmp 131) (.tmp 134), (some (130, true)), []⟩], 
  [
  ⟨some 136, .move (.tmp 135), (some (130, true)), []⟩], 
  [
  ⟨some 137, .move (.tmp 8), (some (136, false)), []⟩,
 ⟨some 138, .move (.tmp 16), (some (136, false)), [14]⟩,
 ⟨some 139, .indexAddr 1 (.tmp 137) (.tmp 138), (some (136, false)), []⟩,
 ⟨some 140, .load none (.tmp 139), (some (136, false)), []⟩,
 ⟨some 141, .move (.tmp 7), (some (136, false)), [14, 15, 16, 17]⟩], 
  [
  ⟨some 142, .bin .plain .leq (.tmp 140) (.tmp 141), (some (136, false)), []⟩], 
  [
  ⟨some 143, .pick (.tmp 136) (.const (.bool true)) (.tmp 142), (some (130, true)), []⟩], 
  [
  ⟨some 144, .pick (.tmp 130) (.tmp 143) (.const (.bool false)), none, []⟩], 
  [
  ⟨some 17, .move (.tmp 144), none, []⟩]]
theorem k_law05_GlassTruths_r21_sg : segs k_law05_GlassTruths_r21 = k_law05_GlassTruths_r21s := by kernel_rfl
theorem k_law05_GlassTruths_r21_st : statOK k_law05_GlassTruths_r21 = true := by kernel_rfl
def k_law05_GlassTruths_r22 : List AOper := [
  ⟨some 145, .move (.tmp 11), none, []⟩,
 ⟨some 146, .bin .plain .eql (.tmp 145) (.const (.int .i64 1)), none, []⟩,
 ⟨some 147, .move (.tmp 146), none, []⟩,
 ⟨some 148, .move (.tmp 17), (some (147, true)), []⟩,
 ⟨some 149, .not (.tmp 148), (some (147, true)), []⟩,
 ⟨some 150, .pick (.tmp 147) (.tmp 149) (.const (.bool false)), none, []⟩,
 ⟨some 151, .move (.tmp 150), none, []⟩,
 ⟨some 152, .move (.tmp 11), (some (151, false)), []⟩,
 ⟨some 153, .bin .plain .eql (.tmp 152) (.const (.int .i64 2)), (some (151, false)), []⟩,
 ⟨some 154, .move (.tmp 153), (some (151, false)), []⟩,
 ⟨some 155, .move (.tmp 16), (some (154, true)), []⟩,
 ⟨some 156, .move (.tmp 12), (some (154, true)), []⟩,
 ⟨some 157, .bin .plain .eql (.tmp 155) (.tmp 156), (some (154, true)), []⟩,
 ⟨some 158, .pick (.tmp 154) (.tmp 157) (.const (.bool false)), (some (151, false)), []⟩,
 ⟨some 159, .move (.tmp 158), (some (151, false)), []⟩,
 ⟨some 160, .move (.tmp 17), (some (159, true)), []⟩,
 ⟨some 161, .pick (.tmp 159) (.tmp 160) (.const (.bool false)), (some (151, false)), []⟩,
 ⟨some 162, .pick (.tmp 151) (.const (.bool true)) (.tmp 161), none, []⟩]
def k_law05_GlassTruths_r23 : List AOper := [
  ⟨some 2, .move (.const (.bool false)), none, []⟩]
def k_law05_GlassTruths_r24 : List AOper := [
  ⟨some 121, .move (.tmp 16), none, []⟩,
 ⟨some 122, .bin .plain .add (.tmp 121) (.const (.int .i64 1)), none, []⟩,
 ⟨some 16, .move (.tmp 122), none, []⟩]
def k_law05_GlassTruths_r25 : ACode := (.seq (.seq (.reg k_law05_GlassTruths_r20 false) (.cond (.tmp 120) .skip (.exit 2))) (.seq (.block 3 (.seq (.reg k_law05_GlassTruths_r21 true) (.seq (.reg k_law05_GlassTruths_r22 false) (.cond (.tmp 162) (.seq (.reg k_law05_GlassTruths_r23 false) .ret) .skip)))) (.reg k_law05_GlassTruths_r24 false)))
def k_law05_GlassTruths_r26 : List AOper := [
  ⟨some 163, .call (.const (.fn (.func 20) [] [])) [], none, []⟩,
 ⟨some 2, .move (.tmp 163), none, []⟩]
def k_law05_GlassTruths : AFun := { params := 1, ntmps := 164, body := (.seq (.reg k_law05_GlassTruths_r0 false) (.seq (.reg k_law05_GlassTruths_r1 false) (.seq (.reg k_law05_GlassTruths_r2 false) (.seq (.reg k_law05_GlassTruths_r3 false) (.seq (.reg k_law05_GlassTruths_r4 false) (.seq (.reg k_law05_GlassTruths_r5 false) (.seq (.reg k_law05_GlassTruths_r6 false) (.seq (.reg k_law05_GlassTruths_r7 false) (.seq (.reg k_law05_GlassTruths_r8 false) (.seq (.seq (.reg k_law05_GlassTruths_r9 false) (.cond (.tmp 80) (.seq (.reg k_law05_GlassTruths_r10 false) .ret) .skip)) (.seq (.reg k_law05_GlassTruths_r11 false) (.seq (.seq (.reg k_law05_GlassTruths_r12 false) (.block 0 (.loop k_law05_GlassTruths_r18))) (.seq (.seq (.reg k_law05_GlassTruths_r19 false) (.block 2 (.loop k_law05_GlassTruths_r25))) (.seq (.reg k_law05_GlassTruths_r26 false) .ret)))))))))))))), res := [.tmp 2] }
theorem k_law05_GlassTruths_ok : cfun Try.prog Try.f13 = k_law05_GlassTruths := by kernel_rfl

def k_kit_StrainsOf_r0 : List AOper := [
  ⟨some 5, .box (.tmp 1), none, []⟩,
 ⟨some 7, .box (.tmp 3), none, []⟩,
 ⟨some 8, .move (.const (.nilsl)), none, []⟩]
def k_kit_StrainsOf_r1 : List AOper := [
  ⟨some 17, .load (some (2)) (.tmp 7), none, []⟩,
 ⟨some 18, .call (.const (.fn (.func 121) [] [])) [.tmp 17], none, []⟩,
 ⟨some 9, .move (.tmp 18), none, []⟩]
def k_kit_StrainsOf_r2 : List AOper := [
  ⟨some 19, .buildSlice 1 [.const (.int .i64 0)], none, []⟩,
 ⟨some 10, .move (.tmp 19), none, []⟩]
def k_kit_StrainsOf_r3 : List AOper := [
  ⟨some 20, .move (.tmp 0), none, []⟩,
 ⟨some 21, .call (.const (.fn (.func 26) [] [])) [.tmp 20, .const (.int .i64 4)], none, []⟩,
 ⟨some 11, .move (.tmp 21), none, []⟩]
def k_kit_StrainsOf_r4 : List AOper := [
  ⟨some 12, .move (.const (.int .i64 1)), none, []⟩]
def k_kit_StrainsOf_r5 : List AOper := [
  ⟨some 22, .move (.tmp 12), none, []⟩,
 ⟨some 23, .move (.tmp 9), none, []⟩,
 ⟨some 24, .len false (.tmp 23), none, []⟩,
 ⟨some 25, .bin .plain .lss (.tmp 22) (.tmp 24), none, []⟩]
def k_kit_StrainsOf_r6 : List AOper := [
  ⟨some 28, .load (some (2)) (.tmp 5), none, []⟩,
 ⟨some 29, .move (.tmp 9), none, [0]⟩,
 ⟨some 30, .move (.tmp 12), none, [0, 1]⟩,
 ⟨some 31, .indexAddr 1 (.tmp 29) (.tmp 30), none, [0]⟩,
 ⟨some 32, .load none (.tmp 31), none, [0]⟩,
 ⟨some 33, .call (.const (.fn (.func 76) [] [])) [.tmp 28, .tmp 32], none, []⟩,
 ⟨some 13, .box (.const (.agg [.int .i64 0, .int .i64 0, .int .i64 0, .int .i64 0, .int .i64 0])), none, [0, 1, 2, 3, 4, 5]⟩,
 ⟨none, .store 5 (.tmp 13) (.tmp 33), none, []⟩]
def k_kit_StrainsOf_r6s : List (List AOper) := [
  [
  ⟨some 28, .load (some (2)) (.tmp 5), none, []⟩,
 ⟨some 29, .move (.tmp 9), none, [0]⟩,
 ⟨some 30, .move (.tmp 12), none, [0, 1]⟩,
 ⟨some 31, .indexAddr 1 (.tmp 29) (.tmp 30), none, [0]⟩,
 ⟨some 32, .load none (.tmp 31), none, [0]⟩,
 ⟨some 33, .call (.const (.fn (.func 76) [] [])) [.tmp 28, .tmp 32], none, []⟩,
 ⟨some 13, .box (.const (.agg [.int .i64 0, .int .i64 0, .int .i64 0, .int .i64 0, .int .i64 0])), none, [0, 1, 2, 3, 4, 5]⟩], 
  [
  ⟨none, .store 5 (.tmp 13) (.tmp 33), none, []⟩]]
theorem k_kit_StrainsOf_r6_sg : segs k_kit_StrainsOf_r6 = k_kit_StrainsOf_r6s := by kernel_rfl
theorem k_kit_StrainsOf_r6_st : statOK k_kit_StrainsOf_r6 = true := by kernel_rfl
def k_kit_StrainsOf_r7 : List AOper := [
  ⟨some 34, .move (.tmp 10), none, []⟩,
 ⟨some 35, .move (.tmp 12), none, []⟩,
 ⟨some 36, .bin .plain .sub (.tmp 35) (.const (.int .i64 1)), none, []⟩,
 ⟨some 37, .indexAddr 1 (.tmp 34) (.tmp 36), none, []⟩,
 ⟨some 38, .load none (.tmp 37), none, []⟩,
 ⟨some 14, .move (.tmp 38), none, []⟩]
def k_kit_StrainsOf_r8 : List AOper := [
  ⟨some 39, .load (some (5)) (.tmp 13), none, []⟩,
 ⟨some 40, .move (.tmp 2), none, [0]⟩,
 ⟨some 41, .move (.tmp 9), none, [0, 1]⟩,
 ⟨some 42, .move (.tmp 12), none, [0, 1, 2]⟩,
 ⟨some 43, .indexAddr 1 (.tmp 41) (.tmp 42), none, [0, 1]⟩,
 ⟨some 44, .load none (.tmp 43), none, [0, 1]⟩,
 ⟨some 45, .move (.tmp 9), none, [0, 1, 2, 3, 4, 5]⟩,
 ⟨some 46, .move (.tmp 12), none, [0, 1, 2, 3, 4, 5, 6]⟩,
 ⟨some 47, .bin .plain .sub (.tmp 46) (.const (.int .i64 1)), none, [0, 1, 2, 3, 4, 5, 6]⟩,
 ⟨some 48, .indexAddr 1 (.tmp 45) (.tmp 47), none, [0, 1, 2, 3, 4, 5]⟩,
 ⟨some 49, .load none (.tmp 48), none, [0, 1, 2, 3, 4, 5]⟩,
 ⟨some 50, .bin .plain .sub (.tmp 44) (.tmp 49), none, [0, 1]⟩,
 ⟨some 51, .move (.tmp 9), none, [0, 1, 2, 3, 4, 5, 6, 7, 8, 9, 10, 11]⟩,
 ⟨some 52, .move (.tmp 12), none, [0, 1, 2, 3, 4, 5, 6, 7, 8, 9, 10, 11, 12]⟩,
 ⟨some 53, .bin .plain .sub (.tmp 52) (.const (.int .i64 1)), none, [0, 1, 2, 3, 4, 5, 6, 7, 8, 9, 10, 11, 12]⟩,
 ⟨some 54, .indexAddr 1 (.tmp 51) (.tmp 53), none, [0, 1, 2, 3, 4, 5, 6, 7, 8, 9, 10, 11]⟩,
 ⟨some 55, .load none (.tmp 54), none, [0, 1, 2, 3, 4, 5, 6, 7, 8, 9, 10, 11]⟩,
 ⟨some 56, .move (.tmp 9), none, [0, 1, 2, 3, 4, 5, 6, 7, 8, 9, 10, 11, 12, 13, 14, 15, 16]⟩,
 ⟨some 57, .move (.tmp 12), none, [0, 1, 2, 3, 4, 5, 6, 7, 8, 9, 10, 11, 12, 13, 14, 15, 16, 17]⟩,
 ⟨some 58, .indexAddr 1 (.tmp 56) (.tmp 57), none, [0, 1, 2, 3, 4, 5, 6, 7, 8, 9, 10, 11, 12, 13, 14, 15, 16]⟩,
 ⟨some 59, .load none (.tmp 58), none, [0, 1, 2, 3, 4, 5, 6, 7, 8, 9, 10, 11, 12, 13, 14, 15, 16]⟩,
 ⟨some 60, .bin .plain .sub (.tmp 55) (.tmp 59), none, [0, 1, 2, 3, 4, 5, 6, 7, 8, 9, 10, 11]⟩,
 ⟨some 61, .minmax true [.tmp 50, .tmp 60], none, [0, 1]⟩,
 ⟨some 62, .call (.const (.fn (.func 122) [] [])) [.tmp 39, .tmp 40, .tmp 61], none, []⟩,
 ⟨some 15, .box (.const (.agg [.int .i64 0, .int .i64 0])), none, [0, 1, 2, 3, 4, 5, 6, 7, 8, 9, 10, 11, 12, 13, 14, 15, 16, 17, 18, 19, 20, 21, 22, 23]⟩,
 ⟨none, .store 2 (.tmp 15) (.tmp 62), none, []⟩]
def k_kit_StrainsOf_r8s : List (List AOper) := [
  [
  ⟨some 39, .load (some (5)) (.tmp 13), none, []⟩,
 ⟨some 40, .move (.tmp 2), none, [0]⟩,
 ⟨some 41, .move (.tmp 9), none, [0, 1]⟩,
 ⟨some 42, .move (.tmp 12), none, [0, 1, 2]⟩,
 ⟨some 43, .indexAddr 1 (.tmp 41) (.tmp 42), none, [0, 1]⟩,
 ⟨some 44, .load none (.tmp 43), none, [0, 1]⟩,
 ⟨some 45, .move (.tmp 9), none, [0, 1, 2, 3, 4, 5]⟩,
 ⟨some 46, .move (.tmp 12), none, [0, 1, 2, 3, 4, 5, 6]⟩,
 ⟨some 47, .bin .plain .sub (.tmp 46) (.const (.int .i64 1)), none, [0, 1, 2, 3, 4, 5, 6]⟩,
 ⟨some 48, .indexAddr 1 (.tmp 45) (.tmp 47), none, [0, 1, 2, 3, 4, 5]⟩,
 ⟨some 49, .load none (.tmp 48), none, [0, 1, 2, 3, 4, 5]⟩,
 ⟨some 50, .bin .plain .sub (.tmp 44) (.tmp 49), none, [0, 1]⟩,
 ⟨some 51, .move (.tmp 9), none, [0, 1, 2, 3, 4, 5, 6, 7, 8, 9, 10, 11]⟩,
 ⟨some 52, .move (.tmp 12), none, [0, 1, 2, 3, 4, 5, 6, 7, 8, 9, 10, 11, 12]⟩,
 ⟨some 53, .bin .plain .sub (.tmp 52) (.const (.int .i64 1)), none, [0, 1, 2, 3, 4, 5, 6, 7, 8, 9, 10, 11, 12]⟩,
 ⟨some 54, .indexAddr 1 (.tmp 51) (.tmp 53), none, [0, 1, 2, 3, 4, 5, 6, 7, 8, 9, 10, 11]⟩,
 ⟨some 55, .load none (.tmp 54), none, [0, 1, 2, 3, 4, 5, 6, 7, 8, 9, 10, 11]⟩,
 ⟨some 56, .move (.tmp 9), none, [0, 1, 2, 3, 4, 5, 6, 7, 8, 9, 10, 11, 12, 13, 14, 15, 16]⟩,
 ⟨some 57, .move (.tmp 12), none, [0, 1, 2, 3, 4, 5, 6, 7, 8, 9, 10, 11, 12, 13, 14, 15, 16, 17]⟩,
 ⟨some 58, .indexAddr 1 (.tmp 56) (.tmp 57), none, [0, 1, 2, 3, 4, 5, 6, 7, 8, 9, 10, 11, 12, 13, 14, 15, 16]⟩,
 ⟨some 59, .load none (.tmp 58), none, [0, 1, 2, 3, 4, 5, 6, 7, 8, 9, 10, 11, 12, 13, 14, 15, 16]⟩,
 ⟨some 60, .bin .plain .sub (.tmp 55) (.tmp 59), none, [0, 1, 2, 3, 4, 5, 6, 7, 8, 9, 10, 11]⟩,
 ⟨some 61, .minmax true [.tmp 50, .tmp 60], none, [0, 1]⟩,
 ⟨some 62, .call (.const (.fn (.func 122) [] [])) [.tmp 39, .tmp 40, .tmp 61], none, []⟩,
 ⟨some 15, .box (.const (.agg [.int .i64 0, .int .i64 0])), none, [0, 1, 2, 3, 4, 5, 6, 7, 8, 9, 10, 11, 12, 13, 14, 15, 16, 17, 18, 19, 20, 21, 22, 23]⟩], 
  [
  ⟨none, .store 2 (.tmp 15) (.tmp 62), none, []⟩]]
theorem k_kit_StrainsOf_r8_sg : segs k_kit_StrainsOf_r8 = k_kit_StrainsOf_r8s := by kernel_rfl
theorem k_kit_StrainsOf_r8_st : statOK k_kit_StrainsOf_r8 = true := by kernel_rfl
def k_kit_StrainsOf_r9 : List AOper := [
  ⟨some 63, .load (some (5)) (.tmp 13), none, []⟩,
 ⟨some 64, .move (.tmp 14), none, []⟩,
 ⟨some 65, .move (.tmp 14), none, []⟩,
 ⟨some 66, .call (.const (.fn (.func 77) [] [])) [.tmp 63, .tmp 64, .tmp 65], none, []⟩,
 ⟨some 16, .box (.const (.agg [.int .i64 0, .int .i64 0])), none, []⟩,
 ⟨none, .store 2 (.tmp 16) (.tmp 66), none, []⟩]
def k_kit_StrainsOf_r10 : List AOper := [
  ⟨some 67, .move (.tmp 11), none, []⟩]
def k_kit_StrainsOf_r11 : List AOper := [
  ⟨some 78, .bin .plain .eql (.tmp 67) (.const (.int .i64 0)), none, []⟩,
 ⟨some 77, .move (.tmp 78), none, []⟩]
def k_kit_StrainsOf_r12 : List AOper := [
  ⟨some 79, .move (.tmp 14), none, []⟩,
 ⟨some 80, .fieldAddr 1 (.tmp 16), none, []⟩,
 ⟨some 81, .load none (.tmp 80), none, []⟩,
 ⟨some 82, .bin .plain .sub (.tmp 79) (.tmp 81), none, []⟩,
 ⟨some 83, .fieldAddr 0 (.tmp 15), none, []⟩,
 ⟨some 84, .load none (.tmp 83), none, []⟩,
 ⟨some 85, .bin .plain .add (.tmp 82) (.tmp 84), none, []⟩,
 ⟨some 14, .move (.tmp 85), none, []⟩]
def k_kit_StrainsOf_r13 : List AOper := [
  ⟨some 87, .bin .plain .eql (.tmp 67) (.const (.int .i64 1)), none, []⟩,
 ⟨some 86, .move (.tmp 87), none, []⟩]
def k_kit_StrainsOf_r14 : List AOper := [
  ⟨some 88, .move (.tmp 14), none, []⟩,
 ⟨some 89, .fieldAddr 0 (.tmp 16), none, []⟩,
 ⟨some 90, .load none (.tmp 89), none, []⟩,
 ⟨some 91, .bin .plain .sub (.tmp 88) (.tmp 90), none, []⟩,
 ⟨some 92, .fieldAddr 1 (.tmp 15), none, []⟩,
 ⟨some 93, .load none (.tmp 92), none, []⟩,
 ⟨some 94, .bin .plain .add (.tmp 91) (.tmp 93), none, []⟩,
 ⟨some 14, .move (.tmp 94), none, []⟩]
def k_kit_StrainsOf_r15 : List AOper := [
  ⟨some 68, .move (.tmp 14), none, []⟩,
 ⟨some 69, .move (.tmp 0), none, [0]⟩,
 ⟨some 70, .load (some (2)) (.tmp 16), none, [0, 1]⟩,
 ⟨some 71, .call (.const (.fn (.func 75) [] [])) [.tmp 69, .tmp 70], none, [0]⟩,
 ⟨some 72, .bin .plain .sub (.tmp 68) (.tmp 71), none, []⟩,
 ⟨some 73, .move (.tmp 0), none, [0, 1, 2, 3, 4]⟩,
 ⟨some 74, .load (some (2)) (.tmp 15), none, [0, 1, 2, 3, 4, 5]⟩,
 ⟨some 75, .call (.const (.fn (.func 75) [] [])) [.tmp 73, .tmp 74], none, [0, 4]⟩,
 ⟨some 76, .bin .plain .add (.tmp 72) (.tmp 75), none, []⟩,
 ⟨some 14, .move (.tmp 76), none, []⟩]
def k_kit_StrainsOf_r15s : List (List AOper) := [
  [
  ⟨some 68, .move (.tmp 14), none, []⟩,
 ⟨some 69, .move (.tmp 0), none, [0]⟩,
 ⟨some 70, .load (some (2)) (.tmp 16), none, [0, 1]⟩,
 ⟨some 71, .call (.const (.fn (.func 75) [] [])) [.tmp 69, .tmp 70], none, [0]⟩,
 ⟨some 72, .bin .plain .sub (.tmp 68) (.tmp 71), none, []⟩,
 ⟨some 73, .move (.tmp 0), none, [0, 1, 2, 3, 4]⟩,
 ⟨some 74, .load (some (2)) (.tmp 15), none, [0, 1, 2, 3, 4, 5]⟩,
 ⟨some 75, .call (.const (.fn (.func 75) [] [])) [.tmp 73, .tmp 74], none, [0, 4]⟩], 
  [
  ⟨some 76, .bin .plain .add (.tmp 72) (.tmp 75), none, []⟩], 
  [
  ⟨some 14, .move (.tmp 76), none, []⟩]]
theorem k_kit_StrainsOf_r15_sg : segs k_kit_StrainsOf_r15 = k_kit_StrainsOf_r15s := by kernel_rfl
theorem k_kit_StrainsOf_r15_st : statOK k_kit_StrainsOf_r15 = true := by kernel_rfl
def k_kit_StrainsOf_r16 : List AOper := [
  ⟨some 95, .move (.tmp 10), none, []⟩,
 ⟨some 96, .move (.tmp 14), none, []⟩,
 ⟨some 97, .minmax false [.tmp 96, .const (.int .i64 1099511627776)], none, []⟩,
 ⟨some 98, .buildSlice 1 [.tmp 97], none, []⟩,
 ⟨some 99, .append 1 8 false (.tmp 95) (.tmp 98), none, []⟩,
 ⟨some 10, .move (.tmp 99), none, []⟩]
def k_kit_StrainsOf_r17 : List AOper := [
  ⟨some 26, .move (.tmp 12), none, []⟩,
 ⟨some 27, .bin .plain .add (.tmp 26) (.const (.int .i64 1)), none, []⟩,
 ⟨some 12, .move (.tmp 27), none, []⟩]
def k_kit_StrainsOf_r18 : ACode := (.seq (.seq (.reg k_kit_StrainsOf_r5 false) (.cond (.tmp 25) .skip (.exit 0))) (.seq (.block 1 (.seq (.reg k_kit_StrainsOf_r6 true) (.seq (.reg k_kit_StrainsOf_r7 false) (.seq (.reg k_kit_StrainsOf_r8 true) (.seq (.reg k_kit_StrainsOf_r9 false) (.seq (.seq (.reg k_kit_StrainsOf_r10 false) (.block 2 (.seq (.reg k_kit_StrainsOf_r11 false) (.cond (.tmp 77) (.reg k_kit_StrainsOf_r12 false) (.seq (.reg k_kit_StrainsOf_r13 false) (.cond (.tmp 86) (.reg k_kit_StrainsOf_r14 false) (.reg k_kit_StrainsOf_r15 true))))))) (.reg k_kit_StrainsOf_r16 false))))))) (.reg k_kit_StrainsOf_r17 false)))
def k_kit_StrainsOf_r19 : List AOper := [
  ⟨some 100, .move (.tmp 10), none, []⟩,
 ⟨some 8, .move (.tmp 100), none, []⟩]
def k_kit_StrainsOf : AFun := { params := 4, ntmps := 101, body := (.seq (.reg k_kit_StrainsOf_r0 false) (.seq (.reg k_kit_StrainsOf_r1 false) (.seq (.reg k_kit_StrainsOf_r2 false) (.seq (.reg k_kit_StrainsOf_r3 false) (.seq (.seq (.reg k_kit_StrainsOf_r4 false) (.block 0 (.loop k_kit_StrainsOf_r18))) (.seq (.reg k_kit_StrainsOf_r19 false) .ret)))))), res := [.tmp 8] }
theorem k_kit_StrainsOf_ok : cfun Try.prog Try.f72 = k_kit_StrainsOf := by kernel_rfl


abbrev n_law05_GlassTruths : Nat := 13
theorem e_law05_GlassTruths : EntryOK Try.prog n_law05_GlassTruths k_law05_GlassTruths := ⟨Try.f13, Try.func13, k_law05_GlassTruths_ok, by kernel_rfl⟩
abbrev n_kit_StrainsOf : Nat := 72
theorem e_kit_StrainsOf : EntryOK Try.prog n_kit_StrainsOf k_kit_StrainsOf := ⟨Try.f72, Try.func72, k_kit_StrainsOf_ok, by kernel_rfl⟩

attribute [go_sem] k_law05_GlassTruths_r0
attribute [go_sem] k_law05_GlassTruths_r1 k_law05_GlassTruths_r2 k_law05_GlassTruths_r3 k_law05_GlassTruths_r4 k_law05_GlassTruths_r5 k_law05_GlassTruths_r6 k_law05_GlassTruths_r7 k_law05_GlassTruths_r8 k_law05_GlassTruths_r9 k_law05_GlassTruths_r10 k_law05_GlassTruths_r11 k_law05_GlassTruths_r12
attribute [go_sem] k_law05_GlassTruths_r13 k_law05_GlassTruths_r14 k_law05_GlassTruths_r15s k_law05_GlassTruths_r16 k_law05_GlassTruths_r17 k_law05_GlassTruths_r19 k_law05_GlassTruths_r20 k_law05_GlassTruths_r21s k_law05_GlassTruths_r22 k_law05_GlassTruths_r23 k_law05_GlassTruths_r24 k_law05_GlassTruths_r26
attribute [go_sem] k_kit_StrainsOf_r0 k_kit_StrainsOf_r1
attribute [go_sem] k_kit_StrainsOf_r2 k_kit_StrainsOf_r3 k_kit_StrainsOf_r4 k_kit_StrainsOf_r5 k_kit_StrainsOf_r6s k_kit_StrainsOf_r7 k_kit_StrainsOf_r8s k_kit_StrainsOf_r9 k_kit_StrainsOf_r10 k_kit_StrainsOf_r11 k_kit_StrainsOf_r12 k_kit_StrainsOf_r13
attribute [go_sem] k_kit_StrainsOf_r14 k_kit_StrainsOf_r15s k_kit_StrainsOf_r16 k_kit_StrainsOf_r17 k_kit_StrainsOf_r19 k_kit_StrainsOf_r8_sg k_kit_StrainsOf_r15_sg k_law05_GlassTruths_r15_sg k_law05_GlassTruths_r21_sg
attribute [go_sem] k_kit_StrainsOf_r6_sg k_kit_StrainsOf_r8_st k_kit_StrainsOf_r15_st k_law05_GlassTruths_r15_st k_law05_GlassTruths_r21_st k_kit_StrainsOf_r6_st k_law05_GlassTruths
attribute [go_sem] k_kit_StrainsOf
end Go.Proofs

namespace Go.Proofs
open Go Go.Sx
attribute [local irreducible] Run

theorem tBreaks_run (a b c : Int) : Ans Try.prog n_glass_strained_surelyBreaks [m3 a b c] [] (.bool (decide (a > c))) [] := by
  refine spec_run e_glass_strained_surelyBreaks fun G => ?_
  by_cases h1 : a > c
  · simp [go_sem, m3, h1]
  · simp [go_sem, m3, h1]
theorem tHolds_run (a b c : Int) : Ans Try.prog n_glass_strained_surelyHolds [m3 a b c] [] (.bool (decide (b ≤ c))) [] := by
  refine spec_run e_glass_strained_surelyHolds fun G => ?_
  by_cases h1 : b ≤ c
  · simp [go_sem, m3, h1]
  · simp [go_sem, m3, h1]

def gV (hol : Nat → Bool) (num : Nat → Int) : Nat → Int × Int
  | 0 => (1, 0)
  | k + 1 => if (gV hol num k).1 = 1 ∧ hol k = false then (3, num k) else gV hol num k
def gFrom (brk hol : Nat → Bool) (num : Nat → Int) : Nat → Nat → Int × Int
  | 0, k => gV hol num k
  | n + 1, k => if brk k = true then (2, num k) else gFrom brk hol num n (k + 1)
section
variable {brk hol : Nat → Bool} {num : Nat → Int}
theorem gFrom_at : ∀ (k n m : Nat), (∀ i, m ≤ i → i < m + k → brk i = false) → gFrom brk hol num (n + k) m = gFrom brk hol num n (m + k)
  | 0, _, _, _ => rfl
  | k + 1, n, m, h => by
    have h1 := h m (Nat.le_refl _) (by omega)
    show (if brk m = true then _ else gFrom brk hol num (n + k) (m + 1)) = _
    rw [if_neg (by rw [h1]; simp), gFrom_at k n (m + 1) fun i h2 h3 => h i (by omega) (by omega)]
    congr 1; omega
theorem gV_one : ∀ k : Nat, ((gV hol num k).1 = 1 → ∀ i, i < k → hol i = true) ∧ (gV hol num k).1 ≠ 2 ∧ ((∀ i, i < k → hol i = true) → gV hol num k = (1, 0))
  | 0 => ⟨fun _ i hi => by omega, by show (1 : Int) ≠ 2; decide, fun _ => rfl⟩
  | k + 1 => by
    obtain ⟨h1, h2, h3⟩ := gV_one k
    rw [gV]
    by_cases c : (gV hol num k).1 = 1 ∧ hol k = false
    · rw [if_pos c]
      exact ⟨fun h => by simp at h, by simp, fun h => by rw [h k (by omega)] at c; simp at c⟩
    · rw [if_neg c]
      refine ⟨fun h i hi => ?_, h2, fun h => h3 fun i hi => h i (by omega)⟩
      by_cases e : i = k
      · subst e
        cases hh : hol i with
        | true => rfl
        | false => exact absurd ⟨h, hh⟩ c
      · exact h1 h i (by omega)
theorem gFrom_one : ∀ n k : Nat, (gFrom brk hol num n k).1 = 1 → ∀ i, i < k + n → hol i = true
  | 0, k, h, i, hi => (gV_one k).1 h i (by omega)
  | n + 1, k, h, i, hi => by
    rw [gFrom] at h
    by_cases c : brk k = true
    · rw [if_pos c] at h; simp at h
    · rw [if_neg c] at h
      exact gFrom_one n (k + 1) h i (by omega)
theorem gFrom_two : ∀ n k : Nat, (gFrom brk hol num n k).1 = 2 → ∃ i, k ≤ i ∧ i < k + n ∧ (gFrom brk hol num n k).2 = num i ∧ brk i = true
  | 0, k, h => absurd h (gV_one k).2.1
  | n + 1, k, h => by
    rw [gFrom] at h ⊢
    by_cases c : brk k = true
    · rw [if_pos c]
      exact ⟨k, Nat.le_refl _, by omega, rfl, c⟩
    · rw [if_neg c] at h ⊢
      obtain ⟨i, a1, a2, a3, a4⟩ := gFrom_two n (k + 1) h
      exact ⟨i, by omega, by omega, a3, a4⟩
theorem gFrom_bd (h : ∀ i, 0 ≤ num i) : ∀ n k : Nat, 0 ≤ (gFrom brk hol num n k).2 := by
  have h1 : ∀ k, 0 ≤ (gV hol num k).2 := fun k => by
    induction k with
    | zero => exact Int.le_refl _
    | succ k ih =>
      rw [gV]; split
      · exact h k
      · exact ih
  intro n
  induction n with
  | zero => intro k; exact h1 k
  | succ n ih =>
    intro k; rw [gFrom]; split
    · exact h k
    · exact ih _
end
def brkS (brk : Int) (zs : List Zn) (th f left : Int) (ls : List Lg) (i : Nat) : Bool := decide ((stAt zs th (allT 0 f ls) (i + 1)).1 > limA brk left (allT 0 f ls).length i)
def holS (brk : Int) (zs : List Zn) (th f left : Int) (ls : List Lg) (i : Nat) : Bool := decide ((stAt zs th (allT 0 f ls) (i + 1)).2 ≤ limA brk left (allT 0 f ls).length i)
def numS (i : Nat) : Int := ((i + 1 : Nat) : Int)
def judR (brk : Int) (zs : List Zn) (th f left : Int) (ls : List Lg) : Int × Int := gFrom (brkS brk zs th f left ls) (holS brk zs th f left ls) numS (allT 0 f ls).length 0

def jsT : List (Nat × AVal) := [(2, .ptr 3 0 0 1), (3, .ptr 4 0 0 1), (6, .fn (.func n_glass_wall_limited_1) [] [.ptr 1 0 0 1, .ptr 0 0 0 1, .ptr 2 0 0 1])]
def jsL (st : LoopState) (pe : Option ACode) : Row := .loop (tsets 24 jsT) [7, 8] k_glass_judge_glass_strained_r9 k_glass_judge_glass_strained_r10 5 st pe
def jsR (brk : Int) (zs : List Zn) (th f left : Int) (ls : List Lg) : Heap := [some (.cells false 3 [wlV brk zs th]), some (.cells false 2 [ovV f ls]), some (.cells false 1 [.int .i64 left])]
def jsH (brk : Int) (zs : List Zn) (th f left : Int) (ls : List Lg) (va : Int × Int) (x : Row) (X : Heap) : Heap :=
  [some (.cells false 3 [wlV brk zs th]), some (.cells false 2 [ovV f ls]), some (.cells false 1 [.int .i64 left]), some (.cells false 1 [.int .i64 va.1]), some (.cells false 1 [.int .i64 va.2]), some .dfr, some x] ++ X

set_option maxHeartbeats 8000000 in
set_option maxRecDepth 10000 in
theorem judgeS_run {brk : Int} {zs : List Zn} (hz : ZsOK zs) {th : Int} (hth : 1 ≤ th ∧ th ≤ 1000) {f left : Int} {ls : List Lg} (ho : OvOK f ls) :
    Ans Try.prog n_glass_judge_glass_strained [.fn (.func n_glass_wall_limited_1) [] [.ptr 1 0 0 1, .ptr 0 0 0 1, .ptr 2 0 0 1]] (jsR brk zs th f left ls)
      (.tup [.int .i64 (judR brk zs th f left ls).1, .int .i64 (judR brk zs th f left ls).2]) (jsR brk zs th f left ls) := by
  unfold judR
  obtain ⟨BK, hBK⟩ : ∃ B, brkS brk zs th f left ls = B := ⟨_, rfl⟩
  obtain ⟨HO, hHO⟩ : ∃ B, holS brk zs th f left ls = B := ⟨_, rfl⟩
  have eb : ∀ i, BK i = decide ((stAt zs th (allT 0 f ls) (i + 1)).1 > limA brk left (allT 0 f ls).length i) := fun i => by rw [← hBK]; rfl
  have eh : ∀ i, HO i = decide ((stAt zs th (allT 0 f ls) (i + 1)).2 ≤ limA brk left (allT 0 f ls).length i) := fun i => by rw [← hHO]; rfl
  rw [hBK, hHO]
  clear hBK hHO
  obtain ⟨n, hn⟩ : ∃ n : Nat, (allT 0 f ls).length = n := ⟨_, rfl⟩
  have row0 : ∀ (S : Nat → Prop) (i : Nat) (x : Row), (jsR brk zs th f left ls)[i]? = some (some x) → x.bel S := by
    intro S i x hx
    rcases i with _ | _ | _ | i
    · cases hx; rw [row_bel_cells]; simp only [go_sem, wlV]
    · cases hx; rw [row_bel_cells]; simp only [go_sem, ovV]
    · cases hx; rw [row_bel_cells]; simp only [go_sem]
    · simp [jsR] at hx
  refine Ans.keep (run_fn e_glass_judge_glass_strained fun G => ?_) (by simp [jsR]) (by simp [go_sem]) ⟨row0 _ 0 _ rfl, row0 _ 1 _ rfl, row0 _ 2 _ rfl, trivial⟩
  have hkept : ∀ (va : Int × Int) (H' : Heap), va = gFrom BK HO numS n 0 → (∀ (i : Nat) (x : Row), (jsR brk zs th f left ls)[i]? = some (some x) → H'[i]? = some (some x)) → ∃ σ, Kept (jsR brk zs th f left ls) (jsR brk zs th f left ls) (.tup [.int .i64 (gFrom BK HO numS n 0).1, .int .i64 (gFrom BK HO numS n 0).2]) (.tup [.int .i64 va.1, .int .i64 va.2]) H' σ := fun va H' e h => by
    subst e
    exact kept_id rfl (by simp only [go_sem]) fun i x hx => ⟨row0 _ i x hx, h i x hx⟩
  have hgen : ∀ k, k ≤ n → (∀ i, i < k → BK i = false) → gFrom BK HO numS n 0 = gFrom BK HO numS (n - k) k := fun k hk h => by
    have := gFrom_at (brk := BK) (hol := HO) (num := numS) k (n - k) 0 fun i _ hi => h i (by omega)
    rw [Nat.zero_add] at this
    rw [← this]; congr 1; omega
  simp only [jsR, wlV, ovV] at hkept
  rw [hn]
  simp only [go_sem, jsR, wlV, ovV]
  refine rangeF 2000 (ρ := tsets 24 jsT) (by simp [go_sem, jsT]) (by simp only [go_sem, jsT]; rfl)
    (limited_iter (r := 6) (jo := 1) (jw := 0) (jl := 2) (N := 7) (brk := brk) hz hth (left := left) ho
      (Pre := fun k H => (∀ i, i < k → BK i = false) ∧ ∃ X, H = jsH brk zs th f left ls (gV HO numS k) (jsL .ready none) X)
      (Stop := fun H => ∃ k X, k < n ∧ BK k = true ∧ (∀ i, i < k → BK i = false) ∧ H = jsH brk zs th f left ls (2, numS k) (jsL .done (some .ret)) X)
      ⟨?_, ?_, ?_, ?_, ?_⟩ ⟨fun i h => absurd h (by omega), [], rfl⟩) (by simp) ?_
  · rintro i H ⟨_, X, rfl⟩
    exact ⟨by simp [jsH], rfl, rfl, rfl⟩
  · rintro i H x ⟨h, X, rfl⟩
    exact ⟨h, X ++ [x], by simp [jsH]⟩
  · rintro i H q x hq ⟨h, X, rfl⟩
    refine ⟨h, X.set (q - 7) x, ?_⟩
    unfold jsH
    rw [List.set_append_right _ _ (by simp; omega)]; rfl
  · rintro H q x hq ⟨k, X, a1, a2, a3, rfl⟩
    refine ⟨k, X.set (q - 7) x, a1, a2, a3, ?_⟩
    unfold jsH
    rw [List.set_append_right _ _ (by simp; omega)]; rfl
  · rintro k H hk ⟨hnb, X, rfl⟩
    have ev : gV HO numS (k + 1) = if (gV HO numS k).1 = 1 ∧ HO k = false then (3, numS k) else gV HO numS k := rfl
    have hnb' : BK k = false → ∀ i, i < k + 1 → BK i = false := fun h i hi => by
      by_cases e : i = k
      · rw [e]; exact h
      · exact hnb i (by omega)
    have kb := tBreaks_run (stAt zs th (allT 0 f ls) (k + 1)).1 (stAt zs th (allT 0 f ls) (k + 1)).2 (limA brk left (allT 0 f ls).length k)
    have kh := tHolds_run (stAt zs th (allT 0 f ls) (k + 1)).1 (stAt zs th (allT 0 f ls) (k + 1)).2 (limA brk left (allT 0 f ls).length k)
    rw [← eb] at kb
    rw [← eh] at kh
    rw [hn] at hk
    obtain ⟨p, hp⟩ : ∃ p, stAt zs th (allT 0 f ls) (k + 1) = p := ⟨_, rfl⟩
    obtain ⟨lim, hlim⟩ : ∃ p, limA brk left (allT 0 f ls).length k = p := ⟨_, rfl⟩
    rw [hp, hlim] at kb kh
    rw [hp, hlim]
    obtain ⟨lo, hv⟩ := p
    dsimp only at kb kh ⊢
    generalize hbk : BK k = bk at *
    generalize hhk : HO k = hk2 at *
    rw [ev]
    have en : numS k = ((k + 1 : Nat) : Int) := rfl
    rw [en]
    generalize gV HO numS k = va at *
    obtain ⟨ve, ae⟩ := va
    have ht1 : tabAt [(121, 167), (136, 169)] 136 = some 169 := rfl
    have ht2 : tabAt [(121, 168), (136, 170)] 136 = some 170 := rfl
    simp only [m3] at kb kh ⊢
    cases bk with
    | true =>
      refine RoundW.mono (R := fun w H' => w = .bool false ∧ ∃ Y, H' = jsH brk zs th f left ls (2, ((k + 1 : Nat) : Int)) (jsL .done (some .ret)) (X ++ Y)) ?_ ?_
      rotate_left
      · rintro w H' ⟨rfl, Y, rfl⟩
        exact ⟨tail_keep rfl rfl, .inr ⟨rfl, k, _, hk, hbk, hnb, rfl⟩⟩
      generalize hR : (fun (w : AVal) (H' : Heap) => w = .bool false ∧ ∃ Y, H' = jsH brk zs th f left ls (2, ((k + 1 : Nat) : Int)) (jsL .done (some .ret)) (X ++ Y)) = R
      have hfin : ∀ Y, R (.bool false) (jsH brk zs th f left ls (2, ((k + 1 : Nat) : Int)) (jsL .done (some .ret)) (X ++ Y)) := fun Y => by rw [← hR]; exact ⟨rfl, Y, rfl⟩
      clear hR
      refine roundW_run 500 k_glass_judge_glass_strained_r9.eq_1 rfl rfl (ρ' := tsets 24 (jsT ++ [(7, .int .i64 ((k + 1 : Nat) : Int)), (8, .agg [.int .i64 lo, .int .i64 hv, .int .i64 lim])])) rfl ?_
      simp only [go_sem, jsT, jsH, wlV, ovV]
      refine roundMid_run 500 k_glass_judge_glass_strained_r10.eq_1 rfl rfl ?_
      simp only [go_sem, ht1]
      refine cP kb ?_
      simp only [go_sem]
      refine roundEnd_ret rfl ?_
      simp only [go_sem]
      simp only [jsH, jsL, jsT, wlV, ovV] at hfin
      exact hfin [_]
    | false =>
      refine RoundW.mono (R := fun w H' => w = .bool true ∧ ∃ Y, H' = jsH brk zs th f left ls (if ve = 1 ∧ hk2 = false then (3, ((k + 1 : Nat) : Int)) else (ve, ae)) (jsL .ready none) (X ++ Y)) ?_ ?_
      rotate_left
      · rintro w H' ⟨rfl, Y, rfl⟩
        exact ⟨tail_keep rfl rfl, .inl ⟨rfl, hnb' rfl, _, rfl⟩⟩
      generalize hR : (fun (w : AVal) (H' : Heap) => w = .bool true ∧ ∃ Y, H' = jsH brk zs th f left ls (if ve = 1 ∧ hk2 = false then (3, ((k + 1 : Nat) : Int)) else (ve, ae)) (jsL .ready none) (X ++ Y)) = R
      have hfin : ∀ Y, R (.bool true) (jsH brk zs th f left ls (if ve = 1 ∧ hk2 = false then (3, ((k + 1 : Nat) : Int)) else (ve, ae)) (jsL .ready none) (X ++ Y)) := fun Y => by rw [← hR]; exact ⟨rfl, Y, rfl⟩
      clear hR
      refine roundW_run 500 k_glass_judge_glass_strained_r9.eq_1 rfl rfl (ρ' := tsets 24 (jsT ++ [(7, .int .i64 ((k + 1 : Nat) : Int)), (8, .agg [.int .i64 lo, .int .i64 hv, .int .i64 lim])])) rfl ?_
      simp only [go_sem, jsT, jsH, wlV, ovV]
      refine roundMid_run 500 k_glass_judge_glass_strained_r10.eq_1 rfl rfl ?_
      simp only [go_sem, ht1]
      refine cP kb ?_
      by_cases hv1 : ve = 1
      · subst hv1
        have e1 : ((1 : Int) == 1) = true := rfl
        simp only [go_sem, e1, ht2]
        refine cP kh ?_
        cases hk2 with
        | true =>
          simp only [go_sem]
          refine roundEnd_on rfl ?_
          simp only [go_sem]
          simp only [jsH, jsL, jsT, wlV, ovV, Bool.true_eq_false, and_false, if_false] at hfin
          exact hfin [_]
        | false =>
          simp only [go_sem]
          refine roundEnd_on rfl ?_
          simp only [go_sem]
          simp only [jsH, jsL, jsT, wlV, ovV, and_self, if_true] at hfin
          exact hfin [_]
      · have e1 : (ve == 1) = false := beq_eq_false_iff_ne.2 hv1
        simp only [go_sem, e1]
        refine roundEnd_on rfl ?_
        simp only [go_sem]
        simp only [jsH, jsL, jsT, wlV, ovV, hv1, false_and, if_false] at hfin
        exact hfin [_]
  · rintro v H' ⟨rfl, ⟨hnb, X, rfl⟩ | ⟨k, X, a1, a2, a3, rfl⟩⟩
    · rw [hn] at hnb ⊢
      have hres := hgen n (Nat.le_refl _) hnb
      rw [Nat.sub_self] at hres
      have hK := fun H' => hkept (gV HO numS n) H' hres.symm
      refine ⟨fun q hq => by simp at hq; subst hq; rfl, _, _, _, _, _, _, _, rfl, by decide, ?_⟩
      generalize gV HO numS n = va at *
      simp only [go_sem, jsH, jsT, wlV, ovV]
      exact ⟨by simp, hK _ fun i x hx => by
        rcases i with _ | _ | _ | i
        · exact hx
        · exact hx
        · exact hx
        · simp at hx⟩
    · have hres := hgen k (by omega) a3
      have e9 : gFrom BK HO numS ((n - k - 1) + 1) k = (2, numS k) := by
        show (if BK k = true then _ else _) = _
        rw [if_pos a2]
      rw [show n - k = (n - k - 1) + 1 by omega, e9] at hres
      have hK := fun H' => hkept (2, numS k) H' hres.symm
      refine ⟨fun q hq => by simp at hq; subst hq; rfl, _, _, _, _, _, _, _, rfl, by decide, ?_⟩
      simp only [go_sem, jsH, jsT, wlV, ovV]
      exact ⟨by simp, hK _ fun i x hx => by
        rcases i with _ | _ | _ | i
        · exact hx
        · exact hx
        · exact hx
        · simp at hx⟩

section
variable {P : Program} {G : Ctx} {g : FuncId} {args largs : List AVal} {H : Heap} {r : AVal} {k : Nat} {R : Runner} {l : List AOper} {fs : List Sx.Frame} {ρ : List AVal} {ms : List Nat} {Q : Sx.Goal} {dst : Option Nat}
theorem cSame3 {x0 x1 x2 : Row} {j0 j1 j2 : Nat} (h : Ans P g largs [some x0, some x1, some x2] r [some x0, some x1, some x2]) (hargs : args = largs.map (ren (nth [j0, j1, j2]))) (hb : Bels (· < 3) largs)
    (h0 : H[j0]? = some (some x0)) (h1 : H[j1]? = some (some x1)) (h2 : H[j2]? = some (some x2)) (hx0 : x0.bel (fun _ => False)) (hx1 : x1.bel (fun _ => False)) (hx2 : x2.bel (fun _ => False)) (hn : [j0, j1, j2].Nodup) (hr : Bel (fun _ => False) r)
    (hk : k ≤ H.length) (hms : ∀ q ∈ ms, q ∉ [j0, j1, j2] ∧ H[q]? = some (some .dfr))
    (hK : R (.ops l) fs ⟨setD ρ dst r, H, ms⟩ Q) : CallR P G k R g args dst l fs ρ H ms Q := by
  have l0 := (List.getElem?_eq_some_iff.1 h0).1
  have l1 := (List.getElem?_eq_some_iff.1 h1).1
  have l2 := (List.getElem?_eq_some_iff.1 h2).1
  have e : outΔ (outσ [j0, j1, j2] H.length) 0 [some x0, some x1, some x2] = [(j0, x0), (j1, x1), (j2, x2)] := by
    simp only [outΔ, Row.ren_same hx0, Row.ren_same hx1, Row.ren_same hx2]
    rfl
  refine callS h [j0, j1, j2] hn ⟨by rw [Row.ren_same hx0]; exact h0, by rw [Row.ren_same hx1]; exact h1, by rw [Row.ren_same hx2]; exact h2, trivial⟩ hargs hb
    ⟨bel_mono_row hx0 fun _ h => h.elim, bel_mono_row hx1 fun _ h => h.elim, bel_mono_row hx2 fun _ h => h.elim, trivial⟩ (by simp) (hr.mono fun _ h => h.elim)
    ⟨bel_mono_row hx0 fun _ h => h.elim, bel_mono_row hx1 fun _ h => h.elim, bel_mono_row hx2 fun _ h => h.elim, trivial⟩ (by simp; omega) hk (fun q hq => ?_) ?_
  · rw [e]; exact ⟨by simpa using (hms q hq).1, (hms q hq).2⟩
  · rw [e, ren_same hr]
    simp only [Heap.puts, put_id h0, put_id h1, put_id h2]
    exact hK
end
theorem limited_run (brk : Int) (zs : List Zn) (th f left : Int) (ls : List Lg) : Ans Try.prog n_glass_wall_limited [wlV brk zs th, ovV f ls, .int .i64 left] [] (.fn (.func n_glass_wall_limited_1) [] [.ptr 1 0 0 1, .ptr 0 0 0 1, .ptr 2 0 0 1]) (jsR brk zs th f left ls) := by
  refine spec_run e_glass_wall_limited fun G => ?_
  simp only [go_sem, ovV, wlV, jsR]
  exact ⟨_, rfl⟩
theorem isStrainT {n : Int} (h : 0 ≤ n ∧ n ≤ capS) : Ans Try.prog n_glass_isStrain [.int .i64 n] [] (.bool true) [] := by
  refine spec_run e_glass_isStrain fun G => ?_
  simp only [go_sem]
  refine cP (gwithin_yes (n := n) (a := 0) (b := 1099511627776) h) ?_
  simp only [go_sem]
theorem Judge_run {brk : Int} {zs : List Zn} (h : StOK brk zs) {th : Int} (hth : 1 ≤ th ∧ th ≤ 1000) {f left : Int} {ls : List Lg} (ho : OvOK f ls) (hl : 0 ≤ left ∧ left ≤ capS) :
    Ans Try.prog n_glass_Judge [stV brk zs, .int .i64 th, ovV f ls, .int .i64 left] [] (.tup [.int .i64 (judR brk zs th f left ls).1, .int .i64 (judR brk zs th f left ls).2, .int .i64 0]) [] := by
  have k1 := checkHeated_yes h hth ho
  have k2 := limited_run brk zs th f left ls
  have k3 := judgeS_run (brk := brk) h.zs hth (left := left) ho
  have k4 := isStrainT hl
  generalize judR brk zs th f left ls = RES at *
  refine spec_run e_glass_Judge fun G => ?_
  simp only [jsR, wlV, ovV] at k1 k2 k3
  simp only [go_sem, stV, ovV]
  refine cP k1 ?_
  simp only [go_sem]
  refine cP k4 ?_
  simp only [go_sem]
  have rb : ∀ (S : Nat → Prop) b t, (Row.cells false 3 [AVal.agg [AVal.int IntKind.i64 b, AVal.view (List.map Zn.v zs), AVal.int IntKind.i64 t]]).bel S := fun S b t => by rw [row_bel_cells]; simp only [go_sem]
  have ob : ∀ (S : Nat → Prop) b, (Row.cells false 2 [AVal.agg [AVal.int IntKind.i64 b, AVal.view (List.map Lg.v ls)]]).bel S := fun S b => by rw [row_bel_cells]; simp only [go_sem]
  have ib : ∀ (S : Nat → Prop) b, (Row.cells false 1 [AVal.int IntKind.i64 b]).bel S := fun S b => by rw [row_bel_cells]; simp only [go_sem]
  refine cN3 k2 ?_
  simp only [go_sem, ren, rens]
  refine cSame3 k3 (j0 := 3) (j1 := 4) (j2 := 5) rfl (by simp [go_sem]) rfl rfl rfl (rb _ _ _) (ob _ _) (ib _ _) (by decide) (by simp only [go_sem]) (by simp) (by simp) ?_
  simp only [go_sem]
end Go.Proofs

namespace Go.Proofs
open Go Go.Sx
attribute [local irreducible] Run

theorem ediv_step (a d c : Int) : (a + c + d * 1000000) / 1000000 = (a + c) / 1000000 + d := Int.add_mul_ediv_right _ _ (by decide)
theorem left_mono {x y q q' c : Int} (h0 : 0 ≤ x) (h : x ≤ y) (hq : 0 ≤ q' ∧ q' ≤ q ∧ q ≤ 1000000) : x - (x * q + c) / 1000000 ≤ y - (y * q' + c) / 1000000 := by
  have h1 : y * q' ≤ y * q := Int.mul_le_mul_of_nonneg_left hq.2.1 (by omega)
  have h2 : (y - x) * q ≤ (y - x) * 1000000 := Int.mul_le_mul_of_nonneg_left hq.2.2 (by omega)
  have h3 : y * q = x * q + (y - x) * q := by rw [Int.sub_mul]; omega
  have h4 : (y * q' + c) / 1000000 ≤ (x * q + c + (y - x) * 1000000) / 1000000 := Int.ediv_le_ediv (by decide) (by omega)
  rw [ediv_step] at h4
  omega
theorem leastL_mono2 {x y : Int} {z z' : Zn} (hz : ZnOK z) (hr : 0 ≤ z'.rhi ∧ z'.rhi ≤ z.rhi) (h0 : 0 ≤ x) (h : x ≤ y) : leastL x z ≤ leastL y z' := by
  have := hz.r
  exact left_mono h0 h ⟨hr.1, hr.2, by omega⟩
theorem mostL_mono2 {x y : Int} {z z' : Zn} (hz : ZnOK z) (hr : 0 ≤ z'.rlo ∧ z'.rlo ≤ z.rlo) (h0 : 0 ≤ x) (h : x ≤ y) : mostL x z ≤ mostL y z' := by
  have := hz.r
  have := left_mono (c := 0) h0 h ⟨hr.1, hr.2, by omega⟩
  unfold mostL
  rw [Int.add_zero, Int.add_zero] at this
  exact this
theorem least_most2 {x : Int} {z : Zn} (hz : ZnOK z) (h0 : 0 ≤ x) : leastL x z ≤ mostL x z := by
  have hr := hz.r
  have h1 : x * z.rlo ≤ x * z.rhi := Int.mul_le_mul_of_nonneg_left hr.2.1 h0
  unfold leastL mostL; omega
theorem add_low_high {t : Tk} (ht : TkOK t) {z : Zn} (hz : ZnOK z) {th : Int} (hth : 1 ≤ th ∧ th ≤ 1000) : addL t z th ≤ addH t z th := by
  have hp := pull_in ht hth
  have hg := hz.g
  have := Int.mul_le_mul_of_nonneg_left hg.2.1 hp.1
  unfold addL addH; omega
theorem stAt_none {zs : List Zn} {th : Int} {ts : List Tk} {i : Nat} (h : ts[i]? = none) : stAt zs th ts (i + 1) = stAt zs th ts i := by
  unfold stAt
  rw [List.take_add_one, h]; simp
theorem stAt_zero (zs : List Zn) (th : Int) (ts : List Tk) : stAt zs th ts 0 = (0, 0) := by simp [stAt]
theorem st_le {zs : List Zn} (hz : ZsOK zs) {th : Int} (hth : 1 ≤ th ∧ th ≤ 1000) {ts : List Tk} (h : ∀ t ∈ ts, TkOK t) : ∀ i, (stAt zs th ts i).1 ≤ (stAt zs th ts i).2
  | 0 => by rw [stAt_zero]; exact Int.le_refl _
  | i + 1 => by
    have ih := st_le hz hth h i
    cases ht : ts[i]? with
    | none => rw [stAt_none ht]; exact ih
    | some t =>
      have hto := h t (List.mem_of_getElem? ht)
      have hzo := zAt_ok hz t.t
      have hb := stAt_in hz hth h i
      rw [stAt_succ ht]
      have a1 := add_low_high hto hzo hth
      have a2 := least_most2 hzo hb.1
      have a3 := mostL_mono2 (z' := zAt zs t.t) hzo ⟨by have := hzo.r; omega, Int.le_refl _⟩ hb.1 ih
      unfold stepS; dsimp only; omega
theorem allT_split : ∀ (ls : List Lg) (n b : Int) (i : Nat), i ≤ ls.length → allT n b ls = allT n b (ls.take i) ++ allT (n + i) (begAt b ls i) (ls.drop i)
  | ls, n, b, 0, _ => by simp [allT, begAt]
  | [], n, b, i + 1, h => by simp at h
  | x :: r, n, b, i + 1, h => by
    have := allT_split r (n + 1) x.ht i (by simpa using h)
    rw [List.take_succ_cons, List.drop_succ_cons, allT, allT, this, List.append_assoc]
    congr 3
    · push_cast; omega
    · cases i with
      | zero => rfl
      | succ i => simp [begAt]
theorem leg_after {f : Int} {ls : List Lg} {j k : Nat} {t : Tk} (hj : j < ls.length) (hk : (allT 0 f (ls.take (j + 1))).length ≤ k) (ht : (allT 0 f ls)[k]? = some t) : (j : Int) < t.n := by
  rw [allT_split ls 0 f (j + 1) (by omega), List.getElem?_append_right hk] at ht
  have := (allT_n t (List.mem_of_getElem? ht)).1
  push_cast at this; omega
theorem aftS_at {zs : List Zn} {th f : Int} {ls : List Lg} (hok : ∀ l ∈ ls, LgOK l) {j : Nat} (hj : j < ls.length) : ∀ k, (allT 0 f (ls.take (j + 1))).length + k ≤ (allT 0 f ls).length → (aftS zs th (allT 0 f ls) ls.length ((allT 0 f (ls.take (j + 1))).length + k))[j]? = some (legS zs th f ls j)
  | 0, h => by
    obtain ⟨z, hz⟩ : ∃ z, ls[j]? = some z := ⟨_, List.getElem?_eq_getElem hj⟩
    have hzt := (hok z (List.mem_of_getElem? hz)).tk
    have hl := allT_len (n := 0) (b := f) hz
    have hg := allT_get (n := 0) (b := f) (t := z.tk.toNat - 1) hz (by omega)
    have e : (allT 0 f (ls.take (j + 1))).length + 0 = (allT 0 f (ls.take j)).length + (z.tk.toNat - 1) + 1 := by omega
    have e2 : legS zs th f ls j = stAt zs th (allT 0 f ls) ((allT 0 f (ls.take j)).length + (z.tk.toNat - 1) + 1) := by unfold legS; congr 1
    rw [e, aftS_succ hg, e2]
    dsimp only
    rw [show ((0 : Int) + (j : Int)).toNat = j by omega]
    exact List.getElem?_set_self (by rw [aftS_len]; exact hj)
  | k + 1, h => by
    have ih := aftS_at (zs := zs) (th := th) (f := f) hok hj k (by omega)
    obtain ⟨t, ht⟩ : ∃ t, (allT 0 f ls)[(allT 0 f (ls.take (j + 1))).length + k]? = some t := ⟨_, List.getElem?_eq_getElem (by omega)⟩
    have hn := leg_after hj (by omega) ht
    rw [← Nat.add_assoc, aftS_succ ht, List.getElem?_set_ne (by omega)]
    exact ih
theorem aftS_eq {zs : List Zn} {th f : Int} {ls : List Lg} (hok : ∀ l ∈ ls, LgOK l) : aftS zs th (allT 0 f ls) ls.length (allT 0 f ls).length = legSs zs th f ls ls.length := by
  refine List.ext_getElem? fun j => ?_
  by_cases hj : j < ls.length
  · have hle := allT_take_le 0 f ls (j + 1)
    have := aftS_at (zs := zs) (th := th) (f := f) hok hj ((allT 0 f ls).length - (allT 0 f (ls.take (j + 1))).length) (by omega)
    rw [show (allT 0 f (ls.take (j + 1))).length + ((allT 0 f ls).length - (allT 0 f (ls.take (j + 1))).length) = (allT 0 f ls).length by omega] at this
    rw [this, legSs_get hj]
  · rw [List.getElem?_eq_none (by rw [aftS_len]; omega), List.getElem?_eq_none (by rw [legSs_len]; omega)]

end Go.Proofs

namespace Go.Proofs
open Go Go.Sx
attribute [local irreducible] Run

theorem vr_nilo {G : Ctx} {μ : Mu} {a : AVal} {x : Value} (h : VR G μ (.agg [a, .nilsl]) x) : VR G μ (.agg [a, .view []]) x := by
  cases h with
  | agg _ vs hl hv =>
    refine .agg _ vs (by simpa using hl) fun i hi => ?_
    match i, hi with
    | 0, _ => exact hv 0 (by simp)
    | 1, _ =>
      have h3 := hv 1 (by simp)
      simp only [List.getD_cons_zero, List.getD_cons_succ] at h3 ⊢
      generalize vs.getD 1 undef = y at *
      cases h3
      exact .viewnil none 0
def lso : List AVal → List AVal → Prop
  | [], [] => True
  | v :: vs, u :: us => (v = u ∨ (∃ a, v = .agg [a, .nilsl] ∧ u = .agg [a, .view []])) ∧ lso vs us
  | _, _ => False
theorem lso_len : ∀ {l l' : List AVal}, lso l l' → l.length = l'.length
  | [], [], _ => rfl
  | v :: l, u :: l', h => by simp [lso_len h.2]
  | [], _ :: _, h => h.elim
  | _ :: _, [], h => h.elim
theorem lso_vr {G : Ctx} {μ : Mu} : ∀ {l l' : List AVal}, lso l l' → ∀ i c, i < l.length → VR G μ (l.getD i .any) c → VR G μ (l'.getD i .any) c
  | [], [], _, i, c, hi, _ => by simp at hi
  | v :: l, u :: l', h, i, c, hi, hv => by
    cases i with
    | zero =>
      simp only [List.getD_cons_zero] at hv ⊢
      rcases h.1 with rfl | ⟨a, rfl, rfl⟩
      · exact hv
      · exact vr_nilo hv
    | succ i =>
      simp only [List.getD_cons_succ] at hv ⊢
      exact lso_vr h.2 i c (by simpa using hi) hv
  | [], _ :: _, h, _, _, _, _ => h.elim
  | _ :: _, [], h, _, _, _, _ => h.elim
theorem Ans.lso {P : Program} {g : FuncId} {args args' : List AVal} {LH LH' : Heap} {r : AVal} (h : Ans P g args LH r LH') (hw : Go.Proofs.lso args' args) : Ans P g args' LH r LH' := h.weak (lso_len hw) fun _ _ i c hi hv => lso_vr hw i c hi hv
theorem in_ok3 (w a b : Int) (h : 0 ≤ a ∧ a ≤ b ∧ b ≤ 2000000000000) : Ans Try.prog n_kit_Dice_In [.ptr 0 0 0 1, r2 a b] [some (Dr w)] (.int .i64 (btw w a b)) [some (Dr (dstep w))] := by
  have e : (if b > a then b else a) = b := by split <;> omega
  refine spec_run e_kit_Dice_In fun G => ?_
  simp only [go_sem, r2, e]
  refine cD (between_ok _ a b (by omega) h.2.1 (by omega)) ?_
  simp only [go_sem]
  exact ⟨_, rfl⟩
theorem ov_frz {H : Heap} {f : Int} {ls : List Lg} {j n : Nat} {g : Bool} (h : H[j]? = some (some (.cells g 2 (ls.map Lg.v)))) (hn : n = ls.length) : frz 6 H (.agg [.int .i64 f, .sl j 0 n]) = ovV f ls := by
  have h1 : frz 5 H (.sl j 0 n) = .view (ls.map Lg.v) := by
    rw [frz_sl (d := 4) h (by simpa using hn), List.map_map]; rfl
  show AVal.agg [_, frz 5 H (.sl j 0 n)] = _
  rw [h1]; rfl
theorem pick5 (i a b c d e : Int) (hi : 0 ≤ i ∧ i < 5) : ∃ v, (v = a ∨ v = b ∨ v = c ∨ v = d ∨ v = e) ∧ [AVal.int .i64 a, .int .i64 b, .int .i64 c, .int .i64 d, .int .i64 e][i.toNat]? = some (.int .i64 v) := by
  obtain rfl | rfl | rfl | rfl | rfl : i = 0 ∨ i = 1 ∨ i = 2 ∨ i = 3 ∨ i = 4 := by omega
  · exact ⟨a, .inl rfl, rfl⟩
  · exact ⟨b, .inr (.inl rfl), rfl⟩
  · exact ⟨c, .inr (.inr (.inl rfl)), rfl⟩
  · exact ⟨d, .inr (.inr (.inr (.inl rfl))), rfl⟩
  · exact ⟨e, .inr (.inr (.inr (.inr rfl))), rfl⟩
theorem legS_in {zs : List Zn} (hz : ZsOK zs) {th : Int} (hth : 1 ≤ th ∧ th ≤ 1000) {f : Int} {ls : List Lg} (ho : OvOK f ls) (i : Nat) : 0 ≤ (legS zs th f ls i).1 ∧ (legS zs th f ls i).1 ≤ (legS zs th f ls i).2 ∧ (legS zs th f ls i).2 ≤ capS := by
  have htk := allT_ok (n := 0) ho.f ho.all
  have h1 := stAt_in hz hth htk (allT 0 f (ls.take (i + 1))).length
  have h2 := st_le hz hth htk (allT 0 f (ls.take (i + 1))).length
  unfold legS; omega
set_option maxHeartbeats 4000000 in
set_option maxRecDepth 10000 in
theorem leftOf_run (w : Int) {brk : Int} {zs : List Zn} (h : StOK brk zs) {th : Int} (hth : 1 ≤ th ∧ th ≤ 1000) {f : Int} {ls : List Lg} (ho : OvOK f ls) (hne : ls ≠ []) :
    AnsE Try.prog n_kit_LeftOf [.ptr 0 0 0 1, .agg [.int .i64 brk, .sl 1 0 zs.length], .int .i64 th, .agg [.int .i64 f, .sl 2 0 ls.length]] [some (Dr w), some (.cells true 5 (zs.map Zn.v)), some (.cells true 2 (ls.map Lg.v))]
      (fun a : Int × Int => 0 ≤ a.1 ∧ a.1 ≤ capS) (fun a => .int .i64 a.1) (fun a => [some (Dr a.2), some (.cells true 5 (zs.map Zn.v)), some (.cells true 2 (ls.map Lg.v))]) := by
  have zb : ∀ S : Nat → Prop, (Row.cells true 5 (zs.map Zn.v)).bel S := fun S => by rw [row_bel_cells]; simp only [go_sem]
  have lb : ∀ S : Nat → Prop, (Row.cells true 2 (ls.map Lg.v)).bel S := fun S => by rw [row_bel_cells]; simp only [go_sem]
  refine AnsE.keep (run_fn e_kit_LeftOf fun G => ?_) (fun a ha => ⟨by simp, by simp [go_sem], dr_bel _ _, zb _, lb _, trivial⟩)
  have k1 := rStrain_run h hth ho hne
  have hn : 0 < ls.length := List.length_pos_iff.2 hne
  have hlen := ho.len
  have hli := legS_in h.zs hth ho (ls.length - 1)
  have sl := legSs_len zs th f ls ls.length
  have s1 : ((legSs zs th f ls ls.length).map rv)[ls.length - 1]? = some (AVal.agg [.int .i64 (legS zs th f ls (ls.length - 1)).1, .int .i64 (legS zs th f ls (ls.length - 1)).2]) := by rw [List.getElem?_map, legSs_get (by omega)]; rfl
  obtain ⟨p, hp⟩ : ∃ p, legS zs th f ls (ls.length - 1) = p := ⟨_, rfl⟩
  rw [hp] at hli s1
  have c0 : ((ls.length : Int) == 0) = false := beq_eq_false_iff_ne.2 (by omega)
  have c1 : IntKind.i64.wrap ((ls.length : Int) - 1) = ((ls.length - 1 : Nat) : Int) := by rw [w64 (by omega)]; omega
  have c2 : ((ls.length - 1 : Nat) : Int) < ls.length := by omega
  have c3 : ls.length - 1 < ls.length := by omega
  simp only [go_sem]
  refine cFN k1 6 ⟨.inl (st_frz (g := true) rfl rfl), .inl rfl, .inl (ov_frz (g := true) rfl rfl), trivial⟩ ?_ (hx := by rw [row_bel_cells]; simp only [rvs_bel]) (hxn := row_nv_cells _ _ (nvs_map _ _ fun z => by simp only [go_sem, rv, r2]))
  simp only [go_sem, ren, rens, c0, c1, c2, c3, s1, sl, List.length_map]
  unfold capS at hli
  have kd := in_ok3 w p.1 p.2 (by omega)
  have bd := btw_in (w := w) (lo := p.1) (hi := p.2) hli.2.1
  simp only [r2] at kd
  refine dD kd ?_
  obtain ⟨b, hb⟩ : ∃ b, btw w p.1 p.2 = b := ⟨_, rfl⟩
  rw [hb] at bd ⊢
  have w2 : IntKind.i64.wrap (p.1 - 1) = p.1 - 1 := w64 (by omega)
  obtain ⟨c, hc⟩ : ∃ c, (if 0 < p.1 - 1 then p.1 - 1 else 0) = c := ⟨_, rfl⟩
  have hcb : 0 ≤ c ∧ c ≤ p.1 := by rw [← hc]; split <;> omega
  simp only [go_sem, w2, hc]
  have u5 := upto_in (w := dstep w) (n := 5) (by decide)
  refine dD (upto_ok (dstep w) 5 (by decide)) ?_
  obtain ⟨v, hv, sv⟩ := pick5 _ p.1 p.2 b c 1099511627776 u5
  have n5 : ¬ upto (dstep w) 5 < 0 := by omega
  simp only [go_sem, n5, sv]
  refine ⟨u5.2, ?_⟩
  refine ⟨(v, dstep (dstep w)), by unfold capS; dsimp only; omega, ?_⟩
  exact kept_id rfl (by simp only [go_sem]) fun i x hx => by
    rcases i with _ | _ | _ | i
    · cases hx; exact ⟨dr_bel _ _, rfl⟩
    · cases hx; exact ⟨zb _, rfl⟩
    · cases hx; exact ⟨lb _, rfl⟩
    · simp at hx
set_option maxHeartbeats 4000000 in
set_option maxRecDepth 10000 in
theorem leftOf_nil (w : Int) {brk : Int} {zs : List Zn} (h : StOK brk zs) {th : Int} (hth : 1 ≤ th ∧ th ≤ 1000) {f : Int} (hf : 0 ≤ f ∧ f ≤ 2000) :
    AnsE Try.prog n_kit_LeftOf [.ptr 0 0 0 1, .agg [.int .i64 brk, .sl 1 0 zs.length], .int .i64 th, .agg [.int .i64 f, .nilsl]] [some (Dr w), some (.cells true 5 (zs.map Zn.v))]
      (fun a : Int × Int => 0 ≤ a.1 ∧ a.1 ≤ capS) (fun a => .int .i64 a.1) (fun a => [some (Dr a.2), some (.cells true 5 (zs.map Zn.v))]) := by
  have zb : ∀ S : Nat → Prop, (Row.cells true 5 (zs.map Zn.v)).bel S := fun S => by rw [row_bel_cells]; simp only [go_sem]
  refine AnsE.keep (run_fn e_kit_LeftOf fun G => ?_) (fun a ha => ⟨by simp, by simp [go_sem], dr_bel _ _, zb _, trivial⟩)
  have k1 := Ans.lso (rStrain_nil h hth hf) (args' := [stV brk zs, .int .i64 th, .agg [.int .i64 f, .nilsl]]) ⟨.inl rfl, .inl rfl, .inr ⟨_, rfl, rfl⟩, trivial⟩
  have u9 := upto_in (w := w) (n := 9) (by decide)
  simp only [go_sem]
  refine cF k1 6 ⟨.inl (st_frz (g := true) rfl rfl), .inl rfl, .inl rfl, trivial⟩ ?_
  simp only [go_sem]
  refine cD (upto_ok w 9 (by decide)) ?_
  simp only [go_sem]
  refine ⟨(upto w 9, dstep w), by unfold capS; dsimp only; omega, ?_⟩
  exact kept_id rfl (by simp only [go_sem]) fun i x hx => by
    rcases i with _ | _ | i
    · cases hx; exact ⟨dr_bel _ _, rfl⟩
    · cases hx; exact ⟨zb _, rfl⟩
    · simp at hx
end Go.Proofs

namespace Go.Proofs
open Go Go.Sx
attribute [local irreducible] Run

theorem slr_none {P : List AVal} (h : P = []) (gr : Bool) (sz j : Nat) : slv j P = .nilsl ∧ slrG gr sz P = [] := by subst h; exact ⟨rfl, rfl⟩
theorem slr_some {P : List AVal} (h : P ≠ []) (gr : Bool) (sz j : Nat) : slv j P = .sl j 0 P.length ∧ slrG gr sz P = [some (.cells gr sz P)] := by
  unfold slv slrG; rw [if_neg h, if_neg h]; exact ⟨rfl, rfl⟩
theorem lgL_nil {ls : List Lg} (h : ls = []) : lgL ls = [] := by subst h; rfl
theorem lgL_ne {ls : List Lg} (h : ls ≠ []) : lgL ls ≠ [] := fun e => h (by unfold lgL at e; exact List.map_eq_nil_iff.1 e)
section
variable {P : Program} {G : Ctx} {g : FuncId} {largs args : List AVal} {H : Heap} {α : Type} {Φ : α → Prop} {r : α → AVal} {k : Nat} {R : Runner} {l : List AOper} {fs : List Sx.Frame} {ρ : List AVal} {ms : List Nat} {Q : Sx.Goal} {dst : Option Nat}
theorem callE3 {x0 x1 x2 : Row} {x' : α → Row} {j0 j1 j2 : Nat} (h : AnsE P g largs [some x0, some x1, some x2] Φ r fun a => [some (x' a), some x1, some x2]) (hargs : args = largs.map (ren (nth [j0, j1, j2]))) (hb : Bels (· < 3) largs)
    (h0 : H[j0]? = some (some x0)) (h1 : H[j1]? = some (some x1)) (h2 : H[j2]? = some (some x2)) (hx0 : x0.bel (fun _ => False)) (hx1 : x1.bel (fun _ => False)) (hx2 : x2.bel (fun _ => False)) (hn : [j0, j1, j2].Nodup)
    (hwf : ∀ a, Φ a → Bel (fun _ => False) (r a) ∧ (x' a).bel (fun _ => False)) (hk : k ≤ H.length) (hms : ∀ q ∈ ms, q ∉ [j0, j1, j2] ∧ H[q]? = some (some .dfr))
    (hK : ∀ a, Φ a → R (.ops l) fs ⟨setD ρ dst (r a), H.set j0 (some (x' a)), ms⟩ Q) : CallR P G k R g args dst l fs ρ H ms Q := by
  have l0 := (List.getElem?_eq_some_iff.1 h0).1
  have l1 := (List.getElem?_eq_some_iff.1 h1).1
  have l2 := (List.getElem?_eq_some_iff.1 h2).1
  have n1 : j0 ≠ j1 ∧ j0 ≠ j2 := by simp at hn; omega
  have e : ∀ a, Φ a → outΔ (outσ [j0, j1, j2] H.length) 0 [some (x' a), some x1, some x2] = [(j0, x' a), (j1, x1), (j2, x2)] := fun a ha => by
    simp only [outΔ, Row.ren_same (hwf a ha).2, Row.ren_same hx1, Row.ren_same hx2]
    rfl
  refine callE h [j0, j1, j2] hn ⟨by rw [Row.ren_same hx0]; exact h0, by rw [Row.ren_same hx1]; exact h1, by rw [Row.ren_same hx2]; exact h2, trivial⟩ hargs hb
    ⟨bel_mono_row hx0 fun _ h => h.elim, bel_mono_row hx1 fun _ h => h.elim, bel_mono_row hx2 fun _ h => h.elim, trivial⟩
    (fun a ha => ⟨by simp, (hwf a ha).1.mono fun _ h => h.elim, bel_mono_row (hwf a ha).2 fun _ h => h.elim, bel_mono_row hx1 fun _ h => h.elim, bel_mono_row hx2 fun _ h => h.elim, trivial⟩) (by simp; omega) hk (fun a ha q hq => ?_) fun a ha => ?_
  · rw [e a ha]; exact ⟨by simpa using (hms q hq).1, (hms q hq).2⟩
  · rw [e a ha, ren_same (hwf a ha).1]
    have q1 : (H.set j0 (some (x' a)))[j1]? = some (some x1) := by rw [List.getElem?_set_ne n1.1]; exact h1
    have q2 : (H.set j0 (some (x' a)))[j2]? = some (some x2) := by rw [List.getElem?_set_ne n1.2]; exact h2
    simp only [Heap.puts, put_lt l0, put_id q1, put_id q2]
    exact hK a ha
theorem callE2 {x0 x1 : Row} {x' : α → Row} {j0 j1 : Nat} (h : AnsE P g largs [some x0, some x1] Φ r fun a => [some (x' a), some x1]) (hargs : args = largs.map (ren (nth [j0, j1]))) (hb : Bels (· < 2) largs)
    (h0 : H[j0]? = some (some x0)) (h1 : H[j1]? = some (some x1)) (hx0 : x0.bel (fun _ => False)) (hx1 : x1.bel (fun _ => False)) (hn : [j0, j1].Nodup)
    (hwf : ∀ a, Φ a → Bel (fun _ => False) (r a) ∧ (x' a).bel (fun _ => False)) (hk : k ≤ H.length) (hms : ∀ q ∈ ms, q ∉ [j0, j1] ∧ H[q]? = some (some .dfr))
    (hK : ∀ a, Φ a → R (.ops l) fs ⟨setD ρ dst (r a), H.set j0 (some (x' a)), ms⟩ Q) : CallR P G k R g args dst l fs ρ H ms Q := by
  have l0 := (List.getElem?_eq_some_iff.1 h0).1
  have l1 := (List.getElem?_eq_some_iff.1 h1).1
  have n1 : j0 ≠ j1 := by simpa using hn
  have e : ∀ a, Φ a → outΔ (outσ [j0, j1] H.length) 0 [some (x' a), some x1] = [(j0, x' a), (j1, x1)] := fun a ha => by
    simp only [outΔ, Row.ren_same (hwf a ha).2, Row.ren_same hx1]
    rfl
  refine callE h [j0, j1] hn ⟨by rw [Row.ren_same hx0]; exact h0, by rw [Row.ren_same hx1]; exact h1, trivial⟩ hargs hb
    ⟨bel_mono_row hx0 fun _ h => h.elim, bel_mono_row hx1 fun _ h => h.elim, trivial⟩
    (fun a ha => ⟨by simp, (hwf a ha).1.mono fun _ h => h.elim, bel_mono_row (hwf a ha).2 fun _ h => h.elim, bel_mono_row hx1 fun _ h => h.elim, trivial⟩) (by simp; omega) hk (fun a ha q hq => ?_) fun a ha => ?_
  · rw [e a ha]; exact ⟨by simpa using (hms q hq).1, (hms q hq).2⟩
  · rw [e a ha, ren_same (hwf a ha).1]
    have q1 : (H.set j0 (some (x' a)))[j1]? = some (some x1) := by rw [List.getElem?_set_ne n1]; exact h1
    simp only [Heap.puts, put_lt l0, put_id q1]
    exact hK a ha
end
end Go.Proofs

