/- A part of the proof. -/
import Derived.Test.YtfkphdalofcfpaaDoorPA
set_option linter.unusedSimpArgs false
set_option linter.unusedVariables false
namespace Go.Proofs
open Go Go.Sx

def k_law01_FieldKnown_r0 : List AOper := [
  ⟨some 0, .move (.const (.bool false)), none, []⟩]
def k_law01_FieldKnown_r1 : List AOper := [
  ⟨some 14, .call (.const (.fn (.func 16) [] [])) [], none, []⟩,
 ⟨some 15, .call (.const (.fn (.func 16) [] [])) [], none, []⟩,
 ⟨some 16, .call (.const (.fn (.func 16) [] [])) [], none, []⟩,
 ⟨some 1, .box (.const (.agg [.int .i64 0, .int .i64 0, .bool false, .nilsl])), none, []⟩,
 ⟨some 2, .box (.const (.agg [.int .i64 0, .int .i64 0, .bool false, .nilsl])), none, []⟩,
 ⟨some 3, .box (.const (.agg [.int .i64 0, .int .i64 0, .bool false, .nilsl])), none, []⟩,
 ⟨none, .store 4 (.tmp 1) (.tmp 14), none, []⟩,
 ⟨none, .store 4 (.tmp 2) (.tmp 15), none, []⟩,
 ⟨none, .store 4 (.tmp 3) (.tmp 16), none, []⟩]
def k_law01_FieldKnown_r2 : List AOper := [
  ⟨some 17, .fieldAddr 3 (.tmp 2), none, []⟩,
 ⟨some 18, .load none (.tmp 17), none, []⟩,
 ⟨some 19, .fieldAddr 3 (.tmp 1), none, [0, 1]⟩,
 ⟨some 20, .load none (.tmp 19), none, [0, 1]⟩,
 ⟨some 21, .slice false 1 (.tmp 20) none (some (.const (.int .i64 4))), none, [0, 1]⟩,
 ⟨some 22, .fieldAddr 3 (.tmp 1), none, [0, 1]⟩,
 ⟨none, .store 1 (.tmp 22) (.tmp 21), none, [0, 1]⟩,
 ⟨some 23, .indexAddr 1 (.tmp 18) (.const (.int .i64 2)), none, []⟩,
 ⟨none, .store 1 (.tmp 23) (.const (.int .i64 7)), none, []⟩]
def k_law01_FieldKnown_r2s : List (List AOper) := [
  [
  ⟨some 17, .fieldAddr 3 (.tmp 2), none, []⟩,
 ⟨some 18, .load none (.tmp 17), none, []⟩,
 ⟨some 19, .fieldAddr 3 (.tmp 1), none, [0, 1]⟩,
 ⟨some 20, .load none (.tmp 19), none, [0, 1]⟩,
 ⟨some 21, .slice false 1 (.tmp 20) none (some (.const (.int .i64 4))), none, [0, 1]⟩,
 ⟨some 22, .fieldAddr 3 (.tmp 1), none, [0, 1]⟩,
 ⟨none, .store 1 (.tmp 22) (.tmp 21), none, [0, 1]⟩], 
  [
  ⟨some 23, .indexAddr 1 (.tmp 18) (.const (.int .i64 2)), none, []⟩], 
  [
  ⟨none, .store 1 (.tmp 23) (.const (.int .i64 7)), none, []⟩]]
theorem k_law01_FieldKnown_r2_sg : segs k_law01_FieldKnown_r2 = k_law01_FieldKnown_r2s := by kernel_rfl
theorem k_law01_FieldKnown_r2_st : statOK k_law01_FieldKnown_r2 = true := by kernel_rfl
def k_law01_FieldKnown_r3 : List AOper := [
  ⟨some 24, .buildSlice 1 [.const (.int .i64 0), .const (.int .i64 0), .const (.int .i64 0), .const (.int .i64 0), .const (.int .i64 0)], none, []⟩,
 ⟨some 25, .fieldAddr 3 (.tmp 3), none, []⟩,
 ⟨none, .store 1 (.tmp 25) (.tmp 24), none, []⟩]
def k_law01_FieldKnown_r4 : List AOper := [
  ⟨some 26, .buildSlice 1 [.const (.int .i64 1), .const (.int .i64 0), .const (.int .i64 0), .const (.int .i64 0)], none, []⟩,
 ⟨some 27, .build [.int .i64 0, .int .i64 0, .bool false, .nilsl] [(0, 1, .const (.int .i64 2)), (1, 1, .const (.int .i64 2)), (3, 1, .tmp 26)], none, []⟩,
 ⟨some 4, .box (.const (.agg [.int .i64 0, .int .i64 0, .bool false, .nilsl])), none, []⟩,
 ⟨none, .store 4 (.tmp 4) (.tmp 27), none, []⟩]
def k_law01_FieldKnown_r5 : List AOper := [
  ⟨some 28, .call (.const (.fn (.func 7) [] [])) [], none, []⟩,
 ⟨some 29, .not (.tmp 28), none, []⟩,
 ⟨some 30, .move (.tmp 29), none, []⟩,
 ⟨some 31, .call (.const (.fn (.func 16) [] [])) [], (some (30, false)), []⟩,
 ⟨some 32, .call (.const (.fn (.func 17) [] [])) [.tmp 31], (some (30, false)), []⟩,
 ⟨some 33, .bin .plain .neq (.tmp 32) (.const (.int .i64 0)), (some (30, false)), []⟩,
 ⟨some 34, .pick (.tmp 30) (.const (.bool true)) (.tmp 33), none, []⟩,
 ⟨some 35, .move (.tmp 34), none, []⟩,
 ⟨some 36, .load (some (4)) (.tmp 1), (some (35, false)), []⟩,
 ⟨some 37, .call (.const (.fn (.func 17) [] [])) [.tmp 36], (some (35, false)), []⟩,
 ⟨some 38, .bin .plain .neq (.tmp 37) (.const (.int .i64 3)), (some (35, false)), []⟩,
 ⟨some 39, .pick (.tmp 35) (.const (.bool true)) (.tmp 38), none, []⟩,
 ⟨some 40, .move (.tmp 39), none, []⟩,
 ⟨some 41, .load (some (4)) (.tmp 2), (some (40, false)), []⟩,
 ⟨some 42, .call (.const (.fn (.func 17) [] [])) [.tmp 41], (some (40, false)), []⟩,
 ⟨some 43, .bin .plain .neq (.tmp 42) (.const (.int .i64 2)), (some (40, false)), []⟩,
 ⟨some 44, .pick (.tmp 40) (.const (.bool true)) (.tmp 43), none, []⟩,
 ⟨some 45, .move (.tmp 44), none, []⟩,
 ⟨some 46, .load (some (4)) (.tmp 3), (some (45, false)), []⟩,
 ⟨some 47, .call (.const (.fn (.func 17) [] [])) [.tmp 46], (some (45, false)), []⟩,
 ⟨some 48, .bin .plain .neq (.tmp 47) (.const (.int .i64 7)), (some (45, false)), []⟩,
 ⟨some 49, .pick (.tmp 45) (.const (.bool true)) (.tmp 48), none, []⟩,
 ⟨some 50, .move (.tmp 49), none, []⟩,
 ⟨some 51, .build [.int .i64 0, .int .i64 0, .bool false, .nilsl] [], (some (50, false)), []⟩,
 ⟨some 52, .call (.const (.fn (.func 17) [] [])) [.tmp 51], (some (50, false)), []⟩,
 ⟨some 53, .bin .plain .neq (.tmp 52) (.const (.int .i64 2)), (some (50, false)), []⟩,
 ⟨some 54, .pick (.tmp 50) (.const (.bool true)) (.tmp 53), none, []⟩,
 ⟨some 55, .move (.tmp 54), none, []⟩,
 ⟨some 56, .load (some (4)) (.tmp 4), (some (55, false)), []⟩,
 ⟨some 57, .call (.const (.fn (.func 17) [] [])) [.tmp 56], (some (55, false)), []⟩,
 ⟨some 58, .bin .plain .neq (.tmp 57) (.const (.int .i64 0)), (some (55, false)), []⟩,
 ⟨some 59, .pick (.tmp 55) (.const (.bool true)) (.tmp 58), none, []⟩,
 ⟨some 60, .move (.tmp 59), none, []⟩,
 ⟨some 61, .buildSlice 1 [.const (.int .i64 1), .const (.int .i64 2)], (some (60, false)), []⟩,
 ⟨some 62, .build [.int .i64 0, .int .i64 0, .bool false, .nilsl] [(0, 1, .const (.int .i64 2)), (1, 1, .const (.int .i64 1)), (3, 1, .tmp 61)], (some (60, false)), []⟩,
 ⟨some 63, .call (.const (.fn (.func 17) [] [])) [.tmp 62], (some (60, false)), []⟩,
 ⟨some 64, .bin .plain .neq (.tmp 63) (.const (.int .i64 0)), (some (60, false)), []⟩,
 ⟨some 65, .pick (.tmp 60) (.const (.bool true)) (.tmp 64), none, []⟩]
def k_law01_FieldKnown_r6 : List AOper := [
  ⟨some 0, .move (.const (.bool false)), none, []⟩]
def k_law01_FieldKnown_r7 : List AOper := [
  ⟨some 66, .call (.const (.fn (.func 16) [] [])) [], none, []⟩,
 ⟨some 67, .buildSlice 1 [.const (.int .i64 0), .const (.int .i64 100)], none, []⟩,
 ⟨some 68, .call (.const (.fn (.func 18) [] [])) [.tmp 66, .tmp 67], none, []⟩,
 ⟨some 69, .bin .plain .eql (.tmp 68) (.const (.int .i64 0)), none, []⟩,
 ⟨some 70, .move (.tmp 69), none, []⟩,
 ⟨some 71, .call (.const (.fn (.func 16) [] [])) [], (some (70, true)), []⟩,
 ⟨some 72, .buildSlice 1 [.const (.int .i64 0)], (some (70, true)), []⟩,
 ⟨some 73, .call (.const (.fn (.func 18) [] [])) [.tmp 71, .tmp 72], (some (70, true)), []⟩,
 ⟨some 74, .bin .plain .eql (.tmp 73) (.const (.int .i64 3)), (some (70, true)), []⟩,
 ⟨some 75, .pick (.tmp 70) (.tmp 74) (.const (.bool false)), none, []⟩,
 ⟨some 76, .move (.tmp 75), none, []⟩,
 ⟨some 77, .call (.const (.fn (.func 16) [] [])) [], (some (76, true)), []⟩,
 ⟨some 78, .buildSlice 1 [.const (.int .i64 0), .const (.int .i64 1000001)], (some (76, true)), []⟩,
 ⟨some 79, .call (.const (.fn (.func 18) [] [])) [.tmp 77, .tmp 78], (some (76, true)), []⟩,
 ⟨some 80, .bin .plain .eql (.tmp 79) (.const (.int .i64 2)), (some (76, true)), []⟩,
 ⟨some 81, .pick (.tmp 76) (.tmp 80) (.const (.bool false)), none, []⟩,
 ⟨some 5, .move (.tmp 81), none, []⟩]
def k_law01_FieldKnown_r8 : List AOper := [
  ⟨some 82, .call (.const (.fn (.func 16) [] [])) [], none, []⟩,
 ⟨some 83, .call (.const (.fn (.func 19) [] [])) [.tmp 82, .const (.int .i64 0), .const (.int .i64 1)], none, []⟩,
 ⟨some 84, .bin .plain .eql (.tmp 83) (.const (.int .i64 1)), none, []⟩,
 ⟨some 85, .move (.tmp 84), none, []⟩,
 ⟨some 86, .call (.const (.fn (.func 16) [] [])) [], (some (85, true)), []⟩,
 ⟨some 87, .call (.const (.fn (.func 19) [] [])) [.tmp 86, .const (.int .i64 0), .const (.int .i64 2)], (some (85, true)), []⟩,
 ⟨some 88, .bin .plain .eql (.tmp 87) (.const (.int .i64 0)), (some (85, true)), []⟩,
 ⟨some 89, .pick (.tmp 85) (.tmp 88) (.const (.bool false)), none, []⟩,
 ⟨some 90, .move (.tmp 89), none, []⟩,
 ⟨some 91, .call (.const (.fn (.func 20) [] [])) [], (some (90, true)), []⟩,
 ⟨some 92, .call (.const (.fn (.func 19) [] [])) [.tmp 91, .const (.int .i64 0), .const (.int .i64 1)], (some (90, true)), []⟩,
 ⟨some 93, .bin .plain .eql (.tmp 92) (.const (.int .i64 2)), (some (90, true)), []⟩,
 ⟨some 94, .pick (.tmp 90) (.tmp 93) (.const (.bool false)), none, []⟩,
 ⟨some 95, .move (.tmp 94), none, []⟩,
 ⟨some 96, .call (.const (.fn (.func 21) [] [])) [], (some (95, true)), []⟩,
 ⟨some 97, .call (.const (.fn (.func 19) [] [])) [.tmp 96, .const (.int .i64 0), .const (.int .i64 5)], (some (95, true)), []⟩,
 ⟨some 98, .bin .plain .eql (.tmp 97) (.const (.int .i64 1)), (some (95, true)), []⟩,
 ⟨some 99, .pick (.tmp 95) (.tmp 98) (.const (.bool false)), none, []⟩,
 ⟨some 6, .move (.tmp 99), none, []⟩]
def k_law01_FieldKnown_r9 : List AOper := [
  ⟨some 101, .call (.const (.fn (.func 16) [] [])) [], none, []⟩,
 ⟨some 102, .buildSlice 1 [.const (.int .i64 0), .const (.int .i64 100)], none, []⟩,
 ⟨some 103, .call (.const (.fn (.func 22) [] [])) [.tmp 101, .tmp 102, .const (.int .i64 0)], none, []⟩,
 ⟨some 100, .move (.tmp 103), none, []⟩,
 ⟨some 104, .extract (.tmp 100) 0, none, []⟩,
 ⟨some 105, .extract (.tmp 100) 1, none, []⟩,
 ⟨some 7, .box (.const (.agg [.nilsl, .nilsl, .int .i64 0, .bool false])), none, []⟩,
 ⟨none, .store 4 (.tmp 7) (.tmp 104), none, []⟩,
 ⟨some 8, .move (.tmp 105), none, []⟩]
def k_law01_FieldKnown_r10 : List AOper := [
  ⟨some 107, .call (.const (.fn (.func 16) [] [])) [], none, []⟩,
 ⟨some 108, .buildSlice 1 [.const (.int .i64 7), .const (.int .i64 7)], none, []⟩,
 ⟨some 109, .call (.const (.fn (.func 22) [] [])) [.tmp 107, .tmp 108, .const (.int .i64 5)], none, []⟩,
 ⟨some 106, .move (.tmp 109), none, []⟩,
 ⟨some 110, .extract (.tmp 106) 0, none, []⟩,
 ⟨some 111, .extract (.tmp 106) 1, none, []⟩,
 ⟨some 9, .box (.const (.agg [.nilsl, .nilsl, .int .i64 0, .bool false])), none, []⟩,
 ⟨none, .store 4 (.tmp 9) (.tmp 110), none, []⟩,
 ⟨some 10, .move (.tmp 111), none, []⟩]
def k_law01_FieldKnown_r11 : List AOper := [
  ⟨some 112, .move (.tmp 8), none, []⟩,
 ⟨some 113, .bin .plain .eql (.tmp 112) (.const (.int .i64 0)), none, []⟩,
 ⟨some 114, .move (.tmp 113), none, []⟩,
 ⟨some 115, .move (.tmp 10), (some (114, true)), []⟩,
 ⟨some 116, .bin .plain .eql (.tmp 115) (.const (.int .i64 0)), (some (114, true)), []⟩,
 ⟨some 117, .pick (.tmp 114) (.tmp 116) (.const (.bool false)), none, []⟩,
 ⟨some 118, .move (.tmp 117), none, []⟩,
 ⟨some 119, .fieldAddr 0 (.tmp 7), (some (118, true)), []⟩,
 ⟨some 120, .load none (.tmp 119), (some (118, true)), []⟩,
 ⟨some 121, .buildSlice 1 [.const (.int .i64 0), .const (.int .i64 0), .const (.int .i64 0), .const (.int .i64 0), .const (.int .i64 100)], (some (118, true)), []⟩,
 ⟨some 122, .call (.const (.fn (.func 23) [] [])) [.tmp 120, .tmp 121], (some (118, true)), []⟩,
 ⟨some 123, .pick (.tmp 118) (.tmp 122) (.const (.bool false)), none, []⟩,
 ⟨some 124, .move (.tmp 123), none, []⟩,
 ⟨some 125, .fieldAddr 1 (.tmp 7), (some (124, true)), []⟩,
 ⟨some 126, .load none (.tmp 125), (some (124, true)), []⟩,
 ⟨some 127, .buildSlice 1 [.const (.int .i64 0), .const (.int .i64 100), .const (.int .i64 100), .const (.int .i64 100), .const (.int .i64 100)], (some (124, true)), []⟩,
 ⟨some 128, .call (.const (.fn (.func 23) [] [])) [.tmp 126, .tmp 127], (some (124, true)), []⟩,
 ⟨some 129, .pick (.tmp 124) (.tmp 128) (.const (.bool false)), none, []⟩,
 ⟨some 130, .move (.tmp 129), none, []⟩,
 ⟨some 131, .fieldAddr 2 (.tmp 9), (some (130, true)), []⟩,
 ⟨some 132, .load none (.tmp 131), (some (130, true)), []⟩,
 ⟨some 133, .bin .plain .eql (.tmp 132) (.const (.int .i64 1)), (some (130, true)), []⟩,
 ⟨some 134, .pick (.tmp 130) (.tmp 133) (.const (.bool false)), none, []⟩,
 ⟨some 135, .move (.tmp 134), none, []⟩,
 ⟨some 136, .fieldAddr 3 (.tmp 9), (some (135, true)), []⟩,
 ⟨some 137, .load none (.tmp 136), (some (135, true)), []⟩,
 ⟨some 138, .pick (.tmp 135) (.tmp 137) (.const (.bool false)), none, []⟩,
 ⟨some 139, .move (.tmp 138), none, []⟩,
 ⟨some 140, .fieldAddr 0 (.tmp 9), (some (139, true)), []⟩,
 ⟨some 141, .load none (.tmp 140), (some (139, true)), []⟩,
 ⟨some 142, .buildSlice 1 [.const (.int .i64 7), .const (.int .i64 7), .const (.int .i64 7), .const (.int .i64 7), .const (.int .i64 7)], (some (139, true)), []⟩,
 ⟨some 143, .call (.const (.fn (.func 23) [] [])) [.tmp 141, .tmp 142], (some (139, true)), []⟩,
 ⟨some 144, .pick (.tmp 139) (.tmp 143) (.const (.bool false)), none, []⟩,
 ⟨some 11, .move (.tmp 144), none, []⟩]
def k_law01_FieldKnown_r12 : List AOper := [
  ⟨some 145, .buildSlice 1 [.const (.int .i64 0), .const (.int .i64 25), .const (.int .i64 50), .const (.int .i64 75), .const (.int .i64 100)], none, []⟩,
 ⟨some 12, .move (.tmp 145), none, []⟩]
def k_law01_FieldKnown_r13 : List AOper := [
  ⟨some 146, .call (.const (.fn (.func 16) [] [])) [], none, []⟩,
 ⟨some 147, .buildSlice 1 [.const (.int .i64 0), .const (.int .i64 100)], none, []⟩,
 ⟨some 148, .move (.tmp 12), none, []⟩,
 ⟨some 149, .move (.tmp 12), none, []⟩,
 ⟨some 150, .call (.const (.fn (.func 24) [] [])) [.tmp 146, .tmp 147, .tmp 148, .tmp 149], none, []⟩,
 ⟨some 151, .move (.tmp 150), none, []⟩,
 ⟨some 152, .call (.const (.fn (.func 16) [] [])) [], (some (151, true)), []⟩,
 ⟨some 153, .buildSlice 1 [.const (.int .i64 0), .const (.int .i64 100)], (some (151, true)), []⟩,
 ⟨some 154, .buildSlice 1 [.const (.int .i64 0), .const (.int .i64 25), .const (.int .i64 51), .const (.int .i64 75), .const (.int .i64 100)], (some (151, true)), []⟩,
 ⟨some 155, .move (.tmp 12), (some (151, true)), []⟩,
 ⟨some 156, .call (.const (.fn (.func 24) [] [])) [.tmp 152, .tmp 153, .tmp 154, .tmp 155], (some (151, true)), []⟩,
 ⟨some 157, .not (.tmp 156), (some (151, true)), []⟩,
 ⟨some 158, .pick (.tmp 151) (.tmp 157) (.const (.bool false)), none, []⟩,
 ⟨some 13, .move (.tmp 158), none, []⟩]
def k_law01_FieldKnown_r14 : List AOper := [
  ⟨some 159, .move (.tmp 5), none, []⟩,
 ⟨some 160, .move (.tmp 159), none, []⟩,
 ⟨some 161, .move (.tmp 6), (some (160, true)), []⟩,
 ⟨some 162, .pick (.tmp 160) (.tmp 161) (.const (.bool false)), none, []⟩,
 ⟨some 163, .move (.tmp 162), none, []⟩,
 ⟨some 164, .move (.tmp 11), (some (163, true)), []⟩,
 ⟨some 165, .pick (.tmp 163) (.tmp 164) (.const (.bool false)), none, []⟩,
 ⟨some 166, .move (.tmp 165), none, []⟩,
 ⟨some 167, .move (.tmp 13), (some (166, true)), []⟩,
 ⟨some 168, .pick (.tmp 166) (.tmp 167) (.const (.bool false)), none, []⟩,
 ⟨some 169, .move (.tmp 168), none, []⟩,
 ⟨some 170, .call (.const (.fn (.func 25) [] [])) [], (some (169, true)), []⟩,
 ⟨some 171, .pick (.tmp 169) (.tmp 170) (.const (.bool false)), none, []⟩,
 ⟨some 172, .move (.tmp 171), none, []⟩,
 ⟨some 173, .call (.const (.fn (.func 26) [] [])) [], (some (172, true)), []⟩,
 ⟨some 174, .pick (.tmp 172) (.tmp 173) (.const (.bool false)), none, []⟩,
 ⟨some 0, .move (.tmp 174), none, []⟩]
def k_law01_FieldKnown : AFun := { params := 0, ntmps := 175, body := (.seq (.reg k_law01_FieldKnown_r0 false) (.seq (.reg k_law01_FieldKnown_r1 false) (.seq (.reg k_law01_FieldKnown_r2 true) (.seq (.reg k_law01_FieldKnown_r3 false) (.seq (.reg k_law01_FieldKnown_r4 false) (.seq (.seq (.reg k_law01_FieldKnown_r5 false) (.cond (.tmp 65) (.seq (.reg k_law01_FieldKnown_r6 false) .ret) .skip)) (.seq (.reg k_law01_FieldKnown_r7 false) (.seq (.reg k_law01_FieldKnown_r8 false) (.seq (.reg k_law01_FieldKnown_r9 false) (.seq (.reg k_law01_FieldKnown_r10 false) (.seq (.reg k_law01_FieldKnown_r11 false) (.seq (.reg k_law01_FieldKnown_r12 false) (.seq (.reg k_law01_FieldKnown_r13 false) (.seq (.reg k_law01_FieldKnown_r14 false) .ret)))))))))))))), res := [.tmp 0] }
theorem k_law01_FieldKnown_ok : cfun Tryd.prog Tryd.f4 = k_law01_FieldKnown := by kernel_rfl

def k_field_Text_r0 : List AOper := [
  ⟨some 1, .box (.tmp 0), none, []⟩,
 ⟨some 2, .move (.const (.str [])), none, []⟩,
 ⟨some 3, .move (.const (.int .i64 0)), none, []⟩]
def k_field_Text_r1 : List AOper := [
  ⟨some 9, .load (some (4)) (.tmp 1), none, []⟩,
 ⟨some 10, .call (.const (.fn (.func 17) [] [])) [.tmp 9], none, []⟩,
 ⟨some 4, .move (.tmp 10), none, []⟩]
def k_field_Text_r2 : List AOper := [
  ⟨some 11, .move (.tmp 4), none, []⟩,
 ⟨some 12, .bin .plain .neq (.tmp 11) (.const (.int .i64 0)), none, []⟩]
def k_field_Text_r3 : List AOper := [
  ⟨some 13, .move (.tmp 4), none, []⟩,
 ⟨some 2, .move (.const (.str [])), none, []⟩,
 ⟨some 3, .move (.tmp 13), none, []⟩]
def k_field_Text_r4 : List AOper := [
  ⟨some 14, .buildSlice 1 [.const (.int .u8 102), .const (.int .u8 108), .const (.int .u8 97), .const (.int .u8 116)], none, []⟩,
 ⟨some 15, .markStr (.tmp 14), none, []⟩,
 ⟨some 5, .box (.const (.nilsl)), none, []⟩,
 ⟨none, .store 1 (.tmp 5) (.tmp 15), none, []⟩]
def k_field_Text_r5 : List AOper := [
  ⟨some 16, .fieldAddr 2 (.tmp 1), none, []⟩,
 ⟨some 17, .load none (.tmp 16), none, []⟩]
def k_field_Text_r6 : List AOper := [
  ⟨some 18, .buildSlice 1 [.const (.int .u8 114), .const (.int .u8 111), .const (.int .u8 117), .const (.int .u8 110), .const (.int .u8 100)], none, []⟩,
 ⟨some 19, .markStr (.tmp 18), none, []⟩,
 ⟨none, .store 1 (.tmp 5) (.tmp 19), none, []⟩]
def k_field_Text_r7 : List AOper := [
  ⟨some 20, .fieldAddr 3 (.tmp 1), none, []⟩,
 ⟨some 21, .load none (.tmp 20), none, []⟩,
 ⟨some 22, .fieldAddr 0 (.tmp 1), none, []⟩,
 ⟨some 23, .load none (.tmp 22), none, []⟩,
 ⟨some 24, .call (.const (.fn (.func 32) [] [])) [.tmp 21, .tmp 23], none, []⟩]
def k_field_Text_r8 : List AOper := [
  ⟨some 6, .move (.tmp 25), none, []⟩]
def k_field_Text_r9 : List AOper := [
  ⟨some 26, .load none (.tmp 5), none, []⟩,
 ⟨some 27, .buildSlice 1 [.const (.int .u8 10)], none, []⟩,
 ⟨some 28, .append 1 1 false (.tmp 26) (.tmp 27), none, []⟩,
 ⟨none, .store 1 (.tmp 5) (.tmp 28), none, []⟩]
def k_field_Text_r10 : List AOper := [
  ⟨some 29, .move (.tmp 6), none, []⟩,
 ⟨some 30, .len false (.tmp 29), none, []⟩,
 ⟨some 31, .move (.const (.int .i64 0)), none, []⟩]
def k_field_Text_r11 : List AOper := [
  ⟨some 32, .bin .plain .lss (.tmp 31) (.tmp 30), none, []⟩]
def k_field_Text_r12 : List AOper := [
  ⟨some 33, .indexAddr 1 (.tmp 29) (.tmp 31), none, []⟩,
 ⟨some 34, .load none (.tmp 33), none, []⟩,
 ⟨some 8, .move (.tmp 34), none, []⟩]
def k_field_Text_r13 : List AOper := [
  ⟨some 35, .load none (.tmp 5), none, []⟩,
 ⟨some 36, .move (.tmp 8), none, [0]⟩,
 ⟨some 37, .call (.const (.fn (.func 33) [] [])) [.tmp 36], none, [0]⟩,
 ⟨some 38, .buildSlice 1 [.tmp 37], none, [0]⟩,
 ⟨some 39, .append 1 1 false (.tmp 35) (.tmp 38), none, []⟩,
 ⟨none, .store 1 (.tmp 5) (.tmp 39), none, []⟩]
def k_field_Text_r13s : List (List AOper) := [
  [
  ⟨some 35, .load none (.tmp 5), none, []⟩,
 ⟨some 36, .move (.tmp 8), none, [0]⟩,
 ⟨some 37, .call (.const (.fn (.func 33) [] [])) [.tmp 36], none, [0]⟩,
 ⟨some 38, .buildSlice 1 [.tmp 37], none, [0]⟩], 
  [
  ⟨some 39, .append 1 1 false (.tmp 35) (.tmp 38), none, []⟩], 
  [
  ⟨none, .store 1 (.tmp 5) (.tmp 39), none, []⟩]]
theorem k_field_Text_r13_sg : segs k_field_Text_r13 = k_field_Text_r13s := by kernel_rfl
theorem k_field_Text_r13_st : statOK k_field_Text_r13 = true := by kernel_rfl
def k_field_Text_r14 : List AOper := [
  ⟨some 40, .bin .plain .add (.tmp 31) (.const (.int .i64 1)), none, []⟩,
 ⟨some 31, .move (.tmp 40), none, []⟩]
def k_field_Text_r15 : ACode := (.seq (.reg k_field_Text_r11 false) (.seq (.cond (.tmp 32) .skip (.exit 2)) (.seq (.block 3 (.seq (.reg k_field_Text_r12 false) (.reg k_field_Text_r13 true))) (.reg k_field_Text_r14 false))))
def k_field_Text_r16 : ACode := (.reg k_field_Text_r8 false)
def k_field_Text_r17 : ACode := (.block 1 (.seq (.reg k_field_Text_r9 false) (.seq (.reg k_field_Text_r10 false) (.block 2 (.loop k_field_Text_r15)))))
def k_field_Text_r18 : List AOper := [
  ⟨some 41, .load none (.tmp 5), none, []⟩,
 ⟨some 42, .buildSlice 1 [.const (.int .u8 10)], none, []⟩,
 ⟨some 43, .append 1 1 false (.tmp 41) (.tmp 42), none, []⟩,
 ⟨some 44, .bytesToStr (.tmp 43), none, []⟩,
 ⟨some 2, .move (.tmp 44), none, []⟩,
 ⟨some 3, .move (.const (.int .i64 0)), none, []⟩]
def k_field_Text : AFun := { params := 1, ntmps := 45, body := (.seq (.reg k_field_Text_r0 false) (.seq (.seq (.reg k_field_Text_r1 false) (.seq (.reg k_field_Text_r2 false) (.cond (.tmp 12) (.seq (.reg k_field_Text_r3 false) .ret) .skip))) (.seq (.reg k_field_Text_r4 false) (.seq (.seq (.reg k_field_Text_r5 false) (.cond (.tmp 17) (.reg k_field_Text_r6 false) .skip)) (.seq (.seq (.reg k_field_Text_r7 false) (.block 0 (.rng (.tmp 24) [25] k_field_Text_r16 k_field_Text_r17))) (.seq (.reg k_field_Text_r18 false) .ret)))))), res := [.tmp 2, .tmp 3] }
theorem k_field_Text_ok : cfun Tryd.prog Tryd.f10 = k_field_Text := by kernel_rfl

def k_field_Parse_r0 : List AOper := [
  ⟨some 2, .box (.const (.agg [.int .i64 0, .int .i64 0, .bool false, .nilsl])), none, []⟩,
 ⟨some 3, .move (.const (.int .i64 0)), none, []⟩,
 ⟨some 4, .move (.const (.int .i64 0)), none, []⟩]
def k_field_Parse_r1 : List AOper := [
  ⟨some 8, .move (.tmp 0), none, []⟩,
 ⟨some 9, .len true (.tmp 8), none, []⟩,
 ⟨some 10, .bin .plain .gtr (.tmp 9) (.const (.int .i64 400)), none, []⟩]
def k_field_Parse_r2 : List AOper := [
  ⟨some 11, .build [.int .i64 0, .int .i64 0, .bool false, .nilsl] [], none, []⟩,
 ⟨none, .store 4 (.tmp 2) (.tmp 11), none, []⟩,
 ⟨some 3, .move (.const (.int .i64 0)), none, []⟩,
 ⟨some 4, .move (.const (.int .i64 5)), none, []⟩]
def k_field_Parse_r3 : List AOper := [
  ⟨some 13, .move (.tmp 0), none, []⟩,
 ⟨some 14, .call (.const (.fn (.func 35) [] [])) [.tmp 13], none, []⟩,
 ⟨some 12, .move (.tmp 14), none, []⟩,
 ⟨some 15, .extract (.tmp 12) 0, none, []⟩,
 ⟨some 16, .extract (.tmp 12) 1, none, []⟩,
 ⟨some 5, .box (.const (.agg [.int .i64 0, .int .i64 0, .bool false, .nilsl])), none, []⟩,
 ⟨none, .store 4 (.tmp 5) (.tmp 15), none, []⟩,
 ⟨some 6, .move (.tmp 16), none, []⟩]
def k_field_Parse_r4 : List AOper := [
  ⟨some 17, .move (.tmp 6), none, []⟩,
 ⟨some 18, .bin .plain .neq (.tmp 17) (.const (.int .i64 0)), none, []⟩]
def k_field_Parse_r5 : List AOper := [
  ⟨some 19, .build [.int .i64 0, .int .i64 0, .bool false, .nilsl] [], none, []⟩,
 ⟨some 20, .move (.tmp 6), none, []⟩,
 ⟨none, .store 4 (.tmp 2) (.tmp 19), none, []⟩,
 ⟨some 3, .move (.tmp 20), none, []⟩,
 ⟨some 4, .move (.const (.int .i64 3)), none, []⟩]
def k_field_Parse_r6 : List AOper := [
  ⟨some 21, .load (some (4)) (.tmp 5), none, []⟩,
 ⟨some 22, .call (.const (.fn (.func 17) [] [])) [.tmp 21], none, []⟩,
 ⟨some 7, .move (.tmp 22), none, []⟩]
def k_field_Parse_r7 : List AOper := [
  ⟨some 23, .move (.tmp 7), none, []⟩,
 ⟨some 24, .bin .plain .neq (.tmp 23) (.const (.int .i64 0)), none, []⟩]
def k_field_Parse_r8 : List AOper := [
  ⟨some 25, .build [.int .i64 0, .int .i64 0, .bool false, .nilsl] [], none, []⟩,
 ⟨some 26, .move (.tmp 7), none, []⟩,
 ⟨none, .store 4 (.tmp 2) (.tmp 25), none, []⟩,
 ⟨some 3, .move (.const (.int .i64 0)), none, []⟩,
 ⟨some 4, .move (.tmp 26), none, []⟩]
def k_field_Parse_r9 : List AOper := [
  ⟨some 27, .load (some (4)) (.tmp 5), none, []⟩,
 ⟨none, .store 4 (.tmp 2) (.tmp 27), none, []⟩,
 ⟨some 3, .move (.const (.int .i64 0)), none, []⟩,
 ⟨some 4, .move (.const (.int .i64 0)), none, []⟩]
def k_field_Parse : AFun := { params := 1, ntmps := 28, body := (.seq (.reg k_field_Parse_r0 false) (.seq (.seq (.reg k_field_Parse_r1 false) (.cond (.tmp 10) (.seq (.reg k_field_Parse_r2 false) .ret) .skip)) (.seq (.reg k_field_Parse_r3 false) (.seq (.seq (.reg k_field_Parse_r4 false) (.cond (.tmp 18) (.seq (.reg k_field_Parse_r5 false) .ret) .skip)) (.seq (.seq (.reg k_field_Parse_r6 false) (.seq (.reg k_field_Parse_r7 false) (.cond (.tmp 24) (.seq (.reg k_field_Parse_r8 false) .ret) .skip))) (.seq (.reg k_field_Parse_r9 false) .ret)))))), res := [.cell 2 (some ((some (4)))), .tmp 3, .tmp 4] }
theorem k_field_Parse_ok : cfun Tryd.prog Tryd.f13 = k_field_Parse := by kernel_rfl

def k_ref01_Same_r0 : List AOper := [
  ⟨some 2, .box (.tmp 0), none, []⟩,
 ⟨some 3, .box (.tmp 1), none, []⟩,
 ⟨some 4, .move (.const (.bool false)), none, []⟩]
def k_ref01_Same_r1 : List AOper := [
  ⟨some 5, .fieldAddr 0 (.tmp 2), none, []⟩,
 ⟨some 6, .load none (.tmp 5), none, []⟩,
 ⟨some 7, .fieldAddr 0 (.tmp 3), none, []⟩,
 ⟨some 8, .load none (.tmp 7), none, []⟩,
 ⟨some 9, .bin .plain .eql (.tmp 6) (.tmp 8), none, []⟩,
 ⟨some 10, .move (.tmp 9), none, []⟩,
 ⟨some 11, .fieldAddr 1 (.tmp 2), (some (10, true)), []⟩,
 ⟨some 12, .load none (.tmp 11), (some (10, true)), []⟩,
 ⟨some 13, .fieldAddr 1 (.tmp 3), (some (10, true)), []⟩,
 ⟨some 14, .load none (.tmp 13), (some (10, true)), []⟩,
 ⟨some 15, .bin .plain .eql (.tmp 12) (.tmp 14), (some (10, true)), []⟩,
 ⟨some 16, .pick (.tmp 10) (.tmp 15) (.const (.bool false)), none, []⟩,
 ⟨some 17, .move (.tmp 16), none, []⟩,
 ⟨some 18, .fieldAddr 2 (.tmp 2), (some (17, true)), []⟩,
 ⟨some 19, .load none (.tmp 18), (some (17, true)), []⟩,
 ⟨some 20, .fieldAddr 2 (.tmp 3), (some (17, true)), []⟩,
 ⟨some 21, .load none (.tmp 20), (some (17, true)), []⟩,
 ⟨some 22, .bin .bool .eql (.tmp 19) (.tmp 21), (some (17, true)), []⟩,
 ⟨some 23, .pick (.tmp 17) (.tmp 22) (.const (.bool false)), none, []⟩,
 ⟨some 24, .move (.tmp 23), none, []⟩,
 ⟨some 25, .fieldAddr 3 (.tmp 2), (some (24, true)), []⟩,
 ⟨some 26, .load none (.tmp 25), (some (24, true)), []⟩,
 ⟨some 27, .fieldAddr 3 (.tmp 3), (some (24, true)), []⟩,
 ⟨some 28, .load none (.tmp 27), (some (24, true)), []⟩,
 ⟨some 29, .call (.const (.fn (.func 38) [] [])) [.tmp 26, .tmp 28], (some (24, true)), []⟩,
 ⟨some 30, .pick (.tmp 24) (.tmp 29) (.const (.bool false)), none, []⟩,
 ⟨some 4, .move (.tmp 30), none, []⟩]
def k_ref01_Same : AFun := { params := 2, ntmps := 31, body := (.seq (.reg k_ref01_Same_r0 false) (.seq (.reg k_ref01_Same_r1 false) .ret)), res := [.tmp 4] }
theorem k_ref01_Same_ok : cfun Tryd.prog Tryd.f15 = k_ref01_Same := by kernel_rfl

def k_law01_gate_r0 : List AOper := [
  ⟨some 0, .box (.const (.agg [.int .i64 0, .int .i64 0, .bool false, .nilsl])), none, []⟩]
def k_law01_gate_r1 : List AOper := [
  ⟨some 1, .buildSlice 1 [.const (.int .i64 1), .const (.int .i64 0), .const (.int .i64 0), .const (.int .i64 0), .const (.int .i64 3), .const (.int .i64 1), .const (.int .i64 0), .const (.int .i64 2), .const (.int .i64 0), .const (.int .i64 3), .const (.int .i64 1), .const (.int .i64 0), .const (.int .i64 0), .const (.int .i64 0), .const (.int .i64 3)], none, []⟩,
 ⟨some 2, .build [.int .i64 0, .int .i64 0, .bool false, .nilsl] [(0, 1, .const (.int .i64 5)), (1, 1, .const (.int .i64 3)), (3, 1, .tmp 1)], none, []⟩,
 ⟨none, .store 4 (.tmp 0) (.tmp 2), none, []⟩]
def k_law01_gate : AFun := { params := 0, ntmps := 3, body := (.seq (.reg k_law01_gate_r0 false) (.seq (.reg k_law01_gate_r1 false) .ret)), res := [.cell 0 (some ((some (4))))] }
theorem k_law01_gate_ok : cfun Tryd.prog Tryd.f21 = k_law01_gate := by kernel_rfl

def k_field_Good_r0 : List AOper := [
  ⟨some 4, .box (.tmp 0), none, []⟩,
 ⟨some 8, .move (.const (.bool false)), none, []⟩]
def k_field_Good_r1 : List AOper := [
  ⟨some 15, .load (some (4)) (.tmp 4), none, []⟩,
 ⟨some 16, .move (.tmp 1), none, []⟩,
 ⟨some 17, .call (.const (.fn (.func 18) [] [])) [.tmp 15, .tmp 16], none, []⟩,
 ⟨some 18, .bin .plain .neq (.tmp 17) (.const (.int .i64 0)), none, []⟩,
 ⟨some 19, .move (.tmp 18), none, []⟩,
 ⟨some 20, .load (some (4)) (.tmp 4), (some (19, false)), []⟩,
 ⟨some 21, .move (.tmp 2), (some (19, false)), []⟩,
 ⟨some 22, .call (.const (.fn (.func 46) [] [])) [.tmp 20, .tmp 21], (some (19, false)), []⟩,
 ⟨some 23, .not (.tmp 22), (some (19, false)), []⟩,
 ⟨some 24, .pick (.tmp 19) (.const (.bool true)) (.tmp 23), none, []⟩,
 ⟨some 25, .move (.tmp 24), none, []⟩,
 ⟨some 26, .load (some (4)) (.tmp 4), (some (25, false)), []⟩,
 ⟨some 27, .move (.tmp 3), (some (25, false)), []⟩,
 ⟨some 28, .call (.const (.fn (.func 46) [] [])) [.tmp 26, .tmp 27], (some (25, false)), []⟩,
 ⟨some 29, .not (.tmp 28), (some (25, false)), []⟩,
 ⟨some 30, .pick (.tmp 25) (.const (.bool true)) (.tmp 29), none, []⟩]
def k_field_Good_r2 : List AOper := [
  ⟨some 8, .move (.const (.bool false)), none, []⟩]
def k_field_Good_r3 : List AOper := [
  ⟨some 31, .fieldAddr 3 (.tmp 4), none, []⟩,
 ⟨some 32, .load none (.tmp 31), none, []⟩,
 ⟨some 33, .len false (.tmp 32), none, []⟩,
 ⟨some 34, .move (.const (.int .i64 0)), none, []⟩]
def k_field_Good_r4 : List AOper := [
  ⟨some 35, .bin .plain .lss (.tmp 34) (.tmp 33), none, []⟩]
def k_field_Good_r5 : List AOper := [
  ⟨some 36, .move (.tmp 34), none, []⟩,
 ⟨some 37, .indexAddr 1 (.tmp 32) (.tmp 34), none, []⟩,
 ⟨some 38, .load none (.tmp 37), none, []⟩,
 ⟨some 9, .move (.tmp 36), none, []⟩,
 ⟨some 10, .move (.tmp 38), none, []⟩]
def k_field_Good_r6 : List AOper := [
  ⟨some 40, .load (some (4)) (.tmp 4), none, []⟩,
 ⟨some 41, .move (.tmp 2), none, []⟩,
 ⟨some 42, .move (.tmp 9), none, []⟩,
 ⟨some 43, .call (.const (.fn (.func 47) [] [])) [.tmp 40, .tmp 41, .tmp 42], none, []⟩,
 ⟨some 39, .move (.tmp 43), none, []⟩,
 ⟨some 44, .extract (.tmp 39) 0, none, []⟩,
 ⟨some 45, .extract (.tmp 39) 1, none, []⟩,
 ⟨some 11, .move (.tmp 44), none, []⟩,
 ⟨some 12, .move (.tmp 45), none, []⟩]
def k_field_Good_r7 : List AOper := [
  ⟨some 47, .load (some (4)) (.tmp 4), none, []⟩,
 ⟨some 48, .move (.tmp 3), none, []⟩,
 ⟨some 49, .move (.tmp 9), none, []⟩,
 ⟨some 50, .call (.const (.fn (.func 47) [] [])) [.tmp 47, .tmp 48, .tmp 49], none, []⟩,
 ⟨some 46, .move (.tmp 50), none, []⟩,
 ⟨some 51, .extract (.tmp 46) 0, none, []⟩,
 ⟨some 52, .extract (.tmp 46) 1, none, []⟩,
 ⟨some 13, .move (.tmp 51), none, []⟩,
 ⟨some 14, .move (.tmp 52), none, []⟩]
def k_field_Good_r8 : List AOper := [
  ⟨some 53, .move (.tmp 10), none, []⟩,
 ⟨some 54, .bin .plain .neq (.tmp 53) (.const (.int .i64 0)), none, []⟩]
def k_field_Good_r9 : List AOper := [
  ⟨some 55, .move (.tmp 1), none, []⟩,
 ⟨some 56, .move (.tmp 10), none, [0]⟩,
 ⟨some 57, .bin .plain .sub (.tmp 56) (.const (.int .i64 1)), none, [0]⟩,
 ⟨some 58, .indexAddr 1 (.tmp 55) (.tmp 57), none, []⟩,
 ⟨some 59, .load none (.tmp 58), none, []⟩,
 ⟨some 60, .move (.tmp 1), none, [0, 1, 2, 3, 4]⟩,
 ⟨some 61, .move (.tmp 10), none, [0, 1, 2, 3, 4, 5]⟩,
 ⟨some 62, .bin .plain .sub (.tmp 61) (.const (.int .i64 1)), none, [0, 1, 2, 3, 4, 5]⟩,
 ⟨some 63, .indexAddr 1 (.tmp 60) (.tmp 62), none, [0, 1, 2, 3, 4]⟩,
 ⟨some 64, .load none (.tmp 63), none, [0, 1, 2, 3, 4]⟩,
 ⟨some 11, .move (.tmp 59), none, [5, 6, 7, 8, 9]⟩,
 ⟨some 13, .move (.tmp 64), none, []⟩,
 ⟨some 12, .move (.const (.int .i64 1)), none, []⟩]
def k_field_Good_r9s : List (List AOper) := [
  [
  ⟨some 55, .move (.tmp 1), none, []⟩,
 ⟨some 56, .move (.tmp 10), none, [0]⟩,
 ⟨some 57, .bin .plain .sub (.tmp 56) (.const (.int .i64 1)), none, [0]⟩,
 ⟨some 58, .indexAddr 1 (.tmp 55) (.tmp 57), none, []⟩,
 ⟨some 59, .load none (.tmp 58), none, []⟩,
 ⟨some 60, .move (.tmp 1), none, [0, 1, 2, 3, 4]⟩,
 ⟨some 61, .move (.tmp 10), none, [0, 1, 2, 3, 4, 5]⟩,
 ⟨some 62, .bin .plain .sub (.tmp 61) (.const (.int .i64 1)), none, [0, 1, 2, 3, 4, 5]⟩,
 ⟨some 63, .indexAddr 1 (.tmp 60) (.tmp 62), none, [0, 1, 2, 3, 4]⟩,
 ⟨some 64, .load none (.tmp 63), none, [0, 1, 2, 3, 4]⟩,
 ⟨some 11, .move (.tmp 59), none, [5, 6, 7, 8, 9]⟩], 
  [
  ⟨some 13, .move (.tmp 64), none, []⟩], 
  [
  ⟨some 12, .move (.const (.int .i64 1)), none, []⟩]]
theorem k_field_Good_r9_sg : segs k_field_Good_r9 = k_field_Good_r9s := by kernel_rfl
theorem k_field_Good_r9_st : statOK k_field_Good_r9 = true := by kernel_rfl
def k_field_Good_r10 : List AOper := [
  ⟨some 65, .move (.tmp 12), none, []⟩,
 ⟨some 66, .move (.tmp 2), none, []⟩,
 ⟨some 67, .move (.tmp 9), none, []⟩,
 ⟨some 68, .indexAddr 1 (.tmp 66) (.tmp 67), none, []⟩,
 ⟨some 69, .load none (.tmp 68), none, []⟩,
 ⟨some 70, .bin .plain .mul (.tmp 65) (.tmp 69), none, []⟩,
 ⟨some 71, .move (.tmp 11), none, []⟩,
 ⟨some 72, .bin .plain .gtr (.tmp 70) (.tmp 71), none, []⟩,
 ⟨some 73, .move (.tmp 72), none, []⟩,
 ⟨some 74, .move (.tmp 12), (some (73, false)), []⟩,
 ⟨some 75, .move (.tmp 3), (some (73, false)), []⟩,
 ⟨some 76, .move (.tmp 9), (some (73, false)), []⟩,
 ⟨some 77, .indexAddr 1 (.tmp 75) (.tmp 76), (some (73, false)), []⟩,
 ⟨some 78, .load none (.tmp 77), (some (73, false)), []⟩,
 ⟨some 79, .bin .plain .mul (.tmp 74) (.tmp 78), (some (73, false)), []⟩,
 ⟨some 80, .move (.tmp 13), (some (73, false)), []⟩,
 ⟨some 81, .bin .plain .lss (.tmp 79) (.tmp 80), (some (73, false)), []⟩,
 ⟨some 82, .pick (.tmp 73) (.const (.bool true)) (.tmp 81), none, []⟩]
def k_field_Good_r11 : List AOper := [
  ⟨some 8, .move (.const (.bool false)), none, []⟩]
def k_field_Good_r12 : List AOper := [
  ⟨some 83, .bin .plain .add (.tmp 34) (.const (.int .i64 1)), none, []⟩,
 ⟨some 34, .move (.tmp 83), none, []⟩]
def k_field_Good_r13 : ACode := (.seq (.reg k_field_Good_r4 false) (.seq (.cond (.tmp 35) .skip (.exit 0)) (.seq (.block 1 (.seq (.reg k_field_Good_r5 false) (.seq (.reg k_field_Good_r6 false) (.seq (.reg k_field_Good_r7 false) (.seq (.seq (.reg k_field_Good_r8 false) (.cond (.tmp 54) (.reg k_field_Good_r9 true) .skip)) (.seq (.reg k_field_Good_r10 false) (.cond (.tmp 82) (.seq (.reg k_field_Good_r11 false) .ret) .skip))))))) (.reg k_field_Good_r12 false))))
def k_field_Good_r14 : List AOper := [
  ⟨some 8, .move (.const (.bool true)), none, []⟩]
def k_field_Good : AFun := { params := 4, ntmps := 84, body := (.seq (.reg k_field_Good_r0 false) (.seq (.seq (.reg k_field_Good_r1 false) (.cond (.tmp 30) (.seq (.reg k_field_Good_r2 false) .ret) .skip)) (.seq (.seq (.reg k_field_Good_r3 false) (.block 0 (.loop k_field_Good_r13))) (.seq (.reg k_field_Good_r14 false) .ret)))), res := [.tmp 8] }
theorem k_field_Good_ok : cfun Tryd.prog Tryd.f24 = k_field_Good := by kernel_rfl

def k_law01_charges_r0 : List AOper := [
  ⟨some 0, .move (.const (.bool false)), none, []⟩]
def k_law01_charges_r1 : List AOper := [
  ⟨some 14, .call (.const (.fn (.func 16) [] [])) [], none, []⟩,
 ⟨some 15, .buildSlice 1 [.const (.int .i64 0), .const (.int .i64 100)], none, []⟩,
 ⟨some 16, .call (.const (.fn (.func 27) [] [])) [.tmp 14, .tmp 15, .const (.int .i64 1), .const (.int .i64 1)], none, []⟩,
 ⟨some 13, .move (.tmp 16), none, []⟩,
 ⟨some 17, .extract (.tmp 13) 0, none, []⟩,
 ⟨some 18, .extract (.tmp 13) 1, none, []⟩,
 ⟨some 1, .box (.const (.agg [.int .i64 0, .int .i64 0])), none, []⟩,
 ⟨none, .store 2 (.tmp 1) (.tmp 17), none, []⟩,
 ⟨some 2, .move (.tmp 18), none, []⟩]
def k_law01_charges_r2 : List AOper := [
  ⟨some 20, .call (.const (.fn (.func 16) [] [])) [], none, []⟩,
 ⟨some 21, .buildSlice 1 [.const (.int .i64 0), .const (.int .i64 100)], none, []⟩,
 ⟨some 22, .call (.const (.fn (.func 27) [] [])) [.tmp 20, .tmp 21, .const (.int .i64 1), .const (.int .i64 3)], none, []⟩,
 ⟨some 19, .move (.tmp 22), none, []⟩,
 ⟨some 23, .extract (.tmp 19) 0, none, []⟩,
 ⟨some 24, .extract (.tmp 19) 1, none, []⟩,
 ⟨some 3, .box (.const (.agg [.int .i64 0, .int .i64 0])), none, []⟩,
 ⟨none, .store 2 (.tmp 3) (.tmp 23), none, []⟩,
 ⟨some 4, .move (.tmp 24), none, []⟩]
def k_law01_charges_r3 : List AOper := [
  ⟨some 26, .call (.const (.fn (.func 16) [] [])) [], none, []⟩,
 ⟨some 27, .call (.const (.fn (.func 48) [] [])) [.tmp 26, .const (.int .i64 0), .const (.int .i64 2), .const (.int .i64 1)], none, []⟩,
 ⟨some 25, .move (.tmp 27), none, []⟩,
 ⟨some 28, .extract (.tmp 25) 0, none, []⟩,
 ⟨some 29, .extract (.tmp 25) 1, none, []⟩,
 ⟨some 5, .box (.const (.agg [.int .i64 0, .int .i64 0])), none, []⟩,
 ⟨none, .store 2 (.tmp 5) (.tmp 28), none, []⟩,
 ⟨some 6, .move (.tmp 29), none, []⟩]
def k_law01_charges_r4 : List AOper := [
  ⟨some 31, .call (.const (.fn (.func 16) [] [])) [], none, []⟩,
 ⟨some 32, .call (.const (.fn (.func 48) [] [])) [.tmp 31, .const (.int .i64 0), .const (.int .i64 1), .const (.int .i64 1)], none, []⟩,
 ⟨some 30, .move (.tmp 32), none, []⟩,
 ⟨some 33, .extract (.tmp 30) 0, none, []⟩,
 ⟨some 34, .extract (.tmp 30) 1, none, []⟩,
 ⟨some 7, .box (.const (.agg [.int .i64 0, .int .i64 0])), none, []⟩,
 ⟨none, .store 2 (.tmp 7) (.tmp 33), none, []⟩,
 ⟨some 8, .move (.tmp 34), none, []⟩]
def k_law01_charges_r5 : List AOper := [
  ⟨some 36, .call (.const (.fn (.func 16) [] [])) [], none, []⟩,
 ⟨some 37, .call (.const (.fn (.func 48) [] [])) [.tmp 36, .const (.int .i64 0), .const (.int .i64 7), .const (.int .i64 1)], none, []⟩,
 ⟨some 35, .move (.tmp 37), none, []⟩,
 ⟨some 38, .extract (.tmp 35) 0, none, []⟩,
 ⟨some 39, .extract (.tmp 35) 1, none, []⟩,
 ⟨some 9, .box (.const (.agg [.int .i64 0, .int .i64 0])), none, []⟩,
 ⟨none, .store 2 (.tmp 9) (.tmp 38), none, []⟩,
 ⟨some 10, .move (.tmp 39), none, []⟩]
def k_law01_charges_r6 : List AOper := [
  ⟨some 41, .call (.const (.fn (.func 21) [] [])) [], none, []⟩,
 ⟨some 42, .call (.const (.fn (.func 49) [] [])) [.tmp 41, .const (.int .i64 0), .const (.int .i64 1), .const (.int .i64 2), .const (.int .i64 3)], none, []⟩,
 ⟨some 40, .move (.tmp 42), none, []⟩,
 ⟨some 43, .extract (.tmp 40) 0, none, []⟩,
 ⟨some 44, .extract (.tmp 40) 1, none, []⟩,
 ⟨some 11, .box (.const (.agg [.int .i64 0, .int .i64 0])), none, []⟩,
 ⟨none, .store 2 (.tmp 11) (.tmp 43), none, []⟩,
 ⟨some 12, .move (.tmp 44), none, []⟩]
def k_law01_charges_r7 : List AOper := [
  ⟨some 45, .move (.tmp 2), none, []⟩,
 ⟨some 46, .bin .plain .eql (.tmp 45) (.const (.int .i64 0)), none, []⟩,
 ⟨some 47, .move (.tmp 46), none, []⟩,
 ⟨some 48, .load (some (2)) (.tmp 1), (some (47, true)), []⟩,
 ⟨some 49, .build [.int .i64 0, .int .i64 0] [(0, 1, .const (.int .i64 (-50)))], (some (47, true)), []⟩,
 ⟨some 50, .eqAgg false [.int, .int] (.tmp 48) (.tmp 49), (some (47, true)), []⟩,
 ⟨some 51, .pick (.tmp 47) (.tmp 50) (.const (.bool false)), none, []⟩,
 ⟨some 52, .move (.tmp 51), none, []⟩,
 ⟨some 53, .move (.tmp 4), (some (52, true)), []⟩,
 ⟨some 54, .bin .plain .eql (.tmp 53) (.const (.int .i64 7)), (some (52, true)), []⟩,
 ⟨some 55, .pick (.tmp 52) (.tmp 54) (.const (.bool false)), none, []⟩,
 ⟨some 56, .move (.tmp 55), none, []⟩,
 ⟨some 57, .move (.tmp 6), (some (56, true)), []⟩,
 ⟨some 58, .bin .plain .eql (.tmp 57) (.const (.int .i64 0)), (some (56, true)), []⟩,
 ⟨some 59, .pick (.tmp 56) (.tmp 58) (.const (.bool false)), none, []⟩,
 ⟨some 60, .move (.tmp 59), none, []⟩,
 ⟨some 61, .load (some (2)) (.tmp 5), (some (60, true)), []⟩,
 ⟨some 62, .build [.int .i64 0, .int .i64 0] [(1, 1, .const (.int .i64 1000000))], (some (60, true)), []⟩,
 ⟨some 63, .eqAgg false [.int, .int] (.tmp 61) (.tmp 62), (some (60, true)), []⟩,
 ⟨some 64, .pick (.tmp 60) (.tmp 63) (.const (.bool false)), none, []⟩,
 ⟨some 65, .move (.tmp 64), none, []⟩,
 ⟨some 66, .move (.tmp 8), (some (65, true)), []⟩,
 ⟨some 67, .bin .plain .eql (.tmp 66) (.const (.int .i64 9)), (some (65, true)), []⟩,
 ⟨some 68, .pick (.tmp 65) (.tmp 67) (.const (.bool false)), none, []⟩,
 ⟨some 69, .move (.tmp 68), none, []⟩,
 ⟨some 70, .move (.tmp 10), (some (69, true)), []⟩,
 ⟨some 71, .bin .plain .eql (.tmp 70) (.const (.int .i64 7)), (some (69, true)), []⟩,
 ⟨some 72, .pick (.tmp 69) (.tmp 71) (.const (.bool false)), none, []⟩,
 ⟨some 73, .move (.tmp 72), none, []⟩,
 ⟨some 74, .move (.tmp 12), (some (73, true)), []⟩,
 ⟨some 75, .bin .plain .eql (.tmp 74) (.const (.int .i64 10)), (some (73, true)), []⟩,
 ⟨some 76, .pick (.tmp 73) (.tmp 75) (.const (.bool false)), none, []⟩,
 ⟨some 0, .move (.tmp 76), none, []⟩]
def k_law01_charges : AFun := { params := 0, ntmps := 77, body := (.seq (.reg k_law01_charges_r0 false) (.seq (.reg k_law01_charges_r1 false) (.seq (.reg k_law01_charges_r2 false) (.seq (.reg k_law01_charges_r3 false) (.seq (.reg k_law01_charges_r4 false) (.seq (.reg k_law01_charges_r5 false) (.seq (.reg k_law01_charges_r6 false) (.seq (.reg k_law01_charges_r7 false) .ret)))))))), res := [.tmp 0] }
theorem k_law01_charges_ok : cfun Tryd.prog Tryd.f25 = k_law01_charges := by kernel_rfl

def k_law01_moved_r0 : List AOper := [
  ⟨some 0, .move (.const (.bool false)), none, []⟩]
def k_law01_moved_r1 : List AOper := [
  ⟨some 19, .call (.const (.fn (.func 21) [] [])) [], none, []⟩,
 ⟨some 20, .call (.const (.fn (.func 50) [] [])) [.tmp 19, .const (.int .i64 2), .const (.int .i64 1), .const (.int .i64 0)], none, []⟩,
 ⟨some 18, .move (.tmp 20), none, []⟩,
 ⟨some 21, .extract (.tmp 18) 0, none, []⟩,
 ⟨some 22, .extract (.tmp 18) 1, none, []⟩,
 ⟨some 1, .box (.const (.agg [.int .i64 0, .int .i64 0, .bool false, .nilsl])), none, []⟩,
 ⟨none, .store 4 (.tmp 1) (.tmp 21), none, []⟩,
 ⟨some 2, .move (.tmp 22), none, []⟩]
def k_law01_moved_r2 : List AOper := [
  ⟨some 24, .call (.const (.fn (.func 21) [] [])) [], none, []⟩,
 ⟨some 25, .call (.const (.fn (.func 50) [] [])) [.tmp 24, .const (.int .i64 2), .const (.int .i64 2), .const (.int .i64 0)], none, []⟩,
 ⟨some 23, .move (.tmp 25), none, []⟩,
 ⟨some 26, .extract (.tmp 23) 0, none, []⟩,
 ⟨some 27, .extract (.tmp 23) 1, none, []⟩,
 ⟨some 3, .box (.const (.agg [.int .i64 0, .int .i64 0, .bool false, .nilsl])), none, []⟩,
 ⟨none, .store 4 (.tmp 3) (.tmp 26), none, []⟩,
 ⟨some 4, .move (.tmp 27), none, []⟩]
def k_law01_moved_r3 : List AOper := [
  ⟨some 29, .call (.const (.fn (.func 21) [] [])) [], none, []⟩,
 ⟨some 30, .call (.const (.fn (.func 50) [] [])) [.tmp 29, .const (.int .i64 2), .const (.int .i64 0), .const (.int .i64 2)], none, []⟩,
 ⟨some 28, .move (.tmp 30), none, []⟩,
 ⟨some 31, .extract (.tmp 28) 0, none, []⟩,
 ⟨some 32, .extract (.tmp 28) 1, none, []⟩,
 ⟨some 5, .box (.const (.agg [.int .i64 0, .int .i64 0, .bool false, .nilsl])), none, []⟩,
 ⟨none, .store 4 (.tmp 5) (.tmp 31), none, []⟩,
 ⟨some 6, .move (.tmp 32), none, []⟩]
def k_law01_moved_r4 : List AOper := [
  ⟨some 34, .call (.const (.fn (.func 16) [] [])) [], none, []⟩,
 ⟨some 35, .call (.const (.fn (.func 10) [] [])) [.tmp 34], none, []⟩,
 ⟨some 33, .move (.tmp 35), none, []⟩,
 ⟨some 36, .extract (.tmp 33) 0, none, []⟩,
 ⟨some 37, .extract (.tmp 33) 1, none, []⟩,
 ⟨some 7, .move (.tmp 36), none, []⟩,
 ⟨some 8, .move (.tmp 37), none, []⟩]
def k_law01_moved_r5 : List AOper := [
  ⟨some 39, .call (.const (.fn (.func 13) [] [])) [.const (.str [102, 108, 97, 116, 10, 49, 46, 46, 46, 50, 10])], none, []⟩,
 ⟨some 38, .move (.tmp 39), none, []⟩,
 ⟨some 40, .extract (.tmp 38) 0, none, []⟩,
 ⟨some 41, .extract (.tmp 38) 1, none, []⟩,
 ⟨some 42, .extract (.tmp 38) 2, none, []⟩,
 ⟨some 9, .box (.const (.agg [.int .i64 0, .int .i64 0, .bool false, .nilsl])), none, []⟩,
 ⟨none, .store 4 (.tmp 9) (.tmp 40), none, []⟩,
 ⟨some 10, .move (.tmp 41), none, []⟩,
 ⟨some 11, .move (.tmp 42), none, []⟩]
def k_law01_moved_r6 : List AOper := [
  ⟨some 44, .call (.const (.fn (.func 13) [] [])) [.const (.str [102, 108, 97, 116, 10, 49, 120, 10])], none, []⟩,
 ⟨some 43, .move (.tmp 44), none, []⟩,
 ⟨some 45, .extract (.tmp 43) 0, none, []⟩,
 ⟨some 46, .extract (.tmp 43) 1, none, []⟩,
 ⟨some 47, .extract (.tmp 43) 2, none, []⟩,
 ⟨some 12, .box (.const (.agg [.int .i64 0, .int .i64 0, .bool false, .nilsl])), none, []⟩,
 ⟨none, .store 4 (.tmp 12) (.tmp 45), none, []⟩,
 ⟨some 13, .move (.tmp 46), none, []⟩,
 ⟨some 14, .move (.tmp 47), none, []⟩]
def k_law01_moved_r7 : List AOper := [
  ⟨some 49, .call (.const (.fn (.func 13) [] [])) [.const (.str [102, 108, 97, 116, 10])], none, []⟩,
 ⟨some 48, .move (.tmp 49), none, []⟩,
 ⟨some 50, .extract (.tmp 48) 0, none, []⟩,
 ⟨some 51, .extract (.tmp 48) 1, none, []⟩,
 ⟨some 52, .extract (.tmp 48) 2, none, []⟩,
 ⟨some 15, .box (.const (.agg [.int .i64 0, .int .i64 0, .bool false, .nilsl])), none, []⟩,
 ⟨none, .store 4 (.tmp 15) (.tmp 50), none, []⟩,
 ⟨some 16, .move (.tmp 51), none, []⟩,
 ⟨some 17, .move (.tmp 52), none, []⟩]
def k_law01_moved_r8 : List AOper := [
  ⟨some 53, .move (.tmp 2), none, []⟩,
 ⟨some 54, .bin .plain .eql (.tmp 53) (.const (.int .i64 0)), none, []⟩,
 ⟨some 55, .move (.tmp 54), none, []⟩,
 ⟨some 56, .fieldAddr 3 (.tmp 1), (some (55, true)), []⟩,
 ⟨some 57, .load none (.tmp 56), (some (55, true)), []⟩,
 ⟨some 58, .len false (.tmp 57), (some (55, true)), []⟩,
 ⟨some 59, .bin .plain .eql (.tmp 58) (.const (.int .i64 15)), (some (55, true)), []⟩,
 ⟨some 60, .pick (.tmp 55) (.tmp 59) (.const (.bool false)), none, []⟩,
 ⟨some 61, .move (.tmp 60), none, []⟩,
 ⟨some 62, .fieldAddr 3 (.tmp 1), (some (61, true)), []⟩,
 ⟨some 63, .load none (.tmp 62), (some (61, true)), []⟩,
 ⟨some 64, .slice false 1 (.tmp 63) (some (.const (.int .i64 5))) (some (.const (.int .i64 10))), (some (61, true)), []⟩,
 ⟨some 65, .buildSlice 1 [.const (.int .i64 1), .const (.int .i64 0), .const (.int .i64 0), .const (.int .i64 2), .const (.int .i64 3)], (some (61, true)), [9, 10, 11]⟩,
 ⟨some 66, .call (.const (.fn (.func 23) [] [])) [.tmp 64, .tmp 65], (some (61, true)), []⟩,
 ⟨some 67, .pick (.tmp 61) (.tmp 66) (.const (.bool false)), none, []⟩,
 ⟨some 68, .move (.tmp 67), none, []⟩,
 ⟨some 69, .move (.tmp 4), (some (68, true)), []⟩,
 ⟨some 70, .bin .plain .eql (.tmp 69) (.const (.int .i64 9)), (some (68, true)), []⟩,
 ⟨some 71, .pick (.tmp 68) (.tmp 70) (.const (.bool false)), none, []⟩,
 ⟨some 72, .move (.tmp 71), none, []⟩,
 ⟨some 73, .move (.tmp 6), (some (72, true)), []⟩,
 ⟨some 74, .bin .plain .eql (.tmp 73) (.const (.int .i64 2)), (some (72, true)), []⟩,
 ⟨some 75, .pick (.tmp 72) (.tmp 74) (.const (.bool false)), none, []⟩,
 ⟨some 76, .move (.tmp 75), none, []⟩,
 ⟨some 77, .move (.tmp 8), (some (76, true)), []⟩,
 ⟨some 78, .bin .plain .eql (.tmp 77) (.const (.int .i64 0)), (some (76, true)), []⟩,
 ⟨some 79, .pick (.tmp 76) (.tmp 78) (.const (.bool false)), none, []⟩,
 ⟨some 80, .move (.tmp 79), none, []⟩,
 ⟨some 81, .move (.tmp 7), (some (80, true)), []⟩,
 ⟨some 82, .bin .plain .eql (.tmp 81) (.const (.str [102, 108, 97, 116, 10, 49, 46, 46, 46, 50, 10])), (some (80, true)), []⟩,
 ⟨some 83, .pick (.tmp 80) (.tmp 82) (.const (.bool false)), none, []⟩,
 ⟨some 84, .move (.tmp 83), none, []⟩,
 ⟨some 85, .move (.tmp 11), (some (84, true)), []⟩,
 ⟨some 86, .bin .plain .eql (.tmp 85) (.const (.int .i64 0)), (some (84, true)), []⟩,
 ⟨some 87, .pick (.tmp 84) (.tmp 86) (.const (.bool false)), none, []⟩,
 ⟨some 88, .move (.tmp 87), none, []⟩,
 ⟨some 89, .move (.tmp 10), (some (88, true)), []⟩,
 ⟨some 90, .bin .plain .eql (.tmp 89) (.const (.int .i64 0)), (some (88, true)), []⟩,
 ⟨some 91, .pick (.tmp 88) (.tmp 90) (.const (.bool false)), none, []⟩,
 ⟨some 92, .move (.tmp 91), none, []⟩,
 ⟨some 93, .load (some (4)) (.tmp 9), (some (92, true)), []⟩,
 ⟨some 94, .call (.const (.fn (.func 16) [] [])) [], (some (92, true)), [40]⟩,
 ⟨some 95, .call (.const (.fn (.func 15) [] [])) [.tmp 93, .tmp 94], (some (92, true)), []⟩,
 ⟨some 96, .pick (.tmp 92) (.tmp 95) (.const (.bool false)), none, []⟩,
 ⟨some 97, .move (.tmp 96), none, []⟩,
 ⟨some 98, .move (.tmp 14), (some (97, true)), []⟩,
 ⟨some 99, .bin .plain .eql (.tmp 98) (.const (.int .i64 3)), (some (97, true)), []⟩,
 ⟨some 100, .pick (.tmp 97) (.tmp 99) (.const (.bool false)), none, []⟩,
 ⟨some 101, .move (.tmp 100), none, []⟩,
 ⟨some 102, .move (.tmp 13), (some (101, true)), []⟩,
 ⟨some 103, .bin .plain .eql (.tmp 102) (.const (.int .i64 2)), (some (101, true)), []⟩,
 ⟨some 104, .pick (.tmp 101) (.tmp 103) (.const (.bool false)), none, []⟩,
 ⟨some 105, .move (.tmp 104), none, []⟩,
 ⟨some 106, .move (.tmp 17), (some (105, true)), []⟩,
 ⟨some 107, .bin .plain .eql (.tmp 106) (.const (.int .i64 3)), (some (105, true)), []⟩,
 ⟨some 108, .pick (.tmp 105) (.tmp 107) (.const (.bool false)), none, []⟩,
 ⟨some 109, .move (.tmp 108), none, []⟩,
 ⟨some 110, .move (.tmp 16), (some (109, true)), []⟩,
 ⟨some 111, .bin .plain .eql (.tmp 110) (.const (.int .i64 2)), (some (109, true)), []⟩,
 ⟨some 112, .pick (.tmp 109) (.tmp 111) (.const (.bool false)), none, []⟩,
 ⟨some 0, .move (.tmp 112), none, []⟩]
def k_law01_moved_r8s : List (List AOper) := [
  [
  ⟨some 53, .move (.tmp 2), none, []⟩], 
  [
  ⟨some 54, .bin .plain .eql (.tmp 53) (.const (.int .i64 0)), none, []⟩], 
  [
  ⟨some 55, .move (.tmp 54), none, []⟩], 
  [
  ⟨some 56, .fieldAddr 3 (.tmp 1), (some (55, true)), []⟩], 
  [
  ⟨some 57, .load none (.tmp 56), (some (55, true)), []⟩], 
  [
  ⟨some 58, .len false (.tmp 57), (some (55, true)), []⟩], 
  [
  ⟨some 59, .bin .plain .eql (.tmp 58) (.const (.int .i64 15)), (some (55, true)), []⟩], 
  [
  ⟨some 60, .pick (.tmp 55) (.tmp 59) (.const (.bool false)), none, []⟩], 
  [
  ⟨some 61, .move (.tmp 60), none, []⟩], 
  [
  ⟨some 62, .fieldAddr 3 (.tmp 1), (some (61, true)), []⟩,
 ⟨some 63, .load none (.tmp 62), (some (61, true)), []⟩,
 ⟨some 64, .slice false 1 (.tmp 63) (some (.const (.int .i64 5))) (some (.const (.int .i64 10))), (some (61, true)), []⟩,
 ⟨some 65, .buildSlice 1 [.const (.int .i64 1), .const (.int .i64 0), .const (.int .i64 0), .const (.int .i64 2), .const (.int .i64 3)], (some (61, true)), [9, 10, 11]⟩], 
  [
  ⟨some 66, .call (.const (.fn (.func 23) [] [])) [.tmp 64, .tmp 65], (some (61, true)), []⟩], 
  [
  ⟨some 67, .pick (.tmp 61) (.tmp 66) (.const (.bool false)), none, []⟩], 
  [
  ⟨some 68, .move (.tmp 67), none, []⟩], 
  [
  ⟨some 69, .move (.tmp 4), (some (68, true)), []⟩], 
  [
  ⟨some 70, .bin .plain .eql (.tmp 69) (.const (.int .i64 9)), (some (68, true)), []⟩], 
  [
  ⟨some 71, .pick (.tmp 68) (.tmp 70) (.const (.bool false)), none, []⟩], 
  [
  ⟨some 72, .move (.tmp 71), none, []⟩], 
  [
  ⟨some 73, .move (.tmp 6), (some (72, true)), []⟩], 
  [
  ⟨some 74, .bin .plain .eql (.tmp 73) (.const (.int .i64 2)), (some (72, true)), []⟩], 
  [
  ⟨some 75, .pick (.tmp 72) (.tmp 74) (.const (.bool false)), none, []⟩], 
  [
  ⟨some 76, .move (.tmp 75), none, []⟩], 
  [
  ⟨some 77, .move (.tmp 8), (some (76, true)), []⟩], 
  [
  ⟨some 78, .bin .plain .eql (.tmp 77) (.const (.int .i64 0)), (some (76, true)), []⟩], 
  [
  ⟨some 79, .pick (.tmp 76) (.tmp 78) (.const (.bool false)), none, []⟩], 
  [
  ⟨some 80, .move (.tmp 79), none, []⟩], 
  [
  ⟨some 81, .move (.tmp 7), (some (80, true)), []⟩], 
  [
  ⟨some 82, .bin .plain .eql (.tmp 81) (.const (.str [102, 108, 97, 116, 10, 49, 46, 46, 46, 50, 10])), (some (80, true)), []⟩], 
  [
  ⟨some 83, .pick (.tmp 80) (.tmp 82) (.const (.bool false)), none, []⟩], 
  [
  ⟨some 84, .move (.tmp 83), none, []⟩], 
  [
  ⟨some 85, .move (.tmp 11), (some (84, true)), []⟩], 
  [
  ⟨some 86, .bin .plain .eql (.tmp 85) (.const (.int .i64 0)), (some (84, true)), []⟩], 
  [
  ⟨some 87, .pick (.tmp 84) (.tmp 86) (.const (.bool false)), none, []⟩], 
  [
  ⟨some 88, .move (.tmp 87), none, []⟩], 
  [
  ⟨some 89, .move (.tmp 10), (some (88, true)), []⟩], 
  [
  ⟨some 90, .bin .plain .eql (.tmp 89) (.const (.int .i64 0)), (some (88, true)), []⟩], 
  [
  ⟨some 91, .pick (.tmp 88) (.tmp 90) (.const (.bool false)), none, []⟩], 
  [
  ⟨some 92, .move (.tmp 91), none, []⟩], 
  [
  ⟨some 93, .load (some (4)) (.tmp 9), (some (92, true)), []⟩,
 ⟨some 94, .call (.const (.fn (.func 16) [] [])) [], (some (92, true)), [40]⟩], 
  [
  ⟨some 95, .call (.const (.fn (.func 15) [] [])) [.tmp 93, .tmp 94], (some (92, true)), []⟩], 
  [
  ⟨some 96, .pick (.tmp 92) (.tmp 95) (.const (.bool false)), none, []⟩], 
  [
  ⟨some 97, .move (.tmp 96), none, []⟩], 
  [
  ⟨some 98, .move (.tmp 14), (some (97, true)), []⟩], 
  [
  ⟨some 99, .bin .plain .eql (.tmp 98) (.const (.int .i64 3)), (some (97, true)), []⟩], 
  [
  ⟨some 100, .pick (.tmp 97) (.tmp 99) (.const (.bool false)), none, []⟩], 
  [
  ⟨some 101, .move (.tmp 100), none, []⟩], 
  [
  ⟨some 102, .move (.tmp 13), (some (101, true)), []⟩], 
  [
  ⟨some 103, .bin .plain .eql (.tmp 102) (.const (.int .i64 2)), (some (101, true)), []⟩], 
  [
  ⟨some 104, .pick (.tmp 101) (.tmp 103) (.const (.bool false)), none, []⟩], 
  [
  ⟨some 105, .move (.tmp 104), none, []⟩], 
  [
  ⟨some 106, .move (.tmp 17), (some (105, true)), []⟩], 
  [
  ⟨some 107, .bin .plain .eql (.tmp 106) (.const (.int .i64 3)), (some (105, true)), []⟩], 
  [
  ⟨some 108, .pick (.tmp 105) (.tmp 107) (.const (.bool false)), none, []⟩], 
  [
  ⟨some 109, .move (.tmp 108), none, []⟩], 
  [
  ⟨some 110, .move (.tmp 16), (some (109, true)), []⟩], 
  [
  ⟨some 111, .bin .plain .eql (.tmp 110) (.const (.int .i64 2)), (some (109, true)), []⟩], 
  [
  ⟨some 112, .pick (.tmp 109) (.tmp 111) (.const (.bool false)), none, []⟩], 
  [
  ⟨some 0, .move (.tmp 112), none, []⟩]]
theorem k_law01_moved_r8_sg : segs k_law01_moved_r8 = k_law01_moved_r8s := by kernel_rfl
theorem k_law01_moved_r8_st : statOK k_law01_moved_r8 = true := by kernel_rfl
def k_law01_moved : AFun := { params := 0, ntmps := 113, body := (.seq (.reg k_law01_moved_r0 false) (.seq (.reg k_law01_moved_r1 false) (.seq (.reg k_law01_moved_r2 false) (.seq (.reg k_law01_moved_r3 false) (.seq (.reg k_law01_moved_r4 false) (.seq (.reg k_law01_moved_r5 false) (.seq (.reg k_law01_moved_r6 false) (.seq (.reg k_law01_moved_r7 false) (.seq (.reg k_law01_moved_r8 true) .ret))))))))), res := [.tmp 0] }
theorem k_law01_moved_ok : cfun Tryd.prog Tryd.f26 = k_law01_moved := by kernel_rfl

def k_slices_Chunk_int_int_r0 : List AOper := [
  ⟨some 2, .box (.tmp 0), none, []⟩,
 ⟨some 3, .box (.tmp 1), none, []⟩,
 ⟨some 4, .move (.const (.nilfn)), none, []⟩]
def k_slices_Chunk_int_int_r1 : List AOper := [
  ⟨some 5, .load none (.tmp 3), none, []⟩,
 ⟨some 6, .bin .plain .lss (.tmp 5) (.const (.int .i64 1)), none, []⟩]
def k_slices_Chunk_int_int_r2 : List AOper := [
  ⟨some 7, .makeIface 9 (.const (.str [99, 97, 110, 110, 111, 116, 32, 98, 101, 32, 108, 101, 115, 115, 32, 116, 104, 97, 110, 32, 49])), none, []⟩,
 ⟨none, .bad, none, []⟩]
def k_slices_Chunk_int_int_r3 : List AOper := [
  ⟨some 8, .makeFunc (.func 54) [] [.tmp 2, .tmp 3], none, []⟩,
 ⟨some 4, .move (.tmp 8), none, []⟩]
def k_slices_Chunk_int_int : AFun := { params := 2, ntmps := 9, body := (.seq (.reg k_slices_Chunk_int_int_r0 false) (.seq (.seq (.reg k_slices_Chunk_int_int_r1 false) (.cond (.tmp 6) (.reg k_slices_Chunk_int_int_r2 false) .skip)) (.seq (.reg k_slices_Chunk_int_int_r3 false) .ret))), res := [.tmp 4] }
theorem k_slices_Chunk_int_int_ok : cfun Tryd.prog Tryd.f32 = k_slices_Chunk_int_int := by kernel_rfl

def k_field_character_r0 : List AOper := [
  ⟨some 2, .move (.const (.int .u8 0)), none, []⟩]
def k_field_character_r1 : List AOper := [
  ⟨some 3, .move (.tmp 0), none, []⟩,
 ⟨some 4, .bin .plain .eql (.tmp 3) (.const (.int .i64 0)), none, []⟩]
def k_field_character_r2 : List AOper := [
  ⟨some 2, .move (.const (.int .u8 46)), none, []⟩]
def k_field_character_r3 : List AOper := [
  ⟨some 5, .move (.tmp 0), none, []⟩,
 ⟨some 6, .bin .plain .add (.const (.int .i64 48)) (.tmp 5), none, []⟩,
 ⟨some 7, .toInt .u8 (.tmp 6), none, []⟩,
 ⟨some 2, .move (.tmp 7), none, []⟩]
def k_field_character : AFun := { params := 1, ntmps := 8, body := (.seq (.reg k_field_character_r0 false) (.seq (.seq (.reg k_field_character_r1 false) (.cond (.tmp 4) (.seq (.reg k_field_character_r2 false) .ret) .skip)) (.seq (.reg k_field_character_r3 false) .ret))), res := [.tmp 2] }
theorem k_field_character_ok : cfun Tryd.prog Tryd.f33 = k_field_character := by kernel_rfl

def k_field_read_r0 : List AOper := [
  ⟨some 2, .box (.const (.agg [.int .i64 0, .int .i64 0, .bool false, .nilsl])), none, []⟩,
 ⟨some 3, .move (.const (.int .i64 0)), none, []⟩]
def k_field_read_r1 : List AOper := [
  ⟨some 10, .move (.tmp 0), none, []⟩,
 ⟨some 11, .call (.const (.fn (.func 57) [] [])) [.tmp 10, .const (.str [10])], none, []⟩,
 ⟨some 4, .move (.tmp 11), none, []⟩]
def k_field_read_r2 : List AOper := [
  ⟨some 12, .move (.tmp 4), none, []⟩,
 ⟨some 13, .len false (.tmp 12), none, []⟩,
 ⟨some 14, .bin .plain .sub (.tmp 13) (.const (.int .i64 1)), none, []⟩,
 ⟨some 5, .move (.tmp 14), none, []⟩]
def k_field_read_r3 : List AOper := [
  ⟨some 15, .move (.tmp 5), none, []⟩,
 ⟨some 16, .bin .plain .eql (.tmp 15) (.const (.int .i64 0)), none, []⟩,
 ⟨some 17, .move (.tmp 16), none, []⟩,
 ⟨some 18, .move (.tmp 4), (some (17, false)), []⟩,
 ⟨some 19, .indexAddr 1 (.tmp 18) (.const (.int .i64 0)), (some (17, false)), []⟩,
 ⟨some 20, .load none (.tmp 19), (some (17, false)), []⟩,
 ⟨some 21, .bin .plain .neq (.tmp 20) (.const (.str [114, 111, 117, 110, 100])), (some (17, false)), []⟩,
 ⟨some 22, .move (.tmp 21), (some (17, false)), []⟩,
 ⟨some 23, .move (.tmp 4), (some (22, true)), []⟩,
 ⟨some 24, .indexAddr 1 (.tmp 23) (.const (.int .i64 0)), (some (22, true)), []⟩,
 ⟨some 25, .load none (.tmp 24), (some (22, true)), []⟩,
 ⟨some 26, .bin .plain .neq (.tmp 25) (.const (.str [102, 108, 97, 116])), (some (22, true)), []⟩,
 ⟨some 27, .pick (.tmp 22) (.tmp 26) (.const (.bool false)), (some (17, false)), []⟩,
 ⟨some 28, .pick (.tmp 17) (.const (.bool true)) (.tmp 27), none, []⟩]
def k_field_read_r4 : List AOper := [
  ⟨some 29, .load (some (4)) (.tmp 2), none, []⟩,
 ⟨none, .store 4 (.tmp 2) (.tmp 29), none, []⟩,
 ⟨some 3, .move (.const (.int .i64 1)), none, []⟩]
def k_field_read_r5 : List AOper := [
  ⟨some 30, .move (.tmp 4), none, []⟩,
 ⟨some 31, .indexAddr 1 (.tmp 30) (.const (.int .i64 0)), none, []⟩,
 ⟨some 32, .load none (.tmp 31), none, []⟩,
 ⟨some 33, .bin .plain .eql (.tmp 32) (.const (.str [114, 111, 117, 110, 100])), none, []⟩,
 ⟨some 34, .fieldAddr 2 (.tmp 2), none, []⟩,
 ⟨none, .store 1 (.tmp 34) (.tmp 33), none, []⟩]
def k_field_read_r6 : List AOper := [
  ⟨some 35, .move (.tmp 5), none, []⟩,
 ⟨some 36, .bin .plain .sub (.tmp 35) (.const (.int .i64 1)), none, []⟩,
 ⟨some 37, .fieldAddr 1 (.tmp 2), none, []⟩,
 ⟨none, .store 1 (.tmp 37) (.tmp 36), none, []⟩]
def k_field_read_r7 : List AOper := [
  ⟨some 38, .move (.tmp 4), none, []⟩,
 ⟨some 39, .move (.tmp 5), none, []⟩,
 ⟨some 40, .slice false 1 (.tmp 38) (some (.const (.int .i64 1))) (some (.tmp 39)), none, []⟩,
 ⟨some 41, .len false (.tmp 40), none, []⟩,
 ⟨some 42, .move (.const (.int .i64 0)), none, []⟩]
def k_field_read_r8 : List AOper := [
  ⟨some 43, .bin .plain .lss (.tmp 42) (.tmp 41), none, []⟩]
def k_field_read_r9 : List AOper := [
  ⟨some 44, .move (.tmp 42), none, []⟩,
 ⟨some 45, .indexAddr 1 (.tmp 40) (.tmp 42), none, []⟩,
 ⟨some 46, .load none (.tmp 45), none, []⟩,
 ⟨some 6, .move (.tmp 44), none, []⟩,
 ⟨some 7, .move (.tmp 46), none, []⟩]
def k_field_read_r10 : List AOper := [
  ⟨some 47, .move (.tmp 7), none, []⟩,
 ⟨some 48, .fieldAddr 0 (.tmp 2), none, []⟩,
 ⟨some 49, .load none (.tmp 48), none, []⟩,
 ⟨some 50, .call (.const (.fn (.func 58) [] [])) [.tmp 47, .tmp 49], none, []⟩,
 ⟨some 51, .not (.tmp 50), none, []⟩]
def k_field_read_r11 : List AOper := [
  ⟨some 52, .load (some (4)) (.tmp 2), none, []⟩,
 ⟨some 53, .move (.tmp 6), none, []⟩,
 ⟨some 54, .bin .plain .add (.tmp 53) (.const (.int .i64 2)), none, []⟩,
 ⟨none, .store 4 (.tmp 2) (.tmp 52), none, []⟩,
 ⟨some 3, .move (.tmp 54), none, []⟩]
def k_field_read_r12 : List AOper := [
  ⟨some 55, .move (.tmp 7), none, []⟩,
 ⟨some 56, .len true (.tmp 55), none, []⟩,
 ⟨some 57, .fieldAddr 0 (.tmp 2), none, []⟩,
 ⟨none, .store 1 (.tmp 57) (.tmp 56), none, []⟩]
def k_field_read_r13 : List AOper := [
  ⟨some 58, .move (.tmp 7), none, []⟩,
 ⟨some 59, .strToBytes (.tmp 58), none, []⟩,
 ⟨some 60, .len false (.tmp 59), none, []⟩,
 ⟨some 61, .move (.const (.int .i64 0)), none, []⟩]
def k_field_read_r14 : List AOper := [
  ⟨some 62, .bin .plain .lss (.tmp 61) (.tmp 60), none, []⟩]
def k_field_read_r15 : List AOper := [
  ⟨some 63, .indexAddr 1 (.tmp 59) (.tmp 61), none, []⟩,
 ⟨some 64, .load none (.tmp 63), none, []⟩,
 ⟨some 9, .move (.tmp 64), none, []⟩]
def k_field_read_r16 : List AOper := [
  ⟨some 65, .fieldAddr 3 (.tmp 2), none, []⟩,
 ⟨some 66, .load none (.tmp 65), none, []⟩,
 ⟨some 67, .move (.tmp 9), none, [0, 1]⟩,
 ⟨some 68, .call (.const (.fn (.func 59) [] [])) [.tmp 67], none, [0, 1]⟩,
 ⟨some 69, .buildSlice 1 [.tmp 68], none, [0, 1]⟩,
 ⟨some 70, .append 1 8 false (.tmp 66) (.tmp 69), none, []⟩,
 ⟨some 71, .fieldAddr 3 (.tmp 2), none, []⟩,
 ⟨none, .store 1 (.tmp 71) (.tmp 70), none, []⟩]
def k_field_read_r16s : List (List AOper) := [
  [
  ⟨some 65, .fieldAddr 3 (.tmp 2), none, []⟩,
 ⟨some 66, .load none (.tmp 65), none, []⟩,
 ⟨some 67, .move (.tmp 9), none, [0, 1]⟩,
 ⟨some 68, .call (.const (.fn (.func 59) [] [])) [.tmp 67], none, [0, 1]⟩,
 ⟨some 69, .buildSlice 1 [.tmp 68], none, [0, 1]⟩], 
  [
  ⟨some 70, .append 1 8 false (.tmp 66) (.tmp 69), none, []⟩], 
  [
  ⟨some 71, .fieldAddr 3 (.tmp 2), none, []⟩], 
  [
  ⟨none, .store 1 (.tmp 71) (.tmp 70), none, []⟩]]
theorem k_field_read_r16_sg : segs k_field_read_r16 = k_field_read_r16s := by kernel_rfl
theorem k_field_read_r16_st : statOK k_field_read_r16 = true := by kernel_rfl
def k_field_read_r17 : List AOper := [
  ⟨some 72, .bin .plain .add (.tmp 61) (.const (.int .i64 1)), none, []⟩,
 ⟨some 61, .move (.tmp 72), none, []⟩]
def k_field_read_r18 : ACode := (.seq (.reg k_field_read_r14 false) (.seq (.cond (.tmp 62) .skip (.exit 2)) (.seq (.block 3 (.seq (.reg k_field_read_r15 false) (.reg k_field_read_r16 true))) (.reg k_field_read_r17 false))))
def k_field_read_r19 : List AOper := [
  ⟨some 73, .bin .plain .add (.tmp 42) (.const (.int .i64 1)), none, []⟩,
 ⟨some 42, .move (.tmp 73), none, []⟩]
def k_field_read_r20 : ACode := (.seq (.reg k_field_read_r8 false) (.seq (.cond (.tmp 43) .skip (.exit 0)) (.seq (.block 1 (.seq (.reg k_field_read_r9 false) (.seq (.seq (.reg k_field_read_r10 false) (.cond (.tmp 51) (.seq (.reg k_field_read_r11 false) .ret) .skip)) (.seq (.reg k_field_read_r12 false) (.seq (.reg k_field_read_r13 false) (.block 2 (.loop k_field_read_r18))))))) (.reg k_field_read_r19 false))))
def k_field_read_r21 : List AOper := [
  ⟨some 74, .fieldAddr 1 (.tmp 2), none, []⟩,
 ⟨some 75, .load none (.tmp 74), none, []⟩,
 ⟨some 76, .bin .plain .eql (.tmp 75) (.const (.int .i64 0)), none, []⟩,
 ⟨some 77, .move (.tmp 76), none, []⟩,
 ⟨some 78, .move (.tmp 4), (some (77, false)), []⟩,
 ⟨some 79, .move (.tmp 5), (some (77, false)), []⟩,
 ⟨some 80, .indexAddr 1 (.tmp 78) (.tmp 79), (some (77, false)), []⟩,
 ⟨some 81, .load none (.tmp 80), (some (77, false)), []⟩,
 ⟨some 82, .bin .plain .neq (.tmp 81) (.const (.str [])), (some (77, false)), []⟩,
 ⟨some 83, .pick (.tmp 77) (.const (.bool true)) (.tmp 82), none, []⟩]
def k_field_read_r22 : List AOper := [
  ⟨some 84, .load (some (4)) (.tmp 2), none, []⟩,
 ⟨some 85, .move (.tmp 4), none, []⟩,
 ⟨some 86, .len false (.tmp 85), none, []⟩,
 ⟨none, .store 4 (.tmp 2) (.tmp 84), none, []⟩,
 ⟨some 3, .move (.tmp 86), none, []⟩]
def k_field_read_r23 : List AOper := [
  ⟨some 87, .load (some (4)) (.tmp 2), none, []⟩,
 ⟨none, .store 4 (.tmp 2) (.tmp 87), none, []⟩,
 ⟨some 3, .move (.const (.int .i64 0)), none, []⟩]
def k_field_read : AFun := { params := 1, ntmps := 88, body := (.seq (.reg k_field_read_r0 false) (.seq (.reg k_field_read_r1 false) (.seq (.reg k_field_read_r2 false) (.seq (.seq (.reg k_field_read_r3 false) (.cond (.tmp 28) (.seq (.reg k_field_read_r4 false) .ret) .skip)) (.seq (.reg k_field_read_r5 false) (.seq (.reg k_field_read_r6 false) (.seq (.seq (.reg k_field_read_r7 false) (.block 0 (.loop k_field_read_r20))) (.seq (.seq (.reg k_field_read_r21 false) (.cond (.tmp 83) (.seq (.reg k_field_read_r22 false) .ret) .skip)) (.seq (.reg k_field_read_r23 false) .ret))))))))), res := [.cell 2 (some ((some (4)))), .tmp 3] }
theorem k_field_read_ok : cfun Tryd.prog Tryd.f35 = k_field_read := by kernel_rfl

def k_ref01_SameInts_r0 : List AOper := [
  ⟨some 4, .move (.const (.bool false)), none, []⟩]
def k_ref01_SameInts_r1 : List AOper := [
  ⟨some 6, .move (.tmp 0), none, []⟩,
 ⟨some 7, .len false (.tmp 6), none, []⟩,
 ⟨some 8, .move (.tmp 1), none, []⟩,
 ⟨some 9, .len false (.tmp 8), none, []⟩,
 ⟨some 10, .bin .plain .neq (.tmp 7) (.tmp 9), none, []⟩]
def k_ref01_SameInts_r2 : List AOper := [
  ⟨some 4, .move (.const (.bool false)), none, []⟩]
def k_ref01_SameInts_r3 : List AOper := [
  ⟨some 5, .move (.const (.int .i64 0)), none, []⟩]
def k_ref01_SameInts_r4 : List AOper := [
  ⟨some 11, .move (.tmp 5), none, []⟩,
 ⟨some 12, .move (.tmp 0), none, []⟩,
 ⟨some 13, .len false (.tmp 12), none, []⟩,
 ⟨some 14, .bin .plain .lss (.tmp 11) (.tmp 13), none, []⟩]
def k_ref01_SameInts_r5 : List AOper := [
  ⟨some 17, .move (.tmp 0), none, []⟩,
 ⟨some 18, .move (.tmp 5), none, [0]⟩,
 ⟨some 19, .indexAddr 1 (.tmp 17) (.tmp 18), none, []⟩,
 ⟨some 20, .load none (.tmp 19), none, []⟩,
 ⟨some 21, .move (.tmp 1), none, [0, 1, 2, 3]⟩,
 ⟨some 22, .move (.tmp 5), none, [0, 1, 2, 3, 4]⟩,
 ⟨some 23, .indexAddr 1 (.tmp 21) (.tmp 22), none, [0, 1, 2, 3]⟩,
 ⟨some 24, .load none (.tmp 23), none, [0, 1, 2, 3]⟩,
 ⟨some 25, .bin .plain .neq (.tmp 20) (.tmp 24), none, []⟩]
def k_ref01_SameInts_r5s : List (List AOper) := [
  [
  ⟨some 17, .move (.tmp 0), none, []⟩,
 ⟨some 18, .move (.tmp 5), none, [0]⟩,
 ⟨some 19, .indexAddr 1 (.tmp 17) (.tmp 18), none, []⟩,
 ⟨some 20, .load none (.tmp 19), none, []⟩,
 ⟨some 21, .move (.tmp 1), none, [0, 1, 2, 3]⟩,
 ⟨some 22, .move (.tmp 5), none, [0, 1, 2, 3, 4]⟩,
 ⟨some 23, .indexAddr 1 (.tmp 21) (.tmp 22), none, [0, 1, 2, 3]⟩,
 ⟨some 24, .load none (.tmp 23), none, [0, 1, 2, 3]⟩], 
  [
  ⟨some 25, .bin .plain .neq (.tmp 20) (.tmp 24), none, []⟩]]
theorem k_ref01_SameInts_r5_sg : segs k_ref01_SameInts_r5 = k_ref01_SameInts_r5s := by kernel_rfl
theorem k_ref01_SameInts_r5_st : statOK k_ref01_SameInts_r5 = true := by kernel_rfl
def k_ref01_SameInts_r6 : List AOper := [
  ⟨some 4, .move (.const (.bool false)), none, []⟩]
def k_ref01_SameInts_r7 : List AOper := [
  ⟨some 15, .move (.tmp 5), none, []⟩,
 ⟨some 16, .bin .plain .add (.tmp 15) (.const (.int .i64 1)), none, []⟩,
 ⟨some 5, .move (.tmp 16), none, []⟩]
def k_ref01_SameInts_r8 : ACode := (.seq (.seq (.reg k_ref01_SameInts_r4 false) (.cond (.tmp 14) .skip (.exit 0))) (.seq (.block 1 (.seq (.reg k_ref01_SameInts_r5 true) (.cond (.tmp 25) (.seq (.reg k_ref01_SameInts_r6 false) .ret) .skip))) (.reg k_ref01_SameInts_r7 false)))
def k_ref01_SameInts_r9 : List AOper := [
  ⟨some 4, .move (.const (.bool true)), none, []⟩]
def k_ref01_SameInts : AFun := { params := 2, ntmps := 26, body := (.seq (.reg k_ref01_SameInts_r0 false) (.seq (.seq (.reg k_ref01_SameInts_r1 false) (.cond (.tmp 10) (.seq (.reg k_ref01_SameInts_r2 false) .ret) .skip)) (.seq (.seq (.reg k_ref01_SameInts_r3 false) (.block 0 (.loop k_ref01_SameInts_r8))) (.seq (.reg k_ref01_SameInts_r9 false) .ret)))), res := [.tmp 4] }
theorem k_ref01_SameInts_ok : cfun Tryd.prog Tryd.f38 = k_ref01_SameInts := by kernel_rfl

def k_field_bounds_r0 : List AOper := [
  ⟨some 2, .box (.tmp 0), none, []⟩,
 ⟨some 4, .move (.const (.bool false)), none, []⟩]
def k_field_bounds_r1 : List AOper := [
  ⟨some 5, .move (.tmp 1), none, []⟩,
 ⟨some 6, .len false (.tmp 5), none, []⟩,
 ⟨some 7, .fieldAddr 3 (.tmp 2), none, []⟩,
 ⟨some 8, .load none (.tmp 7), none, []⟩,
 ⟨some 9, .len false (.tmp 8), none, []⟩,
 ⟨some 10, .bin .plain .eql (.tmp 6) (.tmp 9), none, []⟩,
 ⟨some 11, .move (.tmp 10), none, []⟩,
 ⟨some 12, .move (.tmp 1), (some (11, true)), []⟩,
 ⟨some 13, .call (.const (.fn (.func 42) [] [])) [.tmp 12], (some (11, true)), []⟩,
 ⟨some 14, .bin .plain .eql (.tmp 13) (.const (.int .i64 0)), (some (11, true)), []⟩,
 ⟨some 15, .pick (.tmp 11) (.tmp 14) (.const (.bool false)), none, []⟩,
 ⟨some 4, .move (.tmp 15), none, []⟩]
def k_field_bounds : AFun := { params := 2, ntmps := 16, body := (.seq (.reg k_field_bounds_r0 false) (.seq (.reg k_field_bounds_r1 false) .ret)), res := [.tmp 4] }
theorem k_field_bounds_ok : cfun Tryd.prog Tryd.f46 = k_field_bounds := by kernel_rfl

def k_field_Influence_r0 : List AOper := [
  ⟨some 4, .box (.tmp 0), none, []⟩,
 ⟨some 8, .box (.const (.agg [.int .i64 0, .int .i64 0])), none, []⟩,
 ⟨some 9, .move (.const (.int .i64 0)), none, []⟩]
def k_field_Influence_r1 : List AOper := [
  ⟨some 11, .load (some (4)) (.tmp 4), none, []⟩,
 ⟨some 12, .move (.tmp 1), none, []⟩,
 ⟨some 13, .move (.tmp 2), none, []⟩,
 ⟨some 14, .move (.tmp 3), none, []⟩,
 ⟨some 15, .buildSlice 1 [.tmp 13, .tmp 14], none, []⟩,
 ⟨some 16, .call (.const (.fn (.func 68) [] [])) [.tmp 11, .tmp 12, .tmp 15], none, []⟩,
 ⟨some 10, .move (.tmp 16), none, []⟩]
def k_field_Influence_r2 : List AOper := [
  ⟨some 17, .move (.tmp 10), none, []⟩,
 ⟨some 18, .bin .plain .neq (.tmp 17) (.const (.int .i64 0)), none, []⟩]
def k_field_Influence_r3 : List AOper := [
  ⟨some 19, .build [.int .i64 0, .int .i64 0] [], none, []⟩,
 ⟨some 20, .move (.tmp 10), none, []⟩,
 ⟨none, .store 2 (.tmp 8) (.tmp 19), none, []⟩,
 ⟨some 9, .move (.tmp 20), none, []⟩]
def k_field_Influence_r4 : List AOper := [
  ⟨some 21, .load (some (4)) (.tmp 4), none, []⟩,
 ⟨some 22, .move (.tmp 1), none, []⟩,
 ⟨some 23, .move (.tmp 2), none, []⟩,
 ⟨some 24, .move (.tmp 3), none, []⟩,
 ⟨some 25, .call (.const (.fn (.func 69) [] [])) [.tmp 21, .tmp 22, .tmp 23, .tmp 24], none, []⟩,
 ⟨none, .store 2 (.tmp 8) (.tmp 25), none, []⟩,
 ⟨some 9, .move (.const (.int .i64 0)), none, []⟩]
def k_field_Influence : AFun := { params := 4, ntmps := 26, body := (.seq (.reg k_field_Influence_r0 false) (.seq (.seq (.reg k_field_Influence_r1 false) (.seq (.reg k_field_Influence_r2 false) (.cond (.tmp 18) (.seq (.reg k_field_Influence_r3 false) .ret) .skip))) (.seq (.reg k_field_Influence_r4 false) .ret))), res := [.cell 8 (some ((some (2)))), .tmp 9] }
theorem k_field_Influence_ok : cfun Tryd.prog Tryd.f48 = k_field_Influence := by kernel_rfl

def k_field_Amplification_r0 : List AOper := [
  ⟨some 5, .box (.tmp 0), none, []⟩,
 ⟨some 10, .box (.const (.agg [.int .i64 0, .int .i64 0])), none, []⟩,
 ⟨some 11, .move (.const (.int .i64 0)), none, []⟩]
def k_field_Amplification_r1 : List AOper := [
  ⟨some 15, .load (some (4)) (.tmp 5), none, []⟩,
 ⟨some 16, .move (.tmp 1), none, []⟩,
 ⟨some 17, .move (.tmp 2), none, []⟩,
 ⟨some 18, .move (.tmp 3), none, []⟩,
 ⟨some 19, .move (.tmp 4), none, []⟩,
 ⟨some 20, .buildSlice 1 [.tmp 17, .tmp 18, .tmp 19], none, []⟩,
 ⟨some 21, .call (.const (.fn (.func 68) [] [])) [.tmp 15, .tmp 16, .tmp 20], none, []⟩,
 ⟨some 12, .move (.tmp 21), none, []⟩]
def k_field_Amplification_r2 : List AOper := [
  ⟨some 22, .move (.tmp 12), none, []⟩,
 ⟨some 23, .bin .plain .neq (.tmp 22) (.const (.int .i64 0)), none, []⟩]
def k_field_Amplification_r3 : List AOper := [
  ⟨some 24, .build [.int .i64 0, .int .i64 0] [], none, []⟩,
 ⟨some 25, .move (.tmp 12), none, []⟩,
 ⟨none, .store 2 (.tmp 10) (.tmp 24), none, []⟩,
 ⟨some 11, .move (.tmp 25), none, []⟩]
def k_field_Amplification_r4 : List AOper := [
  ⟨some 26, .load (some (4)) (.tmp 5), none, []⟩,
 ⟨some 27, .move (.tmp 1), none, []⟩,
 ⟨some 28, .move (.tmp 4), none, []⟩,
 ⟨some 29, .move (.tmp 2), none, []⟩,
 ⟨some 30, .call (.const (.fn (.func 69) [] [])) [.tmp 26, .tmp 27, .tmp 28, .tmp 29], none, []⟩,
 ⟨some 13, .box (.const (.agg [.int .i64 0, .int .i64 0])), none, []⟩,
 ⟨none, .store 2 (.tmp 13) (.tmp 30), none, []⟩]
def k_field_Amplification_r5 : List AOper := [
  ⟨some 31, .fieldAddr 0 (.tmp 13), none, []⟩,
 ⟨some 32, .load none (.tmp 31), none, []⟩,
 ⟨some 33, .bin .plain .lss (.tmp 32) (.const (.int .i64 1)), none, []⟩]
def k_field_Amplification_r6 : List AOper := [
  ⟨some 34, .build [.int .i64 0, .int .i64 0] [], none, []⟩,
 ⟨none, .store 2 (.tmp 10) (.tmp 34), none, []⟩,
 ⟨some 11, .move (.const (.int .i64 10)), none, []⟩]
def k_field_Amplification_r7 : List AOper := [
  ⟨some 35, .load (some (4)) (.tmp 5), none, []⟩,
 ⟨some 36, .move (.tmp 1), none, []⟩,
 ⟨some 37, .move (.tmp 3), none, []⟩,
 ⟨some 38, .move (.tmp 2), none, []⟩,
 ⟨some 39, .call (.const (.fn (.func 69) [] [])) [.tmp 35, .tmp 36, .tmp 37, .tmp 38], none, []⟩,
 ⟨some 14, .box (.const (.agg [.int .i64 0, .int .i64 0])), none, []⟩,
 ⟨none, .store 2 (.tmp 14) (.tmp 39), none, []⟩]
def k_field_Amplification_r8 : List AOper := [
  ⟨some 40, .fieldAddr 0 (.tmp 14), none, []⟩,
 ⟨some 41, .load none (.tmp 40), none, []⟩,
 ⟨some 42, .bin .plain .mul (.const (.int .i64 1000)) (.tmp 41), none, []⟩,
 ⟨some 43, .fieldAddr 1 (.tmp 13), none, [0, 1, 2]⟩,
 ⟨some 44, .load none (.tmp 43), none, [0, 1, 2]⟩,
 ⟨some 45, .call (.const (.fn (.func 65) [] [])) [.tmp 42, .tmp 44], none, []⟩,
 ⟨some 46, .fieldAddr 1 (.tmp 14), none, [0, 1, 2, 3, 4, 5]⟩,
 ⟨some 47, .load none (.tmp 46), none, [0, 1, 2, 3, 4, 5]⟩,
 ⟨some 48, .bin .plain .mul (.const (.int .i64 1000)) (.tmp 47), none, [0, 1, 2, 3, 4, 5]⟩,
 ⟨some 49, .fieldAddr 0 (.tmp 13), none, [0, 1, 2, 3, 4, 5, 6, 7, 8]⟩,
 ⟨some 50, .load none (.tmp 49), none, [0, 1, 2, 3, 4, 5, 6, 7, 8]⟩,
 ⟨some 51, .call (.const (.fn (.func 66) [] [])) [.tmp 48, .tmp 50], none, []⟩,
 ⟨some 52, .build [.int .i64 0, .int .i64 0] [(0, 1, .tmp 45), (1, 1, .tmp 51)], none, []⟩,
 ⟨none, .store 2 (.tmp 10) (.tmp 52), none, []⟩,
 ⟨some 11, .move (.const (.int .i64 0)), none, []⟩]
def k_field_Amplification_r8s : List (List AOper) := [
  [
  ⟨some 40, .fieldAddr 0 (.tmp 14), none, []⟩,
 ⟨some 41, .load none (.tmp 40), none, []⟩,
 ⟨some 42, .bin .plain .mul (.const (.int .i64 1000)) (.tmp 41), none, []⟩,
 ⟨some 43, .fieldAddr 1 (.tmp 13), none, [0, 1, 2]⟩,
 ⟨some 44, .load none (.tmp 43), none, [0, 1, 2]⟩,
 ⟨some 45, .call (.const (.fn (.func 65) [] [])) [.tmp 42, .tmp 44], none, []⟩,
 ⟨some 46, .fieldAddr 1 (.tmp 14), none, [0, 1, 2, 3, 4, 5]⟩,
 ⟨some 47, .load none (.tmp 46), none, [0, 1, 2, 3, 4, 5]⟩,
 ⟨some 48, .bin .plain .mul (.const (.int .i64 1000)) (.tmp 47), none, [0, 1, 2, 3, 4, 5]⟩,
 ⟨some 49, .fieldAddr 0 (.tmp 13), none, [0, 1, 2, 3, 4, 5, 6, 7, 8]⟩,
 ⟨some 50, .load none (.tmp 49), none, [0, 1, 2, 3, 4, 5, 6, 7, 8]⟩], 
  [
  ⟨some 51, .call (.const (.fn (.func 66) [] [])) [.tmp 48, .tmp 50], none, []⟩], 
  [
  ⟨some 52, .build [.int .i64 0, .int .i64 0] [(0, 1, .tmp 45), (1, 1, .tmp 51)], none, []⟩], 
  [
  ⟨none, .store 2 (.tmp 10) (.tmp 52), none, []⟩], 
  [
  ⟨some 11, .move (.const (.int .i64 0)), none, []⟩]]
theorem k_field_Amplification_r8_sg : segs k_field_Amplification_r8 = k_field_Amplification_r8s := by kernel_rfl
theorem k_field_Amplification_r8_st : statOK k_field_Amplification_r8 = true := by kernel_rfl
def k_field_Amplification : AFun := { params := 5, ntmps := 53, body := (.seq (.reg k_field_Amplification_r0 false) (.seq (.seq (.reg k_field_Amplification_r1 false) (.seq (.reg k_field_Amplification_r2 false) (.cond (.tmp 23) (.seq (.reg k_field_Amplification_r3 false) .ret) .skip))) (.seq (.reg k_field_Amplification_r4 false) (.seq (.seq (.reg k_field_Amplification_r5 false) (.cond (.tmp 33) (.seq (.reg k_field_Amplification_r6 false) .ret) .skip)) (.seq (.reg k_field_Amplification_r7 false) (.seq (.reg k_field_Amplification_r8 true) .ret)))))), res := [.cell 10 (some ((some (2)))), .tmp 11] }
theorem k_field_Amplification_ok : cfun Tryd.prog Tryd.f49 = k_field_Amplification := by kernel_rfl

def k_field_Shift_r0 : List AOper := [
  ⟨some 4, .box (.tmp 0), none, []⟩,
 ⟨some 8, .box (.const (.agg [.int .i64 0, .int .i64 0, .bool false, .nilsl])), none, []⟩,
 ⟨some 9, .move (.const (.int .i64 0)), none, []⟩]
def k_field_Shift_r1 : List AOper := [
  ⟨some 16, .load (some (4)) (.tmp 4), none, []⟩,
 ⟨some 17, .call (.const (.fn (.func 17) [] [])) [.tmp 16], none, []⟩,
 ⟨some 10, .move (.tmp 17), none, []⟩]
def k_field_Shift_r2 : List AOper := [
  ⟨some 18, .move (.tmp 10), none, []⟩,
 ⟨some 19, .bin .plain .neq (.tmp 18) (.const (.int .i64 0)), none, []⟩]
def k_field_Shift_r3 : List AOper := [
  ⟨some 20, .build [.int .i64 0, .int .i64 0, .bool false, .nilsl] [], none, []⟩,
 ⟨some 21, .move (.tmp 10), none, []⟩,
 ⟨none, .store 4 (.tmp 8) (.tmp 20), none, []⟩,
 ⟨some 9, .move (.tmp 21), none, []⟩]
def k_field_Shift_r4 : List AOper := [
  ⟨some 22, .load (some (4)) (.tmp 4), none, []⟩,
 ⟨some 23, .move (.tmp 1), none, []⟩,
 ⟨some 24, .call (.const (.fn (.func 51) [] [])) [.tmp 22, .tmp 23], none, []⟩,
 ⟨some 25, .not (.tmp 24), none, []⟩]
def k_field_Shift_r5 : List AOper := [
  ⟨some 26, .build [.int .i64 0, .int .i64 0, .bool false, .nilsl] [], none, []⟩,
 ⟨none, .store 4 (.tmp 8) (.tmp 26), none, []⟩,
 ⟨some 9, .move (.const (.int .i64 7)), none, []⟩]
def k_field_Shift_r6 : List AOper := [
  ⟨some 27, .load (some (4)) (.tmp 4), none, []⟩,
 ⟨some 28, .move (.tmp 1), none, []⟩,
 ⟨some 29, .move (.tmp 2), none, []⟩,
 ⟨some 30, .move (.tmp 3), none, []⟩,
 ⟨some 31, .call (.const (.fn (.func 70) [] [])) [.tmp 27, .tmp 28, .tmp 29, .tmp 30], none, []⟩]
def k_field_Shift_r7 : List AOper := [
  ⟨some 32, .build [.int .i64 0, .int .i64 0, .bool false, .nilsl] [], none, []⟩,
 ⟨none, .store 4 (.tmp 8) (.tmp 32), none, []⟩,
 ⟨some 9, .move (.const (.int .i64 2)), none, []⟩]
def k_field_Shift_r8 : List AOper := [
  ⟨some 33, .load (some (4)) (.tmp 4), none, []⟩,
 ⟨some 34, .move (.tmp 1), none, []⟩,
 ⟨some 35, .call (.const (.fn (.func 71) [] [])) [.tmp 33, .tmp 34], none, []⟩,
 ⟨some 11, .box (.const (.agg [.int .i64 0, .int .i64 0, .bool false, .nilsl])), none, []⟩,
 ⟨none, .store 4 (.tmp 11) (.tmp 35), none, []⟩]
def k_field_Shift_r9 : List AOper := [
  ⟨some 36, .fieldAddr 3 (.tmp 4), none, []⟩,
 ⟨some 37, .load none (.tmp 36), none, []⟩,
 ⟨some 38, .len false (.tmp 37), none, []⟩,
 ⟨some 39, .move (.const (.int .i64 0)), none, []⟩]
def k_field_Shift_r10 : List AOper := [
  ⟨some 40, .bin .plain .lss (.tmp 39) (.tmp 38), none, []⟩]
def k_field_Shift_r11 : List AOper := [
  ⟨some 41, .move (.tmp 39), none, []⟩,
 ⟨some 42, .indexAddr 1 (.tmp 37) (.tmp 39), none, []⟩,
 ⟨some 43, .load none (.tmp 42), none, []⟩,
 ⟨some 12, .move (.tmp 41), none, []⟩,
 ⟨some 13, .move (.tmp 43), none, []⟩]
def k_field_Shift_r12 : List AOper := [
  ⟨some 44, .move (.tmp 13), none, []⟩,
 ⟨some 45, .move (.tmp 1), none, []⟩,
 ⟨some 46, .bin .plain .neq (.tmp 44) (.tmp 45), none, []⟩]
def k_field_Shift_r13 : List AOper := [
  ⟨some 47, .move (.tmp 12), none, []⟩,
 ⟨some 48, .move (.tmp 3), none, []⟩,
 ⟨some 49, .fieldAddr 0 (.tmp 4), none, []⟩,
 ⟨some 50, .load none (.tmp 49), none, []⟩,
 ⟨some 51, .bin .plain .mul (.tmp 48) (.tmp 50), none, []⟩,
 ⟨some 52, .bin .plain .add (.tmp 47) (.tmp 51), none, []⟩,
 ⟨some 53, .move (.tmp 2), none, []⟩,
 ⟨some 54, .bin .plain .add (.tmp 52) (.tmp 53), none, []⟩,
 ⟨some 14, .move (.tmp 54), none, []⟩]
def k_field_Shift_r14 : List AOper := [
  ⟨some 55, .fieldAddr 3 (.tmp 11), none, []⟩,
 ⟨some 56, .load none (.tmp 55), none, []⟩,
 ⟨some 57, .move (.tmp 14), none, []⟩,
 ⟨some 58, .indexAddr 1 (.tmp 56) (.tmp 57), none, []⟩,
 ⟨some 59, .load none (.tmp 58), none, []⟩,
 ⟨some 60, .bin .plain .neq (.tmp 59) (.const (.int .i64 0)), none, []⟩]
def k_field_Shift_r15 : List AOper := [
  ⟨some 61, .build [.int .i64 0, .int .i64 0, .bool false, .nilsl] [], none, []⟩,
 ⟨none, .store 4 (.tmp 8) (.tmp 61), none, []⟩,
 ⟨some 9, .move (.const (.int .i64 9)), none, []⟩]
def k_field_Shift_r16 : List AOper := [
  ⟨some 62, .fieldAddr 3 (.tmp 11), none, []⟩,
 ⟨some 63, .load none (.tmp 62), none, []⟩,
 ⟨some 64, .move (.tmp 14), none, []⟩,
 ⟨some 65, .move (.tmp 1), none, []⟩,
 ⟨some 66, .indexAddr 1 (.tmp 63) (.tmp 64), none, []⟩,
 ⟨none, .store 1 (.tmp 66) (.tmp 65), none, []⟩]
def k_field_Shift_r17 : List AOper := [
  ⟨some 67, .bin .plain .add (.tmp 39) (.const (.int .i64 1)), none, []⟩,
 ⟨some 39, .move (.tmp 67), none, []⟩]
def k_field_Shift_r18 : ACode := (.seq (.reg k_field_Shift_r10 false) (.seq (.cond (.tmp 40) .skip (.exit 0)) (.seq (.block 1 (.seq (.reg k_field_Shift_r11 false) (.seq (.seq (.reg k_field_Shift_r12 false) (.cond (.tmp 46) (.exit 1) .skip)) (.seq (.reg k_field_Shift_r13 false) (.seq (.seq (.reg k_field_Shift_r14 false) (.cond (.tmp 60) (.seq (.reg k_field_Shift_r15 false) .ret) .skip)) (.reg k_field_Shift_r16 false)))))) (.reg k_field_Shift_r17 false))))
def k_field_Shift_r19 : List AOper := [
  ⟨some 68, .load (some (4)) (.tmp 11), none, []⟩,
 ⟨some 69, .call (.const (.fn (.func 17) [] [])) [.tmp 68], none, []⟩,
 ⟨some 15, .move (.tmp 69), none, []⟩]
def k_field_Shift_r20 : List AOper := [
  ⟨some 70, .move (.tmp 15), none, []⟩,
 ⟨some 71, .bin .plain .neq (.tmp 70) (.const (.int .i64 0)), none, []⟩]
def k_field_Shift_r21 : List AOper := [
  ⟨some 72, .build [.int .i64 0, .int .i64 0, .bool false, .nilsl] [], none, []⟩,
 ⟨some 73, .move (.tmp 15), none, []⟩,
 ⟨none, .store 4 (.tmp 8) (.tmp 72), none, []⟩,
 ⟨some 9, .move (.tmp 73), none, []⟩]
def k_field_Shift_r22 : List AOper := [
  ⟨some 74, .load (some (4)) (.tmp 11), none, []⟩,
 ⟨none, .store 4 (.tmp 8) (.tmp 74), none, []⟩,
 ⟨some 9, .move (.const (.int .i64 0)), none, []⟩]
def k_field_Shift : AFun := { params := 4, ntmps := 75, body := (.seq (.reg k_field_Shift_r0 false) (.seq (.seq (.reg k_field_Shift_r1 false) (.seq (.reg k_field_Shift_r2 false) (.cond (.tmp 19) (.seq (.reg k_field_Shift_r3 false) .ret) .skip))) (.seq (.seq (.reg k_field_Shift_r4 false) (.cond (.tmp 25) (.seq (.reg k_field_Shift_r5 false) .ret) .skip)) (.seq (.seq (.reg k_field_Shift_r6 false) (.cond (.tmp 31) (.seq (.reg k_field_Shift_r7 false) .ret) .skip)) (.seq (.reg k_field_Shift_r8 false) (.seq (.seq (.reg k_field_Shift_r9 false) (.block 0 (.loop k_field_Shift_r18))) (.seq (.seq (.reg k_field_Shift_r19 false) (.seq (.reg k_field_Shift_r20 false) (.cond (.tmp 71) (.seq (.reg k_field_Shift_r21 false) .ret) .skip))) (.seq (.reg k_field_Shift_r22 false) .ret)))))))), res := [.cell 8 (some ((some (4)))), .tmp 9] }
theorem k_field_Shift_ok : cfun Tryd.prog Tryd.f50 = k_field_Shift := by kernel_rfl

def k_slices_Chunk_int_int_1_r0 : List AOper := [
  ⟨some 4, .move (.const (.int .i64 0)), none, []⟩]
def k_slices_Chunk_int_int_1_r1 : List AOper := [
  ⟨some 6, .move (.tmp 4), none, []⟩,
 ⟨some 7, .load none (.tmp 1), none, []⟩,
 ⟨some 8, .len false (.tmp 7), none, []⟩,
 ⟨some 9, .bin .plain .lss (.tmp 6) (.tmp 8), none, []⟩]
def k_slices_Chunk_int_int_1_r2 : List AOper := [
  ⟨some 13, .load none (.tmp 2), none, []⟩,
 ⟨some 14, .load none (.tmp 1), none, [0]⟩,
 ⟨some 15, .move (.tmp 4), none, [0, 1]⟩,
 ⟨some 16, .slice false 1 (.tmp 14) (some (.tmp 15)) none, none, [0]⟩,
 ⟨some 17, .len false (.tmp 16), none, [0]⟩,
 ⟨some 18, .minmax false [.tmp 13, .tmp 17], none, []⟩,
 ⟨some 5, .move (.tmp 18), none, []⟩]
def k_slices_Chunk_int_int_1_r2s : List (List AOper) := [
  [
  ⟨some 13, .load none (.tmp 2), none, []⟩,
 ⟨some 14, .load none (.tmp 1), none, [0]⟩,
 ⟨some 15, .move (.tmp 4), none, [0, 1]⟩,
 ⟨some 16, .slice false 1 (.tmp 14) (some (.tmp 15)) none, none, [0]⟩,
 ⟨some 17, .len false (.tmp 16), none, [0]⟩], 
  [
  ⟨some 18, .minmax false [.tmp 13, .tmp 17], none, []⟩], 
  [
  ⟨some 5, .move (.tmp 18), none, []⟩]]
theorem k_slices_Chunk_int_int_1_r2_sg : segs k_slices_Chunk_int_int_1_r2 = k_slices_Chunk_int_int_1_r2s := by kernel_rfl
theorem k_slices_Chunk_int_int_1_r2_st : statOK k_slices_Chunk_int_int_1_r2 = true := by kernel_rfl
def k_slices_Chunk_int_int_1_r3 : List AOper := [
  ⟨some 19, .move (.tmp 0), none, []⟩,
 ⟨some 20, .load none (.tmp 1), none, []⟩,
 ⟨some 21, .move (.tmp 4), none, []⟩,
 ⟨some 22, .move (.tmp 4), none, []⟩,
 ⟨some 23, .move (.tmp 5), none, []⟩,
 ⟨some 24, .bin .plain .add (.tmp 22) (.tmp 23), none, []⟩,
 ⟨some 25, .move (.tmp 4), none, []⟩,
 ⟨some 26, .move (.tmp 5), none, []⟩,
 ⟨some 27, .bin .plain .add (.tmp 25) (.tmp 26), none, []⟩,
 ⟨some 28, .slice3 1 (.tmp 20) (some (.tmp 21)) (.tmp 24) (.tmp 27), none, []⟩,
 ⟨some 29, .call (.tmp 19) [.tmp 28], none, []⟩,
 ⟨some 30, .not (.tmp 29), none, []⟩]
def k_slices_Chunk_int_int_1_r4 : List AOper := [
  ⟨some 10, .move (.tmp 4), none, []⟩,
 ⟨some 11, .load none (.tmp 2), none, []⟩,
 ⟨some 12, .bin .plain .add (.tmp 10) (.tmp 11), none, []⟩,
 ⟨some 4, .move (.tmp 12), none, []⟩]
def k_slices_Chunk_int_int_1_r5 : ACode := (.seq (.seq (.reg k_slices_Chunk_int_int_1_r1 false) (.cond (.tmp 9) .skip (.exit 0))) (.seq (.block 1 (.seq (.reg k_slices_Chunk_int_int_1_r2 true) (.seq (.reg k_slices_Chunk_int_int_1_r3 false) (.cond (.tmp 30) .ret .skip)))) (.reg k_slices_Chunk_int_int_1_r4 false)))
def k_slices_Chunk_int_int_1 : AFun := { params := 3, ntmps := 31, body := (.seq (.reg k_slices_Chunk_int_int_1_r0 false) (.block 0 (.loop k_slices_Chunk_int_int_1_r5))), res := [] }
theorem k_slices_Chunk_int_int_1_ok : cfun Tryd.prog Tryd.f54 = k_slices_Chunk_int_int_1 := by kernel_rfl

def k_strings_Split_r0 : List AOper := [
  ⟨some 4, .move (.const (.nilsl)), none, []⟩]
def k_strings_Split_r1 : List AOper := [
  ⟨some 5, .move (.tmp 0), none, []⟩,
 ⟨some 6, .move (.tmp 1), none, []⟩,
 ⟨some 7, .call (.const (.fn (.func 74) [] [])) [.tmp 5, .tmp 6, .const (.int .i64 0), .const (.int .i64 (-1))], none, []⟩,
 ⟨some 4, .move (.tmp 7), none, []⟩]
def k_strings_Split : AFun := { params := 2, ntmps := 8, body := (.seq (.reg k_strings_Split_r0 false) (.seq (.reg k_strings_Split_r1 false) .ret)), res := [.tmp 4] }
theorem k_strings_Split_ok : cfun Tryd.prog Tryd.f57 = k_strings_Split := by kernel_rfl

def k_field_isRow_r0 : List AOper := [
  ⟨some 4, .move (.const (.bool false)), none, []⟩]
def k_field_isRow_r1 : List AOper := [
  ⟨some 7, .move (.tmp 0), none, []⟩,
 ⟨some 8, .strToBytes (.tmp 7), none, []⟩,
 ⟨some 9, .len false (.tmp 8), none, []⟩,
 ⟨some 10, .move (.const (.int .i64 0)), none, []⟩]
def k_field_isRow_r2 : List AOper := [
  ⟨some 11, .bin .plain .lss (.tmp 10) (.tmp 9), none, []⟩]
def k_field_isRow_r3 : List AOper := [
  ⟨some 12, .indexAddr 1 (.tmp 8) (.tmp 10), none, []⟩,
 ⟨some 13, .load none (.tmp 12), none, []⟩,
 ⟨some 6, .move (.tmp 13), none, []⟩]
def k_field_isRow_r4 : List AOper := [
  ⟨some 14, .move (.tmp 6), none, []⟩,
 ⟨some 15, .bin .plain .neq (.tmp 14) (.const (.int .u8 46)), none, []⟩,
 ⟨some 16, .move (.tmp 15), none, []⟩,
 ⟨some 17, .move (.tmp 6), (some (16, true)), []⟩,
 ⟨some 18, .bin .plain .lss (.tmp 17) (.const (.int .u8 49)), (some (16, true)), []⟩,
 ⟨some 19, .move (.tmp 18), (some (16, true)), []⟩,
 ⟨some 20, .move (.tmp 6), (some (19, false)), []⟩,
 ⟨some 21, .bin .plain .gtr (.tmp 20) (.const (.int .u8 54)), (some (19, false)), []⟩,
 ⟨some 22, .pick (.tmp 19) (.const (.bool true)) (.tmp 21), (some (16, true)), []⟩,
 ⟨some 23, .pick (.tmp 16) (.tmp 22) (.const (.bool false)), none, []⟩]
def k_field_isRow_r5 : List AOper := [
  ⟨some 4, .move (.const (.bool false)), none, []⟩]
def k_field_isRow_r6 : List AOper := [
  ⟨some 24, .bin .plain .add (.tmp 10) (.const (.int .i64 1)), none, []⟩,
 ⟨some 10, .move (.tmp 24), none, []⟩]
def k_field_isRow_r7 : ACode := (.seq (.reg k_field_isRow_r2 false) (.seq (.cond (.tmp 11) .skip (.exit 0)) (.seq (.block 1 (.seq (.reg k_field_isRow_r3 false) (.seq (.reg k_field_isRow_r4 false) (.cond (.tmp 23) (.seq (.reg k_field_isRow_r5 false) .ret) .skip)))) (.reg k_field_isRow_r6 false))))
def k_field_isRow_r8 : List AOper := [
  ⟨some 25, .move (.tmp 0), none, []⟩,
 ⟨some 26, .len true (.tmp 25), none, []⟩,
 ⟨some 27, .bin .plain .gtr (.tmp 26) (.const (.int .i64 0)), none, []⟩,
 ⟨some 28, .move (.tmp 27), none, []⟩,
 ⟨some 29, .move (.tmp 1), (some (28, true)), []⟩,
 ⟨some 30, .bin .plain .eql (.tmp 29) (.const (.int .i64 0)), (some (28, true)), []⟩,
 ⟨some 31, .move (.tmp 30), (some (28, true)), []⟩,
 ⟨some 32, .move (.tmp 0), (some (31, false)), []⟩,
 ⟨some 33, .len true (.tmp 32), (some (31, false)), []⟩,
 ⟨some 34, .move (.tmp 1), (some (31, false)), []⟩,
 ⟨some 35, .bin .plain .eql (.tmp 33) (.tmp 34), (some (31, false)), []⟩,
 ⟨some 36, .pick (.tmp 31) (.const (.bool true)) (.tmp 35), (some (28, true)), []⟩,
 ⟨some 37, .pick (.tmp 28) (.tmp 36) (.const (.bool false)), none, []⟩,
 ⟨some 4, .move (.tmp 37), none, []⟩]
def k_field_isRow : AFun := { params := 2, ntmps := 38, body := (.seq (.reg k_field_isRow_r0 false) (.seq (.seq (.reg k_field_isRow_r1 false) (.block 0 (.loop k_field_isRow_r7))) (.seq (.reg k_field_isRow_r8 false) .ret))), res := [.tmp 4] }
theorem k_field_isRow_ok : cfun Tryd.prog Tryd.f58 = k_field_isRow := by kernel_rfl

def k_field_cellOf_r0 : List AOper := [
  ⟨some 2, .move (.const (.int .i64 0)), none, []⟩]
def k_field_cellOf_r1 : List AOper := [
  ⟨some 3, .move (.tmp 0), none, []⟩,
 ⟨some 4, .bin .plain .eql (.tmp 3) (.const (.int .u8 46)), none, []⟩]
def k_field_cellOf_r2 : List AOper := [
  ⟨some 2, .move (.const (.int .i64 0)), none, []⟩]
def k_field_cellOf_r3 : List AOper := [
  ⟨some 5, .move (.tmp 0), none, []⟩,
 ⟨some 6, .bin .plain .sub (.tmp 5) (.const (.int .u8 48)), none, []⟩,
 ⟨some 7, .toInt .i64 (.tmp 6), none, []⟩,
 ⟨some 2, .move (.tmp 7), none, []⟩]
def k_field_cellOf : AFun := { params := 1, ntmps := 8, body := (.seq (.reg k_field_cellOf_r0 false) (.seq (.seq (.reg k_field_cellOf_r1 false) (.cond (.tmp 4) (.seq (.reg k_field_cellOf_r2 false) .ret) .skip)) (.seq (.reg k_field_cellOf_r3 false) .ret))), res := [.tmp 2] }
theorem k_field_cellOf_ok : cfun Tryd.prog Tryd.f59 = k_field_cellOf := by kernel_rfl

def k_field_checkOf_r0 : List AOper := [
  ⟨some 3, .box (.tmp 0), none, []⟩,
 ⟨some 6, .move (.const (.int .i64 0)), none, []⟩]
def k_field_checkOf_r1 : List AOper := [
  ⟨some 13, .load (some (4)) (.tmp 3), none, []⟩,
 ⟨some 14, .call (.const (.fn (.func 17) [] [])) [.tmp 13], none, []⟩,
 ⟨some 7, .move (.tmp 14), none, []⟩]
def k_field_checkOf_r2 : List AOper := [
  ⟨some 15, .move (.tmp 7), none, []⟩,
 ⟨some 16, .bin .plain .neq (.tmp 15) (.const (.int .i64 0)), none, []⟩]
def k_field_checkOf_r3 : List AOper := [
  ⟨some 17, .move (.tmp 7), none, []⟩,
 ⟨some 6, .move (.tmp 17), none, []⟩]
def k_field_checkOf_r4 : List AOper := [
  ⟨some 18, .move (.tmp 1), none, []⟩,
 ⟨some 19, .call (.const (.fn (.func 44) [] [])) [.tmp 18], none, []⟩,
 ⟨some 8, .move (.tmp 19), none, []⟩]
def k_field_checkOf_r5 : List AOper := [
  ⟨some 20, .move (.tmp 8), none, []⟩,
 ⟨some 21, .bin .plain .neq (.tmp 20) (.const (.int .i64 0)), none, []⟩]
def k_field_checkOf_r6 : List AOper := [
  ⟨some 22, .move (.tmp 8), none, []⟩,
 ⟨some 6, .move (.tmp 22), none, []⟩]
def k_field_checkOf_r7 : List AOper := [
  ⟨some 23, .move (.tmp 2), none, []⟩,
 ⟨some 24, .len false (.tmp 23), none, []⟩,
 ⟨some 25, .move (.const (.int .i64 0)), none, []⟩]
def k_field_checkOf_r8 : List AOper := [
  ⟨some 26, .bin .plain .lss (.tmp 25) (.tmp 24), none, []⟩]
def k_field_checkOf_r9 : List AOper := [
  ⟨some 27, .indexAddr 1 (.tmp 23) (.tmp 25), none, []⟩,
 ⟨some 28, .load none (.tmp 27), none, []⟩,
 ⟨some 10, .move (.tmp 28), none, []⟩]
def k_field_checkOf_r10 : List AOper := [
  ⟨some 29, .load (some (4)) (.tmp 3), none, []⟩,
 ⟨some 30, .move (.tmp 10), none, []⟩,
 ⟨some 31, .call (.const (.fn (.func 51) [] [])) [.tmp 29, .tmp 30], none, []⟩,
 ⟨some 32, .not (.tmp 31), none, []⟩]
def k_field_checkOf_r11 : List AOper := [
  ⟨some 6, .move (.const (.int .i64 7)), none, []⟩]
def k_field_checkOf_r12 : List AOper := [
  ⟨some 33, .bin .plain .add (.tmp 25) (.const (.int .i64 1)), none, []⟩,
 ⟨some 25, .move (.tmp 33), none, []⟩]
def k_field_checkOf_r13 : ACode := (.seq (.reg k_field_checkOf_r8 false) (.seq (.cond (.tmp 26) .skip (.exit 0)) (.seq (.block 1 (.seq (.reg k_field_checkOf_r9 false) (.seq (.reg k_field_checkOf_r10 false) (.cond (.tmp 32) (.seq (.reg k_field_checkOf_r11 false) .ret) .skip)))) (.reg k_field_checkOf_r12 false))))
def k_field_checkOf_r14 : List AOper := [
  ⟨some 34, .move (.tmp 2), none, []⟩,
 ⟨some 35, .len false (.tmp 34), none, []⟩,
 ⟨some 36, .move (.const (.int .i64 0)), none, []⟩]
def k_field_checkOf_r15 : List AOper := [
  ⟨some 37, .bin .plain .lss (.tmp 36) (.tmp 35), none, []⟩]
def k_field_checkOf_r16 : List AOper := [
  ⟨some 38, .move (.tmp 36), none, []⟩,
 ⟨some 39, .indexAddr 1 (.tmp 34) (.tmp 36), none, []⟩,
 ⟨some 40, .load none (.tmp 39), none, []⟩,
 ⟨some 11, .move (.tmp 38), none, []⟩,
 ⟨some 12, .move (.tmp 40), none, []⟩]
def k_field_checkOf_r17 : List AOper := [
  ⟨some 41, .move (.tmp 2), none, []⟩,
 ⟨some 42, .move (.tmp 11), none, []⟩,
 ⟨some 43, .slice false 1 (.tmp 41) none (some (.tmp 42)), none, []⟩,
 ⟨some 44, .move (.tmp 12), none, []⟩,
 ⟨some 45, .call (.const (.fn (.func 72) [] [])) [.tmp 43, .tmp 44], none, []⟩]
def k_field_checkOf_r18 : List AOper := [
  ⟨some 6, .move (.const (.int .i64 9)), none, []⟩]
def k_field_checkOf_r19 : List AOper := [
  ⟨some 46, .bin .plain .add (.tmp 36) (.const (.int .i64 1)), none, []⟩,
 ⟨some 36, .move (.tmp 46), none, []⟩]
def k_field_checkOf_r20 : ACode := (.seq (.reg k_field_checkOf_r15 false) (.seq (.cond (.tmp 37) .skip (.exit 2)) (.seq (.block 3 (.seq (.reg k_field_checkOf_r16 false) (.seq (.reg k_field_checkOf_r17 false) (.cond (.tmp 45) (.seq (.reg k_field_checkOf_r18 false) .ret) .skip)))) (.reg k_field_checkOf_r19 false))))
def k_field_checkOf_r21 : List AOper := [
  ⟨some 6, .move (.const (.int .i64 0)), none, []⟩]
def k_field_checkOf : AFun := { params := 3, ntmps := 47, body := (.seq (.reg k_field_checkOf_r0 false) (.seq (.seq (.reg k_field_checkOf_r1 false) (.seq (.reg k_field_checkOf_r2 false) (.cond (.tmp 16) (.seq (.reg k_field_checkOf_r3 false) .ret) .skip))) (.seq (.seq (.reg k_field_checkOf_r4 false) (.seq (.reg k_field_checkOf_r5 false) (.cond (.tmp 21) (.seq (.reg k_field_checkOf_r6 false) .ret) .skip))) (.seq (.seq (.reg k_field_checkOf_r7 false) (.block 0 (.loop k_field_checkOf_r13))) (.seq (.seq (.reg k_field_checkOf_r14 false) (.block 2 (.loop k_field_checkOf_r20))) (.seq (.reg k_field_checkOf_r21 false) .ret)))))), res := [.tmp 6] }
theorem k_field_checkOf_ok : cfun Tryd.prog Tryd.f68 = k_field_checkOf := by kernel_rfl

def k_field_influence_r0 : List AOper := [
  ⟨some 4, .box (.tmp 0), none, []⟩,
 ⟨some 8, .box (.const (.agg [.int .i64 0, .int .i64 0])), none, []⟩]
def k_field_influence_r1 : List AOper := [
  ⟨some 11, .fieldAddr 3 (.tmp 4), none, []⟩,
 ⟨some 12, .load none (.tmp 11), none, []⟩,
 ⟨some 13, .call (.const (.fn (.func 40) [] [])) [.tmp 12], none, []⟩,
 ⟨some 14, .makeSlice (.int .i64 0) 8 (.tmp 13) (.tmp 13), none, []⟩,
 ⟨some 9, .move (.tmp 14), none, []⟩]
def k_field_influence_r2 : List AOper := [
  ⟨some 15, .move (.tmp 9), none, []⟩,
 ⟨some 16, .move (.tmp 2), none, []⟩,
 ⟨some 17, .bin .plain .sub (.tmp 16) (.const (.int .i64 1)), none, []⟩,
 ⟨some 18, .indexAddr 1 (.tmp 15) (.tmp 17), none, []⟩,
 ⟨none, .store 1 (.tmp 18) (.const (.int .i64 1000000)), none, []⟩]
def k_field_influence_r3 : List AOper := [
  ⟨some 19, .load (some (4)) (.tmp 4), none, []⟩,
 ⟨some 20, .load (some (4)) (.tmp 4), none, [0]⟩,
 ⟨some 21, .move (.tmp 9), none, [0, 1]⟩,
 ⟨some 22, .move (.tmp 1), none, [0, 1, 2]⟩,
 ⟨some 23, .call (.const (.fn (.func 45) [] [])) [.tmp 20, .tmp 21, .tmp 22], none, [0]⟩,
 ⟨some 24, .move (.tmp 3), none, [0, 1, 2, 3, 4]⟩,
 ⟨some 25, .call (.const (.fn (.func 52) [] [])) [.tmp 19, .tmp 23, .tmp 24], none, []⟩,
 ⟨some 10, .box (.const (.agg [.int .i64 0, .int .i64 0])), none, [0, 1, 2, 3, 4, 5, 6]⟩,
 ⟨none, .store 2 (.tmp 10) (.tmp 25), none, []⟩]
def k_field_influence_r3s : List (List AOper) := [
  [
  ⟨some 19, .load (some (4)) (.tmp 4), none, []⟩,
 ⟨some 20, .load (some (4)) (.tmp 4), none, [0]⟩,
 ⟨some 21, .move (.tmp 9), none, [0, 1]⟩,
 ⟨some 22, .move (.tmp 1), none, [0, 1, 2]⟩,
 ⟨some 23, .call (.const (.fn (.func 45) [] [])) [.tmp 20, .tmp 21, .tmp 22], none, [0]⟩,
 ⟨some 24, .move (.tmp 3), none, [0, 1, 2, 3, 4]⟩,
 ⟨some 25, .call (.const (.fn (.func 52) [] [])) [.tmp 19, .tmp 23, .tmp 24], none, []⟩,
 ⟨some 10, .box (.const (.agg [.int .i64 0, .int .i64 0])), none, [0, 1, 2, 3, 4, 5, 6]⟩], 
  [
  ⟨none, .store 2 (.tmp 10) (.tmp 25), none, []⟩]]
theorem k_field_influence_r3_sg : segs k_field_influence_r3 = k_field_influence_r3s := by kernel_rfl
theorem k_field_influence_r3_st : statOK k_field_influence_r3 = true := by kernel_rfl
def k_field_influence_r4 : List AOper := [
  ⟨some 26, .fieldAddr 1 (.tmp 10), none, []⟩,
 ⟨some 27, .load none (.tmp 26), none, []⟩,
 ⟨some 28, .neg (.tmp 27), none, []⟩,
 ⟨some 29, .fieldAddr 0 (.tmp 10), none, []⟩,
 ⟨some 30, .load none (.tmp 29), none, []⟩,
 ⟨some 31, .neg (.tmp 30), none, []⟩,
 ⟨some 32, .build [.int .i64 0, .int .i64 0] [(0, 1, .tmp 28), (1, 1, .tmp 31)], none, []⟩,
 ⟨none, .store 2 (.tmp 8) (.tmp 32), none, []⟩]
def k_field_influence : AFun := { params := 4, ntmps := 33, body := (.seq (.reg k_field_influence_r0 false) (.seq (.reg k_field_influence_r1 false) (.seq (.reg k_field_influence_r2 false) (.seq (.reg k_field_influence_r3 true) (.seq (.reg k_field_influence_r4 false) .ret))))), res := [.cell 8 (some ((some (2))))] }
theorem k_field_influence_ok : cfun Tryd.prog Tryd.f69 = k_field_influence := by kernel_rfl

def k_field_leaves_r0 : List AOper := [
  ⟨some 4, .box (.tmp 0), none, []⟩,
 ⟨some 8, .move (.const (.bool false)), none, []⟩]
def k_field_leaves_r1 : List AOper := [
  ⟨some 13, .fieldAddr 3 (.tmp 4), none, []⟩,
 ⟨some 14, .load none (.tmp 13), none, []⟩,
 ⟨some 15, .len false (.tmp 14), none, []⟩,
 ⟨some 16, .move (.const (.int .i64 0)), none, []⟩]
def k_field_leaves_r2 : List AOper := [
  ⟨some 17, .bin .plain .lss (.tmp 16) (.tmp 15), none, []⟩]
def k_field_leaves_r3 : List AOper := [
  ⟨some 18, .move (.tmp 16), none, []⟩,
 ⟨some 19, .indexAddr 1 (.tmp 14) (.tmp 16), none, []⟩,
 ⟨some 20, .load none (.tmp 19), none, []⟩,
 ⟨some 9, .move (.tmp 18), none, []⟩,
 ⟨some 10, .move (.tmp 20), none, []⟩]
def k_field_leaves_r4 : List AOper := [
  ⟨some 21, .move (.tmp 9), none, []⟩,
 ⟨some 22, .fieldAddr 0 (.tmp 4), none, [0]⟩,
 ⟨some 23, .load none (.tmp 22), none, [0]⟩,
 ⟨some 24, .bin .plain .rem (.tmp 21) (.tmp 23), none, []⟩,
 ⟨some 25, .move (.tmp 9), none, [0, 1, 2, 3]⟩,
 ⟨some 26, .fieldAddr 0 (.tmp 4), none, [0, 1, 2, 3, 4]⟩,
 ⟨some 27, .load none (.tmp 26), none, [0, 1, 2, 3, 4]⟩,
 ⟨some 28, .bin .plain .quo (.tmp 25) (.tmp 27), none, [0, 1, 2, 3]⟩,
 ⟨some 11, .move (.tmp 24), none, [4, 5, 6, 7]⟩,
 ⟨some 12, .move (.tmp 28), none, []⟩]
def k_field_leaves_r4s : List (List AOper) := [
  [
  ⟨some 21, .move (.tmp 9), none, []⟩,
 ⟨some 22, .fieldAddr 0 (.tmp 4), none, [0]⟩,
 ⟨some 23, .load none (.tmp 22), none, [0]⟩,
 ⟨some 24, .bin .plain .rem (.tmp 21) (.tmp 23), none, []⟩,
 ⟨some 25, .move (.tmp 9), none, [0, 1, 2, 3]⟩,
 ⟨some 26, .fieldAddr 0 (.tmp 4), none, [0, 1, 2, 3, 4]⟩,
 ⟨some 27, .load none (.tmp 26), none, [0, 1, 2, 3, 4]⟩,
 ⟨some 28, .bin .plain .quo (.tmp 25) (.tmp 27), none, [0, 1, 2, 3]⟩,
 ⟨some 11, .move (.tmp 24), none, [4, 5, 6, 7]⟩], 
  [
  ⟨some 12, .move (.tmp 28), none, []⟩]]
theorem k_field_leaves_r4_sg : segs k_field_leaves_r4 = k_field_leaves_r4s := by kernel_rfl
theorem k_field_leaves_r4_st : statOK k_field_leaves_r4 = true := by kernel_rfl
def k_field_leaves_r5 : List AOper := [
  ⟨some 29, .move (.tmp 10), none, []⟩,
 ⟨some 30, .move (.tmp 1), none, []⟩,
 ⟨some 31, .bin .plain .eql (.tmp 29) (.tmp 30), none, []⟩,
 ⟨some 32, .move (.tmp 31), none, []⟩,
 ⟨some 33, .move (.tmp 2), (some (32, true)), []⟩,
 ⟨some 34, .move (.tmp 11), (some (32, true)), []⟩,
 ⟨some 35, .neg (.tmp 34), (some (32, true)), []⟩,
 ⟨some 36, .fieldAddr 0 (.tmp 4), (some (32, true)), []⟩,
 ⟨some 37, .load none (.tmp 36), (some (32, true)), []⟩,
 ⟨some 38, .bin .plain .sub (.tmp 37) (.const (.int .i64 1)), (some (32, true)), []⟩,
 ⟨some 39, .move (.tmp 11), (some (32, true)), []⟩,
 ⟨some 40, .bin .plain .sub (.tmp 38) (.tmp 39), (some (32, true)), []⟩,
 ⟨some 41, .call (.const (.fn (.func 39) [] [])) [.tmp 33, .tmp 35, .tmp 40], (some (32, true)), []⟩,
 ⟨some 42, .not (.tmp 41), (some (32, true)), []⟩,
 ⟨some 43, .move (.tmp 42), (some (32, true)), []⟩,
 ⟨some 44, .move (.tmp 3), (some (43, false)), []⟩,
 ⟨some 45, .move (.tmp 12), (some (43, false)), []⟩,
 ⟨some 46, .neg (.tmp 45), (some (43, false)), []⟩,
 ⟨some 47, .fieldAddr 1 (.tmp 4), (some (43, false)), []⟩,
 ⟨some 48, .load none (.tmp 47), (some (43, false)), []⟩,
 ⟨some 49, .bin .plain .sub (.tmp 48) (.const (.int .i64 1)), (some (43, false)), []⟩,
 ⟨some 50, .move (.tmp 12), (some (43, false)), []⟩,
 ⟨some 51, .bin .plain .sub (.tmp 49) (.tmp 50), (some (43, false)), []⟩,
 ⟨some 52, .call (.const (.fn (.func 39) [] [])) [.tmp 44, .tmp 46, .tmp 51], (some (43, false)), []⟩,
 ⟨some 53, .not (.tmp 52), (some (43, false)), []⟩,
 ⟨some 54, .pick (.tmp 43) (.const (.bool true)) (.tmp 53), (some (32, true)), []⟩,
 ⟨some 55, .pick (.tmp 32) (.tmp 54) (.const (.bool false)), none, []⟩]
def k_field_leaves_r6 : List AOper := [
  ⟨some 8, .move (.const (.bool true)), none, []⟩]
def k_field_leaves_r7 : List AOper := [
  ⟨some 56, .bin .plain .add (.tmp 16) (.const (.int .i64 1)), none, []⟩,
 ⟨some 16, .move (.tmp 56), none, []⟩]
def k_field_leaves_r8 : ACode := (.seq (.reg k_field_leaves_r2 false) (.seq (.cond (.tmp 17) .skip (.exit 0)) (.seq (.block 1 (.seq (.reg k_field_leaves_r3 false) (.seq (.reg k_field_leaves_r4 true) (.seq (.reg k_field_leaves_r5 false) (.cond (.tmp 55) (.seq (.reg k_field_leaves_r6 false) .ret) .skip))))) (.reg k_field_leaves_r7 false))))
def k_field_leaves_r9 : List AOper := [
  ⟨some 8, .move (.const (.bool false)), none, []⟩]
def k_field_leaves : AFun := { params := 4, ntmps := 57, body := (.seq (.reg k_field_leaves_r0 false) (.seq (.seq (.reg k_field_leaves_r1 false) (.block 0 (.loop k_field_leaves_r8))) (.seq (.reg k_field_leaves_r9 false) .ret))), res := [.tmp 8] }
theorem k_field_leaves_ok : cfun Tryd.prog Tryd.f70 = k_field_leaves := by kernel_rfl

def k_field_without_r0 : List AOper := [
  ⟨some 2, .box (.tmp 0), none, []⟩,
 ⟨some 4, .box (.const (.agg [.int .i64 0, .int .i64 0, .bool false, .nilsl])), none, []⟩]
def k_field_without_r1 : List AOper := [
  ⟨some 8, .load (some (4)) (.tmp 2), none, []⟩,
 ⟨some 9, .call (.const (.fn (.func 75) [] [])) [.tmp 8], none, []⟩,
 ⟨some 5, .box (.const (.agg [.int .i64 0, .int .i64 0, .bool false, .nilsl])), none, []⟩,
 ⟨none, .store 4 (.tmp 5) (.tmp 9), none, []⟩]
def k_field_without_r2 : List AOper := [
  ⟨some 10, .fieldAddr 3 (.tmp 5), none, []⟩,
 ⟨some 11, .load none (.tmp 10), none, []⟩,
 ⟨some 12, .len false (.tmp 11), none, []⟩,
 ⟨some 13, .move (.const (.int .i64 0)), none, []⟩]
def k_field_without_r3 : List AOper := [
  ⟨some 14, .bin .plain .lss (.tmp 13) (.tmp 12), none, []⟩]
def k_field_without_r4 : List AOper := [
  ⟨some 15, .move (.tmp 13), none, []⟩,
 ⟨some 16, .indexAddr 1 (.tmp 11) (.tmp 13), none, []⟩,
 ⟨some 17, .load none (.tmp 16), none, []⟩,
 ⟨some 6, .move (.tmp 15), none, []⟩,
 ⟨some 7, .move (.tmp 17), none, []⟩]
def k_field_without_r5 : List AOper := [
  ⟨some 18, .move (.tmp 7), none, []⟩,
 ⟨some 19, .move (.tmp 1), none, []⟩,
 ⟨some 20, .bin .plain .eql (.tmp 18) (.tmp 19), none, []⟩]
def k_field_without_r6 : List AOper := [
  ⟨some 21, .fieldAddr 3 (.tmp 5), none, []⟩,
 ⟨some 22, .load none (.tmp 21), none, []⟩,
 ⟨some 23, .move (.tmp 6), none, []⟩,
 ⟨some 24, .indexAddr 1 (.tmp 22) (.tmp 23), none, []⟩,
 ⟨none, .store 1 (.tmp 24) (.const (.int .i64 0)), none, []⟩]
def k_field_without_r7 : List AOper := [
  ⟨some 25, .bin .plain .add (.tmp 13) (.const (.int .i64 1)), none, []⟩,
 ⟨some 13, .move (.tmp 25), none, []⟩]
def k_field_without_r8 : ACode := (.seq (.reg k_field_without_r3 false) (.seq (.cond (.tmp 14) .skip (.exit 0)) (.seq (.block 1 (.seq (.reg k_field_without_r4 false) (.seq (.reg k_field_without_r5 false) (.cond (.tmp 20) (.reg k_field_without_r6 false) .skip)))) (.reg k_field_without_r7 false))))
def k_field_without_r9 : List AOper := [
  ⟨some 26, .load (some (4)) (.tmp 5), none, []⟩,
 ⟨none, .store 4 (.tmp 4) (.tmp 26), none, []⟩]
def k_field_without : AFun := { params := 2, ntmps := 27, body := (.seq (.reg k_field_without_r0 false) (.seq (.reg k_field_without_r1 false) (.seq (.seq (.reg k_field_without_r2 false) (.block 0 (.loop k_field_without_r8))) (.seq (.reg k_field_without_r9 false) .ret)))), res := [.cell 4 (some ((some (4))))] }
theorem k_field_without_ok : cfun Tryd.prog Tryd.f71 = k_field_without := by kernel_rfl

def k_strings_genSplit_r0 : List AOper := [
  ⟨some 8, .move (.const (.nilsl)), none, []⟩]
def k_strings_genSplit_r1 : List AOper := [
  ⟨some 12, .move (.tmp 3), none, []⟩,
 ⟨some 13, .bin .plain .eql (.tmp 12) (.const (.int .i64 0)), none, []⟩]
def k_strings_genSplit_r2 : List AOper := [
  ⟨some 8, .move (.const (.nilsl)), none, []⟩]
def k_strings_genSplit_r3 : List AOper := [
  ⟨some 14, .move (.tmp 1), none, []⟩,
 ⟨some 15, .bin .plain .eql (.tmp 14) (.const (.str [])), none, []⟩]
def k_strings_genSplit_r4 : List AOper := [
  ⟨some 16, .move (.tmp 0), none, []⟩,
 ⟨some 17, .move (.tmp 3), none, []⟩,
 ⟨some 18, .call (.const (.fn (.func 78) [] [])) [.tmp 16, .tmp 17], none, []⟩,
 ⟨some 8, .move (.tmp 18), none, []⟩]
def k_strings_genSplit_r5 : List AOper := [
  ⟨some 19, .move (.tmp 3), none, []⟩,
 ⟨some 20, .bin .plain .lss (.tmp 19) (.const (.int .i64 0)), none, []⟩]
def k_strings_genSplit_r6 : List AOper := [
  ⟨some 21, .move (.tmp 0), none, []⟩,
 ⟨some 22, .move (.tmp 1), none, []⟩,
 ⟨some 23, .call (.const (.fn (.func 79) [] [])) [.tmp 21, .tmp 22], none, []⟩,
 ⟨some 24, .bin .plain .add (.tmp 23) (.const (.int .i64 1)), none, []⟩,
 ⟨some 3, .move (.tmp 24), none, []⟩]
def k_strings_genSplit_r7 : List AOper := [
  ⟨some 25, .move (.tmp 3), none, []⟩,
 ⟨some 26, .move (.tmp 0), none, []⟩,
 ⟨some 27, .len true (.tmp 26), none, []⟩,
 ⟨some 28, .bin .plain .add (.tmp 27) (.const (.int .i64 1)), none, []⟩,
 ⟨some 29, .minmax false [.tmp 25, .tmp 28], none, []⟩,
 ⟨some 3, .move (.tmp 29), none, []⟩]
def k_strings_genSplit_r8 : List AOper := [
  ⟨some 30, .move (.tmp 3), none, []⟩,
 ⟨some 31, .makeSlice (.str []) 16 (.tmp 30) (.tmp 30), none, []⟩,
 ⟨some 9, .move (.tmp 31), none, []⟩]
def k_strings_genSplit_r9 : List AOper := [
  ⟨some 32, .move (.tmp 3), none, []⟩,
 ⟨some 33, .bin .plain .sub (.tmp 32) (.const (.int .i64 1)), none, []⟩,
 ⟨some 3, .move (.tmp 33), none, []⟩]
def k_strings_genSplit_r10 : List AOper := [
  ⟨some 10, .move (.const (.int .i64 0)), none, []⟩]
def k_strings_genSplit_r11 : List AOper := [
  ⟨some 34, .move (.tmp 10), none, []⟩,
 ⟨some 35, .move (.tmp 3), none, []⟩,
 ⟨some 36, .bin .plain .lss (.tmp 34) (.tmp 35), none, []⟩]
def k_strings_genSplit_r12 : List AOper := [
  ⟨some 37, .move (.tmp 0), none, []⟩,
 ⟨some 38, .move (.tmp 1), none, []⟩,
 ⟨some 39, .call (.const (.fn (.func 80) [] [])) [.tmp 37, .tmp 38], none, []⟩,
 ⟨some 11, .move (.tmp 39), none, []⟩]
def k_strings_genSplit_r13 : List AOper := [
  ⟨some 40, .move (.tmp 11), none, []⟩,
 ⟨some 41, .bin .plain .lss (.tmp 40) (.const (.int .i64 0)), none, []⟩]
def k_strings_genSplit_r14 : List AOper := [
  ⟨some 42, .move (.tmp 9), none, []⟩,
 ⟨some 43, .move (.tmp 10), none, []⟩,
 ⟨some 44, .move (.tmp 0), none, []⟩,
 ⟨some 45, .move (.tmp 11), none, []⟩,
 ⟨some 46, .move (.tmp 2), none, []⟩,
 ⟨some 47, .bin .plain .add (.tmp 45) (.tmp 46), none, []⟩,
 ⟨some 48, .slice true 1 (.tmp 44) none (some (.tmp 47)), none, []⟩,
 ⟨some 49, .indexAddr 1 (.tmp 42) (.tmp 43), none, []⟩,
 ⟨none, .store 1 (.tmp 49) (.tmp 48), none, []⟩]
def k_strings_genSplit_r15 : List AOper := [
  ⟨some 50, .move (.tmp 0), none, []⟩,
 ⟨some 51, .move (.tmp 11), none, []⟩,
 ⟨some 52, .move (.tmp 1), none, []⟩,
 ⟨some 53, .len true (.tmp 52), none, []⟩,
 ⟨some 54, .bin .plain .add (.tmp 51) (.tmp 53), none, []⟩,
 ⟨some 55, .slice true 1 (.tmp 50) (some (.tmp 54)) none, none, []⟩,
 ⟨some 0, .move (.tmp 55), none, []⟩]
def k_strings_genSplit_r16 : List AOper := [
  ⟨some 56, .move (.tmp 10), none, []⟩,
 ⟨some 57, .bin .plain .add (.tmp 56) (.const (.int .i64 1)), none, []⟩,
 ⟨some 10, .move (.tmp 57), none, []⟩]
def k_strings_genSplit_r17 : ACode := (.seq (.seq (.reg k_strings_genSplit_r11 false) (.cond (.tmp 36) .skip (.exit 0))) (.block 1 (.seq (.reg k_strings_genSplit_r12 false) (.seq (.seq (.reg k_strings_genSplit_r13 false) (.cond (.tmp 41) (.exit 0) .skip)) (.seq (.reg k_strings_genSplit_r14 false) (.seq (.reg k_strings_genSplit_r15 false) (.reg k_strings_genSplit_r16 false)))))))
def k_strings_genSplit_r18 : List AOper := [
  ⟨some 58, .move (.tmp 9), none, []⟩,
 ⟨some 59, .move (.tmp 10), none, []⟩,
 ⟨some 60, .move (.tmp 0), none, []⟩,
 ⟨some 61, .indexAddr 1 (.tmp 58) (.tmp 59), none, []⟩,
 ⟨none, .store 1 (.tmp 61) (.tmp 60), none, []⟩]
def k_strings_genSplit_r19 : List AOper := [
  ⟨some 62, .move (.tmp 9), none, []⟩,
 ⟨some 63, .move (.tmp 10), none, []⟩,
 ⟨some 64, .bin .plain .add (.tmp 63) (.const (.int .i64 1)), none, []⟩,
 ⟨some 65, .slice false 1 (.tmp 62) none (some (.tmp 64)), none, []⟩,
 ⟨some 8, .move (.tmp 65), none, []⟩]
def k_strings_genSplit : AFun := { params := 4, ntmps := 66, body := (.seq (.reg k_strings_genSplit_r0 false) (.seq (.seq (.reg k_strings_genSplit_r1 false) (.cond (.tmp 13) (.seq (.reg k_strings_genSplit_r2 false) .ret) .skip)) (.seq (.seq (.reg k_strings_genSplit_r3 false) (.cond (.tmp 15) (.seq (.reg k_strings_genSplit_r4 false) .ret) .skip)) (.seq (.seq (.reg k_strings_genSplit_r5 false) (.cond (.tmp 20) (.reg k_strings_genSplit_r6 false) .skip)) (.seq (.reg k_strings_genSplit_r7 false) (.seq (.reg k_strings_genSplit_r8 false) (.seq (.reg k_strings_genSplit_r9 false) (.seq (.reg k_strings_genSplit_r10 false) (.seq (.block 0 (.loop k_strings_genSplit_r17)) (.seq (.reg k_strings_genSplit_r18 false) (.seq (.reg k_strings_genSplit_r19 false) .ret))))))))))), res := [.tmp 8] }
theorem k_strings_genSplit_ok : cfun Tryd.prog Tryd.f74 = k_strings_genSplit := by kernel_rfl

def k_field_Copy_r0 : List AOper := [
  ⟨some 1, .box (.tmp 0), none, []⟩,
 ⟨some 2, .box (.const (.agg [.int .i64 0, .int .i64 0, .bool false, .nilsl])), none, []⟩]
def k_field_Copy_r1 : List AOper := [
  ⟨some 3, .fieldAddr 3 (.tmp 1), none, []⟩,
 ⟨some 4, .load none (.tmp 3), none, []⟩,
 ⟨some 5, .append 1 8 false (.const (.nilsl)) (.tmp 4), none, []⟩,
 ⟨some 6, .fieldAddr 3 (.tmp 1), none, []⟩,
 ⟨none, .store 1 (.tmp 6) (.tmp 5), none, []⟩]
def k_field_Copy_r2 : List AOper := [
  ⟨some 7, .load (some (4)) (.tmp 1), none, []⟩,
 ⟨none, .store 4 (.tmp 2) (.tmp 7), none, []⟩]
def k_field_Copy : AFun := { params := 1, ntmps := 8, body := (.seq (.reg k_field_Copy_r0 false) (.seq (.reg k_field_Copy_r1 false) (.seq (.reg k_field_Copy_r2 false) .ret))), res := [.cell 2 (some ((some (4))))] }
theorem k_field_Copy_ok : cfun Tryd.prog Tryd.f75 = k_field_Copy := by kernel_rfl

def k_strings_explode_r0 : List AOper := [
  ⟨some 4, .move (.const (.nilsl)), none, []⟩]
def k_strings_explode_r1 : List AOper := [
  ⟨some 10, .move (.tmp 0), none, []⟩,
 ⟨some 11, .call (.const (.fn (.func 81) [] [])) [.tmp 10], none, []⟩,
 ⟨some 5, .move (.tmp 11), none, []⟩]
def k_strings_explode_r2 : List AOper := [
  ⟨some 12, .move (.tmp 1), none, []⟩,
 ⟨some 13, .bin .plain .lss (.tmp 12) (.const (.int .i64 0)), none, []⟩,
 ⟨some 14, .move (.tmp 13), none, []⟩,
 ⟨some 15, .move (.tmp 1), (some (14, false)), []⟩,
 ⟨some 16, .move (.tmp 5), (some (14, false)), []⟩,
 ⟨some 17, .bin .plain .gtr (.tmp 15) (.tmp 16), (some (14, false)), []⟩,
 ⟨some 18, .pick (.tmp 14) (.const (.bool true)) (.tmp 17), none, []⟩]
def k_strings_explode_r3 : List AOper := [
  ⟨some 19, .move (.tmp 5), none, []⟩,
 ⟨some 1, .move (.tmp 19), none, []⟩]
def k_strings_explode_r4 : List AOper := [
  ⟨some 20, .move (.tmp 1), none, []⟩,
 ⟨some 21, .makeSlice (.str []) 16 (.tmp 20) (.tmp 20), none, []⟩,
 ⟨some 6, .move (.tmp 21), none, []⟩]
def k_strings_explode_r5 : List AOper := [
  ⟨some 7, .move (.const (.int .i64 0)), none, []⟩]
def k_strings_explode_r6 : List AOper := [
  ⟨some 22, .move (.tmp 7), none, []⟩,
 ⟨some 23, .move (.tmp 1), none, []⟩,
 ⟨some 24, .bin .plain .sub (.tmp 23) (.const (.int .i64 1)), none, []⟩,
 ⟨some 25, .bin .plain .lss (.tmp 22) (.tmp 24), none, []⟩]
def k_strings_explode_r7 : List AOper := [
  ⟨some 29, .move (.tmp 0), none, []⟩,
 ⟨some 30, .call (.const (.fn (.func 82) [] [])) [.tmp 29], none, []⟩,
 ⟨some 28, .move (.tmp 30), none, []⟩,
 ⟨some 31, .extract (.tmp 28) 0, none, []⟩,
 ⟨some 32, .extract (.tmp 28) 1, none, []⟩,
 ⟨some 8, .move (.tmp 31), none, []⟩,
 ⟨some 9, .move (.tmp 32), none, []⟩]
def k_strings_explode_r8 : List AOper := [
  ⟨some 33, .move (.tmp 6), none, []⟩,
 ⟨some 34, .move (.tmp 7), none, []⟩,
 ⟨some 35, .move (.tmp 0), none, []⟩,
 ⟨some 36, .move (.tmp 9), none, []⟩,
 ⟨some 37, .slice true 1 (.tmp 35) none (some (.tmp 36)), none, []⟩,
 ⟨some 38, .indexAddr 1 (.tmp 33) (.tmp 34), none, []⟩,
 ⟨none, .store 1 (.tmp 38) (.tmp 37), none, []⟩]
def k_strings_explode_r9 : List AOper := [
  ⟨some 39, .move (.tmp 0), none, []⟩,
 ⟨some 40, .move (.tmp 9), none, []⟩,
 ⟨some 41, .slice true 1 (.tmp 39) (some (.tmp 40)) none, none, []⟩,
 ⟨some 0, .move (.tmp 41), none, []⟩]
def k_strings_explode_r10 : List AOper := [
  ⟨some 26, .move (.tmp 7), none, []⟩,
 ⟨some 27, .bin .plain .add (.tmp 26) (.const (.int .i64 1)), none, []⟩,
 ⟨some 7, .move (.tmp 27), none, []⟩]
def k_strings_explode_r11 : ACode := (.seq (.seq (.reg k_strings_explode_r6 false) (.cond (.tmp 25) .skip (.exit 0))) (.seq (.block 1 (.seq (.reg k_strings_explode_r7 false) (.seq (.reg k_strings_explode_r8 false) (.reg k_strings_explode_r9 false)))) (.reg k_strings_explode_r10 false)))
def k_strings_explode_r12 : List AOper := [
  ⟨some 42, .move (.tmp 1), none, []⟩,
 ⟨some 43, .bin .plain .gtr (.tmp 42) (.const (.int .i64 0)), none, []⟩]
def k_strings_explode_r13 : List AOper := [
  ⟨some 44, .move (.tmp 6), none, []⟩,
 ⟨some 45, .move (.tmp 1), none, []⟩,
 ⟨some 46, .bin .plain .sub (.tmp 45) (.const (.int .i64 1)), none, []⟩,
 ⟨some 47, .move (.tmp 0), none, []⟩,
 ⟨some 48, .indexAddr 1 (.tmp 44) (.tmp 46), none, []⟩,
 ⟨none, .store 1 (.tmp 48) (.tmp 47), none, []⟩]
def k_strings_explode_r14 : List AOper := [
  ⟨some 49, .move (.tmp 6), none, []⟩,
 ⟨some 4, .move (.tmp 49), none, []⟩]
def k_strings_explode : AFun := { params := 2, ntmps := 50, body := (.seq (.reg k_strings_explode_r0 false) (.seq (.reg k_strings_explode_r1 false) (.seq (.seq (.reg k_strings_explode_r2 false) (.cond (.tmp 18) (.reg k_strings_explode_r3 false) .skip)) (.seq (.reg k_strings_explode_r4 false) (.seq (.seq (.reg k_strings_explode_r5 false) (.block 0 (.loop k_strings_explode_r11))) (.seq (.seq (.reg k_strings_explode_r12 false) (.cond (.tmp 43) (.reg k_strings_explode_r13 false) .skip)) (.seq (.reg k_strings_explode_r14 false) .ret))))))), res := [.tmp 4] }
theorem k_strings_explode_ok : cfun Tryd.prog Tryd.f78 = k_strings_explode := by kernel_rfl

def k_strings_Count_r0 : List AOper := [
  ⟨some 4, .move (.const (.int .i64 0)), none, []⟩]
def k_strings_Count_r1 : List AOper := [
  ⟨some 7, .move (.tmp 1), none, []⟩,
 ⟨some 8, .len true (.tmp 7), none, []⟩,
 ⟨some 9, .bin .plain .eql (.tmp 8) (.const (.int .i64 0)), none, []⟩]
def k_strings_Count_r2 : List AOper := [
  ⟨some 10, .move (.tmp 0), none, []⟩,
 ⟨some 11, .call (.const (.fn (.func 81) [] [])) [.tmp 10], none, []⟩,
 ⟨some 12, .bin .plain .add (.tmp 11) (.const (.int .i64 1)), none, []⟩,
 ⟨some 4, .move (.tmp 12), none, []⟩]
def k_strings_Count_r3 : List AOper := [
  ⟨some 13, .move (.tmp 1), none, []⟩,
 ⟨some 14, .len true (.tmp 13), none, []⟩,
 ⟨some 15, .bin .plain .eql (.tmp 14) (.const (.int .i64 1)), none, []⟩]
def k_strings_Count_r4 : List AOper := [
  ⟨some 16, .move (.tmp 0), none, []⟩,
 ⟨some 17, .move (.tmp 1), none, []⟩,
 ⟨some 18, .indexStr (.tmp 17) (.const (.int .i64 0)), none, []⟩,
 ⟨some 19, .ext .count (.tmp 16) (.tmp 18), none, []⟩,
 ⟨some 4, .move (.tmp 19), none, []⟩]
def k_strings_Count_r5 : List AOper := [
  ⟨some 5, .move (.const (.int .i64 0)), none, []⟩]
def k_strings_Count_r6 : List AOper := [
  ⟨some 20, .move (.tmp 0), none, []⟩,
 ⟨some 21, .move (.tmp 1), none, []⟩,
 ⟨some 22, .call (.const (.fn (.func 80) [] [])) [.tmp 20, .tmp 21], none, []⟩,
 ⟨some 6, .move (.tmp 22), none, []⟩]
def k_strings_Count_r7 : List AOper := [
  ⟨some 23, .move (.tmp 6), none, []⟩,
 ⟨some 24, .bin .plain .eql (.tmp 23) (.const (.int .i64 (-1))), none, []⟩]
def k_strings_Count_r8 : List AOper := [
  ⟨some 25, .move (.tmp 5), none, []⟩,
 ⟨some 4, .move (.tmp 25), none, []⟩]
def k_strings_Count_r9 : List AOper := [
  ⟨some 26, .move (.tmp 5), none, []⟩,
 ⟨some 27, .bin .plain .add (.tmp 26) (.const (.int .i64 1)), none, []⟩,
 ⟨some 5, .move (.tmp 27), none, []⟩]
def k_strings_Count_r10 : List AOper := [
  ⟨some 28, .move (.tmp 0), none, []⟩,
 ⟨some 29, .move (.tmp 6), none, []⟩,
 ⟨some 30, .move (.tmp 1), none, []⟩,
 ⟨some 31, .len true (.tmp 30), none, []⟩,
 ⟨some 32, .bin .plain .add (.tmp 29) (.tmp 31), none, []⟩,
 ⟨some 33, .slice true 1 (.tmp 28) (some (.tmp 32)) none, none, []⟩,
 ⟨some 0, .move (.tmp 33), none, []⟩]
def k_strings_Count_r11 : ACode := (.block 1 (.seq (.reg k_strings_Count_r6 false) (.seq (.seq (.reg k_strings_Count_r7 false) (.cond (.tmp 24) (.seq (.reg k_strings_Count_r8 false) .ret) .skip)) (.seq (.reg k_strings_Count_r9 false) (.reg k_strings_Count_r10 false)))))
def k_strings_Count : AFun := { params := 2, ntmps := 34, body := (.seq (.reg k_strings_Count_r0 false) (.seq (.seq (.reg k_strings_Count_r1 false) (.cond (.tmp 9) (.seq (.reg k_strings_Count_r2 false) .ret) .skip)) (.seq (.seq (.reg k_strings_Count_r3 false) (.cond (.tmp 15) (.seq (.reg k_strings_Count_r4 false) .ret) .skip)) (.seq (.reg k_strings_Count_r5 false) (.block 0 (.loop k_strings_Count_r11)))))), res := [.tmp 4] }
theorem k_strings_Count_ok : cfun Tryd.prog Tryd.f79 = k_strings_Count := by kernel_rfl

def k_strings_Index_r0 : List AOper := [
  ⟨some 4, .move (.const (.int .i64 0)), none, []⟩]
def k_strings_Index_r1 : List AOper := [
  ⟨some 5, .move (.tmp 0), none, []⟩,
 ⟨some 6, .move (.tmp 1), none, []⟩,
 ⟨some 7, .call (.const (.fn (.func 84) [] [])) [.tmp 5, .tmp 6], none, []⟩,
 ⟨some 4, .move (.tmp 7), none, []⟩]
def k_strings_Index : AFun := { params := 2, ntmps := 8, body := (.seq (.reg k_strings_Index_r0 false) (.seq (.reg k_strings_Index_r1 false) .ret)), res := [.tmp 4] }
theorem k_strings_Index_ok : cfun Tryd.prog Tryd.f80 = k_strings_Index := by kernel_rfl

def k_unicode_utf8_RuneCountInString_r0 : List AOper := [
  ⟨some 2, .move (.const (.int .i64 0)), none, []⟩]
def k_unicode_utf8_RuneCountInString_r1 : List AOper := [
  ⟨some 3, .move (.tmp 0), none, []⟩,
 ⟨some 4, .range (.tmp 3), none, []⟩]
def k_unicode_utf8_RuneCountInString_r2 : List AOper := [
  ⟨some 5, .nextStr (.tmp 4), none, []⟩,
 ⟨some 6, .extract (.tmp 5) 0, none, []⟩]
def k_unicode_utf8_RuneCountInString_r3 : List AOper := [
  ⟨some 7, .move (.tmp 2), none, []⟩,
 ⟨some 8, .bin .plain .add (.tmp 7) (.const (.int .i64 1)), none, []⟩,
 ⟨some 2, .move (.tmp 8), none, []⟩]
def k_unicode_utf8_RuneCountInString_r4 : ACode := (.seq (.reg k_unicode_utf8_RuneCountInString_r2 false) (.seq (.cond (.tmp 6) .skip (.exit 0)) (.block 1 (.reg k_unicode_utf8_RuneCountInString_r3 false))))
def k_unicode_utf8_RuneCountInString_r5 : List AOper := [
  ⟨some 9, .move (.tmp 2), none, []⟩,
 ⟨some 2, .move (.tmp 9), none, []⟩]
def k_unicode_utf8_RuneCountInString : AFun := { params := 1, ntmps := 10, body := (.seq (.reg k_unicode_utf8_RuneCountInString_r0 false) (.seq (.seq (.reg k_unicode_utf8_RuneCountInString_r1 false) (.block 0 (.loop k_unicode_utf8_RuneCountInString_r4))) (.seq (.reg k_unicode_utf8_RuneCountInString_r5 false) .ret))), res := [.tmp 2] }
theorem k_unicode_utf8_RuneCountInString_ok : cfun Tryd.prog Tryd.f81 = k_unicode_utf8_RuneCountInString := by kernel_rfl

def k_unicode_utf8_DecodeRuneInString_r0 : List AOper := [
  ⟨some 2, .move (.const (.int .i32 0)), none, []⟩,
 ⟨some 3, .move (.const (.int .i64 0)), none, []⟩]
def k_unicode_utf8_DecodeRuneInString_r1 : List AOper := [
  ⟨some 4, .move (.tmp 0), none, []⟩,
 ⟨some 5, .bin .plain .neq (.tmp 4) (.const (.str [])), none, []⟩,
 ⟨some 6, .move (.tmp 5), none, []⟩,
 ⟨some 7, .move (.tmp 0), (some (6, true)), []⟩,
 ⟨some 8, .indexStr (.tmp 7) (.const (.int .i64 0)), (some (6, true)), []⟩,
 ⟨some 9, .bin .plain .lss (.tmp 8) (.const (.int .u8 128)), (some (6, true)), []⟩,
 ⟨some 10, .pick (.tmp 6) (.tmp 9) (.const (.bool false)), none, []⟩]
def k_unicode_utf8_DecodeRuneInString_r2 : List AOper := [
  ⟨some 11, .move (.tmp 0), none, []⟩,
 ⟨some 12, .indexStr (.tmp 11) (.const (.int .i64 0)), none, []⟩,
 ⟨some 13, .toInt .i32 (.tmp 12), none, []⟩,
 ⟨some 2, .move (.tmp 13), none, []⟩,
 ⟨some 3, .move (.const (.int .i64 1)), none, []⟩]
def k_unicode_utf8_DecodeRuneInString_r3 : List AOper := [
  ⟨some 15, .move (.tmp 0), none, []⟩,
 ⟨some 16, .call (.const (.fn (.func 85) [] [])) [.tmp 15], none, []⟩,
 ⟨some 14, .move (.tmp 16), none, []⟩,
 ⟨some 17, .extract (.tmp 14) 0, none, []⟩,
 ⟨some 18, .extract (.tmp 14) 1, none, []⟩,
 ⟨some 2, .move (.tmp 17), none, []⟩,
 ⟨some 3, .move (.tmp 18), none, []⟩]
def k_unicode_utf8_DecodeRuneInString : AFun := { params := 1, ntmps := 19, body := (.seq (.reg k_unicode_utf8_DecodeRuneInString_r0 false) (.seq (.seq (.reg k_unicode_utf8_DecodeRuneInString_r1 false) (.cond (.tmp 10) (.seq (.reg k_unicode_utf8_DecodeRuneInString_r2 false) .ret) (.reg k_unicode_utf8_DecodeRuneInString_r3 false))) .ret)), res := [.tmp 2, .tmp 3] }
theorem k_unicode_utf8_DecodeRuneInString_ok : cfun Tryd.prog Tryd.f82 = k_unicode_utf8_DecodeRuneInString := by kernel_rfl

def k_stringslite_Index_r0 : List AOper := [
  ⟨some 4, .move (.const (.int .i64 0)), none, []⟩]
def k_stringslite_Index_r1 : List AOper := [
  ⟨some 14, .move (.tmp 1), none, []⟩,
 ⟨some 15, .len true (.tmp 14), none, []⟩,
 ⟨some 5, .move (.tmp 15), none, []⟩]
def k_stringslite_Index_r2 : List AOper := [
  ⟨some 17, .move (.tmp 5), none, []⟩,
 ⟨some 18, .bin .plain .eql (.tmp 17) (.const (.int .i64 0)), none, []⟩,
 ⟨some 19, .move (.tmp 18), none, []⟩,
 ⟨some 20, .move (.tmp 1), (some (19, false)), []⟩,
 ⟨some 21, .move (.tmp 0), (some (19, false)), []⟩,
 ⟨some 22, .bin .plain .eql (.tmp 20) (.tmp 21), (some (19, false)), []⟩,
 ⟨some 23, .pick (.tmp 19) (.const (.bool true)) (.tmp 22), none, []⟩,
 ⟨some 16, .move (.tmp 23), none, []⟩]
def k_stringslite_Index_r3 : List AOper := [
  ⟨some 4, .move (.const (.int .i64 0)), none, []⟩]
def k_stringslite_Index_r4 : List AOper := [
  ⟨some 25, .move (.tmp 5), none, []⟩,
 ⟨some 26, .bin .plain .eql (.tmp 25) (.const (.int .i64 1)), none, []⟩,
 ⟨some 24, .move (.tmp 26), none, []⟩]
def k_stringslite_Index_r5 : List AOper := [
  ⟨some 27, .move (.tmp 0), none, []⟩,
 ⟨some 28, .move (.tmp 1), none, []⟩,
 ⟨some 29, .indexStr (.tmp 28) (.const (.int .i64 0)), none, []⟩,
 ⟨some 30, .call (.const (.fn (.func 86) [] [])) [.tmp 27, .tmp 29], none, []⟩,
 ⟨some 4, .move (.tmp 30), none, []⟩]
def k_stringslite_Index_r6 : List AOper := [
  ⟨some 32, .move (.tmp 5), none, []⟩,
 ⟨some 33, .move (.tmp 0), none, []⟩,
 ⟨some 34, .len true (.tmp 33), none, []⟩,
 ⟨some 35, .bin .plain .geq (.tmp 32) (.tmp 34), none, []⟩,
 ⟨some 31, .move (.tmp 35), none, []⟩]
def k_stringslite_Index_r7 : List AOper := [
  ⟨some 4, .move (.const (.int .i64 (-1))), none, []⟩]
def k_stringslite_Index_r8 : List AOper := [
  ⟨some 37, .move (.tmp 5), none, []⟩,
 ⟨some 38, .load none (.const (.any)), none, []⟩,
 ⟨some 39, .bin .plain .leq (.tmp 37) (.tmp 38), none, []⟩,
 ⟨some 40, .move (.tmp 39), none, []⟩,
 ⟨some 41, .move (.tmp 0), (some (40, true)), []⟩,
 ⟨some 42, .len true (.tmp 41), (some (40, true)), []⟩,
 ⟨some 43, .bin .plain .leq (.tmp 42) (.const (.int .i64 64)), (some (40, true)), []⟩,
 ⟨some 44, .pick (.tmp 40) (.tmp 43) (.const (.bool false)), none, []⟩,
 ⟨some 36, .move (.tmp 44), none, []⟩]
def k_stringslite_Index_r9 : List AOper := [
  ⟨some 45, .move (.tmp 0), none, []⟩,
 ⟨some 46, .move (.tmp 1), none, []⟩,
 ⟨some 47, .call (.const (.fn (.func 87) [] [])) [.tmp 45, .tmp 46], none, []⟩,
 ⟨some 4, .move (.tmp 47), none, []⟩]
def k_stringslite_Index_r10 : List AOper := [
  ⟨some 48, .move (.tmp 1), none, []⟩,
 ⟨some 49, .indexStr (.tmp 48) (.const (.int .i64 0)), none, []⟩,
 ⟨some 6, .move (.tmp 49), none, []⟩]
def k_stringslite_Index_r11 : List AOper := [
  ⟨some 50, .move (.tmp 1), none, []⟩,
 ⟨some 51, .indexStr (.tmp 50) (.const (.int .i64 1)), none, []⟩,
 ⟨some 7, .move (.tmp 51), none, []⟩]
def k_stringslite_Index_r12 : List AOper := [
  ⟨some 8, .move (.const (.int .i64 0)), none, []⟩]
def k_stringslite_Index_r13 : List AOper := [
  ⟨some 52, .move (.tmp 0), none, []⟩,
 ⟨some 53, .len true (.tmp 52), none, []⟩,
 ⟨some 54, .move (.tmp 5), none, []⟩,
 ⟨some 55, .bin .plain .sub (.tmp 53) (.tmp 54), none, []⟩,
 ⟨some 56, .bin .plain .add (.tmp 55) (.const (.int .i64 1)), none, []⟩,
 ⟨some 9, .move (.tmp 56), none, []⟩]
def k_stringslite_Index_r14 : List AOper := [
  ⟨some 10, .move (.const (.int .i64 0)), none, []⟩]
def k_stringslite_Index_r15 : List AOper := [
  ⟨some 57, .move (.tmp 8), none, []⟩,
 ⟨some 58, .move (.tmp 9), none, []⟩,
 ⟨some 59, .bin .plain .lss (.tmp 57) (.tmp 58), none, []⟩]
def k_stringslite_Index_r16 : List AOper := [
  ⟨some 60, .move (.tmp 0), none, []⟩,
 ⟨some 61, .move (.tmp 8), none, []⟩,
 ⟨some 62, .indexStr (.tmp 60) (.tmp 61), none, []⟩,
 ⟨some 63, .move (.tmp 6), none, []⟩,
 ⟨some 64, .bin .plain .neq (.tmp 62) (.tmp 63), none, []⟩]
def k_stringslite_Index_r17 : List AOper := [
  ⟨some 65, .move (.tmp 0), none, []⟩,
 ⟨some 66, .move (.tmp 8), none, []⟩,
 ⟨some 67, .bin .plain .add (.tmp 66) (.const (.int .i64 1)), none, []⟩,
 ⟨some 68, .move (.tmp 9), none, []⟩,
 ⟨some 69, .slice true 1 (.tmp 65) (some (.tmp 67)) (some (.tmp 68)), none, []⟩,
 ⟨some 70, .move (.tmp 6), none, []⟩,
 ⟨some 71, .call (.const (.fn (.func 86) [] [])) [.tmp 69, .tmp 70], none, []⟩,
 ⟨some 11, .move (.tmp 71), none, []⟩]
def k_stringslite_Index_r18 : List AOper := [
  ⟨some 72, .move (.tmp 11), none, []⟩,
 ⟨some 73, .bin .plain .lss (.tmp 72) (.const (.int .i64 0)), none, []⟩]
def k_stringslite_Index_r19 : List AOper := [
  ⟨some 4, .move (.const (.int .i64 (-1))), none, []⟩]
def k_stringslite_Index_r20 : List AOper := [
  ⟨some 74, .move (.tmp 8), none, []⟩,
 ⟨some 75, .move (.tmp 11), none, []⟩,
 ⟨some 76, .bin .plain .add (.tmp 75) (.const (.int .i64 1)), none, []⟩,
 ⟨some 77, .bin .plain .add (.tmp 74) (.tmp 76), none, []⟩,
 ⟨some 8, .move (.tmp 77), none, []⟩]
def k_stringslite_Index_r21 : List AOper := [
  ⟨some 78, .move (.tmp 0), none, []⟩,
 ⟨some 79, .move (.tmp 8), none, []⟩,
 ⟨some 80, .bin .plain .add (.tmp 79) (.const (.int .i64 1)), none, []⟩,
 ⟨some 81, .indexStr (.tmp 78) (.tmp 80), none, []⟩,
 ⟨some 82, .move (.tmp 7), none, []⟩,
 ⟨some 83, .bin .plain .eql (.tmp 81) (.tmp 82), none, []⟩,
 ⟨some 84, .move (.tmp 83), none, []⟩,
 ⟨some 85, .move (.tmp 0), (some (84, true)), []⟩,
 ⟨some 86, .move (.tmp 8), (some (84, true)), []⟩,
 ⟨some 87, .move (.tmp 8), (some (84, true)), []⟩,
 ⟨some 88, .move (.tmp 5), (some (84, true)), []⟩,
 ⟨some 89, .bin .plain .add (.tmp 87) (.tmp 88), (some (84, true)), []⟩,
 ⟨some 90, .slice true 1 (.tmp 85) (some (.tmp 86)) (some (.tmp 89)), (some (84, true)), []⟩,
 ⟨some 91, .move (.tmp 1), (some (84, true)), []⟩,
 ⟨some 92, .bin .plain .eql (.tmp 90) (.tmp 91), (some (84, true)), []⟩,
 ⟨some 93, .pick (.tmp 84) (.tmp 92) (.const (.bool false)), none, []⟩]
def k_stringslite_Index_r22 : List AOper := [
  ⟨some 94, .move (.tmp 8), none, []⟩,
 ⟨some 4, .move (.tmp 94), none, []⟩]
def k_stringslite_Index_r23 : List AOper := [
  ⟨some 95, .move (.tmp 8), none, []⟩,
 ⟨some 96, .bin .plain .add (.tmp 95) (.const (.int .i64 1)), none, []⟩,
 ⟨some 8, .move (.tmp 96), none, []⟩]
def k_stringslite_Index_r24 : List AOper := [
  ⟨some 97, .move (.tmp 10), none, []⟩,
 ⟨some 98, .bin .plain .add (.tmp 97) (.const (.int .i64 1)), none, []⟩,
 ⟨some 10, .move (.tmp 98), none, []⟩]
def k_stringslite_Index_r25 : List AOper := [
  ⟨some 99, .move (.tmp 5), none, []⟩,
 ⟨some 100, .load none (.const (.any)), none, []⟩,
 ⟨some 101, .bin .plain .leq (.tmp 99) (.tmp 100), none, []⟩,
 ⟨some 102, .move (.tmp 101), none, []⟩,
 ⟨some 103, .move (.tmp 10), (some (102, true)), []⟩,
 ⟨some 104, .move (.tmp 8), (some (102, true)), []⟩,
 ⟨some 105, .call (.const (.fn (.func 88) [] [])) [.tmp 104], (some (102, true)), []⟩,
 ⟨some 106, .bin .plain .gtr (.tmp 103) (.tmp 105), (some (102, true)), []⟩,
 ⟨some 107, .pick (.tmp 102) (.tmp 106) (.const (.bool false)), none, []⟩]
def k_stringslite_Index_r26 : List AOper := [
  ⟨some 108, .move (.tmp 0), none, []⟩,
 ⟨some 109, .move (.tmp 8), none, []⟩,
 ⟨some 110, .slice true 1 (.tmp 108) (some (.tmp 109)) none, none, []⟩,
 ⟨some 111, .move (.tmp 1), none, []⟩,
 ⟨some 112, .call (.const (.fn (.func 87) [] [])) [.tmp 110, .tmp 111], none, []⟩,
 ⟨some 12, .move (.tmp 112), none, []⟩]
def k_stringslite_Index_r27 : List AOper := [
  ⟨some 113, .move (.tmp 12), none, []⟩,
 ⟨some 114, .bin .plain .geq (.tmp 113) (.const (.int .i64 0)), none, []⟩]
def k_stringslite_Index_r28 : List AOper := [
  ⟨some 115, .move (.tmp 12), none, []⟩,
 ⟨some 116, .move (.tmp 8), none, []⟩,
 ⟨some 117, .bin .plain .add (.tmp 115) (.tmp 116), none, []⟩,
 ⟨some 4, .move (.tmp 117), none, []⟩]
def k_stringslite_Index_r29 : List AOper := [
  ⟨some 4, .move (.const (.int .i64 (-1))), none, []⟩]
def k_stringslite_Index_r30 : List AOper := [
  ⟨some 118, .move (.tmp 5), none, []⟩,
 ⟨some 119, .load none (.const (.any)), none, []⟩,
 ⟨some 120, .bin .plain .gtr (.tmp 118) (.tmp 119), none, []⟩,
 ⟨some 121, .move (.tmp 120), none, []⟩,
 ⟨some 122, .move (.tmp 10), (some (121, true)), []⟩,
 ⟨some 123, .move (.tmp 8), (some (121, true)), []⟩,
 ⟨some 124, .bin .plain .shr (.tmp 123) (.const (.int .u64 4)), (some (121, true)), []⟩,
 ⟨some 125, .bin .plain .add (.const (.int .i64 4)) (.tmp 124), (some (121, true)), []⟩,
 ⟨some 126, .bin .plain .geq (.tmp 122) (.tmp 125), (some (121, true)), []⟩,
 ⟨some 127, .pick (.tmp 121) (.tmp 126) (.const (.bool false)), none, []⟩,
 ⟨some 128, .move (.tmp 127), none, []⟩,
 ⟨some 129, .move (.tmp 8), (some (128, true)), []⟩,
 ⟨some 130, .move (.tmp 9), (some (128, true)), []⟩,
 ⟨some 131, .bin .plain .lss (.tmp 129) (.tmp 130), (some (128, true)), []⟩,
 ⟨some 132, .pick (.tmp 128) (.tmp 131) (.const (.bool false)), none, []⟩]
def k_stringslite_Index_r31 : List AOper := [
  ⟨some 133, .move (.tmp 0), none, []⟩,
 ⟨some 134, .move (.tmp 8), none, []⟩,
 ⟨some 135, .slice true 1 (.tmp 133) (some (.tmp 134)) none, none, []⟩,
 ⟨some 136, .move (.tmp 1), none, []⟩,
 ⟨some 137, .call (.const (.fn (.func 89) [] [])) [.tmp 135, .tmp 136], none, []⟩,
 ⟨some 13, .move (.tmp 137), none, []⟩]
def k_stringslite_Index_r32 : List AOper := [
  ⟨some 138, .move (.tmp 13), none, []⟩,
 ⟨some 139, .bin .plain .lss (.tmp 138) (.const (.int .i64 0)), none, []⟩]
def k_stringslite_Index_r33 : List AOper := [
  ⟨some 4, .move (.const (.int .i64 (-1))), none, []⟩]
def k_stringslite_Index_r34 : List AOper := [
  ⟨some 140, .move (.tmp 8), none, []⟩,
 ⟨some 141, .move (.tmp 13), none, []⟩,
 ⟨some 142, .bin .plain .add (.tmp 140) (.tmp 141), none, []⟩,
 ⟨some 4, .move (.tmp 142), none, []⟩]
def k_stringslite_Index_r35 : ACode := (.seq (.seq (.reg k_stringslite_Index_r15 false) (.cond (.tmp 59) .skip (.exit 1))) (.block 2 (.seq (.seq (.reg k_stringslite_Index_r16 false) (.cond (.tmp 64) (.seq (.reg k_stringslite_Index_r17 false) (.seq (.seq (.reg k_stringslite_Index_r18 false) (.cond (.tmp 73) (.seq (.reg k_stringslite_Index_r19 false) .ret) .skip)) (.reg k_stringslite_Index_r20 false))) .skip)) (.seq (.seq (.reg k_stringslite_Index_r21 false) (.cond (.tmp 93) (.seq (.reg k_stringslite_Index_r22 false) .ret) .skip)) (.seq (.reg k_stringslite_Index_r23 false) (.seq (.reg k_stringslite_Index_r24 false) (.seq (.reg k_stringslite_Index_r25 false) (.cond (.tmp 107) (.seq (.reg k_stringslite_Index_r26 false) (.seq (.seq (.reg k_stringslite_Index_r27 false) (.cond (.tmp 114) (.seq (.reg k_stringslite_Index_r28 false) .ret) .skip)) (.seq (.reg k_stringslite_Index_r29 false) .ret))) (.seq (.reg k_stringslite_Index_r30 false) (.cond (.tmp 132) (.seq (.reg k_stringslite_Index_r31 false) (.seq (.seq (.reg k_stringslite_Index_r32 false) (.cond (.tmp 139) (.seq (.reg k_stringslite_Index_r33 false) .ret) .skip)) (.seq (.reg k_stringslite_Index_r34 false) .ret))) .skip))))))))))
def k_stringslite_Index_r36 : List AOper := [
  ⟨some 4, .move (.const (.int .i64 (-1))), none, []⟩]
def k_stringslite_Index : AFun := { params := 2, ntmps := 143, body := (.seq (.reg k_stringslite_Index_r0 false) (.seq (.reg k_stringslite_Index_r1 false) (.seq (.block 0 (.seq (.reg k_stringslite_Index_r2 false) (.cond (.tmp 16) (.seq (.reg k_stringslite_Index_r3 false) .ret) (.seq (.reg k_stringslite_Index_r4 false) (.cond (.tmp 24) (.seq (.reg k_stringslite_Index_r5 false) .ret) (.seq (.reg k_stringslite_Index_r6 false) (.cond (.tmp 31) (.seq (.reg k_stringslite_Index_r7 false) .ret) (.seq (.reg k_stringslite_Index_r8 false) (.cond (.tmp 36) (.seq (.reg k_stringslite_Index_r9 false) .ret) .skip))))))))) (.seq (.reg k_stringslite_Index_r10 false) (.seq (.reg k_stringslite_Index_r11 false) (.seq (.reg k_stringslite_Index_r12 false) (.seq (.reg k_stringslite_Index_r13 false) (.seq (.reg k_stringslite_Index_r14 false) (.seq (.block 1 (.loop k_stringslite_Index_r35)) (.seq (.reg k_stringslite_Index_r36 false) .ret)))))))))), res := [.tmp 4] }
theorem k_stringslite_Index_ok : cfun Tryd.prog Tryd.f84 = k_stringslite_Index := by kernel_rfl

def k_unicode_utf8_decodeRuneInStringSlow_r0 : List AOper := [
  ⟨some 2, .move (.const (.int .i32 0)), none, []⟩,
 ⟨some 3, .move (.const (.int .i64 0)), none, []⟩]
def k_unicode_utf8_decodeRuneInStringSlow_r1 : List AOper := [
  ⟨some 13, .move (.tmp 0), none, []⟩,
 ⟨some 14, .len true (.tmp 13), none, []⟩,
 ⟨some 4, .move (.tmp 14), none, []⟩]
def k_unicode_utf8_decodeRuneInStringSlow_r2 : List AOper := [
  ⟨some 15, .move (.tmp 4), none, []⟩,
 ⟨some 16, .bin .plain .lss (.tmp 15) (.const (.int .i64 1)), none, []⟩]
def k_unicode_utf8_decodeRuneInStringSlow_r3 : List AOper := [
  ⟨some 2, .move (.const (.int .i32 65533)), none, []⟩,
 ⟨some 3, .move (.const (.int .i64 0)), none, []⟩]
def k_unicode_utf8_decodeRuneInStringSlow_r4 : List AOper := [
  ⟨some 17, .move (.tmp 0), none, []⟩,
 ⟨some 18, .indexStr (.tmp 17) (.const (.int .i64 0)), none, []⟩,
 ⟨some 5, .move (.tmp 18), none, []⟩]
def k_unicode_utf8_decodeRuneInStringSlow_r5 : List AOper := [
  ⟨some 19, .move (.tmp 5), none, []⟩,
 ⟨some 20, .indexArr 256 1 (.const (.any)) (.tmp 19), none, []⟩,
 ⟨some 21, .load none (.tmp 20), none, []⟩,
 ⟨some 6, .move (.tmp 21), none, []⟩]
def k_unicode_utf8_decodeRuneInStringSlow_r6 : List AOper := [
  ⟨some 22, .move (.tmp 6), none, []⟩,
 ⟨some 23, .bin .plain .geq (.tmp 22) (.const (.int .u8 240)), none, []⟩]
def k_unicode_utf8_decodeRuneInStringSlow_r7 : List AOper := [
  ⟨some 24, .move (.tmp 6), none, []⟩,
 ⟨some 25, .toInt .i32 (.tmp 24), none, []⟩,
 ⟨some 26, .bin .plain .shl (.tmp 25) (.const (.int .u64 31)), none, []⟩,
 ⟨some 27, .bin .plain .shr (.tmp 26) (.const (.int .u64 31)), none, []⟩,
 ⟨some 7, .move (.tmp 27), none, []⟩]
def k_unicode_utf8_decodeRuneInStringSlow_r8 : List AOper := [
  ⟨some 28, .move (.tmp 0), none, []⟩,
 ⟨some 29, .indexStr (.tmp 28) (.const (.int .i64 0)), none, []⟩,
 ⟨some 30, .toInt .i32 (.tmp 29), none, []⟩,
 ⟨some 31, .move (.tmp 7), none, []⟩,
 ⟨some 32, .bin .plain .andNot (.tmp 30) (.tmp 31), none, []⟩,
 ⟨some 33, .move (.tmp 7), none, []⟩,
 ⟨some 34, .bin .plain .and (.const (.int .i32 65533)) (.tmp 33), none, []⟩,
 ⟨some 35, .bin .plain .or (.tmp 32) (.tmp 34), none, []⟩,
 ⟨some 2, .move (.tmp 35), none, []⟩,
 ⟨some 3, .move (.const (.int .i64 1)), none, []⟩]
def k_unicode_utf8_decodeRuneInStringSlow_r9 : List AOper := [
  ⟨some 36, .move (.tmp 6), none, []⟩,
 ⟨some 37, .bin .plain .and (.tmp 36) (.const (.int .u8 7)), none, []⟩,
 ⟨some 38, .toInt .i64 (.tmp 37), none, []⟩,
 ⟨some 8, .move (.tmp 38), none, []⟩]
def k_unicode_utf8_decodeRuneInStringSlow_r10 : List AOper := [
  ⟨some 39, .move (.tmp 6), none, []⟩,
 ⟨some 40, .bin .plain .shr (.tmp 39) (.const (.int .u64 4)), none, []⟩,
 ⟨some 41, .indexArr 16 2 (.const (.any)) (.tmp 40), none, []⟩,
 ⟨some 42, .load (some (2)) (.tmp 41), none, []⟩,
 ⟨some 9, .box (.const (.agg [.int .u8 0, .int .u8 0])), none, []⟩,
 ⟨none, .store 2 (.tmp 9) (.tmp 42), none, []⟩]
def k_unicode_utf8_decodeRuneInStringSlow_r11 : List AOper := [
  ⟨some 43, .move (.tmp 4), none, []⟩,
 ⟨some 44, .move (.tmp 8), none, []⟩,
 ⟨some 45, .bin .plain .lss (.tmp 43) (.tmp 44), none, []⟩]
def k_unicode_utf8_decodeRuneInStringSlow_r12 : List AOper := [
  ⟨some 2, .move (.const (.int .i32 65533)), none, []⟩,
 ⟨some 3, .move (.const (.int .i64 1)), none, []⟩]
def k_unicode_utf8_decodeRuneInStringSlow_r13 : List AOper := [
  ⟨some 46, .move (.tmp 0), none, []⟩,
 ⟨some 47, .indexStr (.tmp 46) (.const (.int .i64 1)), none, []⟩,
 ⟨some 10, .move (.tmp 47), none, []⟩]
def k_unicode_utf8_decodeRuneInStringSlow_r14 : List AOper := [
  ⟨some 48, .move (.tmp 10), none, []⟩,
 ⟨some 49, .fieldAddr 0 (.tmp 9), none, []⟩,
 ⟨some 50, .load none (.tmp 49), none, []⟩,
 ⟨some 51, .bin .plain .lss (.tmp 48) (.tmp 50), none, []⟩,
 ⟨some 52, .move (.tmp 51), none, []⟩,
 ⟨some 53, .fieldAddr 1 (.tmp 9), (some (52, false)), []⟩,
 ⟨some 54, .load none (.tmp 53), (some (52, false)), []⟩,
 ⟨some 55, .move (.tmp 10), (some (52, false)), []⟩,
 ⟨some 56, .bin .plain .lss (.tmp 54) (.tmp 55), (some (52, false)), []⟩,
 ⟨some 57, .pick (.tmp 52) (.const (.bool true)) (.tmp 56), none, []⟩]
def k_unicode_utf8_decodeRuneInStringSlow_r15 : List AOper := [
  ⟨some 2, .move (.const (.int .i32 65533)), none, []⟩,
 ⟨some 3, .move (.const (.int .i64 1)), none, []⟩]
def k_unicode_utf8_decodeRuneInStringSlow_r16 : List AOper := [
  ⟨some 58, .move (.tmp 8), none, []⟩,
 ⟨some 59, .bin .plain .leq (.tmp 58) (.const (.int .i64 2)), none, []⟩]
def k_unicode_utf8_decodeRuneInStringSlow_r17 : List AOper := [
  ⟨some 60, .move (.tmp 5), none, []⟩,
 ⟨some 61, .bin .plain .and (.tmp 60) (.const (.int .u8 31)), none, []⟩,
 ⟨some 62, .toInt .i32 (.tmp 61), none, []⟩,
 ⟨some 63, .bin .plain .shl (.tmp 62) (.const (.int .u64 6)), none, []⟩,
 ⟨some 64, .move (.tmp 10), none, []⟩,
 ⟨some 65, .bin .plain .and (.tmp 64) (.const (.int .u8 63)), none, []⟩,
 ⟨some 66, .toInt .i32 (.tmp 65), none, []⟩,
 ⟨some 67, .bin .plain .or (.tmp 63) (.tmp 66), none, []⟩,
 ⟨some 2, .move (.tmp 67), none, []⟩,
 ⟨some 3, .move (.const (.int .i64 2)), none, []⟩]
def k_unicode_utf8_decodeRuneInStringSlow_r18 : List AOper := [
  ⟨some 68, .move (.tmp 0), none, []⟩,
 ⟨some 69, .indexStr (.tmp 68) (.const (.int .i64 2)), none, []⟩,
 ⟨some 11, .move (.tmp 69), none, []⟩]
def k_unicode_utf8_decodeRuneInStringSlow_r19 : List AOper := [
  ⟨some 70, .move (.tmp 11), none, []⟩,
 ⟨some 71, .bin .plain .lss (.tmp 70) (.const (.int .u8 128)), none, []⟩,
 ⟨some 72, .move (.tmp 71), none, []⟩,
 ⟨some 73, .move (.tmp 11), (some (72, false)), []⟩,
 ⟨some 74, .bin .plain .lss (.const (.int .u8 191)) (.tmp 73), (some (72, false)), []⟩,
 ⟨some 75, .pick (.tmp 72) (.const (.bool true)) (.tmp 74), none, []⟩]
def k_unicode_utf8_decodeRuneInStringSlow_r20 : List AOper := [
  ⟨some 2, .move (.const (.int .i32 65533)), none, []⟩,
 ⟨some 3, .move (.const (.int .i64 1)), none, []⟩]
def k_unicode_utf8_decodeRuneInStringSlow_r21 : List AOper := [
  ⟨some 76, .move (.tmp 8), none, []⟩,
 ⟨some 77, .bin .plain .leq (.tmp 76) (.const (.int .i64 3)), none, []⟩]
def k_unicode_utf8_decodeRuneInStringSlow_r22 : List AOper := [
  ⟨some 78, .move (.tmp 5), none, []⟩,
 ⟨some 79, .bin .plain .and (.tmp 78) (.const (.int .u8 15)), none, []⟩,
 ⟨some 80, .toInt .i32 (.tmp 79), none, []⟩,
 ⟨some 81, .bin .plain .shl (.tmp 80) (.const (.int .u64 12)), none, []⟩,
 ⟨some 82, .move (.tmp 10), none, []⟩,
 ⟨some 83, .bin .plain .and (.tmp 82) (.const (.int .u8 63)), none, []⟩,
 ⟨some 84, .toInt .i32 (.tmp 83), none, []⟩,
 ⟨some 85, .bin .plain .shl (.tmp 84) (.const (.int .u64 6)), none, []⟩,
 ⟨some 86, .bin .plain .or (.tmp 81) (.tmp 85), none, []⟩,
 ⟨some 87, .move (.tmp 11), none, []⟩,
 ⟨some 88, .bin .plain .and (.tmp 87) (.const (.int .u8 63)), none, []⟩,
 ⟨some 89, .toInt .i32 (.tmp 88), none, []⟩,
 ⟨some 90, .bin .plain .or (.tmp 86) (.tmp 89), none, []⟩,
 ⟨some 2, .move (.tmp 90), none, []⟩,
 ⟨some 3, .move (.const (.int .i64 3)), none, []⟩]
def k_unicode_utf8_decodeRuneInStringSlow_r23 : List AOper := [
  ⟨some 91, .move (.tmp 0), none, []⟩,
 ⟨some 92, .indexStr (.tmp 91) (.const (.int .i64 3)), none, []⟩,
 ⟨some 12, .move (.tmp 92), none, []⟩]
def k_unicode_utf8_decodeRuneInStringSlow_r24 : List AOper := [
  ⟨some 93, .move (.tmp 12), none, []⟩,
 ⟨some 94, .bin .plain .lss (.tmp 93) (.const (.int .u8 128)), none, []⟩,
 ⟨some 95, .move (.tmp 94), none, []⟩,
 ⟨some 96, .move (.tmp 12), (some (95, false)), []⟩,
 ⟨some 97, .bin .plain .lss (.const (.int .u8 191)) (.tmp 96), (some (95, false)), []⟩,
 ⟨some 98, .pick (.tmp 95) (.const (.bool true)) (.tmp 97), none, []⟩]
def k_unicode_utf8_decodeRuneInStringSlow_r25 : List AOper := [
  ⟨some 2, .move (.const (.int .i32 65533)), none, []⟩,
 ⟨some 3, .move (.const (.int .i64 1)), none, []⟩]
def k_unicode_utf8_decodeRuneInStringSlow_r26 : List AOper := [
  ⟨some 99, .move (.tmp 5), none, []⟩,
 ⟨some 100, .bin .plain .and (.tmp 99) (.const (.int .u8 7)), none, []⟩,
 ⟨some 101, .toInt .i32 (.tmp 100), none, []⟩,
 ⟨some 102, .bin .plain .shl (.tmp 101) (.const (.int .u64 18)), none, []⟩,
 ⟨some 103, .move (.tmp 10), none, []⟩,
 ⟨some 104, .bin .plain .and (.tmp 103) (.const (.int .u8 63)), none, []⟩,
 ⟨some 105, .toInt .i32 (.tmp 104), none, []⟩,
 ⟨some 106, .bin .plain .shl (.tmp 105) (.const (.int .u64 12)), none, []⟩,
 ⟨some 107, .bin .plain .or (.tmp 102) (.tmp 106), none, []⟩,
 ⟨some 108, .move (.tmp 11), none, []⟩,
 ⟨some 109, .bin .plain .and (.tmp 108) (.const (.int .u8 63)), none, []⟩,
 ⟨some 110, .toInt .i32 (.tmp 109), none, []⟩,
 ⟨some 111, .bin .plain .shl (.tmp 110) (.const (.int .u64 6)), none, []⟩,
 ⟨some 112, .bin .plain .or (.tmp 107) (.tmp 111), none, []⟩,
 ⟨some 113, .move (.tmp 12), none, []⟩,
 ⟨some 114, .bin .plain .and (.tmp 113) (.const (.int .u8 63)), none, []⟩,
 ⟨some 115, .toInt .i32 (.tmp 114), none, []⟩,
 ⟨some 116, .bin .plain .or (.tmp 112) (.tmp 115), none, []⟩,
 ⟨some 2, .move (.tmp 116), none, []⟩,
 ⟨some 3, .move (.const (.int .i64 4)), none, []⟩]
def k_unicode_utf8_decodeRuneInStringSlow : AFun := { params := 1, ntmps := 117, body := (.seq (.reg k_unicode_utf8_decodeRuneInStringSlow_r0 false) (.seq (.reg k_unicode_utf8_decodeRuneInStringSlow_r1 false) (.seq (.seq (.reg k_unicode_utf8_decodeRuneInStringSlow_r2 false) (.cond (.tmp 16) (.seq (.reg k_unicode_utf8_decodeRuneInStringSlow_r3 false) .ret) .skip)) (.seq (.reg k_unicode_utf8_decodeRuneInStringSlow_r4 false) (.seq (.reg k_unicode_utf8_decodeRuneInStringSlow_r5 false) (.seq (.seq (.reg k_unicode_utf8_decodeRuneInStringSlow_r6 false) (.cond (.tmp 23) (.seq (.reg k_unicode_utf8_decodeRuneInStringSlow_r7 false) (.seq (.reg k_unicode_utf8_decodeRuneInStringSlow_r8 false) .ret)) .skip)) (.seq (.reg k_unicode_utf8_decodeRuneInStringSlow_r9 false) (.seq (.reg k_unicode_utf8_decodeRuneInStringSlow_r10 false) (.seq (.seq (.reg k_unicode_utf8_decodeRuneInStringSlow_r11 false) (.cond (.tmp 45) (.seq (.reg k_unicode_utf8_decodeRuneInStringSlow_r12 false) .ret) .skip)) (.seq (.reg k_unicode_utf8_decodeRuneInStringSlow_r13 false) (.seq (.seq (.reg k_unicode_utf8_decodeRuneInStringSlow_r14 false) (.cond (.tmp 57) (.seq (.reg k_unicode_utf8_decodeRuneInStringSlow_r15 false) .ret) .skip)) (.seq (.seq (.reg k_unicode_utf8_decodeRuneInStringSlow_r16 false) (.cond (.tmp 59) (.seq (.reg k_unicode_utf8_decodeRuneInStringSlow_r17 false) .ret) .skip)) (.seq (.reg k_unicode_utf8_decodeRuneInStringSlow_r18 false) (.seq (.seq (.reg k_unicode_utf8_decodeRuneInStringSlow_r19 false) (.cond (.tmp 75) (.seq (.reg k_unicode_utf8_decodeRuneInStringSlow_r20 false) .ret) .skip)) (.seq (.seq (.reg k_unicode_utf8_decodeRuneInStringSlow_r21 false) (.cond (.tmp 77) (.seq (.reg k_unicode_utf8_decodeRuneInStringSlow_r22 false) .ret) .skip)) (.seq (.reg k_unicode_utf8_decodeRuneInStringSlow_r23 false) (.seq (.seq (.reg k_unicode_utf8_decodeRuneInStringSlow_r24 false) (.cond (.tmp 98) (.seq (.reg k_unicode_utf8_decodeRuneInStringSlow_r25 false) .ret) .skip)) (.seq (.reg k_unicode_utf8_decodeRuneInStringSlow_r26 false) .ret)))))))))))))))))), res := [.tmp 2, .tmp 3] }
theorem k_unicode_utf8_decodeRuneInStringSlow_ok : cfun Tryd.prog Tryd.f85 = k_unicode_utf8_decodeRuneInStringSlow := by kernel_rfl

def k_stringslite_IndexByte_r0 : List AOper := [
  ⟨some 4, .move (.const (.int .i64 0)), none, []⟩]
def k_stringslite_IndexByte_r1 : List AOper := [
  ⟨some 5, .move (.tmp 0), none, []⟩,
 ⟨some 6, .move (.tmp 1), none, []⟩,
 ⟨some 7, .ext .index (.tmp 5) (.tmp 6), none, []⟩,
 ⟨some 4, .move (.tmp 7), none, []⟩]
def k_stringslite_IndexByte : AFun := { params := 2, ntmps := 8, body := (.seq (.reg k_stringslite_IndexByte_r0 false) (.seq (.reg k_stringslite_IndexByte_r1 false) .ret)), res := [.tmp 4] }
theorem k_stringslite_IndexByte_ok : cfun Tryd.prog Tryd.f86 = k_stringslite_IndexByte := by kernel_rfl

def k_bytealg_Cutover_r0 : List AOper := [
  ⟨some 2, .move (.const (.int .i64 0)), none, []⟩]
def k_bytealg_Cutover_r1 : List AOper := [
  ⟨some 3, .move (.tmp 0), none, []⟩,
 ⟨some 4, .bin .plain .add (.tmp 3) (.const (.int .i64 16)), none, []⟩,
 ⟨some 5, .bin .plain .quo (.tmp 4) (.const (.int .i64 8)), none, []⟩,
 ⟨some 2, .move (.tmp 5), none, []⟩]
def k_bytealg_Cutover : AFun := { params := 1, ntmps := 6, body := (.seq (.reg k_bytealg_Cutover_r0 false) (.seq (.reg k_bytealg_Cutover_r1 false) .ret)), res := [.tmp 2] }
theorem k_bytealg_Cutover_ok : cfun Tryd.prog Tryd.f88 = k_bytealg_Cutover := by kernel_rfl

def k_bytealg_IndexRabinKarp_string_r0 : List AOper := [
  ⟨some 4, .move (.const (.int .i64 0)), none, []⟩]
def k_bytealg_IndexRabinKarp_string_r1 : List AOper := [
  ⟨some 12, .move (.tmp 1), none, []⟩,
 ⟨some 13, .call (.const (.fn (.func 91) [] [])) [.tmp 12], none, []⟩,
 ⟨some 11, .move (.tmp 13), none, []⟩,
 ⟨some 14, .extract (.tmp 11) 0, none, []⟩,
 ⟨some 15, .extract (.tmp 11) 1, none, []⟩,
 ⟨some 5, .move (.tmp 14), none, []⟩,
 ⟨some 6, .move (.tmp 15), none, []⟩]
def k_bytealg_IndexRabinKarp_string_r2 : List AOper := [
  ⟨some 16, .move (.tmp 1), none, []⟩,
 ⟨some 17, .len true (.tmp 16), none, []⟩,
 ⟨some 7, .move (.tmp 17), none, []⟩]
def k_bytealg_IndexRabinKarp_string_r3 : List AOper := [
  ⟨some 8, .move (.const (.int .u32 0)), none, []⟩]
def k_bytealg_IndexRabinKarp_string_r4 : List AOper := [
  ⟨some 9, .move (.const (.int .i64 0)), none, []⟩]
def k_bytealg_IndexRabinKarp_string_r5 : List AOper := [
  ⟨some 18, .move (.tmp 9), none, []⟩,
 ⟨some 19, .move (.tmp 7), none, []⟩,
 ⟨some 20, .bin .plain .lss (.tmp 18) (.tmp 19), none, []⟩]
def k_bytealg_IndexRabinKarp_string_r6 : List AOper := [
  ⟨some 23, .move (.tmp 8), none, []⟩,
 ⟨some 24, .bin .plain .mul (.tmp 23) (.const (.int .u32 16777619)), none, []⟩,
 ⟨some 25, .move (.tmp 0), none, []⟩,
 ⟨some 26, .move (.tmp 9), none, []⟩,
 ⟨some 27, .indexStr (.tmp 25) (.tmp 26), none, []⟩,
 ⟨some 28, .toInt .u32 (.tmp 27), none, []⟩,
 ⟨some 29, .bin .plain .add (.tmp 24) (.tmp 28), none, []⟩,
 ⟨some 8, .move (.tmp 29), none, []⟩]
def k_bytealg_IndexRabinKarp_string_r7 : List AOper := [
  ⟨some 21, .move (.tmp 9), none, []⟩,
 ⟨some 22, .bin .plain .add (.tmp 21) (.const (.int .i64 1)), none, []⟩,
 ⟨some 9, .move (.tmp 22), none, []⟩]
def k_bytealg_IndexRabinKarp_string_r8 : ACode := (.seq (.seq (.reg k_bytealg_IndexRabinKarp_string_r5 false) (.cond (.tmp 20) .skip (.exit 0))) (.seq (.block 1 (.reg k_bytealg_IndexRabinKarp_string_r6 false)) (.reg k_bytealg_IndexRabinKarp_string_r7 false)))
def k_bytealg_IndexRabinKarp_string_r9 : List AOper := [
  ⟨some 30, .move (.tmp 8), none, []⟩,
 ⟨some 31, .move (.tmp 5), none, []⟩,
 ⟨some 32, .bin .plain .eql (.tmp 30) (.tmp 31), none, []⟩,
 ⟨some 33, .move (.tmp 32), none, []⟩,
 ⟨some 34, .move (.tmp 0), (some (33, true)), []⟩,
 ⟨some 35, .move (.tmp 7), (some (33, true)), []⟩,
 ⟨some 36, .slice true 1 (.tmp 34) none (some (.tmp 35)), (some (33, true)), []⟩,
 ⟨some 37, .move (.tmp 1), (some (33, true)), []⟩,
 ⟨some 38, .bin .plain .eql (.tmp 36) (.tmp 37), (some (33, true)), []⟩,
 ⟨some 39, .pick (.tmp 33) (.tmp 38) (.const (.bool false)), none, []⟩]
def k_bytealg_IndexRabinKarp_string_r10 : List AOper := [
  ⟨some 4, .move (.const (.int .i64 0)), none, []⟩]
def k_bytealg_IndexRabinKarp_string_r11 : List AOper := [
  ⟨some 40, .move (.tmp 7), none, []⟩,
 ⟨some 10, .move (.tmp 40), none, []⟩]
def k_bytealg_IndexRabinKarp_string_r12 : List AOper := [
  ⟨some 41, .move (.tmp 10), none, []⟩,
 ⟨some 42, .move (.tmp 0), none, []⟩,
 ⟨some 43, .len true (.tmp 42), none, []⟩,
 ⟨some 44, .bin .plain .lss (.tmp 41) (.tmp 43), none, []⟩]
def k_bytealg_IndexRabinKarp_string_r13 : List AOper := [
  ⟨some 45, .move (.tmp 8), none, []⟩,
 ⟨some 46, .bin .plain .mul (.tmp 45) (.const (.int .u32 16777619)), none, []⟩,
 ⟨some 8, .move (.tmp 46), none, []⟩]
def k_bytealg_IndexRabinKarp_string_r14 : List AOper := [
  ⟨some 47, .move (.tmp 8), none, []⟩,
 ⟨some 48, .move (.tmp 0), none, []⟩,
 ⟨some 49, .move (.tmp 10), none, []⟩,
 ⟨some 50, .indexStr (.tmp 48) (.tmp 49), none, []⟩,
 ⟨some 51, .toInt .u32 (.tmp 50), none, []⟩,
 ⟨some 52, .bin .plain .add (.tmp 47) (.tmp 51), none, []⟩,
 ⟨some 8, .move (.tmp 52), none, []⟩]
def k_bytealg_IndexRabinKarp_string_r15 : List AOper := [
  ⟨some 53, .move (.tmp 8), none, []⟩,
 ⟨some 54, .move (.tmp 6), none, []⟩,
 ⟨some 55, .move (.tmp 0), none, []⟩,
 ⟨some 56, .move (.tmp 10), none, []⟩,
 ⟨some 57, .move (.tmp 7), none, []⟩,
 ⟨some 58, .bin .plain .sub (.tmp 56) (.tmp 57), none, []⟩,
 ⟨some 59, .indexStr (.tmp 55) (.tmp 58), none, []⟩,
 ⟨some 60, .toInt .u32 (.tmp 59), none, []⟩,
 ⟨some 61, .bin .plain .mul (.tmp 54) (.tmp 60), none, []⟩,
 ⟨some 62, .bin .plain .sub (.tmp 53) (.tmp 61), none, []⟩,
 ⟨some 8, .move (.tmp 62), none, []⟩]
def k_bytealg_IndexRabinKarp_string_r16 : List AOper := [
  ⟨some 63, .move (.tmp 10), none, []⟩,
 ⟨some 64, .bin .plain .add (.tmp 63) (.const (.int .i64 1)), none, []⟩,
 ⟨some 10, .move (.tmp 64), none, []⟩]
def k_bytealg_IndexRabinKarp_string_r17 : List AOper := [
  ⟨some 65, .move (.tmp 8), none, []⟩,
 ⟨some 66, .move (.tmp 5), none, []⟩,
 ⟨some 67, .bin .plain .eql (.tmp 65) (.tmp 66), none, []⟩,
 ⟨some 68, .move (.tmp 67), none, []⟩,
 ⟨some 69, .move (.tmp 0), (some (68, true)), []⟩,
 ⟨some 70, .move (.tmp 10), (some (68, true)), []⟩,
 ⟨some 71, .move (.tmp 7), (some (68, true)), []⟩,
 ⟨some 72, .bin .plain .sub (.tmp 70) (.tmp 71), (some (68, true)), []⟩,
 ⟨some 73, .move (.tmp 10), (some (68, true)), []⟩,
 ⟨some 74, .slice true 1 (.tmp 69) (some (.tmp 72)) (some (.tmp 73)), (some (68, true)), []⟩,
 ⟨some 75, .move (.tmp 1), (some (68, true)), []⟩,
 ⟨some 76, .bin .plain .eql (.tmp 74) (.tmp 75), (some (68, true)), []⟩,
 ⟨some 77, .pick (.tmp 68) (.tmp 76) (.const (.bool false)), none, []⟩]
def k_bytealg_IndexRabinKarp_string_r18 : List AOper := [
  ⟨some 78, .move (.tmp 10), none, []⟩,
 ⟨some 79, .move (.tmp 7), none, []⟩,
 ⟨some 80, .bin .plain .sub (.tmp 78) (.tmp 79), none, []⟩,
 ⟨some 4, .move (.tmp 80), none, []⟩]
def k_bytealg_IndexRabinKarp_string_r19 : ACode := (.seq (.seq (.reg k_bytealg_IndexRabinKarp_string_r12 false) (.cond (.tmp 44) .skip (.exit 2))) (.block 3 (.seq (.reg k_bytealg_IndexRabinKarp_string_r13 false) (.seq (.reg k_bytealg_IndexRabinKarp_string_r14 false) (.seq (.reg k_bytealg_IndexRabinKarp_string_r15 false) (.seq (.reg k_bytealg_IndexRabinKarp_string_r16 false) (.seq (.reg k_bytealg_IndexRabinKarp_string_r17 false) (.cond (.tmp 77) (.seq (.reg k_bytealg_IndexRabinKarp_string_r18 false) .ret) .skip))))))))
def k_bytealg_IndexRabinKarp_string_r20 : List AOper := [
  ⟨some 4, .move (.const (.int .i64 (-1))), none, []⟩]
def k_bytealg_IndexRabinKarp_string : AFun := { params := 2, ntmps := 81, body := (.seq (.reg k_bytealg_IndexRabinKarp_string_r0 false) (.seq (.reg k_bytealg_IndexRabinKarp_string_r1 false) (.seq (.reg k_bytealg_IndexRabinKarp_string_r2 false) (.seq (.reg k_bytealg_IndexRabinKarp_string_r3 false) (.seq (.seq (.reg k_bytealg_IndexRabinKarp_string_r4 false) (.block 0 (.loop k_bytealg_IndexRabinKarp_string_r8))) (.seq (.seq (.reg k_bytealg_IndexRabinKarp_string_r9 false) (.cond (.tmp 39) (.seq (.reg k_bytealg_IndexRabinKarp_string_r10 false) .ret) .skip)) (.seq (.seq (.reg k_bytealg_IndexRabinKarp_string_r11 false) (.block 2 (.loop k_bytealg_IndexRabinKarp_string_r19))) (.seq (.reg k_bytealg_IndexRabinKarp_string_r20 false) .ret)))))))), res := [.tmp 4] }
theorem k_bytealg_IndexRabinKarp_string_ok : cfun Tryd.prog Tryd.f89 = k_bytealg_IndexRabinKarp_string := by kernel_rfl

def k_bytealg_hashStr_string_r0 : List AOper := [
  ⟨some 2, .move (.const (.int .u32 0)), none, []⟩,
 ⟨some 3, .move (.const (.int .u32 0)), none, []⟩]
def k_bytealg_hashStr_string_r1 : List AOper := [
  ⟨some 4, .move (.const (.int .u32 0)), none, []⟩]
def k_bytealg_hashStr_string_r2 : List AOper := [
  ⟨some 5, .move (.const (.int .i64 0)), none, []⟩]
def k_bytealg_hashStr_string_r3 : List AOper := [
  ⟨some 9, .move (.tmp 5), none, []⟩,
 ⟨some 10, .move (.tmp 0), none, []⟩,
 ⟨some 11, .len true (.tmp 10), none, []⟩,
 ⟨some 12, .bin .plain .lss (.tmp 9) (.tmp 11), none, []⟩]
def k_bytealg_hashStr_string_r4 : List AOper := [
  ⟨some 15, .move (.tmp 4), none, []⟩,
 ⟨some 16, .bin .plain .mul (.tmp 15) (.const (.int .u32 16777619)), none, []⟩,
 ⟨some 17, .move (.tmp 0), none, []⟩,
 ⟨some 18, .move (.tmp 5), none, []⟩,
 ⟨some 19, .indexStr (.tmp 17) (.tmp 18), none, []⟩,
 ⟨some 20, .toInt .u32 (.tmp 19), none, []⟩,
 ⟨some 21, .bin .plain .add (.tmp 16) (.tmp 20), none, []⟩,
 ⟨some 4, .move (.tmp 21), none, []⟩]
def k_bytealg_hashStr_string_r5 : List AOper := [
  ⟨some 13, .move (.tmp 5), none, []⟩,
 ⟨some 14, .bin .plain .add (.tmp 13) (.const (.int .i64 1)), none, []⟩,
 ⟨some 5, .move (.tmp 14), none, []⟩]
def k_bytealg_hashStr_string_r6 : ACode := (.seq (.seq (.reg k_bytealg_hashStr_string_r3 false) (.cond (.tmp 12) .skip (.exit 0))) (.seq (.block 1 (.reg k_bytealg_hashStr_string_r4 false)) (.reg k_bytealg_hashStr_string_r5 false)))
def k_bytealg_hashStr_string_r7 : List AOper := [
  ⟨some 6, .move (.const (.int .u32 1)), none, []⟩,
 ⟨some 7, .move (.const (.int .u32 16777619)), none, []⟩]
def k_bytealg_hashStr_string_r8 : List AOper := [
  ⟨some 22, .move (.tmp 0), none, []⟩,
 ⟨some 23, .len true (.tmp 22), none, []⟩,
 ⟨some 8, .move (.tmp 23), none, []⟩]
def k_bytealg_hashStr_string_r9 : List AOper := [
  ⟨some 24, .move (.tmp 8), none, []⟩,
 ⟨some 25, .bin .plain .gtr (.tmp 24) (.const (.int .i64 0)), none, []⟩]
def k_bytealg_hashStr_string_r10 : List AOper := [
  ⟨some 28, .move (.tmp 8), none, []⟩,
 ⟨some 29, .bin .plain .and (.tmp 28) (.const (.int .i64 1)), none, []⟩,
 ⟨some 30, .bin .plain .neq (.tmp 29) (.const (.int .i64 0)), none, []⟩]
def k_bytealg_hashStr_string_r11 : List AOper := [
  ⟨some 31, .move (.tmp 6), none, []⟩,
 ⟨some 32, .move (.tmp 7), none, []⟩,
 ⟨some 33, .bin .plain .mul (.tmp 31) (.tmp 32), none, []⟩,
 ⟨some 6, .move (.tmp 33), none, []⟩]
def k_bytealg_hashStr_string_r12 : List AOper := [
  ⟨some 34, .move (.tmp 7), none, []⟩,
 ⟨some 35, .move (.tmp 7), none, []⟩,
 ⟨some 36, .bin .plain .mul (.tmp 34) (.tmp 35), none, []⟩,
 ⟨some 7, .move (.tmp 36), none, []⟩]
def k_bytealg_hashStr_string_r13 : List AOper := [
  ⟨some 26, .move (.tmp 8), none, []⟩,
 ⟨some 27, .bin .plain .shr (.tmp 26) (.const (.int .u64 1)), none, []⟩,
 ⟨some 8, .move (.tmp 27), none, []⟩]
def k_bytealg_hashStr_string_r14 : ACode := (.seq (.seq (.reg k_bytealg_hashStr_string_r9 false) (.cond (.tmp 25) .skip (.exit 2))) (.seq (.block 3 (.seq (.seq (.reg k_bytealg_hashStr_string_r10 false) (.cond (.tmp 30) (.reg k_bytealg_hashStr_string_r11 false) .skip)) (.reg k_bytealg_hashStr_string_r12 false))) (.reg k_bytealg_hashStr_string_r13 false)))
def k_bytealg_hashStr_string_r15 : List AOper := [
  ⟨some 37, .move (.tmp 4), none, []⟩,
 ⟨some 38, .move (.tmp 6), none, []⟩,
 ⟨some 2, .move (.tmp 37), none, []⟩,
 ⟨some 3, .move (.tmp 38), none, []⟩]
def k_bytealg_hashStr_string : AFun := { params := 1, ntmps := 39, body := (.seq (.reg k_bytealg_hashStr_string_r0 false) (.seq (.reg k_bytealg_hashStr_string_r1 false) (.seq (.seq (.reg k_bytealg_hashStr_string_r2 false) (.block 0 (.loop k_bytealg_hashStr_string_r6))) (.seq (.reg k_bytealg_hashStr_string_r7 false) (.seq (.seq (.reg k_bytealg_hashStr_string_r8 false) (.block 2 (.loop k_bytealg_hashStr_string_r14))) (.seq (.reg k_bytealg_hashStr_string_r15 false) .ret)))))), res := [.tmp 2, .tmp 3] }
theorem k_bytealg_hashStr_string_ok : cfun Tryd.prog Tryd.f91 = k_bytealg_hashStr_string := by kernel_rfl


abbrev n_law01_FieldKnown : Nat := 4
theorem e_law01_FieldKnown : EntryOK Tryd.prog n_law01_FieldKnown k_law01_FieldKnown := ⟨Tryd.f4, Tryd.func4, k_law01_FieldKnown_ok, by kernel_rfl⟩
abbrev n_field_Text : Nat := 10
theorem e_field_Text : EntryOK Tryd.prog n_field_Text k_field_Text := ⟨Tryd.f10, Tryd.func10, k_field_Text_ok, by kernel_rfl⟩
abbrev n_field_Parse : Nat := 13
theorem e_field_Parse : EntryOK Tryd.prog n_field_Parse k_field_Parse := ⟨Tryd.f13, Tryd.func13, k_field_Parse_ok, by kernel_rfl⟩
abbrev n_ref01_Same : Nat := 15
theorem e_ref01_Same : EntryOK Tryd.prog n_ref01_Same k_ref01_Same := ⟨Tryd.f15, Tryd.func15, k_ref01_Same_ok, by kernel_rfl⟩
abbrev n_law01_gate : Nat := 21
theorem e_law01_gate : EntryOK Tryd.prog n_law01_gate k_law01_gate := ⟨Tryd.f21, Tryd.func21, k_law01_gate_ok, by kernel_rfl⟩
abbrev n_field_Good : Nat := 24
theorem e_field_Good : EntryOK Tryd.prog n_field_Good k_field_Good := ⟨Tryd.f24, Tryd.func24, k_field_Good_ok, by kernel_rfl⟩
abbrev n_law01_charges : Nat := 25
theorem e_law01_charges : EntryOK Tryd.prog n_law01_charges k_law01_charges := ⟨Tryd.f25, Tryd.func25, k_law01_charges_ok, by kernel_rfl⟩
abbrev n_law01_moved : Nat := 26
theorem e_law01_moved : EntryOK Tryd.prog n_law01_moved k_law01_moved := ⟨Tryd.f26, Tryd.func26, k_law01_moved_ok, by kernel_rfl⟩
abbrev n_slices_Chunk_int_int : Nat := 32
theorem e_slices_Chunk_int_int : EntryOK Tryd.prog n_slices_Chunk_int_int k_slices_Chunk_int_int := ⟨Tryd.f32, Tryd.func32, k_slices_Chunk_int_int_ok, by kernel_rfl⟩
abbrev n_field_character : Nat := 33
theorem e_field_character : EntryOK Tryd.prog n_field_character k_field_character := ⟨Tryd.f33, Tryd.func33, k_field_character_ok, by kernel_rfl⟩
abbrev n_field_read : Nat := 35
theorem e_field_read : EntryOK Tryd.prog n_field_read k_field_read := ⟨Tryd.f35, Tryd.func35, k_field_read_ok, by kernel_rfl⟩
abbrev n_ref01_SameInts : Nat := 38
theorem e_ref01_SameInts : EntryOK Tryd.prog n_ref01_SameInts k_ref01_SameInts := ⟨Tryd.f38, Tryd.func38, k_ref01_SameInts_ok, by kernel_rfl⟩
abbrev n_field_bounds : Nat := 46
theorem e_field_bounds : EntryOK Tryd.prog n_field_bounds k_field_bounds := ⟨Tryd.f46, Tryd.func46, k_field_bounds_ok, by kernel_rfl⟩
abbrev n_field_Influence : Nat := 48
theorem e_field_Influence : EntryOK Tryd.prog n_field_Influence k_field_Influence := ⟨Tryd.f48, Tryd.func48, k_field_Influence_ok, by kernel_rfl⟩
abbrev n_field_Amplification : Nat := 49
theorem e_field_Amplification : EntryOK Tryd.prog n_field_Amplification k_field_Amplification := ⟨Tryd.f49, Tryd.func49, k_field_Amplification_ok, by kernel_rfl⟩
abbrev n_field_Shift : Nat := 50
theorem e_field_Shift : EntryOK Tryd.prog n_field_Shift k_field_Shift := ⟨Tryd.f50, Tryd.func50, k_field_Shift_ok, by kernel_rfl⟩
abbrev n_slices_Chunk_int_int_1 : Nat := 54
theorem e_slices_Chunk_int_int_1 : EntryOK Tryd.prog n_slices_Chunk_int_int_1 k_slices_Chunk_int_int_1 := ⟨Tryd.f54, Tryd.func54, k_slices_Chunk_int_int_1_ok, by kernel_rfl⟩
abbrev n_strings_Split : Nat := 57
theorem e_strings_Split : EntryOK Tryd.prog n_strings_Split k_strings_Split := ⟨Tryd.f57, Tryd.func57, k_strings_Split_ok, by kernel_rfl⟩
abbrev n_field_isRow : Nat := 58
theorem e_field_isRow : EntryOK Tryd.prog n_field_isRow k_field_isRow := ⟨Tryd.f58, Tryd.func58, k_field_isRow_ok, by kernel_rfl⟩
abbrev n_field_cellOf : Nat := 59
theorem e_field_cellOf : EntryOK Tryd.prog n_field_cellOf k_field_cellOf := ⟨Tryd.f59, Tryd.func59, k_field_cellOf_ok, by kernel_rfl⟩
abbrev n_field_checkOf : Nat := 68
theorem e_field_checkOf : EntryOK Tryd.prog n_field_checkOf k_field_checkOf := ⟨Tryd.f68, Tryd.func68, k_field_checkOf_ok, by kernel_rfl⟩
abbrev n_field_influence : Nat := 69
theorem e_field_influence : EntryOK Tryd.prog n_field_influence k_field_influence := ⟨Tryd.f69, Tryd.func69, k_field_influence_ok, by kernel_rfl⟩
abbrev n_field_leaves : Nat := 70
theorem e_field_leaves : EntryOK Tryd.prog n_field_leaves k_field_leaves := ⟨Tryd.f70, Tryd.func70, k_field_leaves_ok, by kernel_rfl⟩
abbrev n_field_without : Nat := 71
theorem e_field_without : EntryOK Tryd.prog n_field_without k_field_without := ⟨Tryd.f71, Tryd.func71, k_field_without_ok, by kernel_rfl⟩
abbrev n_strings_genSplit : Nat := 74
theorem e_strings_genSplit : EntryOK Tryd.prog n_strings_genSplit k_strings_genSplit := ⟨Tryd.f74, Tryd.func74, k_strings_genSplit_ok, by kernel_rfl⟩
abbrev n_field_Copy : Nat := 75
theorem e_field_Copy : EntryOK Tryd.prog n_field_Copy k_field_Copy := ⟨Tryd.f75, Tryd.func75, k_field_Copy_ok, by kernel_rfl⟩
abbrev n_strings_explode : Nat := 78
theorem e_strings_explode : EntryOK Tryd.prog n_strings_explode k_strings_explode := ⟨Tryd.f78, Tryd.func78, k_strings_explode_ok, by kernel_rfl⟩
abbrev n_strings_Count : Nat := 79
theorem e_strings_Count : EntryOK Tryd.prog n_strings_Count k_strings_Count := ⟨Tryd.f79, Tryd.func79, k_strings_Count_ok, by kernel_rfl⟩
abbrev n_strings_Index : Nat := 80
theorem e_strings_Index : EntryOK Tryd.prog n_strings_Index k_strings_Index := ⟨Tryd.f80, Tryd.func80, k_strings_Index_ok, by kernel_rfl⟩
abbrev n_unicode_utf8_RuneCountInString : Nat := 81
theorem e_unicode_utf8_RuneCountInString : EntryOK Tryd.prog n_unicode_utf8_RuneCountInString k_unicode_utf8_RuneCountInString := ⟨Tryd.f81, Tryd.func81, k_unicode_utf8_RuneCountInString_ok, by kernel_rfl⟩
abbrev n_unicode_utf8_DecodeRuneInString : Nat := 82
theorem e_unicode_utf8_DecodeRuneInString : EntryOK Tryd.prog n_unicode_utf8_DecodeRuneInString k_unicode_utf8_DecodeRuneInString := ⟨Tryd.f82, Tryd.func82, k_unicode_utf8_DecodeRuneInString_ok, by kernel_rfl⟩
abbrev n_stringslite_Index : Nat := 84
theorem e_stringslite_Index : EntryOK Tryd.prog n_stringslite_Index k_stringslite_Index := ⟨Tryd.f84, Tryd.func84, k_stringslite_Index_ok, by kernel_rfl⟩
abbrev n_unicode_utf8_decodeRuneInStringSlow : Nat := 85
theorem e_unicode_utf8_decodeRuneInStringSlow : EntryOK Tryd.prog n_unicode_utf8_decodeRuneInStringSlow k_unicode_utf8_decodeRuneInStringSlow := ⟨Tryd.f85, Tryd.func85, k_unicode_utf8_decodeRuneInStringSlow_ok, by kernel_rfl⟩
abbrev n_stringslite_IndexByte : Nat := 86
theorem e_stringslite_IndexByte : EntryOK Tryd.prog n_stringslite_IndexByte k_stringslite_IndexByte := ⟨Tryd.f86, Tryd.func86, k_stringslite_IndexByte_ok, by kernel_rfl⟩
abbrev n_bytealg_Cutover : Nat := 88
theorem e_bytealg_Cutover : EntryOK Tryd.prog n_bytealg_Cutover k_bytealg_Cutover := ⟨Tryd.f88, Tryd.func88, k_bytealg_Cutover_ok, by kernel_rfl⟩
abbrev n_bytealg_IndexRabinKarp_string : Nat := 89
theorem e_bytealg_IndexRabinKarp_string : EntryOK Tryd.prog n_bytealg_IndexRabinKarp_string k_bytealg_IndexRabinKarp_string := ⟨Tryd.f89, Tryd.func89, k_bytealg_IndexRabinKarp_string_ok, by kernel_rfl⟩
abbrev n_bytealg_hashStr_string : Nat := 91
theorem e_bytealg_hashStr_string : EntryOK Tryd.prog n_bytealg_hashStr_string k_bytealg_hashStr_string := ⟨Tryd.f91, Tryd.func91, k_bytealg_hashStr_string_ok, by kernel_rfl⟩

attribute [go_sem] k_law01_FieldKnown_r0 k_law01_FieldKnown_r1 k_law01_FieldKnown_r2s k_law01_FieldKnown_r3 k_law01_FieldKnown_r4 k_law01_FieldKnown_r5 k_law01_FieldKnown_r6 k_law01_FieldKnown_r7 k_law01_FieldKnown_r8 k_law01_FieldKnown_r9 k_law01_FieldKnown_r10 k_law01_FieldKnown_r11
attribute [go_sem] k_law01_FieldKnown_r12 k_law01_FieldKnown_r13 k_law01_FieldKnown_r14 k_field_Text_r0 k_field_Text_r1 k_field_Text_r2 k_field_Text_r3 k_field_Text_r4 k_field_Text_r5 k_field_Text_r6 k_field_Text_r7 k_field_Text_r8
attribute [go_sem] k_field_Text_r9 k_field_Text_r10 k_field_Text_r11 k_field_Text_r12 k_field_Text_r13s k_field_Text_r14 k_field_Text_r18 k_field_Parse_r0 k_field_Parse_r1 k_field_Parse_r2 k_field_Parse_r3 k_field_Parse_r4
attribute [go_sem] k_field_Parse_r5 k_field_Parse_r6 k_field_Parse_r7 k_field_Parse_r8 k_field_Parse_r9 k_ref01_Same_r0 k_ref01_Same_r1 k_law01_gate_r0 k_law01_gate_r1 k_field_Good_r0 k_field_Good_r1 k_field_Good_r2
attribute [go_sem] k_field_Good_r3 k_field_Good_r4 k_field_Good_r5 k_field_Good_r6 k_field_Good_r7 k_field_Good_r8 k_field_Good_r9s k_field_Good_r10 k_field_Good_r11 k_field_Good_r12 k_field_Good_r14 k_law01_charges_r0
attribute [go_sem] k_law01_charges_r1 k_law01_charges_r2 k_law01_charges_r3 k_law01_charges_r4 k_law01_charges_r5 k_law01_charges_r6 k_law01_charges_r7 k_law01_moved_r0 k_law01_moved_r1 k_law01_moved_r2 k_law01_moved_r3 k_law01_moved_r4
attribute [go_sem] k_law01_moved_r5 k_law01_moved_r6 k_law01_moved_r7 k_law01_moved_r8s k_slices_Chunk_int_int_r0 k_slices_Chunk_int_int_r1 k_slices_Chunk_int_int_r2 k_slices_Chunk_int_int_r3 k_field_character_r0 k_field_character_r1 k_field_character_r2 k_field_character_r3
attribute [go_sem] k_field_read_r0 k_field_read_r1 k_field_read_r2 k_field_read_r3 k_field_read_r4 k_field_read_r5 k_field_read_r6 k_field_read_r7 k_field_read_r8 k_field_read_r9 k_field_read_r10 k_field_read_r11
attribute [go_sem] k_field_read_r12 k_field_read_r13 k_field_read_r14 k_field_read_r15 k_field_read_r16s k_field_read_r17 k_field_read_r19 k_field_read_r21 k_field_read_r22 k_field_read_r23 k_ref01_SameInts_r0 k_ref01_SameInts_r1
attribute [go_sem] k_ref01_SameInts_r2 k_ref01_SameInts_r3 k_ref01_SameInts_r4 k_ref01_SameInts_r5s k_ref01_SameInts_r6 k_ref01_SameInts_r7 k_ref01_SameInts_r9 k_field_bounds_r0 k_field_bounds_r1 k_field_Influence_r0 k_field_Influence_r1 k_field_Influence_r2
attribute [go_sem] k_field_Influence_r3 k_field_Influence_r4 k_field_Amplification_r0 k_field_Amplification_r1 k_field_Amplification_r2 k_field_Amplification_r3 k_field_Amplification_r4 k_field_Amplification_r5 k_field_Amplification_r6 k_field_Amplification_r7 k_field_Amplification_r8s k_field_Shift_r0
attribute [go_sem] k_field_Shift_r1 k_field_Shift_r2 k_field_Shift_r3 k_field_Shift_r4 k_field_Shift_r5 k_field_Shift_r6 k_field_Shift_r7 k_field_Shift_r8 k_field_Shift_r9 k_field_Shift_r10 k_field_Shift_r11 k_field_Shift_r12
attribute [go_sem] k_field_Shift_r13 k_field_Shift_r14 k_field_Shift_r15 k_field_Shift_r16 k_field_Shift_r17 k_field_Shift_r19 k_field_Shift_r20 k_field_Shift_r21 k_field_Shift_r22 k_slices_Chunk_int_int_1_r0 k_slices_Chunk_int_int_1_r1 k_slices_Chunk_int_int_1_r2s
attribute [go_sem] k_slices_Chunk_int_int_1_r3 k_slices_Chunk_int_int_1_r4 k_strings_Split_r0 k_strings_Split_r1 k_field_isRow_r0 k_field_isRow_r1 k_field_isRow_r2 k_field_isRow_r3 k_field_isRow_r4 k_field_isRow_r5 k_field_isRow_r6 k_field_isRow_r8
attribute [go_sem] k_field_cellOf_r0 k_field_cellOf_r1 k_field_cellOf_r2 k_field_cellOf_r3 k_field_checkOf_r0 k_field_checkOf_r1 k_field_checkOf_r2 k_field_checkOf_r3 k_field_checkOf_r4 k_field_checkOf_r5 k_field_checkOf_r6 k_field_checkOf_r7
attribute [go_sem] k_field_checkOf_r8 k_field_checkOf_r9 k_field_checkOf_r10 k_field_checkOf_r11 k_field_checkOf_r12 k_field_checkOf_r14 k_field_checkOf_r15 k_field_checkOf_r16 k_field_checkOf_r17 k_field_checkOf_r18 k_field_checkOf_r19 k_field_checkOf_r21
attribute [go_sem] k_field_influence_r0 k_field_influence_r1 k_field_influence_r2 k_field_influence_r3s k_field_influence_r4 k_field_leaves_r0 k_field_leaves_r1 k_field_leaves_r2 k_field_leaves_r3 k_field_leaves_r4s k_field_leaves_r5 k_field_leaves_r6
attribute [go_sem] k_field_leaves_r7 k_field_leaves_r9 k_field_without_r0 k_field_without_r1 k_field_without_r2 k_field_without_r3 k_field_without_r4 k_field_without_r5 k_field_without_r6 k_field_without_r7 k_field_without_r9 k_strings_genSplit_r0
attribute [go_sem] k_strings_genSplit_r1 k_strings_genSplit_r2 k_strings_genSplit_r3 k_strings_genSplit_r4 k_strings_genSplit_r5 k_strings_genSplit_r6 k_strings_genSplit_r7 k_strings_genSplit_r8 k_strings_genSplit_r9 k_strings_genSplit_r10 k_strings_genSplit_r11 k_strings_genSplit_r12
attribute [go_sem] k_strings_genSplit_r13 k_strings_genSplit_r14 k_strings_genSplit_r15 k_strings_genSplit_r16 k_strings_genSplit_r18 k_strings_genSplit_r19 k_field_Copy_r0 k_field_Copy_r1 k_field_Copy_r2 k_strings_explode_r0 k_strings_explode_r1 k_strings_explode_r2
attribute [go_sem] k_strings_explode_r3 k_strings_explode_r4 k_strings_explode_r5 k_strings_explode_r6 k_strings_explode_r7 k_strings_explode_r8 k_strings_explode_r9 k_strings_explode_r10 k_strings_explode_r12 k_strings_explode_r13 k_strings_explode_r14 k_strings_Count_r0
attribute [go_sem] k_strings_Count_r1 k_strings_Count_r2 k_strings_Count_r3 k_strings_Count_r4 k_strings_Count_r5 k_strings_Count_r6 k_strings_Count_r7 k_strings_Count_r8 k_strings_Count_r9 k_strings_Count_r10 k_strings_Index_r0 k_strings_Index_r1
attribute [go_sem] k_unicode_utf8_RuneCountInString_r0 k_unicode_utf8_RuneCountInString_r1 k_unicode_utf8_RuneCountInString_r2 k_unicode_utf8_RuneCountInString_r3 k_unicode_utf8_RuneCountInString_r5 k_unicode_utf8_DecodeRuneInString_r0 k_unicode_utf8_DecodeRuneInString_r1 k_unicode_utf8_DecodeRuneInString_r2 k_unicode_utf8_DecodeRuneInString_r3 k_stringslite_Index_r0 k_stringslite_Index_r1 k_stringslite_Index_r2
attribute [go_sem] k_stringslite_Index_r3 k_stringslite_Index_r4 k_stringslite_Index_r5 k_stringslite_Index_r6 k_stringslite_Index_r7 k_stringslite_Index_r8 k_stringslite_Index_r9 k_stringslite_Index_r10 k_stringslite_Index_r11 k_stringslite_Index_r12 k_stringslite_Index_r13 k_stringslite_Index_r14
attribute [go_sem] k_stringslite_Index_r15 k_stringslite_Index_r16 k_stringslite_Index_r17 k_stringslite_Index_r18 k_stringslite_Index_r19 k_stringslite_Index_r20 k_stringslite_Index_r21 k_stringslite_Index_r22 k_stringslite_Index_r23 k_stringslite_Index_r24 k_stringslite_Index_r25 k_stringslite_Index_r26
attribute [go_sem] k_stringslite_Index_r27 k_stringslite_Index_r28 k_stringslite_Index_r29 k_stringslite_Index_r30 k_stringslite_Index_r31 k_stringslite_Index_r32 k_stringslite_Index_r33 k_stringslite_Index_r34 k_stringslite_Index_r36 k_unicode_utf8_decodeRuneInStringSlow_r0 k_unicode_utf8_decodeRuneInStringSlow_r1 k_unicode_utf8_decodeRuneInStringSlow_r2
attribute [go_sem] k_unicode_utf8_decodeRuneInStringSlow_r3 k_unicode_utf8_decodeRuneInStringSlow_r4 k_unicode_utf8_decodeRuneInStringSlow_r5 k_unicode_utf8_decodeRuneInStringSlow_r6 k_unicode_utf8_decodeRuneInStringSlow_r7 k_unicode_utf8_decodeRuneInStringSlow_r8 k_unicode_utf8_decodeRuneInStringSlow_r9 k_unicode_utf8_decodeRuneInStringSlow_r10 k_unicode_utf8_decodeRuneInStringSlow_r11 k_unicode_utf8_decodeRuneInStringSlow_r12 k_unicode_utf8_decodeRuneInStringSlow_r13 k_unicode_utf8_decodeRuneInStringSlow_r14
attribute [go_sem] k_unicode_utf8_decodeRuneInStringSlow_r15 k_unicode_utf8_decodeRuneInStringSlow_r16 k_unicode_utf8_decodeRuneInStringSlow_r17 k_unicode_utf8_decodeRuneInStringSlow_r18 k_unicode_utf8_decodeRuneInStringSlow_r19 k_unicode_utf8_decodeRuneInStringSlow_r20 k_unicode_utf8_decodeRuneInStringSlow_r21 k_unicode_utf8_decodeRuneInStringSlow_r22 k_unicode_utf8_decodeRuneInStringSlow_r23 k_unicode_utf8_decodeRuneInStringSlow_r24 k_unicode_utf8_decodeRuneInStringSlow_r25 k_unicode_utf8_decodeRuneInStringSlow_r26
attribute [go_sem] k_stringslite_IndexByte_r0 k_stringslite_IndexByte_r1 k_bytealg_Cutover_r0 k_bytealg_Cutover_r1 k_bytealg_IndexRabinKarp_string_r0 k_bytealg_IndexRabinKarp_string_r1 k_bytealg_IndexRabinKarp_string_r2 k_bytealg_IndexRabinKarp_string_r3 k_bytealg_IndexRabinKarp_string_r4 k_bytealg_IndexRabinKarp_string_r5 k_bytealg_IndexRabinKarp_string_r6 k_bytealg_IndexRabinKarp_string_r7
attribute [go_sem] k_bytealg_IndexRabinKarp_string_r9 k_bytealg_IndexRabinKarp_string_r10 k_bytealg_IndexRabinKarp_string_r11 k_bytealg_IndexRabinKarp_string_r12 k_bytealg_IndexRabinKarp_string_r13 k_bytealg_IndexRabinKarp_string_r14 k_bytealg_IndexRabinKarp_string_r15 k_bytealg_IndexRabinKarp_string_r16 k_bytealg_IndexRabinKarp_string_r17 k_bytealg_IndexRabinKarp_string_r18 k_bytealg_IndexRabinKarp_string_r20 k_bytealg_hashStr_string_r0
attribute [go_sem] k_bytealg_hashStr_string_r1 k_bytealg_hashStr_string_r2 k_bytealg_hashStr_string_r3 k_bytealg_hashStr_string_r4 k_bytealg_hashStr_string_r5 k_bytealg_hashStr_string_r7 k_bytealg_hashStr_string_r8 k_bytealg_hashStr_string_r9 k_bytealg_hashStr_string_r10 k_bytealg_hashStr_string_r11 k_bytealg_hashStr_string_r12 k_bytealg_hashStr_string_r13
attribute [go_sem] k_bytealg_hashStr_string_r15 k_field_Text_r13_sg k_field_Good_r9_sg k_law01_FieldKnown_r2_sg k_slices_Chunk_int_int_1_r2_sg k_field_leaves_r4_sg k_field_Amplification_r8_sg k_ref01_SameInts_r5_sg k_field_read_r16_sg k_field_influence_r3_sg k_law01_moved_r8_sg k_field_Text_r13_st
attribute [go_sem] k_field_Good_r9_st k_law01_FieldKnown_r2_st k_slices_Chunk_int_int_1_r2_st k_field_leaves_r4_st k_field_Amplification_r8_st k_ref01_SameInts_r5_st k_field_read_r16_st k_field_influence_r3_st k_law01_moved_r8_st k_law01_FieldKnown k_field_Text k_field_Parse
attribute [go_sem] k_ref01_Same k_law01_gate k_field_Good k_law01_charges k_law01_moved k_slices_Chunk_int_int k_field_character k_field_read k_ref01_SameInts k_field_bounds k_field_Influence k_field_Amplification
attribute [go_sem] k_field_Shift k_slices_Chunk_int_int_1 k_strings_Split k_field_isRow k_field_cellOf k_field_checkOf k_field_influence k_field_leaves k_field_without k_strings_genSplit k_field_Copy k_strings_explode
attribute [go_sem] k_strings_Count k_strings_Index k_unicode_utf8_RuneCountInString k_unicode_utf8_DecodeRuneInString k_stringslite_Index k_unicode_utf8_decodeRuneInStringSlow k_stringslite_IndexByte k_bytealg_Cutover k_bytealg_IndexRabinKarp_string k_bytealg_hashStr_string
def tabLK : List (Nat × AFun) := [(4, k_law01_FieldKnown), (7, k_law01_awake), (10, k_field_Text), (13, k_field_Parse), (15, k_ref01_Same), (16, k_law01_line), (17, k_field_Check), (18, k_field_CheckVolts), (19, k_field_Weight), (20, k_law01_ring), (21, k_law01_gate), (22, k_field_Solve), (23, k_kit_Same), (24, k_field_Good), (25, k_law01_charges), (26, k_law01_moved), (27, k_field_Charge), (32, k_slices_Chunk_int_int), (33, k_field_character), (35, k_field_read), (38, k_ref01_SameInts), (39, k_field_within), (40, k_slices_Max_int_int), (41, k_field_loose), (42, k_field_checkNumbers), (43, k_field_neighbours), (44, k_field_checkSweeps), (45, k_field_solve), (46, k_field_bounds), (47, k_field_around), (48, k_field_Influence), (49, k_field_Amplification), (50, k_field_Shift), (51, k_field_has), (52, k_field_charge), (54, k_slices_Chunk_int_int_1), (57, k_strings_Split), (58, k_field_isRow), (59, k_field_cellOf), (60, k_field_neighbours_1), (61, k_field_beside), (62, k_field_above), (63, k_field_ends), (64, k_field_newBound), (65, k_field_roundDown), (66, k_field_roundUp), (67, k_field_bound_sweep), (68, k_field_checkOf), (69, k_field_influence), (70, k_field_leaves), (71, k_field_without), (72, k_slices_Contains_int_int), (74, k_strings_genSplit), (75, k_field_Copy), (76, k_slices_Index_int_int), (78, k_strings_explode), (79, k_strings_Count), (80, k_strings_Index), (81, k_unicode_utf8_RuneCountInString), (82, k_unicode_utf8_DecodeRuneInString), (84, k_stringslite_Index), (85, k_unicode_utf8_decodeRuneInStringSlow), (86, k_stringslite_IndexByte), (88, k_bytealg_Cutover), (89, k_bytealg_IndexRabinKarp_string), (91, k_bytealg_hashStr_string)]
def tabK (g : Nat) : Option AFun := tabGet tabLK g
theorem tabK_all : ∀ p ∈ tabLK, EntryOK Tryd.prog p.1 p.2 := AllOK.get (l := tabLK) (⟨e_law01_FieldKnown, ⟨e_law01_awake, ⟨e_field_Text, ⟨e_field_Parse, ⟨e_ref01_Same, ⟨e_law01_line, ⟨e_field_Check, ⟨e_field_CheckVolts, ⟨e_field_Weight, ⟨e_law01_ring, ⟨e_law01_gate, ⟨e_field_Solve, ⟨e_kit_Same, ⟨e_field_Good, ⟨e_law01_charges, ⟨e_law01_moved, ⟨e_field_Charge, ⟨e_slices_Chunk_int_int, ⟨e_field_character, ⟨e_field_read, ⟨e_ref01_SameInts, ⟨e_field_within, ⟨e_slices_Max_int_int, ⟨e_field_loose, ⟨e_field_checkNumbers, ⟨e_field_neighbours, ⟨e_field_checkSweeps, ⟨e_field_solve, ⟨e_field_bounds, ⟨e_field_around, ⟨e_field_Influence, ⟨e_field_Amplification, ⟨e_field_Shift, ⟨e_field_has, ⟨e_field_charge, ⟨e_slices_Chunk_int_int_1, ⟨e_strings_Split, ⟨e_field_isRow, ⟨e_field_cellOf, ⟨e_field_neighbours_1, ⟨e_field_beside, ⟨e_field_above, ⟨e_field_ends, ⟨e_field_newBound, ⟨e_field_roundDown, ⟨e_field_roundUp, ⟨e_field_bound_sweep, ⟨e_field_checkOf, ⟨e_field_influence, ⟨e_field_leaves, ⟨e_field_without, ⟨e_slices_Contains_int_int, ⟨e_strings_genSplit, ⟨e_field_Copy, ⟨e_slices_Index_int_int, ⟨e_strings_explode, ⟨e_strings_Count, ⟨e_strings_Index, ⟨e_unicode_utf8_RuneCountInString, ⟨e_unicode_utf8_DecodeRuneInString, ⟨e_stringslite_Index, ⟨e_unicode_utf8_decodeRuneInStringSlow, ⟨e_stringslite_IndexByte, ⟨e_bytealg_Cutover, ⟨e_bytealg_IndexRabinKarp_string, ⟨e_bytealg_hashStr_string, trivial⟩⟩⟩⟩⟩⟩⟩⟩⟩⟩⟩⟩⟩⟩⟩⟩⟩⟩⟩⟩⟩⟩⟩⟩⟩⟩⟩⟩⟩⟩⟩⟩⟩⟩⟩⟩⟩⟩⟩⟩⟩⟩⟩⟩⟩⟩⟩⟩⟩⟩⟩⟩⟩⟩⟩⟩⟩⟩⟩⟩⟩⟩⟩⟩⟩⟩)
theorem tabK_ok (g : Nat) (af : AFun) (h : tabK g = some af) : EntryOK Tryd.prog g af := by
  have h2 := tabK_all _ (tabGet_mem _ _ _ h)
  exact h2
end Go.Proofs

