/- A part of the proof. -/
import Derived.Test.YtgjcjehpfjeomaaDoorPE
set_option linter.unusedSimpArgs false
set_option linter.unusedVariables false
namespace Go.Proofs
open Go Go.Sx

def k_law01_FieldTexts_r0 : List AOper := [
  ⟨some 5, .box (.tmp 0), none, []⟩,
 ⟨some 10, .move (.const (.bool false)), none, []⟩]
def k_law01_FieldTexts_r1 : List AOper := [
  ⟨some 29, .load (some (4)) (.tmp 5), none, []⟩,
 ⟨some 30, .call (.const (.fn (.func 5) [] [])) [.tmp 29, .const (.nilsl)], none, []⟩,
 ⟨some 31, .move (.tmp 30), none, []⟩,
 ⟨some 32, .move (.tmp 1), (some (31, false)), []⟩,
 ⟨some 33, .len true (.tmp 32), (some (31, false)), []⟩,
 ⟨some 34, .bin .plain .gtr (.tmp 33) (.const (.int .i64 600)), (some (31, false)), []⟩,
 ⟨some 35, .pick (.tmp 31) (.const (.bool true)) (.tmp 34), none, []⟩]
def k_law01_FieldTexts_r2 : List AOper := [
  ⟨some 36, .call (.const (.fn (.func 6) [] [])) [], none, []⟩,
 ⟨some 10, .move (.tmp 36), none, []⟩]
def k_law01_FieldTexts_r3 : List AOper := [
  ⟨some 37, .move (.tmp 2), none, []⟩,
 ⟨some 38, .call (.const (.fn (.func 8) [] [])) [.tmp 37], none, []⟩,
 ⟨some 39, .call (.const (.fn (.func 7) [] [])) [.tmp 38, .const (.int .i64 8), .const (.int .i64 6)], none, []⟩,
 ⟨some 11, .box (.const (.agg [.int .i64 0, .int .i64 0, .bool false, .nilsl])), none, []⟩,
 ⟨none, .store 4 (.tmp 11) (.tmp 39), none, []⟩]
def k_law01_FieldTexts_r4 : List AOper := [
  ⟨some 41, .load (some (4)) (.tmp 5), none, []⟩,
 ⟨some 42, .call (.const (.fn (.func 9) [] [])) [.tmp 41], none, []⟩,
 ⟨some 40, .move (.tmp 42), none, []⟩,
 ⟨some 43, .extract (.tmp 40) 0, none, []⟩,
 ⟨some 44, .extract (.tmp 40) 1, none, []⟩,
 ⟨some 12, .move (.tmp 43), none, []⟩,
 ⟨some 13, .move (.tmp 44), none, []⟩]
def k_law01_FieldTexts_r5 : List AOper := [
  ⟨some 46, .load (some (4)) (.tmp 5), none, []⟩,
 ⟨some 47, .call (.const (.fn (.func 10) [] [])) [.tmp 46], none, []⟩,
 ⟨some 45, .move (.tmp 47), none, []⟩,
 ⟨some 48, .extract (.tmp 45) 0, none, []⟩,
 ⟨some 49, .extract (.tmp 45) 1, none, []⟩,
 ⟨some 14, .move (.tmp 48), none, []⟩,
 ⟨some 15, .move (.tmp 49), none, []⟩]
def k_law01_FieldTexts_r6 : List AOper := [
  ⟨some 51, .load (some (4)) (.tmp 11), none, []⟩,
 ⟨some 52, .call (.const (.fn (.func 9) [] [])) [.tmp 51], none, []⟩,
 ⟨some 50, .move (.tmp 52), none, []⟩,
 ⟨some 53, .extract (.tmp 50) 0, none, []⟩,
 ⟨some 54, .extract (.tmp 50) 1, none, []⟩,
 ⟨some 16, .move (.tmp 53), none, []⟩,
 ⟨some 17, .move (.tmp 54), none, []⟩]
def k_law01_FieldTexts_r7 : List AOper := [
  ⟨some 56, .load (some (4)) (.tmp 11), none, []⟩,
 ⟨some 57, .call (.const (.fn (.func 10) [] [])) [.tmp 56], none, []⟩,
 ⟨some 55, .move (.tmp 57), none, []⟩,
 ⟨some 58, .extract (.tmp 55) 0, none, []⟩,
 ⟨some 59, .extract (.tmp 55) 1, none, []⟩,
 ⟨some 18, .move (.tmp 58), none, []⟩,
 ⟨some 19, .move (.tmp 59), none, []⟩]
def k_law01_FieldTexts_r8 : List AOper := [
  ⟨some 60, .move (.tmp 12), none, []⟩,
 ⟨some 61, .move (.tmp 14), none, []⟩,
 ⟨some 62, .bin .plain .neq (.tmp 60) (.tmp 61), none, []⟩,
 ⟨some 63, .move (.tmp 62), none, []⟩,
 ⟨some 64, .move (.tmp 13), (some (63, false)), []⟩,
 ⟨some 65, .move (.tmp 15), (some (63, false)), []⟩,
 ⟨some 66, .bin .plain .neq (.tmp 64) (.tmp 65), (some (63, false)), []⟩,
 ⟨some 67, .pick (.tmp 63) (.const (.bool true)) (.tmp 66), none, []⟩,
 ⟨some 68, .move (.tmp 67), none, []⟩,
 ⟨some 69, .move (.tmp 16), (some (68, false)), []⟩,
 ⟨some 70, .move (.tmp 18), (some (68, false)), []⟩,
 ⟨some 71, .bin .plain .neq (.tmp 69) (.tmp 70), (some (68, false)), []⟩,
 ⟨some 72, .pick (.tmp 68) (.const (.bool true)) (.tmp 71), none, []⟩,
 ⟨some 73, .move (.tmp 72), none, []⟩,
 ⟨some 74, .move (.tmp 17), (some (73, false)), []⟩,
 ⟨some 75, .move (.tmp 19), (some (73, false)), []⟩,
 ⟨some 76, .bin .plain .neq (.tmp 74) (.tmp 75), (some (73, false)), []⟩,
 ⟨some 77, .pick (.tmp 73) (.const (.bool true)) (.tmp 76), none, []⟩]
def k_law01_FieldTexts_r9 : List AOper := [
  ⟨some 10, .move (.const (.bool false)), none, []⟩]
def k_law01_FieldTexts_r10 : List AOper := [
  ⟨some 78, .move (.tmp 3), none, []⟩,
 ⟨some 79, .bin .plain .quo (.tmp 78) (.const (.int .i64 4)), none, []⟩,
 ⟨some 80, .move (.tmp 18), none, []⟩,
 ⟨some 81, .len true (.tmp 80), none, []⟩,
 ⟨some 82, .call (.const (.fn (.func 11) [] [])) [.tmp 79, .tmp 81], none, []⟩,
 ⟨some 20, .move (.tmp 82), none, []⟩]
def k_law01_FieldTexts_r11 : List AOper := [
  ⟨some 83, .move (.tmp 3), none, []⟩,
 ⟨some 84, .call (.const (.fn (.func 11) [] [])) [.tmp 83, .const (.int .i64 4)], none, []⟩]
def k_law01_FieldTexts_r12 : List AOper := [
  ⟨some 86, .bin .plain .eql (.tmp 84) (.const (.int .i64 0)), none, []⟩,
 ⟨some 85, .move (.tmp 86), none, []⟩]
def k_law01_FieldTexts_r13 : List AOper := [
  ⟨some 87, .move (.tmp 18), none, []⟩,
 ⟨some 88, .move (.tmp 20), none, [0]⟩,
 ⟨some 89, .slice true 1 (.tmp 87) none (some (.tmp 88)), none, []⟩,
 ⟨some 90, .move (.tmp 4), none, [0, 1, 2]⟩,
 ⟨some 91, .buildSlice 1 [.tmp 90], none, [0, 1, 2]⟩,
 ⟨some 92, .bytesToStr (.tmp 91), none, [0, 1, 2]⟩,
 ⟨some 93, .bin .plain .add (.tmp 89) (.tmp 92), none, []⟩,
 ⟨some 94, .move (.tmp 18), none, [0, 1, 2, 3, 4, 5, 6]⟩,
 ⟨some 95, .move (.tmp 20), none, [0, 1, 2, 3, 4, 5, 6, 7]⟩,
 ⟨some 96, .bin .plain .add (.tmp 95) (.const (.int .i64 1)), none, [0, 1, 2, 3, 4, 5, 6, 7]⟩,
 ⟨some 97, .slice true 1 (.tmp 94) (some (.tmp 96)) none, none, [0, 1, 2, 3, 4, 5, 6]⟩,
 ⟨some 98, .bin .plain .add (.tmp 93) (.tmp 97), none, []⟩,
 ⟨some 18, .move (.tmp 98), none, []⟩]
def k_law01_FieldTexts_r13s : List (List AOper) := [
  [
  ⟨some 87, .move (.tmp 18), none, []⟩,
 ⟨some 88, .move (.tmp 20), none, [0]⟩,
 ⟨some 89, .slice true 1 (.tmp 87) none (some (.tmp 88)), none, []⟩,
 ⟨some 90, .move (.tmp 4), none, [0, 1, 2]⟩,
 ⟨some 91, .buildSlice 1 [.tmp 90], none, [0, 1, 2]⟩,
 ⟨some 92, .bytesToStr (.tmp 91), none, [0, 1, 2]⟩,
 ⟨some 93, .bin .plain .add (.tmp 89) (.tmp 92), none, []⟩,
 ⟨some 94, .move (.tmp 18), none, [0, 1, 2, 3, 4, 5, 6]⟩,
 ⟨some 95, .move (.tmp 20), none, [0, 1, 2, 3, 4, 5, 6, 7]⟩,
 ⟨some 96, .bin .plain .add (.tmp 95) (.const (.int .i64 1)), none, [0, 1, 2, 3, 4, 5, 6, 7]⟩,
 ⟨some 97, .slice true 1 (.tmp 94) (some (.tmp 96)) none, none, [0, 1, 2, 3, 4, 5, 6]⟩], 
  [
  ⟨some 98, .bin .plain .add (.tmp 93) (.tmp 97), none, []⟩], 
  [
  ⟨some 18, .move (.tmp 98), none, []⟩]]
theorem k_law01_FieldTexts_r13_sg : segs k_law01_FieldTexts_r13 = k_law01_FieldTexts_r13s := by kernel_rfl
theorem k_law01_FieldTexts_r13_st : statOK k_law01_FieldTexts_r13 = true := by kernel_rfl
def k_law01_FieldTexts_r14 : List AOper := [
  ⟨some 100, .bin .plain .eql (.tmp 84) (.const (.int .i64 1)), none, []⟩,
 ⟨some 99, .move (.tmp 100), none, []⟩]
def k_law01_FieldTexts_r15 : List AOper := [
  ⟨some 101, .move (.tmp 18), none, []⟩,
 ⟨some 102, .move (.tmp 20), none, [0]⟩,
 ⟨some 103, .slice true 1 (.tmp 101) none (some (.tmp 102)), none, []⟩,
 ⟨some 104, .move (.tmp 18), none, [0, 1, 2]⟩,
 ⟨some 105, .move (.tmp 20), none, [0, 1, 2, 3]⟩,
 ⟨some 106, .bin .plain .add (.tmp 105) (.const (.int .i64 1)), none, [0, 1, 2, 3]⟩,
 ⟨some 107, .slice true 1 (.tmp 104) (some (.tmp 106)) none, none, [0, 1, 2]⟩,
 ⟨some 108, .bin .plain .add (.tmp 103) (.tmp 107), none, []⟩,
 ⟨some 18, .move (.tmp 108), none, []⟩]
def k_law01_FieldTexts_r15s : List (List AOper) := [
  [
  ⟨some 101, .move (.tmp 18), none, []⟩,
 ⟨some 102, .move (.tmp 20), none, [0]⟩,
 ⟨some 103, .slice true 1 (.tmp 101) none (some (.tmp 102)), none, []⟩,
 ⟨some 104, .move (.tmp 18), none, [0, 1, 2]⟩,
 ⟨some 105, .move (.tmp 20), none, [0, 1, 2, 3]⟩,
 ⟨some 106, .bin .plain .add (.tmp 105) (.const (.int .i64 1)), none, [0, 1, 2, 3]⟩,
 ⟨some 107, .slice true 1 (.tmp 104) (some (.tmp 106)) none, none, [0, 1, 2]⟩], 
  [
  ⟨some 108, .bin .plain .add (.tmp 103) (.tmp 107), none, []⟩], 
  [
  ⟨some 18, .move (.tmp 108), none, []⟩]]
theorem k_law01_FieldTexts_r15_sg : segs k_law01_FieldTexts_r15 = k_law01_FieldTexts_r15s := by kernel_rfl
theorem k_law01_FieldTexts_r15_st : statOK k_law01_FieldTexts_r15 = true := by kernel_rfl
def k_law01_FieldTexts_r16 : List AOper := [
  ⟨some 110, .bin .plain .eql (.tmp 84) (.const (.int .i64 2)), none, []⟩,
 ⟨some 109, .move (.tmp 110), none, []⟩]
def k_law01_FieldTexts_r17 : List AOper := [
  ⟨some 111, .move (.tmp 18), none, []⟩,
 ⟨some 112, .move (.tmp 20), none, [0]⟩,
 ⟨some 113, .slice true 1 (.tmp 111) none (some (.tmp 112)), none, []⟩,
 ⟨some 114, .move (.tmp 18), none, [0, 1, 2]⟩,
 ⟨some 115, .move (.tmp 20), none, [0, 1, 2, 3]⟩,
 ⟨some 116, .move (.tmp 20), none, [0, 1, 2, 3, 4]⟩,
 ⟨some 117, .bin .plain .add (.tmp 116) (.const (.int .i64 1)), none, [0, 1, 2, 3, 4]⟩,
 ⟨some 118, .slice true 1 (.tmp 114) (some (.tmp 115)) (some (.tmp 117)), none, [0, 1, 2]⟩,
 ⟨some 119, .bin .plain .add (.tmp 113) (.tmp 118), none, []⟩,
 ⟨some 120, .move (.tmp 18), none, [0, 1, 2, 3, 4, 5, 6, 7, 8]⟩,
 ⟨some 121, .move (.tmp 20), none, [0, 1, 2, 3, 4, 5, 6, 7, 8, 9]⟩,
 ⟨some 122, .slice true 1 (.tmp 120) (some (.tmp 121)) none, none, [0, 1, 2, 3, 4, 5, 6, 7, 8]⟩,
 ⟨some 123, .bin .plain .add (.tmp 119) (.tmp 122), none, []⟩,
 ⟨some 18, .move (.tmp 123), none, []⟩]
def k_law01_FieldTexts_r17s : List (List AOper) := [
  [
  ⟨some 111, .move (.tmp 18), none, []⟩,
 ⟨some 112, .move (.tmp 20), none, [0]⟩,
 ⟨some 113, .slice true 1 (.tmp 111) none (some (.tmp 112)), none, []⟩,
 ⟨some 114, .move (.tmp 18), none, [0, 1, 2]⟩,
 ⟨some 115, .move (.tmp 20), none, [0, 1, 2, 3]⟩,
 ⟨some 116, .move (.tmp 20), none, [0, 1, 2, 3, 4]⟩,
 ⟨some 117, .bin .plain .add (.tmp 116) (.const (.int .i64 1)), none, [0, 1, 2, 3, 4]⟩,
 ⟨some 118, .slice true 1 (.tmp 114) (some (.tmp 115)) (some (.tmp 117)), none, [0, 1, 2]⟩,
 ⟨some 119, .bin .plain .add (.tmp 113) (.tmp 118), none, []⟩,
 ⟨some 120, .move (.tmp 18), none, [0, 1, 2, 3, 4, 5, 6, 7, 8]⟩,
 ⟨some 121, .move (.tmp 20), none, [0, 1, 2, 3, 4, 5, 6, 7, 8, 9]⟩,
 ⟨some 122, .slice true 1 (.tmp 120) (some (.tmp 121)) none, none, [0, 1, 2, 3, 4, 5, 6, 7, 8]⟩], 
  [
  ⟨some 123, .bin .plain .add (.tmp 119) (.tmp 122), none, []⟩], 
  [
  ⟨some 18, .move (.tmp 123), none, []⟩]]
theorem k_law01_FieldTexts_r17_sg : segs k_law01_FieldTexts_r17 = k_law01_FieldTexts_r17s := by kernel_rfl
theorem k_law01_FieldTexts_r17_st : statOK k_law01_FieldTexts_r17 = true := by kernel_rfl
def k_law01_FieldTexts_r18 : List AOper := [
  ⟨some 124, .move (.tmp 1), none, []⟩,
 ⟨some 125, .move (.tmp 18), none, []⟩,
 ⟨some 126, .buildSlice 1 [.tmp 124, .tmp 125], none, []⟩,
 ⟨some 21, .move (.tmp 126), none, []⟩]
def k_law01_FieldTexts_r19 : List AOper := [
  ⟨some 22, .move (.const (.int .i64 0)), none, []⟩]
def k_law01_FieldTexts_r20 : List AOper := [
  ⟨some 127, .move (.tmp 22), none, []⟩,
 ⟨some 128, .move (.tmp 21), none, []⟩,
 ⟨some 129, .len false (.tmp 128), none, []⟩,
 ⟨some 130, .bin .plain .lss (.tmp 127) (.tmp 129), none, []⟩]
def k_law01_FieldTexts_r21 : List AOper := [
  ⟨some 134, .move (.tmp 21), none, []⟩,
 ⟨some 135, .move (.tmp 22), none, []⟩,
 ⟨some 136, .indexAddr 1 (.tmp 134) (.tmp 135), none, []⟩,
 ⟨some 137, .load none (.tmp 136), none, []⟩,
 ⟨some 138, .call (.const (.fn (.func 12) [] [])) [.tmp 137], none, []⟩,
 ⟨some 133, .move (.tmp 138), none, []⟩,
 ⟨some 139, .extract (.tmp 133) 0, none, []⟩,
 ⟨some 140, .extract (.tmp 133) 1, none, []⟩,
 ⟨some 141, .extract (.tmp 133) 2, none, []⟩,
 ⟨some 23, .box (.const (.agg [.int .i64 0, .int .i64 0, .bool false, .nilsl])), none, []⟩,
 ⟨none, .store 4 (.tmp 23) (.tmp 139), none, []⟩,
 ⟨some 24, .move (.tmp 140), none, []⟩,
 ⟨some 25, .move (.tmp 141), none, []⟩]
def k_law01_FieldTexts_r22 : List AOper := [
  ⟨some 143, .move (.tmp 21), none, []⟩,
 ⟨some 144, .move (.tmp 22), none, []⟩,
 ⟨some 145, .indexAddr 1 (.tmp 143) (.tmp 144), none, []⟩,
 ⟨some 146, .load none (.tmp 145), none, []⟩,
 ⟨some 147, .call (.const (.fn (.func 13) [] [])) [.tmp 146], none, []⟩,
 ⟨some 142, .move (.tmp 147), none, []⟩,
 ⟨some 148, .extract (.tmp 142) 0, none, []⟩,
 ⟨some 149, .extract (.tmp 142) 1, none, []⟩,
 ⟨some 150, .extract (.tmp 142) 2, none, []⟩,
 ⟨some 26, .box (.const (.agg [.int .i64 0, .int .i64 0, .bool false, .nilsl])), none, []⟩,
 ⟨none, .store 4 (.tmp 26) (.tmp 148), none, []⟩,
 ⟨some 27, .move (.tmp 149), none, []⟩,
 ⟨some 28, .move (.tmp 150), none, []⟩]
def k_law01_FieldTexts_r23 : List AOper := [
  ⟨some 151, .move (.tmp 24), none, []⟩,
 ⟨some 152, .move (.tmp 27), none, []⟩,
 ⟨some 153, .bin .plain .neq (.tmp 151) (.tmp 152), none, []⟩,
 ⟨some 154, .move (.tmp 153), none, []⟩,
 ⟨some 155, .move (.tmp 25), (some (154, false)), []⟩,
 ⟨some 156, .move (.tmp 28), (some (154, false)), []⟩,
 ⟨some 157, .bin .plain .neq (.tmp 155) (.tmp 156), (some (154, false)), []⟩,
 ⟨some 158, .pick (.tmp 154) (.const (.bool true)) (.tmp 157), none, []⟩,
 ⟨some 159, .move (.tmp 158), none, []⟩,
 ⟨some 160, .load (some (4)) (.tmp 23), (some (159, false)), []⟩,
 ⟨some 161, .load (some (4)) (.tmp 26), (some (159, false)), []⟩,
 ⟨some 162, .call (.const (.fn (.func 14) [] [])) [.tmp 160, .tmp 161], (some (159, false)), []⟩,
 ⟨some 163, .not (.tmp 162), (some (159, false)), []⟩,
 ⟨some 164, .pick (.tmp 159) (.const (.bool true)) (.tmp 163), none, []⟩]
def k_law01_FieldTexts_r24 : List AOper := [
  ⟨some 10, .move (.const (.bool false)), none, []⟩]
def k_law01_FieldTexts_r25 : List AOper := [
  ⟨some 131, .move (.tmp 22), none, []⟩,
 ⟨some 132, .bin .plain .add (.tmp 131) (.const (.int .i64 1)), none, []⟩,
 ⟨some 22, .move (.tmp 132), none, []⟩]
def k_law01_FieldTexts_r26 : ACode := (.seq (.seq (.reg k_law01_FieldTexts_r20 false) (.cond (.tmp 130) .skip (.exit 1))) (.seq (.block 2 (.seq (.reg k_law01_FieldTexts_r21 false) (.seq (.reg k_law01_FieldTexts_r22 false) (.seq (.reg k_law01_FieldTexts_r23 false) (.cond (.tmp 164) (.seq (.reg k_law01_FieldTexts_r24 false) .ret) .skip))))) (.reg k_law01_FieldTexts_r25 false)))
def k_law01_FieldTexts_r27 : List AOper := [
  ⟨some 165, .call (.const (.fn (.func 6) [] [])) [], none, []⟩,
 ⟨some 10, .move (.tmp 165), none, []⟩]
def k_law01_FieldTexts : AFun := { params := 5, ntmps := 166, body := (.seq (.reg k_law01_FieldTexts_r0 false) (.seq (.seq (.reg k_law01_FieldTexts_r1 false) (.cond (.tmp 35) (.seq (.reg k_law01_FieldTexts_r2 false) .ret) .skip)) (.seq (.reg k_law01_FieldTexts_r3 false) (.seq (.reg k_law01_FieldTexts_r4 false) (.seq (.reg k_law01_FieldTexts_r5 false) (.seq (.reg k_law01_FieldTexts_r6 false) (.seq (.reg k_law01_FieldTexts_r7 false) (.seq (.seq (.reg k_law01_FieldTexts_r8 false) (.cond (.tmp 77) (.seq (.reg k_law01_FieldTexts_r9 false) .ret) .skip)) (.seq (.reg k_law01_FieldTexts_r10 false) (.seq (.seq (.reg k_law01_FieldTexts_r11 false) (.block 0 (.seq (.reg k_law01_FieldTexts_r12 false) (.cond (.tmp 85) (.reg k_law01_FieldTexts_r13 true) (.seq (.reg k_law01_FieldTexts_r14 false) (.cond (.tmp 99) (.reg k_law01_FieldTexts_r15 true) (.seq (.reg k_law01_FieldTexts_r16 false) (.cond (.tmp 109) (.reg k_law01_FieldTexts_r17 true) .skip)))))))) (.seq (.reg k_law01_FieldTexts_r18 false) (.seq (.seq (.reg k_law01_FieldTexts_r19 false) (.block 1 (.loop k_law01_FieldTexts_r26))) (.seq (.reg k_law01_FieldTexts_r27 false) .ret))))))))))))), res := [.tmp 10] }
theorem k_law01_FieldTexts_ok : cfun Tryd.prog Tryd.f3 = k_law01_FieldTexts := by kernel_rfl

def k_law01_big_r0 : List AOper := [
  ⟨some 2, .box (.tmp 0), none, []⟩,
 ⟨some 4, .move (.const (.bool false)), none, []⟩]
def k_law01_big_r1 : List AOper := [
  ⟨some 5, .move (.const (.int .i64 0)), none, []⟩]
def k_law01_big_r2 : List AOper := [
  ⟨some 6, .move (.tmp 5), none, []⟩,
 ⟨some 7, .move (.tmp 1), none, []⟩,
 ⟨some 8, .len false (.tmp 7), none, []⟩,
 ⟨some 9, .bin .plain .lss (.tmp 6) (.tmp 8), none, []⟩]
def k_law01_big_r3 : List AOper := [
  ⟨some 12, .move (.tmp 1), none, []⟩,
 ⟨some 13, .move (.tmp 5), none, []⟩,
 ⟨some 14, .indexAddr 1 (.tmp 12) (.tmp 13), none, []⟩,
 ⟨some 15, .load none (.tmp 14), none, []⟩,
 ⟨some 16, .len false (.tmp 15), none, []⟩,
 ⟨some 17, .bin .plain .gtr (.tmp 16) (.const (.int .i64 300)), none, []⟩]
def k_law01_big_r4 : List AOper := [
  ⟨some 4, .move (.const (.bool true)), none, []⟩]
def k_law01_big_r5 : List AOper := [
  ⟨some 10, .move (.tmp 5), none, []⟩,
 ⟨some 11, .bin .plain .add (.tmp 10) (.const (.int .i64 1)), none, []⟩,
 ⟨some 5, .move (.tmp 11), none, []⟩]
def k_law01_big_r6 : ACode := (.seq (.seq (.reg k_law01_big_r2 false) (.cond (.tmp 9) .skip (.exit 0))) (.seq (.block 1 (.seq (.reg k_law01_big_r3 false) (.cond (.tmp 17) (.seq (.reg k_law01_big_r4 false) .ret) .skip))) (.reg k_law01_big_r5 false)))
def k_law01_big_r7 : List AOper := [
  ⟨some 18, .fieldAddr 3 (.tmp 2), none, []⟩,
 ⟨some 19, .load none (.tmp 18), none, []⟩,
 ⟨some 20, .len false (.tmp 19), none, []⟩,
 ⟨some 21, .bin .plain .gtr (.tmp 20) (.const (.int .i64 300)), none, []⟩,
 ⟨some 4, .move (.tmp 21), none, []⟩]
def k_law01_big : AFun := { params := 2, ntmps := 22, body := (.seq (.reg k_law01_big_r0 false) (.seq (.seq (.reg k_law01_big_r1 false) (.block 0 (.loop k_law01_big_r6))) (.seq (.reg k_law01_big_r7 false) .ret))), res := [.tmp 4] }
theorem k_law01_big_ok : cfun Tryd.prog Tryd.f5 = k_law01_big := by kernel_rfl

def k_ref01_Text_r0 : List AOper := [
  ⟨some 1, .box (.tmp 0), none, []⟩,
 ⟨some 2, .move (.const (.str [])), none, []⟩,
 ⟨some 3, .move (.const (.int .i64 0)), none, []⟩]
def k_ref01_Text_r1 : List AOper := [
  ⟨some 7, .load (some (4)) (.tmp 1), none, []⟩,
 ⟨some 8, .call (.const (.fn (.func 28) [] [])) [.tmp 7], none, []⟩,
 ⟨some 4, .move (.tmp 8), none, []⟩]
def k_ref01_Text_r2 : List AOper := [
  ⟨some 9, .move (.tmp 4), none, []⟩,
 ⟨some 10, .bin .plain .neq (.tmp 9) (.const (.int .i64 0)), none, []⟩]
def k_ref01_Text_r3 : List AOper := [
  ⟨some 11, .move (.tmp 4), none, []⟩,
 ⟨some 2, .move (.const (.str [])), none, []⟩,
 ⟨some 3, .move (.tmp 11), none, []⟩]
def k_ref01_Text_r4 : List AOper := [
  ⟨some 5, .move (.const (.str [102, 108, 97, 116, 10])), none, []⟩]
def k_ref01_Text_r5 : List AOper := [
  ⟨some 12, .fieldAddr 2 (.tmp 1), none, []⟩,
 ⟨some 13, .load none (.tmp 12), none, []⟩]
def k_ref01_Text_r6 : List AOper := [
  ⟨some 5, .move (.const (.str [114, 111, 117, 110, 100, 10])), none, []⟩]
def k_ref01_Text_r7 : List AOper := [
  ⟨some 6, .move (.const (.int .i64 0)), none, []⟩]
def k_ref01_Text_r8 : List AOper := [
  ⟨some 14, .move (.tmp 6), none, []⟩,
 ⟨some 15, .fieldAddr 3 (.tmp 1), none, []⟩,
 ⟨some 16, .load none (.tmp 15), none, []⟩,
 ⟨some 17, .len false (.tmp 16), none, []⟩,
 ⟨some 18, .bin .plain .lss (.tmp 14) (.tmp 17), none, []⟩]
def k_ref01_Text_r9 : List AOper := [
  ⟨some 21, .move (.tmp 5), none, []⟩,
 ⟨some 22, .fieldAddr 3 (.tmp 1), none, [0]⟩,
 ⟨some 23, .load none (.tmp 22), none, [0]⟩,
 ⟨some 24, .move (.tmp 6), none, [0, 1, 2]⟩,
 ⟨some 25, .indexAddr 1 (.tmp 23) (.tmp 24), none, [0]⟩,
 ⟨some 26, .load none (.tmp 25), none, [0]⟩,
 ⟨some 27, .fieldAddr 3 (.tmp 1), none, [0, 1, 2, 3, 4, 5]⟩,
 ⟨some 28, .load none (.tmp 27), none, [0, 1, 2, 3, 4, 5]⟩,
 ⟨some 29, .move (.tmp 6), none, [0, 1, 2, 3, 4, 5, 6, 7]⟩,
 ⟨some 30, .indexAddr 1 (.tmp 28) (.tmp 29), none, [0, 1, 2, 3, 4, 5]⟩,
 ⟨some 31, .load none (.tmp 30), none, [0, 1, 2, 3, 4, 5]⟩,
 ⟨some 32, .bin .plain .add (.tmp 31) (.const (.int .i64 1)), none, [0, 1, 2, 3, 4, 5]⟩,
 ⟨some 33, .slice true 1 (.const (.str [46, 49, 50, 51, 52, 53, 54])) (some (.tmp 26)) (some (.tmp 32)), none, [0]⟩,
 ⟨some 34, .bin .plain .add (.tmp 21) (.tmp 33), none, []⟩,
 ⟨some 5, .move (.tmp 34), none, []⟩]
def k_ref01_Text_r9s : List (List AOper) := [
  [
  ⟨some 21, .move (.tmp 5), none, []⟩,
 ⟨some 22, .fieldAddr 3 (.tmp 1), none, [0]⟩,
 ⟨some 23, .load none (.tmp 22), none, [0]⟩,
 ⟨some 24, .move (.tmp 6), none, [0, 1, 2]⟩,
 ⟨some 25, .indexAddr 1 (.tmp 23) (.tmp 24), none, [0]⟩,
 ⟨some 26, .load none (.tmp 25), none, [0]⟩,
 ⟨some 27, .fieldAddr 3 (.tmp 1), none, [0, 1, 2, 3, 4, 5]⟩,
 ⟨some 28, .load none (.tmp 27), none, [0, 1, 2, 3, 4, 5]⟩,
 ⟨some 29, .move (.tmp 6), none, [0, 1, 2, 3, 4, 5, 6, 7]⟩,
 ⟨some 30, .indexAddr 1 (.tmp 28) (.tmp 29), none, [0, 1, 2, 3, 4, 5]⟩,
 ⟨some 31, .load none (.tmp 30), none, [0, 1, 2, 3, 4, 5]⟩,
 ⟨some 32, .bin .plain .add (.tmp 31) (.const (.int .i64 1)), none, [0, 1, 2, 3, 4, 5]⟩,
 ⟨some 33, .slice true 1 (.const (.str [46, 49, 50, 51, 52, 53, 54])) (some (.tmp 26)) (some (.tmp 32)), none, [0]⟩], 
  [
  ⟨some 34, .bin .plain .add (.tmp 21) (.tmp 33), none, []⟩], 
  [
  ⟨some 5, .move (.tmp 34), none, []⟩]]
theorem k_ref01_Text_r9_sg : segs k_ref01_Text_r9 = k_ref01_Text_r9s := by kernel_rfl
theorem k_ref01_Text_r9_st : statOK k_ref01_Text_r9 = true := by kernel_rfl
def k_ref01_Text_r10 : List AOper := [
  ⟨some 35, .move (.tmp 6), none, []⟩,
 ⟨some 36, .bin .plain .add (.tmp 35) (.const (.int .i64 1)), none, []⟩,
 ⟨some 37, .fieldAddr 0 (.tmp 1), none, []⟩,
 ⟨some 38, .load none (.tmp 37), none, []⟩,
 ⟨some 39, .bin .plain .rem (.tmp 36) (.tmp 38), none, []⟩,
 ⟨some 40, .bin .plain .eql (.tmp 39) (.const (.int .i64 0)), none, []⟩]
def k_ref01_Text_r11 : List AOper := [
  ⟨some 41, .move (.tmp 5), none, []⟩,
 ⟨some 42, .bin .plain .add (.tmp 41) (.const (.str [10])), none, []⟩,
 ⟨some 5, .move (.tmp 42), none, []⟩]
def k_ref01_Text_r12 : List AOper := [
  ⟨some 19, .move (.tmp 6), none, []⟩,
 ⟨some 20, .bin .plain .add (.tmp 19) (.const (.int .i64 1)), none, []⟩,
 ⟨some 6, .move (.tmp 20), none, []⟩]
def k_ref01_Text_r13 : ACode := (.seq (.seq (.reg k_ref01_Text_r8 false) (.cond (.tmp 18) .skip (.exit 0))) (.seq (.block 1 (.seq (.reg k_ref01_Text_r9 true) (.seq (.reg k_ref01_Text_r10 false) (.cond (.tmp 40) (.reg k_ref01_Text_r11 false) .skip)))) (.reg k_ref01_Text_r12 false)))
def k_ref01_Text_r14 : List AOper := [
  ⟨some 43, .move (.tmp 5), none, []⟩,
 ⟨some 2, .move (.tmp 43), none, []⟩,
 ⟨some 3, .move (.const (.int .i64 0)), none, []⟩]
def k_ref01_Text : AFun := { params := 1, ntmps := 44, body := (.seq (.reg k_ref01_Text_r0 false) (.seq (.seq (.reg k_ref01_Text_r1 false) (.seq (.reg k_ref01_Text_r2 false) (.cond (.tmp 10) (.seq (.reg k_ref01_Text_r3 false) .ret) .skip))) (.seq (.reg k_ref01_Text_r4 false) (.seq (.seq (.reg k_ref01_Text_r5 false) (.cond (.tmp 13) (.reg k_ref01_Text_r6 false) .skip)) (.seq (.seq (.reg k_ref01_Text_r7 false) (.block 0 (.loop k_ref01_Text_r13))) (.seq (.reg k_ref01_Text_r14 false) .ret)))))), res := [.tmp 2, .tmp 3] }
theorem k_ref01_Text_ok : cfun Tryd.prog Tryd.f10 = k_ref01_Text := by kernel_rfl

def k_ref01_Parse_r0 : List AOper := [
  ⟨some 2, .box (.const (.agg [.int .i64 0, .int .i64 0, .bool false, .nilsl])), none, []⟩,
 ⟨some 3, .move (.const (.int .i64 0)), none, []⟩,
 ⟨some 4, .move (.const (.int .i64 0)), none, []⟩]
def k_ref01_Parse_r1 : List AOper := [
  ⟨some 12, .move (.tmp 0), none, []⟩,
 ⟨some 13, .len true (.tmp 12), none, []⟩,
 ⟨some 14, .bin .plain .gtr (.tmp 13) (.const (.int .i64 400)), none, []⟩]
def k_ref01_Parse_r2 : List AOper := [
  ⟨some 15, .build [.int .i64 0, .int .i64 0, .bool false, .nilsl] [], none, []⟩,
 ⟨none, .store 4 (.tmp 2) (.tmp 15), none, []⟩,
 ⟨some 3, .move (.const (.int .i64 0)), none, []⟩,
 ⟨some 4, .move (.const (.int .i64 5)), none, []⟩]
def k_ref01_Parse_r3 : List AOper := [
  ⟨some 17, .move (.tmp 0), none, []⟩,
 ⟨some 18, .call (.const (.fn (.func 30) [] [])) [.tmp 17], none, []⟩,
 ⟨some 16, .move (.tmp 18), none, []⟩,
 ⟨some 19, .extract (.tmp 16) 0, none, []⟩,
 ⟨some 20, .extract (.tmp 16) 1, none, []⟩,
 ⟨some 5, .move (.tmp 19), none, []⟩,
 ⟨some 6, .move (.tmp 20), none, []⟩]
def k_ref01_Parse_r4 : List AOper := [
  ⟨some 21, .move (.tmp 5), none, []⟩,
 ⟨some 22, .len false (.tmp 21), none, []⟩,
 ⟨some 23, .bin .plain .eql (.tmp 22) (.const (.int .i64 0)), none, []⟩,
 ⟨some 24, .move (.tmp 23), none, []⟩,
 ⟨some 25, .move (.tmp 5), (some (24, false)), []⟩,
 ⟨some 26, .indexAddr 1 (.tmp 25) (.const (.int .i64 0)), (some (24, false)), []⟩,
 ⟨some 27, .load none (.tmp 26), (some (24, false)), []⟩,
 ⟨some 28, .bin .plain .neq (.tmp 27) (.const (.str [114, 111, 117, 110, 100])), (some (24, false)), []⟩,
 ⟨some 29, .move (.tmp 28), (some (24, false)), []⟩,
 ⟨some 30, .move (.tmp 5), (some (29, true)), []⟩,
 ⟨some 31, .indexAddr 1 (.tmp 30) (.const (.int .i64 0)), (some (29, true)), []⟩,
 ⟨some 32, .load none (.tmp 31), (some (29, true)), []⟩,
 ⟨some 33, .bin .plain .neq (.tmp 32) (.const (.str [102, 108, 97, 116])), (some (29, true)), []⟩,
 ⟨some 34, .pick (.tmp 29) (.tmp 33) (.const (.bool false)), (some (24, false)), []⟩,
 ⟨some 35, .pick (.tmp 24) (.const (.bool true)) (.tmp 34), none, []⟩]
def k_ref01_Parse_r5 : List AOper := [
  ⟨some 36, .build [.int .i64 0, .int .i64 0, .bool false, .nilsl] [], none, []⟩,
 ⟨none, .store 4 (.tmp 2) (.tmp 36), none, []⟩,
 ⟨some 3, .move (.const (.int .i64 1)), none, []⟩,
 ⟨some 4, .move (.const (.int .i64 3)), none, []⟩]
def k_ref01_Parse_r6 : List AOper := [
  ⟨some 37, .move (.tmp 5), none, []⟩,
 ⟨some 38, .indexAddr 1 (.tmp 37) (.const (.int .i64 0)), none, []⟩,
 ⟨some 39, .load none (.tmp 38), none, []⟩,
 ⟨some 40, .bin .plain .eql (.tmp 39) (.const (.str [114, 111, 117, 110, 100])), none, []⟩,
 ⟨some 41, .move (.tmp 5), none, []⟩,
 ⟨some 42, .len false (.tmp 41), none, []⟩,
 ⟨some 43, .bin .plain .sub (.tmp 42) (.const (.int .i64 1)), none, []⟩,
 ⟨some 44, .build [.int .i64 0, .int .i64 0, .bool false, .nilsl] [(2, 1, .tmp 40), (1, 1, .tmp 43)], none, []⟩,
 ⟨some 7, .box (.const (.agg [.int .i64 0, .int .i64 0, .bool false, .nilsl])), none, []⟩,
 ⟨none, .store 4 (.tmp 7) (.tmp 44), none, []⟩]
def k_ref01_Parse_r7 : List AOper := [
  ⟨some 8, .move (.const (.int .i64 1)), none, []⟩]
def k_ref01_Parse_r8 : List AOper := [
  ⟨some 45, .move (.tmp 8), none, []⟩,
 ⟨some 46, .move (.tmp 5), none, []⟩,
 ⟨some 47, .len false (.tmp 46), none, []⟩,
 ⟨some 48, .bin .plain .lss (.tmp 45) (.tmp 47), none, []⟩]
def k_ref01_Parse_r9 : List AOper := [
  ⟨some 52, .move (.tmp 5), none, []⟩,
 ⟨some 53, .move (.tmp 8), none, []⟩,
 ⟨some 54, .indexAddr 1 (.tmp 52) (.tmp 53), none, []⟩,
 ⟨some 55, .load none (.tmp 54), none, []⟩,
 ⟨some 56, .call (.const (.fn (.func 31) [] [])) [.tmp 55], none, []⟩,
 ⟨some 51, .move (.tmp 56), none, []⟩,
 ⟨some 57, .extract (.tmp 51) 0, none, []⟩,
 ⟨some 58, .extract (.tmp 51) 1, none, []⟩,
 ⟨some 9, .move (.tmp 57), none, []⟩,
 ⟨some 10, .move (.tmp 58), none, []⟩]
def k_ref01_Parse_r10 : List AOper := [
  ⟨some 59, .move (.tmp 10), none, []⟩,
 ⟨some 60, .not (.tmp 59), none, []⟩,
 ⟨some 61, .move (.tmp 60), none, []⟩,
 ⟨some 62, .move (.tmp 8), (some (61, false)), []⟩,
 ⟨some 63, .bin .plain .gtr (.tmp 62) (.const (.int .i64 1)), (some (61, false)), []⟩,
 ⟨some 64, .move (.tmp 63), (some (61, false)), []⟩,
 ⟨some 65, .move (.tmp 9), (some (64, true)), []⟩,
 ⟨some 66, .len false (.tmp 65), (some (64, true)), []⟩,
 ⟨some 67, .fieldAddr 0 (.tmp 7), (some (64, true)), []⟩,
 ⟨some 68, .load none (.tmp 67), (some (64, true)), []⟩,
 ⟨some 69, .bin .plain .neq (.tmp 66) (.tmp 68), (some (64, true)), []⟩,
 ⟨some 70, .pick (.tmp 64) (.tmp 69) (.const (.bool false)), (some (61, false)), []⟩,
 ⟨some 71, .pick (.tmp 61) (.const (.bool true)) (.tmp 70), none, []⟩]
def k_ref01_Parse_r11 : List AOper := [
  ⟨some 72, .build [.int .i64 0, .int .i64 0, .bool false, .nilsl] [], none, []⟩,
 ⟨some 73, .move (.tmp 8), none, []⟩,
 ⟨some 74, .bin .plain .add (.tmp 73) (.const (.int .i64 1)), none, []⟩,
 ⟨none, .store 4 (.tmp 2) (.tmp 72), none, []⟩,
 ⟨some 3, .move (.tmp 74), none, []⟩,
 ⟨some 4, .move (.const (.int .i64 3)), none, []⟩]
def k_ref01_Parse_r12 : List AOper := [
  ⟨some 75, .move (.tmp 9), none, []⟩,
 ⟨some 76, .len false (.tmp 75), none, []⟩,
 ⟨some 77, .fieldAddr 0 (.tmp 7), none, []⟩,
 ⟨none, .store 1 (.tmp 77) (.tmp 76), none, []⟩]
def k_ref01_Parse_r13 : List AOper := [
  ⟨some 78, .fieldAddr 3 (.tmp 7), none, []⟩,
 ⟨some 79, .load none (.tmp 78), none, []⟩,
 ⟨some 80, .move (.tmp 9), none, []⟩,
 ⟨some 81, .append 1 8 false (.tmp 79) (.tmp 80), none, []⟩,
 ⟨some 82, .fieldAddr 3 (.tmp 7), none, []⟩,
 ⟨none, .store 1 (.tmp 82) (.tmp 81), none, []⟩]
def k_ref01_Parse_r14 : List AOper := [
  ⟨some 49, .move (.tmp 8), none, []⟩,
 ⟨some 50, .bin .plain .add (.tmp 49) (.const (.int .i64 1)), none, []⟩,
 ⟨some 8, .move (.tmp 50), none, []⟩]
def k_ref01_Parse_r15 : ACode := (.seq (.seq (.reg k_ref01_Parse_r8 false) (.cond (.tmp 48) .skip (.exit 0))) (.seq (.block 1 (.seq (.reg k_ref01_Parse_r9 false) (.seq (.seq (.reg k_ref01_Parse_r10 false) (.cond (.tmp 71) (.seq (.reg k_ref01_Parse_r11 false) .ret) .skip)) (.seq (.reg k_ref01_Parse_r12 false) (.reg k_ref01_Parse_r13 false))))) (.reg k_ref01_Parse_r14 false)))
def k_ref01_Parse_r16 : List AOper := [
  ⟨some 83, .move (.tmp 6), none, []⟩,
 ⟨some 84, .len true (.tmp 83), none, []⟩,
 ⟨some 85, .bin .plain .gtr (.tmp 84) (.const (.int .i64 0)), none, []⟩,
 ⟨some 86, .move (.tmp 85), none, []⟩,
 ⟨some 87, .move (.tmp 5), (some (86, false)), []⟩,
 ⟨some 88, .len false (.tmp 87), (some (86, false)), []⟩,
 ⟨some 89, .bin .plain .lss (.tmp 88) (.const (.int .i64 2)), (some (86, false)), []⟩,
 ⟨some 90, .pick (.tmp 86) (.const (.bool true)) (.tmp 89), none, []⟩]
def k_ref01_Parse_r17 : List AOper := [
  ⟨some 91, .build [.int .i64 0, .int .i64 0, .bool false, .nilsl] [], none, []⟩,
 ⟨some 92, .move (.tmp 5), none, []⟩,
 ⟨some 93, .len false (.tmp 92), none, []⟩,
 ⟨some 94, .bin .plain .add (.tmp 93) (.const (.int .i64 1)), none, []⟩,
 ⟨none, .store 4 (.tmp 2) (.tmp 91), none, []⟩,
 ⟨some 3, .move (.tmp 94), none, []⟩,
 ⟨some 4, .move (.const (.int .i64 3)), none, []⟩]
def k_ref01_Parse_r18 : List AOper := [
  ⟨some 95, .load (some (4)) (.tmp 7), none, []⟩,
 ⟨some 96, .call (.const (.fn (.func 28) [] [])) [.tmp 95], none, []⟩,
 ⟨some 11, .move (.tmp 96), none, []⟩]
def k_ref01_Parse_r19 : List AOper := [
  ⟨some 97, .move (.tmp 11), none, []⟩,
 ⟨some 98, .bin .plain .neq (.tmp 97) (.const (.int .i64 0)), none, []⟩]
def k_ref01_Parse_r20 : List AOper := [
  ⟨some 99, .build [.int .i64 0, .int .i64 0, .bool false, .nilsl] [], none, []⟩,
 ⟨some 100, .move (.tmp 11), none, []⟩,
 ⟨none, .store 4 (.tmp 2) (.tmp 99), none, []⟩,
 ⟨some 3, .move (.const (.int .i64 0)), none, []⟩,
 ⟨some 4, .move (.tmp 100), none, []⟩]
def k_ref01_Parse_r21 : List AOper := [
  ⟨some 101, .load (some (4)) (.tmp 7), none, []⟩,
 ⟨none, .store 4 (.tmp 2) (.tmp 101), none, []⟩,
 ⟨some 3, .move (.const (.int .i64 0)), none, []⟩,
 ⟨some 4, .move (.const (.int .i64 0)), none, []⟩]
def k_ref01_Parse : AFun := { params := 1, ntmps := 102, body := (.seq (.reg k_ref01_Parse_r0 false) (.seq (.seq (.reg k_ref01_Parse_r1 false) (.cond (.tmp 14) (.seq (.reg k_ref01_Parse_r2 false) .ret) .skip)) (.seq (.reg k_ref01_Parse_r3 false) (.seq (.seq (.reg k_ref01_Parse_r4 false) (.cond (.tmp 35) (.seq (.reg k_ref01_Parse_r5 false) .ret) .skip)) (.seq (.reg k_ref01_Parse_r6 false) (.seq (.seq (.reg k_ref01_Parse_r7 false) (.block 0 (.loop k_ref01_Parse_r15))) (.seq (.seq (.reg k_ref01_Parse_r16 false) (.cond (.tmp 90) (.seq (.reg k_ref01_Parse_r17 false) .ret) .skip)) (.seq (.seq (.reg k_ref01_Parse_r18 false) (.seq (.reg k_ref01_Parse_r19 false) (.cond (.tmp 98) (.seq (.reg k_ref01_Parse_r20 false) .ret) .skip))) (.seq (.reg k_ref01_Parse_r21 false) .ret))))))))), res := [.cell 2 (some ((some (4)))), .tmp 3, .tmp 4] }
theorem k_ref01_Parse_ok : cfun Tryd.prog Tryd.f13 = k_ref01_Parse := by kernel_rfl

def k_ref01_Check_r0 : List AOper := [
  ⟨some 1, .box (.tmp 0), none, []⟩,
 ⟨some 2, .move (.const (.int .i64 0)), none, []⟩]
def k_ref01_Check_r1 : List AOper := [
  ⟨some 7, .fieldAddr 0 (.tmp 1), none, []⟩,
 ⟨some 8, .load none (.tmp 7), none, []⟩,
 ⟨some 9, .call (.const (.fn (.func 44) [] [])) [.tmp 8, .const (.int .i64 1), .const (.int .i64 16)], none, []⟩,
 ⟨some 10, .move (.tmp 9), none, []⟩,
 ⟨some 11, .fieldAddr 1 (.tmp 1), (some (10, false)), []⟩,
 ⟨some 12, .load none (.tmp 11), (some (10, false)), []⟩,
 ⟨some 13, .call (.const (.fn (.func 44) [] [])) [.tmp 12, .const (.int .i64 1), .const (.int .i64 16)], (some (10, false)), []⟩,
 ⟨some 14, .pick (.tmp 10) (.const (.bool true)) (.tmp 13), none, []⟩]
def k_ref01_Check_r2 : List AOper := [
  ⟨some 2, .move (.const (.int .i64 2)), none, []⟩]
def k_ref01_Check_r3 : List AOper := [
  ⟨some 15, .fieldAddr 3 (.tmp 1), none, []⟩,
 ⟨some 16, .load none (.tmp 15), none, []⟩,
 ⟨some 17, .len false (.tmp 16), none, []⟩,
 ⟨some 18, .fieldAddr 0 (.tmp 1), none, []⟩,
 ⟨some 19, .load none (.tmp 18), none, []⟩,
 ⟨some 20, .fieldAddr 1 (.tmp 1), none, []⟩,
 ⟨some 21, .load none (.tmp 20), none, []⟩,
 ⟨some 22, .bin .plain .mul (.tmp 19) (.tmp 21), none, []⟩,
 ⟨some 23, .bin .plain .neq (.tmp 17) (.tmp 22), none, []⟩]
def k_ref01_Check_r4 : List AOper := [
  ⟨some 2, .move (.const (.int .i64 3)), none, []⟩]
def k_ref01_Check_r5 : List AOper := [
  ⟨some 3, .move (.const (.bool false)), none, []⟩]
def k_ref01_Check_r6 : List AOper := [
  ⟨some 4, .move (.const (.int .i64 0)), none, []⟩]
def k_ref01_Check_r7 : List AOper := [
  ⟨some 24, .move (.tmp 4), none, []⟩,
 ⟨some 25, .fieldAddr 3 (.tmp 1), none, []⟩,
 ⟨some 26, .load none (.tmp 25), none, []⟩,
 ⟨some 27, .len false (.tmp 26), none, []⟩,
 ⟨some 28, .bin .plain .lss (.tmp 24) (.tmp 27), none, []⟩]
def k_ref01_Check_r8 : List AOper := [
  ⟨some 31, .fieldAddr 3 (.tmp 1), none, []⟩,
 ⟨some 32, .load none (.tmp 31), none, []⟩,
 ⟨some 33, .move (.tmp 4), none, []⟩,
 ⟨some 34, .indexAddr 1 (.tmp 32) (.tmp 33), none, []⟩,
 ⟨some 35, .load none (.tmp 34), none, []⟩,
 ⟨some 36, .call (.const (.fn (.func 44) [] [])) [.tmp 35, .const (.int .i64 0), .const (.int .i64 6)], none, []⟩]
def k_ref01_Check_r9 : List AOper := [
  ⟨some 2, .move (.const (.int .i64 2)), none, []⟩]
def k_ref01_Check_r10 : List AOper := [
  ⟨some 37, .move (.tmp 3), none, []⟩,
 ⟨some 38, .move (.tmp 37), none, []⟩,
 ⟨some 39, .fieldAddr 3 (.tmp 1), (some (38, false)), []⟩,
 ⟨some 40, .load none (.tmp 39), (some (38, false)), []⟩,
 ⟨some 41, .move (.tmp 4), (some (38, false)), []⟩,
 ⟨some 42, .indexAddr 1 (.tmp 40) (.tmp 41), (some (38, false)), []⟩,
 ⟨some 43, .load none (.tmp 42), (some (38, false)), []⟩,
 ⟨some 44, .bin .plain .gtr (.tmp 43) (.const (.int .i64 0)), (some (38, false)), []⟩,
 ⟨some 45, .pick (.tmp 38) (.const (.bool true)) (.tmp 44), none, []⟩,
 ⟨some 3, .move (.tmp 45), none, []⟩]
def k_ref01_Check_r11 : List AOper := [
  ⟨some 29, .move (.tmp 4), none, []⟩,
 ⟨some 30, .bin .plain .add (.tmp 29) (.const (.int .i64 1)), none, []⟩,
 ⟨some 4, .move (.tmp 30), none, []⟩]
def k_ref01_Check_r12 : ACode := (.seq (.seq (.reg k_ref01_Check_r7 false) (.cond (.tmp 28) .skip (.exit 0))) (.seq (.block 1 (.seq (.seq (.reg k_ref01_Check_r8 false) (.cond (.tmp 36) (.seq (.reg k_ref01_Check_r9 false) .ret) .skip)) (.reg k_ref01_Check_r10 false))) (.reg k_ref01_Check_r11 false)))
def k_ref01_Check_r13 : List AOper := [
  ⟨some 46, .move (.tmp 3), none, []⟩,
 ⟨some 47, .not (.tmp 46), none, []⟩]
def k_ref01_Check_r14 : List AOper := [
  ⟨some 2, .move (.const (.int .i64 7)), none, []⟩]
def k_ref01_Check_r15 : List AOper := [
  ⟨some 48, .load (some (4)) (.tmp 1), none, []⟩,
 ⟨some 49, .call (.const (.fn (.func 45) [] [])) [.tmp 48], none, []⟩,
 ⟨some 5, .move (.tmp 49), none, []⟩]
def k_ref01_Check_r16 : List AOper := [
  ⟨some 6, .move (.const (.int .i64 0)), none, []⟩]
def k_ref01_Check_r17 : List AOper := [
  ⟨some 50, .move (.tmp 6), none, []⟩,
 ⟨some 51, .move (.tmp 5), none, []⟩,
 ⟨some 52, .len false (.tmp 51), none, []⟩,
 ⟨some 53, .bin .plain .lss (.tmp 50) (.tmp 52), none, []⟩]
def k_ref01_Check_r18 : List AOper := [
  ⟨some 56, .move (.tmp 5), none, []⟩,
 ⟨some 57, .move (.tmp 6), none, []⟩,
 ⟨some 58, .indexAddr 1 (.tmp 56) (.tmp 57), none, []⟩,
 ⟨some 59, .load none (.tmp 58), none, []⟩,
 ⟨some 60, .not (.tmp 59), none, []⟩]
def k_ref01_Check_r19 : List AOper := [
  ⟨some 2, .move (.const (.int .i64 13)), none, []⟩]
def k_ref01_Check_r20 : List AOper := [
  ⟨some 54, .move (.tmp 6), none, []⟩,
 ⟨some 55, .bin .plain .add (.tmp 54) (.const (.int .i64 1)), none, []⟩,
 ⟨some 6, .move (.tmp 55), none, []⟩]
def k_ref01_Check_r21 : ACode := (.seq (.seq (.reg k_ref01_Check_r17 false) (.cond (.tmp 53) .skip (.exit 2))) (.seq (.block 3 (.seq (.reg k_ref01_Check_r18 false) (.cond (.tmp 60) (.seq (.reg k_ref01_Check_r19 false) .ret) .skip))) (.reg k_ref01_Check_r20 false)))
def k_ref01_Check_r22 : List AOper := [
  ⟨some 2, .move (.const (.int .i64 0)), none, []⟩]
def k_ref01_Check : AFun := { params := 1, ntmps := 61, body := (.seq (.reg k_ref01_Check_r0 false) (.seq (.seq (.reg k_ref01_Check_r1 false) (.cond (.tmp 14) (.seq (.reg k_ref01_Check_r2 false) .ret) .skip)) (.seq (.seq (.reg k_ref01_Check_r3 false) (.cond (.tmp 23) (.seq (.reg k_ref01_Check_r4 false) .ret) .skip)) (.seq (.reg k_ref01_Check_r5 false) (.seq (.seq (.reg k_ref01_Check_r6 false) (.block 0 (.loop k_ref01_Check_r12))) (.seq (.seq (.reg k_ref01_Check_r13 false) (.cond (.tmp 47) (.seq (.reg k_ref01_Check_r14 false) .ret) .skip)) (.seq (.reg k_ref01_Check_r15 false) (.seq (.seq (.reg k_ref01_Check_r16 false) (.block 2 (.loop k_ref01_Check_r21))) (.seq (.reg k_ref01_Check_r22 false) .ret))))))))), res := [.tmp 2] }
theorem k_ref01_Check_ok : cfun Tryd.prog Tryd.f28 = k_ref01_Check := by kernel_rfl

def k_ref01_rows_r0 : List AOper := [
  ⟨some 2, .move (.const (.nilsl)), none, []⟩,
 ⟨some 3, .move (.const (.str [])), none, []⟩]
def k_ref01_rows_r1 : List AOper := [
  ⟨some 4, .move (.const (.nilsl)), none, []⟩]
def k_ref01_rows_r2 : List AOper := [
  ⟨some 5, .move (.const (.int .i64 0)), none, []⟩]
def k_ref01_rows_r3 : List AOper := [
  ⟨some 6, .move (.const (.int .i64 0)), none, []⟩]
def k_ref01_rows_r4 : List AOper := [
  ⟨some 7, .move (.tmp 6), none, []⟩,
 ⟨some 8, .move (.tmp 0), none, []⟩,
 ⟨some 9, .len true (.tmp 8), none, []⟩,
 ⟨some 10, .bin .plain .lss (.tmp 7) (.tmp 9), none, []⟩]
def k_ref01_rows_r5 : List AOper := [
  ⟨some 13, .move (.tmp 0), none, []⟩,
 ⟨some 14, .move (.tmp 6), none, []⟩,
 ⟨some 15, .indexStr (.tmp 13) (.tmp 14), none, []⟩,
 ⟨some 16, .bin .plain .eql (.tmp 15) (.const (.int .u8 10)), none, []⟩]
def k_ref01_rows_r6 : List AOper := [
  ⟨some 17, .move (.tmp 4), none, []⟩,
 ⟨some 18, .move (.tmp 0), none, []⟩,
 ⟨some 19, .move (.tmp 5), none, []⟩,
 ⟨some 20, .move (.tmp 6), none, []⟩,
 ⟨some 21, .slice true 1 (.tmp 18) (some (.tmp 19)) (some (.tmp 20)), none, []⟩,
 ⟨some 22, .buildSlice 1 [.tmp 21], none, []⟩,
 ⟨some 23, .append 1 16 false (.tmp 17) (.tmp 22), none, []⟩,
 ⟨some 4, .move (.tmp 23), none, []⟩]
def k_ref01_rows_r7 : List AOper := [
  ⟨some 24, .move (.tmp 6), none, []⟩,
 ⟨some 25, .bin .plain .add (.tmp 24) (.const (.int .i64 1)), none, []⟩,
 ⟨some 5, .move (.tmp 25), none, []⟩]
def k_ref01_rows_r8 : List AOper := [
  ⟨some 11, .move (.tmp 6), none, []⟩,
 ⟨some 12, .bin .plain .add (.tmp 11) (.const (.int .i64 1)), none, []⟩,
 ⟨some 6, .move (.tmp 12), none, []⟩]
def k_ref01_rows_r9 : ACode := (.seq (.seq (.reg k_ref01_rows_r4 false) (.cond (.tmp 10) .skip (.exit 0))) (.seq (.block 1 (.seq (.reg k_ref01_rows_r5 false) (.cond (.tmp 16) (.seq (.reg k_ref01_rows_r6 false) (.reg k_ref01_rows_r7 false)) .skip))) (.reg k_ref01_rows_r8 false)))
def k_ref01_rows_r10 : List AOper := [
  ⟨some 26, .move (.tmp 4), none, []⟩,
 ⟨some 27, .move (.tmp 0), none, [0]⟩,
 ⟨some 28, .move (.tmp 5), none, [0, 1]⟩,
 ⟨some 29, .slice true 1 (.tmp 27) (some (.tmp 28)) none, none, [0]⟩,
 ⟨some 2, .move (.tmp 26), none, [1, 2, 3]⟩,
 ⟨some 3, .move (.tmp 29), none, []⟩]
def k_ref01_rows_r10s : List (List AOper) := [
  [
  ⟨some 26, .move (.tmp 4), none, []⟩,
 ⟨some 27, .move (.tmp 0), none, [0]⟩,
 ⟨some 28, .move (.tmp 5), none, [0, 1]⟩,
 ⟨some 29, .slice true 1 (.tmp 27) (some (.tmp 28)) none, none, [0]⟩,
 ⟨some 2, .move (.tmp 26), none, [1, 2, 3]⟩], 
  [
  ⟨some 3, .move (.tmp 29), none, []⟩]]
theorem k_ref01_rows_r10_sg : segs k_ref01_rows_r10 = k_ref01_rows_r10s := by kernel_rfl
theorem k_ref01_rows_r10_st : statOK k_ref01_rows_r10 = true := by kernel_rfl
def k_ref01_rows : AFun := { params := 1, ntmps := 30, body := (.seq (.reg k_ref01_rows_r0 false) (.seq (.reg k_ref01_rows_r1 false) (.seq (.reg k_ref01_rows_r2 false) (.seq (.seq (.reg k_ref01_rows_r3 false) (.block 0 (.loop k_ref01_rows_r9))) (.seq (.reg k_ref01_rows_r10 true) .ret))))), res := [.tmp 2, .tmp 3] }
theorem k_ref01_rows_ok : cfun Tryd.prog Tryd.f30 = k_ref01_rows := by kernel_rfl

def k_ref01_cells_r0 : List AOper := [
  ⟨some 2, .move (.const (.nilsl)), none, []⟩,
 ⟨some 3, .move (.const (.bool false)), none, []⟩]
def k_ref01_cells_r1 : List AOper := [
  ⟨some 4, .move (.const (.nilsl)), none, []⟩]
def k_ref01_cells_r2 : List AOper := [
  ⟨some 5, .move (.const (.int .i64 0)), none, []⟩]
def k_ref01_cells_r3 : List AOper := [
  ⟨some 6, .move (.tmp 5), none, []⟩,
 ⟨some 7, .move (.tmp 0), none, []⟩,
 ⟨some 8, .len true (.tmp 7), none, []⟩,
 ⟨some 9, .bin .plain .lss (.tmp 6) (.tmp 8), none, []⟩]
def k_ref01_cells_r4 : List AOper := [
  ⟨some 13, .move (.tmp 0), none, []⟩,
 ⟨some 14, .move (.tmp 5), none, []⟩,
 ⟨some 15, .indexStr (.tmp 13) (.tmp 14), none, []⟩,
 ⟨some 16, .bin .plain .eql (.tmp 15) (.const (.int .u8 46)), none, []⟩,
 ⟨some 12, .move (.tmp 16), none, []⟩]
def k_ref01_cells_r5 : List AOper := [
  ⟨some 17, .move (.tmp 4), none, []⟩,
 ⟨some 18, .buildSlice 1 [.const (.int .i64 0)], none, []⟩,
 ⟨some 19, .append 1 8 false (.tmp 17) (.tmp 18), none, []⟩,
 ⟨some 4, .move (.tmp 19), none, []⟩]
def k_ref01_cells_r6 : List AOper := [
  ⟨some 21, .move (.tmp 0), none, []⟩,
 ⟨some 22, .move (.tmp 5), none, []⟩,
 ⟨some 23, .indexStr (.tmp 21) (.tmp 22), none, []⟩,
 ⟨some 24, .bin .plain .geq (.tmp 23) (.const (.int .u8 49)), none, []⟩,
 ⟨some 25, .move (.tmp 24), none, []⟩,
 ⟨some 26, .move (.tmp 0), (some (25, true)), []⟩,
 ⟨some 27, .move (.tmp 5), (some (25, true)), []⟩,
 ⟨some 28, .indexStr (.tmp 26) (.tmp 27), (some (25, true)), []⟩,
 ⟨some 29, .bin .plain .leq (.tmp 28) (.const (.int .u8 54)), (some (25, true)), []⟩,
 ⟨some 30, .pick (.tmp 25) (.tmp 29) (.const (.bool false)), none, []⟩,
 ⟨some 20, .move (.tmp 30), none, []⟩]
def k_ref01_cells_r7 : List AOper := [
  ⟨some 31, .move (.tmp 4), none, []⟩,
 ⟨some 32, .move (.tmp 0), none, []⟩,
 ⟨some 33, .move (.tmp 5), none, []⟩,
 ⟨some 34, .indexStr (.tmp 32) (.tmp 33), none, []⟩,
 ⟨some 35, .bin .plain .sub (.tmp 34) (.const (.int .u8 48)), none, []⟩,
 ⟨some 36, .toInt .i64 (.tmp 35), none, []⟩,
 ⟨some 37, .buildSlice 1 [.tmp 36], none, []⟩,
 ⟨some 38, .append 1 8 false (.tmp 31) (.tmp 37), none, []⟩,
 ⟨some 4, .move (.tmp 38), none, []⟩]
def k_ref01_cells_r8 : List AOper := [
  ⟨some 2, .move (.const (.nilsl)), none, []⟩,
 ⟨some 3, .move (.const (.bool false)), none, []⟩]
def k_ref01_cells_r9 : List AOper := [
  ⟨some 10, .move (.tmp 5), none, []⟩,
 ⟨some 11, .bin .plain .add (.tmp 10) (.const (.int .i64 1)), none, []⟩,
 ⟨some 5, .move (.tmp 11), none, []⟩]
def k_ref01_cells_r10 : ACode := (.seq (.seq (.reg k_ref01_cells_r3 false) (.cond (.tmp 9) .skip (.exit 0))) (.seq (.block 1 (.block 2 (.seq (.reg k_ref01_cells_r4 false) (.cond (.tmp 12) (.reg k_ref01_cells_r5 false) (.seq (.reg k_ref01_cells_r6 false) (.cond (.tmp 20) (.reg k_ref01_cells_r7 false) (.seq (.reg k_ref01_cells_r8 false) .ret))))))) (.reg k_ref01_cells_r9 false)))
def k_ref01_cells_r11 : List AOper := [
  ⟨some 39, .move (.tmp 4), none, []⟩,
 ⟨some 40, .move (.tmp 4), none, []⟩,
 ⟨some 41, .len false (.tmp 40), none, []⟩,
 ⟨some 42, .bin .plain .gtr (.tmp 41) (.const (.int .i64 0)), none, []⟩,
 ⟨some 2, .move (.tmp 39), none, []⟩,
 ⟨some 3, .move (.tmp 42), none, []⟩]
def k_ref01_cells : AFun := { params := 1, ntmps := 43, body := (.seq (.reg k_ref01_cells_r0 false) (.seq (.reg k_ref01_cells_r1 false) (.seq (.seq (.reg k_ref01_cells_r2 false) (.block 0 (.loop k_ref01_cells_r10))) (.seq (.reg k_ref01_cells_r11 false) .ret)))), res := [.tmp 2, .tmp 3] }
theorem k_ref01_cells_ok : cfun Tryd.prog Tryd.f31 = k_ref01_cells := by kernel_rfl

def k_ref01_beyond_r0 : List AOper := [
  ⟨some 6, .move (.const (.bool false)), none, []⟩]
def k_ref01_beyond_r1 : List AOper := [
  ⟨some 7, .move (.tmp 0), none, []⟩,
 ⟨some 8, .move (.tmp 1), none, []⟩,
 ⟨some 9, .bin .plain .lss (.tmp 7) (.tmp 8), none, []⟩,
 ⟨some 10, .move (.tmp 9), none, []⟩,
 ⟨some 11, .move (.tmp 0), (some (10, false)), []⟩,
 ⟨some 12, .move (.tmp 2), (some (10, false)), []⟩,
 ⟨some 13, .bin .plain .gtr (.tmp 11) (.tmp 12), (some (10, false)), []⟩,
 ⟨some 14, .pick (.tmp 10) (.const (.bool true)) (.tmp 13), none, []⟩,
 ⟨some 6, .move (.tmp 14), none, []⟩]
def k_ref01_beyond : AFun := { params := 3, ntmps := 15, body := (.seq (.reg k_ref01_beyond_r0 false) (.seq (.reg k_ref01_beyond_r1 false) .ret)), res := [.tmp 6] }
theorem k_ref01_beyond_ok : cfun Tryd.prog Tryd.f44 = k_ref01_beyond := by kernel_rfl

def k_ref01_held_r0 : List AOper := [
  ⟨some 1, .box (.tmp 0), none, []⟩,
 ⟨some 2, .move (.const (.nilsl)), none, []⟩]
def k_ref01_held_r1 : List AOper := [
  ⟨some 9, .fieldAddr 3 (.tmp 1), none, []⟩,
 ⟨some 10, .load none (.tmp 9), none, []⟩,
 ⟨some 11, .len false (.tmp 10), none, []⟩,
 ⟨some 12, .makeSlice (.bool false) 1 (.tmp 11) (.tmp 11), none, []⟩,
 ⟨some 3, .move (.tmp 12), none, []⟩]
def k_ref01_held_r2 : List AOper := [
  ⟨some 4, .move (.const (.int .i64 0)), none, []⟩]
def k_ref01_held_r3 : List AOper := [
  ⟨some 13, .move (.tmp 4), none, []⟩,
 ⟨some 14, .fieldAddr 3 (.tmp 1), none, []⟩,
 ⟨some 15, .load none (.tmp 14), none, []⟩,
 ⟨some 16, .len false (.tmp 15), none, []⟩,
 ⟨some 17, .bin .plain .lss (.tmp 13) (.tmp 16), none, []⟩]
def k_ref01_held_r4 : List AOper := [
  ⟨some 20, .move (.tmp 3), none, []⟩,
 ⟨some 21, .move (.tmp 4), none, []⟩,
 ⟨some 22, .fieldAddr 3 (.tmp 1), none, []⟩,
 ⟨some 23, .load none (.tmp 22), none, []⟩,
 ⟨some 24, .move (.tmp 4), none, []⟩,
 ⟨some 25, .indexAddr 1 (.tmp 23) (.tmp 24), none, []⟩,
 ⟨some 26, .load none (.tmp 25), none, []⟩,
 ⟨some 27, .bin .plain .gtr (.tmp 26) (.const (.int .i64 0)), none, []⟩,
 ⟨some 28, .indexAddr 1 (.tmp 20) (.tmp 21), none, []⟩,
 ⟨none, .store 1 (.tmp 28) (.tmp 27), none, []⟩]
def k_ref01_held_r5 : List AOper := [
  ⟨some 18, .move (.tmp 4), none, []⟩,
 ⟨some 19, .bin .plain .add (.tmp 18) (.const (.int .i64 1)), none, []⟩,
 ⟨some 4, .move (.tmp 19), none, []⟩]
def k_ref01_held_r6 : ACode := (.seq (.seq (.reg k_ref01_held_r3 false) (.cond (.tmp 17) .skip (.exit 0))) (.seq (.block 1 (.reg k_ref01_held_r4 false)) (.reg k_ref01_held_r5 false)))
def k_ref01_held_r7 : List AOper := [
  ⟨some 5, .move (.const (.bool true)), none, []⟩]
def k_ref01_held_r8 : List AOper := [
  ⟨some 29, .move (.tmp 5), none, []⟩]
def k_ref01_held_r9 : List AOper := [
  ⟨some 5, .move (.const (.bool false)), none, []⟩]
def k_ref01_held_r10 : List AOper := [
  ⟨some 6, .move (.const (.int .i64 0)), none, []⟩]
def k_ref01_held_r11 : List AOper := [
  ⟨some 30, .move (.tmp 6), none, []⟩,
 ⟨some 31, .fieldAddr 3 (.tmp 1), none, []⟩,
 ⟨some 32, .load none (.tmp 31), none, []⟩,
 ⟨some 33, .len false (.tmp 32), none, []⟩,
 ⟨some 34, .bin .plain .lss (.tmp 30) (.tmp 33), none, []⟩]
def k_ref01_held_r12 : List AOper := [
  ⟨some 37, .load (some (4)) (.tmp 1), none, []⟩,
 ⟨some 38, .move (.tmp 6), none, []⟩,
 ⟨some 39, .call (.const (.fn (.func 59) [] [])) [.tmp 37, .tmp 38], none, []⟩,
 ⟨some 7, .move (.tmp 39), none, []⟩]
def k_ref01_held_r13 : List AOper := [
  ⟨some 8, .move (.const (.int .i64 0)), none, []⟩]
def k_ref01_held_r14 : List AOper := [
  ⟨some 40, .move (.tmp 8), none, []⟩,
 ⟨some 41, .move (.tmp 7), none, []⟩,
 ⟨some 42, .len false (.tmp 41), none, []⟩,
 ⟨some 43, .bin .plain .lss (.tmp 40) (.tmp 42), none, []⟩]
def k_ref01_held_r15 : List AOper := [
  ⟨some 46, .move (.tmp 3), none, []⟩,
 ⟨some 47, .move (.tmp 7), none, []⟩,
 ⟨some 48, .move (.tmp 8), none, []⟩,
 ⟨some 49, .indexAddr 1 (.tmp 47) (.tmp 48), none, []⟩,
 ⟨some 50, .load none (.tmp 49), none, []⟩,
 ⟨some 51, .indexAddr 1 (.tmp 46) (.tmp 50), none, []⟩,
 ⟨some 52, .load none (.tmp 51), none, []⟩,
 ⟨some 53, .move (.tmp 52), none, []⟩,
 ⟨some 54, .move (.tmp 3), (some (53, true)), []⟩,
 ⟨some 55, .move (.tmp 6), (some (53, true)), []⟩,
 ⟨some 56, .indexAddr 1 (.tmp 54) (.tmp 55), (some (53, true)), []⟩,
 ⟨some 57, .load none (.tmp 56), (some (53, true)), []⟩,
 ⟨some 58, .not (.tmp 57), (some (53, true)), []⟩,
 ⟨some 59, .pick (.tmp 53) (.tmp 58) (.const (.bool false)), none, []⟩]
def k_ref01_held_r16 : List AOper := [
  ⟨some 60, .move (.tmp 3), none, []⟩,
 ⟨some 61, .move (.tmp 6), none, []⟩,
 ⟨some 62, .indexAddr 1 (.tmp 60) (.tmp 61), none, []⟩,
 ⟨none, .store 1 (.tmp 62) (.const (.bool true)), none, []⟩,
 ⟨some 5, .move (.const (.bool true)), none, []⟩]
def k_ref01_held_r17 : List AOper := [
  ⟨some 44, .move (.tmp 8), none, []⟩,
 ⟨some 45, .bin .plain .add (.tmp 44) (.const (.int .i64 1)), none, []⟩,
 ⟨some 8, .move (.tmp 45), none, []⟩]
def k_ref01_held_r18 : ACode := (.seq (.seq (.reg k_ref01_held_r14 false) (.cond (.tmp 43) .skip (.exit 6))) (.seq (.block 7 (.seq (.reg k_ref01_held_r15 false) (.cond (.tmp 59) (.reg k_ref01_held_r16 false) .skip))) (.reg k_ref01_held_r17 false)))
def k_ref01_held_r19 : List AOper := [
  ⟨some 35, .move (.tmp 6), none, []⟩,
 ⟨some 36, .bin .plain .add (.tmp 35) (.const (.int .i64 1)), none, []⟩,
 ⟨some 6, .move (.tmp 36), none, []⟩]
def k_ref01_held_r20 : ACode := (.seq (.seq (.reg k_ref01_held_r11 false) (.cond (.tmp 34) .skip (.exit 4))) (.seq (.block 5 (.seq (.reg k_ref01_held_r12 false) (.seq (.reg k_ref01_held_r13 false) (.block 6 (.loop k_ref01_held_r18))))) (.reg k_ref01_held_r19 false)))
def k_ref01_held_r21 : ACode := (.seq (.seq (.reg k_ref01_held_r8 false) (.cond (.tmp 29) .skip (.exit 2))) (.block 3 (.seq (.reg k_ref01_held_r9 false) (.seq (.reg k_ref01_held_r10 false) (.block 4 (.loop k_ref01_held_r20))))))
def k_ref01_held_r22 : List AOper := [
  ⟨some 63, .move (.tmp 3), none, []⟩,
 ⟨some 2, .move (.tmp 63), none, []⟩]
def k_ref01_held : AFun := { params := 1, ntmps := 64, body := (.seq (.reg k_ref01_held_r0 false) (.seq (.reg k_ref01_held_r1 false) (.seq (.seq (.reg k_ref01_held_r2 false) (.block 0 (.loop k_ref01_held_r6))) (.seq (.seq (.reg k_ref01_held_r7 false) (.block 2 (.loop k_ref01_held_r21))) (.seq (.reg k_ref01_held_r22 false) .ret))))), res := [.tmp 2] }
theorem k_ref01_held_ok : cfun Tryd.prog Tryd.f45 = k_ref01_held := by kernel_rfl

def k_ref01_around_r0 : List AOper := [
  ⟨some 2, .box (.tmp 0), none, []⟩,
 ⟨some 4, .move (.const (.nilsl)), none, []⟩]
def k_ref01_around_r1 : List AOper := [
  ⟨some 8, .move (.tmp 1), none, []⟩,
 ⟨some 9, .fieldAddr 0 (.tmp 2), none, []⟩,
 ⟨some 10, .load none (.tmp 9), none, []⟩,
 ⟨some 11, .bin .plain .sub (.tmp 8) (.tmp 10), none, []⟩,
 ⟨some 12, .move (.tmp 1), none, []⟩,
 ⟨some 13, .bin .plain .sub (.tmp 12) (.const (.int .i64 1)), none, []⟩,
 ⟨some 14, .move (.tmp 1), none, []⟩,
 ⟨some 15, .bin .plain .add (.tmp 14) (.const (.int .i64 1)), none, []⟩,
 ⟨some 16, .move (.tmp 1), none, []⟩,
 ⟨some 17, .fieldAddr 0 (.tmp 2), none, []⟩,
 ⟨some 18, .load none (.tmp 17), none, []⟩,
 ⟨some 19, .bin .plain .add (.tmp 16) (.tmp 18), none, []⟩,
 ⟨some 20, .buildSlice 1 [.tmp 11, .tmp 13, .tmp 15, .tmp 19], none, []⟩,
 ⟨some 5, .move (.tmp 20), none, []⟩]
def k_ref01_around_r2 : List AOper := [
  ⟨some 21, .fieldAddr 0 (.tmp 2), none, []⟩,
 ⟨some 22, .load none (.tmp 21), none, []⟩,
 ⟨some 23, .bin .plain .eql (.tmp 22) (.const (.int .i64 1)), none, []⟩]
def k_ref01_around_r3 : List AOper := [
  ⟨some 24, .move (.tmp 1), none, []⟩,
 ⟨some 25, .bin .plain .sub (.tmp 24) (.const (.int .i64 1)), none, []⟩,
 ⟨some 26, .move (.tmp 1), none, []⟩,
 ⟨some 27, .bin .plain .add (.tmp 26) (.const (.int .i64 1)), none, []⟩,
 ⟨some 28, .buildSlice 1 [.tmp 25, .tmp 27], none, []⟩,
 ⟨some 5, .move (.tmp 28), none, []⟩]
def k_ref01_around_r4 : List AOper := [
  ⟨some 6, .move (.const (.nilsl)), none, []⟩]
def k_ref01_around_r5 : List AOper := [
  ⟨some 7, .move (.const (.int .i64 0)), none, []⟩]
def k_ref01_around_r6 : List AOper := [
  ⟨some 29, .move (.tmp 7), none, []⟩,
 ⟨some 30, .move (.tmp 5), none, []⟩,
 ⟨some 31, .len false (.tmp 30), none, []⟩,
 ⟨some 32, .bin .plain .lss (.tmp 29) (.tmp 31), none, []⟩]
def k_ref01_around_r7 : List AOper := [
  ⟨some 35, .load (some (4)) (.tmp 2), none, []⟩,
 ⟨some 36, .move (.tmp 1), none, [0]⟩,
 ⟨some 37, .move (.tmp 5), none, [0, 1]⟩,
 ⟨some 38, .move (.tmp 7), none, [0, 1, 2]⟩,
 ⟨some 39, .indexAddr 1 (.tmp 37) (.tmp 38), none, [0, 1]⟩,
 ⟨some 40, .load none (.tmp 39), none, [0, 1]⟩,
 ⟨some 41, .call (.const (.fn (.func 63) [] [])) [.tmp 35, .tmp 36, .tmp 40], none, []⟩,
 ⟨some 42, .bin .plain .gtr (.tmp 41) (.const (.int .i64 0)), none, []⟩]
def k_ref01_around_r7s : List (List AOper) := [
  [
  ⟨some 35, .load (some (4)) (.tmp 2), none, []⟩,
 ⟨some 36, .move (.tmp 1), none, [0]⟩,
 ⟨some 37, .move (.tmp 5), none, [0, 1]⟩,
 ⟨some 38, .move (.tmp 7), none, [0, 1, 2]⟩,
 ⟨some 39, .indexAddr 1 (.tmp 37) (.tmp 38), none, [0, 1]⟩,
 ⟨some 40, .load none (.tmp 39), none, [0, 1]⟩], 
  [
  ⟨some 41, .call (.const (.fn (.func 63) [] [])) [.tmp 35, .tmp 36, .tmp 40], none, []⟩], 
  [
  ⟨some 42, .bin .plain .gtr (.tmp 41) (.const (.int .i64 0)), none, []⟩]]
theorem k_ref01_around_r7_sg : segs k_ref01_around_r7 = k_ref01_around_r7s := by kernel_rfl
theorem k_ref01_around_r7_st : statOK k_ref01_around_r7 = true := by kernel_rfl
def k_ref01_around_r8 : List AOper := [
  ⟨some 43, .move (.tmp 6), none, []⟩,
 ⟨some 44, .move (.tmp 5), none, []⟩,
 ⟨some 45, .move (.tmp 7), none, []⟩,
 ⟨some 46, .indexAddr 1 (.tmp 44) (.tmp 45), none, []⟩,
 ⟨some 47, .load none (.tmp 46), none, []⟩,
 ⟨some 48, .buildSlice 1 [.tmp 47], none, []⟩,
 ⟨some 49, .append 1 8 false (.tmp 43) (.tmp 48), none, []⟩,
 ⟨some 6, .move (.tmp 49), none, []⟩]
def k_ref01_around_r9 : List AOper := [
  ⟨some 33, .move (.tmp 7), none, []⟩,
 ⟨some 34, .bin .plain .add (.tmp 33) (.const (.int .i64 1)), none, []⟩,
 ⟨some 7, .move (.tmp 34), none, []⟩]
def k_ref01_around_r10 : ACode := (.seq (.seq (.reg k_ref01_around_r6 false) (.cond (.tmp 32) .skip (.exit 0))) (.seq (.block 1 (.seq (.reg k_ref01_around_r7 true) (.cond (.tmp 42) (.reg k_ref01_around_r8 false) .skip))) (.reg k_ref01_around_r9 false)))
def k_ref01_around_r11 : List AOper := [
  ⟨some 50, .move (.tmp 6), none, []⟩,
 ⟨some 4, .move (.tmp 50), none, []⟩]
def k_ref01_around : AFun := { params := 2, ntmps := 51, body := (.seq (.reg k_ref01_around_r0 false) (.seq (.reg k_ref01_around_r1 false) (.seq (.seq (.reg k_ref01_around_r2 false) (.cond (.tmp 23) (.reg k_ref01_around_r3 false) .skip)) (.seq (.reg k_ref01_around_r4 false) (.seq (.seq (.reg k_ref01_around_r5 false) (.block 0 (.loop k_ref01_around_r10))) (.seq (.reg k_ref01_around_r11 false) .ret)))))), res := [.tmp 4] }
theorem k_ref01_around_ok : cfun Tryd.prog Tryd.f59 = k_ref01_around := by kernel_rfl

def k_ref01_weight_r0 : List AOper := [
  ⟨some 3, .box (.tmp 0), none, []⟩,
 ⟨some 6, .move (.const (.int .i64 0)), none, []⟩]
def k_ref01_weight_r1 : List AOper := [
  ⟨some 9, .fieldAddr 0 (.tmp 3), none, []⟩,
 ⟨some 10, .load none (.tmp 9), none, []⟩,
 ⟨some 11, .fieldAddr 1 (.tmp 3), none, []⟩,
 ⟨some 12, .load none (.tmp 11), none, []⟩,
 ⟨some 13, .bin .plain .mul (.tmp 10) (.tmp 12), none, []⟩,
 ⟨some 7, .move (.tmp 13), none, []⟩]
def k_ref01_weight_r2 : List AOper := [
  ⟨some 14, .move (.tmp 1), none, []⟩,
 ⟨some 15, .move (.tmp 7), none, []⟩,
 ⟨some 16, .bin .plain .sub (.tmp 15) (.const (.int .i64 1)), none, []⟩,
 ⟨some 17, .call (.const (.fn (.func 44) [] [])) [.tmp 14, .const (.int .i64 0), .tmp 16], none, []⟩,
 ⟨some 18, .move (.tmp 17), none, []⟩,
 ⟨some 19, .move (.tmp 2), (some (18, false)), []⟩,
 ⟨some 20, .move (.tmp 7), (some (18, false)), []⟩,
 ⟨some 21, .bin .plain .sub (.tmp 20) (.const (.int .i64 1)), (some (18, false)), []⟩,
 ⟨some 22, .call (.const (.fn (.func 44) [] [])) [.tmp 19, .const (.int .i64 0), .tmp 21], (some (18, false)), []⟩,
 ⟨some 23, .pick (.tmp 18) (.const (.bool true)) (.tmp 22), none, []⟩]
def k_ref01_weight_r3 : List AOper := [
  ⟨some 6, .move (.const (.int .i64 0)), none, []⟩]
def k_ref01_weight_r4 : List AOper := [
  ⟨some 24, .move (.tmp 1), none, []⟩,
 ⟨some 25, .move (.tmp 2), none, []⟩,
 ⟨some 26, .minmax false [.tmp 24, .tmp 25], none, []⟩,
 ⟨some 27, .move (.tmp 1), none, []⟩,
 ⟨some 28, .move (.tmp 2), none, []⟩,
 ⟨some 29, .minmax true [.tmp 27, .tmp 28], none, []⟩,
 ⟨some 1, .move (.tmp 26), none, []⟩,
 ⟨some 2, .move (.tmp 29), none, []⟩]
def k_ref01_weight_r5 : List AOper := [
  ⟨some 30, .move (.tmp 1), none, []⟩,
 ⟨some 31, .fieldAddr 0 (.tmp 3), none, []⟩,
 ⟨some 32, .load none (.tmp 31), none, []⟩,
 ⟨some 33, .bin .plain .rem (.tmp 30) (.tmp 32), none, []⟩,
 ⟨some 8, .move (.tmp 33), none, []⟩]
def k_ref01_weight_r6 : List AOper := [
  ⟨some 35, .move (.tmp 2), none, []⟩,
 ⟨some 36, .move (.tmp 1), none, []⟩,
 ⟨some 37, .bin .plain .add (.tmp 36) (.const (.int .i64 1)), none, []⟩,
 ⟨some 38, .bin .plain .eql (.tmp 35) (.tmp 37), none, []⟩,
 ⟨some 39, .move (.tmp 38), none, []⟩,
 ⟨some 40, .move (.tmp 2), (some (39, true)), []⟩,
 ⟨some 41, .fieldAddr 0 (.tmp 3), (some (39, true)), []⟩,
 ⟨some 42, .load none (.tmp 41), (some (39, true)), []⟩,
 ⟨some 43, .bin .plain .rem (.tmp 40) (.tmp 42), (some (39, true)), []⟩,
 ⟨some 44, .bin .plain .gtr (.tmp 43) (.const (.int .i64 0)), (some (39, true)), []⟩,
 ⟨some 45, .pick (.tmp 39) (.tmp 44) (.const (.bool false)), none, []⟩,
 ⟨some 34, .move (.tmp 45), none, []⟩]
def k_ref01_weight_r7 : List AOper := [
  ⟨some 46, .fieldAddr 2 (.tmp 3), none, []⟩,
 ⟨some 47, .load none (.tmp 46), none, []⟩]
def k_ref01_weight_r8 : List AOper := [
  ⟨some 48, .move (.tmp 8), none, []⟩,
 ⟨some 49, .bin .plain .add (.tmp 48) (.const (.int .i64 1)), none, []⟩,
 ⟨some 50, .bin .plain .mul (.const (.int .i64 2)) (.tmp 49), none, []⟩,
 ⟨some 6, .move (.tmp 50), none, []⟩]
def k_ref01_weight_r9 : List AOper := [
  ⟨some 6, .move (.const (.int .i64 1)), none, []⟩]
def k_ref01_weight_r10 : List AOper := [
  ⟨some 52, .move (.tmp 2), none, []⟩,
 ⟨some 53, .move (.tmp 1), none, []⟩,
 ⟨some 54, .fieldAddr 0 (.tmp 3), none, []⟩,
 ⟨some 55, .load none (.tmp 54), none, []⟩,
 ⟨some 56, .bin .plain .add (.tmp 53) (.tmp 55), none, []⟩,
 ⟨some 57, .bin .plain .eql (.tmp 52) (.tmp 56), none, []⟩,
 ⟨some 51, .move (.tmp 57), none, []⟩]
def k_ref01_weight_r11 : List AOper := [
  ⟨some 58, .fieldAddr 2 (.tmp 3), none, []⟩,
 ⟨some 59, .load none (.tmp 58), none, []⟩]
def k_ref01_weight_r12 : List AOper := [
  ⟨some 60, .move (.tmp 8), none, []⟩,
 ⟨some 61, .bin .plain .mul (.const (.int .i64 2)) (.tmp 60), none, []⟩,
 ⟨some 62, .bin .plain .add (.tmp 61) (.const (.int .i64 1)), none, []⟩,
 ⟨some 6, .move (.tmp 62), none, []⟩]
def k_ref01_weight_r13 : List AOper := [
  ⟨some 6, .move (.const (.int .i64 1)), none, []⟩]
def k_ref01_weight_r14 : List AOper := [
  ⟨some 6, .move (.const (.int .i64 0)), none, []⟩]
def k_ref01_weight : AFun := { params := 3, ntmps := 63, body := (.seq (.reg k_ref01_weight_r0 false) (.seq (.reg k_ref01_weight_r1 false) (.seq (.seq (.reg k_ref01_weight_r2 false) (.cond (.tmp 23) (.seq (.reg k_ref01_weight_r3 false) .ret) .skip)) (.seq (.reg k_ref01_weight_r4 false) (.seq (.reg k_ref01_weight_r5 false) (.seq (.block 0 (.seq (.reg k_ref01_weight_r6 false) (.cond (.tmp 34) (.seq (.seq (.reg k_ref01_weight_r7 false) (.cond (.tmp 47) (.seq (.reg k_ref01_weight_r8 false) .ret) .skip)) (.seq (.reg k_ref01_weight_r9 false) .ret)) (.seq (.reg k_ref01_weight_r10 false) (.cond (.tmp 51) (.seq (.seq (.reg k_ref01_weight_r11 false) (.cond (.tmp 59) (.seq (.reg k_ref01_weight_r12 false) .ret) .skip)) (.seq (.reg k_ref01_weight_r13 false) .ret)) .skip))))) (.seq (.reg k_ref01_weight_r14 false) .ret))))))), res := [.tmp 6] }
theorem k_ref01_weight_ok : cfun Tryd.prog Tryd.f63 = k_ref01_weight := by kernel_rfl


abbrev n_law01_FieldTexts : Nat := 3
theorem e_law01_FieldTexts : EntryOK Tryd.prog n_law01_FieldTexts k_law01_FieldTexts := ⟨Tryd.f3, Tryd.func3, k_law01_FieldTexts_ok, by kernel_rfl⟩
abbrev n_law01_big : Nat := 5
theorem e_law01_big : EntryOK Tryd.prog n_law01_big k_law01_big := ⟨Tryd.f5, Tryd.func5, k_law01_big_ok, by kernel_rfl⟩
abbrev n_ref01_Text : Nat := 10
theorem e_ref01_Text : EntryOK Tryd.prog n_ref01_Text k_ref01_Text := ⟨Tryd.f10, Tryd.func10, k_ref01_Text_ok, by kernel_rfl⟩
abbrev n_ref01_Parse : Nat := 13
theorem e_ref01_Parse : EntryOK Tryd.prog n_ref01_Parse k_ref01_Parse := ⟨Tryd.f13, Tryd.func13, k_ref01_Parse_ok, by kernel_rfl⟩
abbrev n_ref01_Check : Nat := 28
theorem e_ref01_Check : EntryOK Tryd.prog n_ref01_Check k_ref01_Check := ⟨Tryd.f28, Tryd.func28, k_ref01_Check_ok, by kernel_rfl⟩
abbrev n_ref01_rows : Nat := 30
theorem e_ref01_rows : EntryOK Tryd.prog n_ref01_rows k_ref01_rows := ⟨Tryd.f30, Tryd.func30, k_ref01_rows_ok, by kernel_rfl⟩
abbrev n_ref01_cells : Nat := 31
theorem e_ref01_cells : EntryOK Tryd.prog n_ref01_cells k_ref01_cells := ⟨Tryd.f31, Tryd.func31, k_ref01_cells_ok, by kernel_rfl⟩
abbrev n_ref01_beyond : Nat := 44
theorem e_ref01_beyond : EntryOK Tryd.prog n_ref01_beyond k_ref01_beyond := ⟨Tryd.f44, Tryd.func44, k_ref01_beyond_ok, by kernel_rfl⟩
abbrev n_ref01_held : Nat := 45
theorem e_ref01_held : EntryOK Tryd.prog n_ref01_held k_ref01_held := ⟨Tryd.f45, Tryd.func45, k_ref01_held_ok, by kernel_rfl⟩
abbrev n_ref01_around : Nat := 59
theorem e_ref01_around : EntryOK Tryd.prog n_ref01_around k_ref01_around := ⟨Tryd.f59, Tryd.func59, k_ref01_around_ok, by kernel_rfl⟩
abbrev n_ref01_weight : Nat := 63
theorem e_ref01_weight : EntryOK Tryd.prog n_ref01_weight k_ref01_weight := ⟨Tryd.f63, Tryd.func63, k_ref01_weight_ok, by kernel_rfl⟩

attribute [go_sem] k_law01_FieldTexts_r0 k_law01_FieldTexts_r1 k_law01_FieldTexts_r2 k_law01_FieldTexts_r3 k_law01_FieldTexts_r4 k_law01_FieldTexts_r5 k_law01_FieldTexts_r6 k_law01_FieldTexts_r7 k_law01_FieldTexts_r8 k_law01_FieldTexts_r9 k_law01_FieldTexts_r10 k_law01_FieldTexts_r11
attribute [go_sem] k_law01_FieldTexts_r12 k_law01_FieldTexts_r13s k_law01_FieldTexts_r14 k_law01_FieldTexts_r15s k_law01_FieldTexts_r16 k_law01_FieldTexts_r17s k_law01_FieldTexts_r18 k_law01_FieldTexts_r19 k_law01_FieldTexts_r20 k_law01_FieldTexts_r21 k_law01_FieldTexts_r22 k_law01_FieldTexts_r23
attribute [go_sem] k_law01_FieldTexts_r24 k_law01_FieldTexts_r25 k_law01_FieldTexts_r27 k_law01_big_r0 k_law01_big_r1 k_law01_big_r2 k_law01_big_r3 k_law01_big_r4 k_law01_big_r5 k_law01_big_r7 k_ref01_Text_r0 k_ref01_Text_r1
attribute [go_sem] k_ref01_Text_r2 k_ref01_Text_r3 k_ref01_Text_r4 k_ref01_Text_r5 k_ref01_Text_r6 k_ref01_Text_r7 k_ref01_Text_r8 k_ref01_Text_r9s k_ref01_Text_r10 k_ref01_Text_r11 k_ref01_Text_r12 k_ref01_Text_r14
attribute [go_sem] k_ref01_Parse_r0 k_ref01_Parse_r1 k_ref01_Parse_r2 k_ref01_Parse_r3 k_ref01_Parse_r4 k_ref01_Parse_r5 k_ref01_Parse_r6 k_ref01_Parse_r7 k_ref01_Parse_r8 k_ref01_Parse_r9 k_ref01_Parse_r10 k_ref01_Parse_r11
attribute [go_sem] k_ref01_Parse_r12 k_ref01_Parse_r13 k_ref01_Parse_r14 k_ref01_Parse_r16 k_ref01_Parse_r17 k_ref01_Parse_r18 k_ref01_Parse_r19 k_ref01_Parse_r20 k_ref01_Parse_r21 k_ref01_Check_r0 k_ref01_Check_r1 k_ref01_Check_r2
attribute [go_sem] k_ref01_Check_r3 k_ref01_Check_r4 k_ref01_Check_r5 k_ref01_Check_r6 k_ref01_Check_r7 k_ref01_Check_r8 k_ref01_Check_r9 k_ref01_Check_r10 k_ref01_Check_r11 k_ref01_Check_r13 k_ref01_Check_r14 k_ref01_Check_r15
attribute [go_sem] k_ref01_Check_r16 k_ref01_Check_r17 k_ref01_Check_r18 k_ref01_Check_r19 k_ref01_Check_r20 k_ref01_Check_r22 k_ref01_rows_r0 k_ref01_rows_r1 k_ref01_rows_r2 k_ref01_rows_r3 k_ref01_rows_r4 k_ref01_rows_r5
attribute [go_sem] k_ref01_rows_r6 k_ref01_rows_r7 k_ref01_rows_r8 k_ref01_rows_r10s k_ref01_rows_r10_sg k_ref01_rows_r10_st k_ref01_cells_r0 k_ref01_cells_r1 k_ref01_cells_r2 k_ref01_cells_r3 k_ref01_cells_r4 k_ref01_cells_r5 k_ref01_cells_r6 k_ref01_cells_r7
attribute [go_sem] k_ref01_cells_r8 k_ref01_cells_r9 k_ref01_cells_r11 k_ref01_beyond_r0 k_ref01_beyond_r1 k_ref01_held_r0 k_ref01_held_r1 k_ref01_held_r2 k_ref01_held_r3 k_ref01_held_r4 k_ref01_held_r5 k_ref01_held_r7
attribute [go_sem] k_ref01_held_r8 k_ref01_held_r9 k_ref01_held_r10 k_ref01_held_r11 k_ref01_held_r12 k_ref01_held_r13 k_ref01_held_r14 k_ref01_held_r15 k_ref01_held_r16 k_ref01_held_r17 k_ref01_held_r19 k_ref01_held_r22
attribute [go_sem] k_ref01_around_r0 k_ref01_around_r1 k_ref01_around_r2 k_ref01_around_r3 k_ref01_around_r4 k_ref01_around_r5 k_ref01_around_r6 k_ref01_around_r7s k_ref01_around_r8 k_ref01_around_r9 k_ref01_around_r11 k_ref01_weight_r0
attribute [go_sem] k_ref01_weight_r1 k_ref01_weight_r2 k_ref01_weight_r3 k_ref01_weight_r4 k_ref01_weight_r5 k_ref01_weight_r6 k_ref01_weight_r7 k_ref01_weight_r8 k_ref01_weight_r9 k_ref01_weight_r10 k_ref01_weight_r11 k_ref01_weight_r12
attribute [go_sem] k_ref01_weight_r13 k_ref01_weight_r14 k_ref01_Text_r9_sg k_law01_FieldTexts_r15_sg k_ref01_around_r7_sg k_law01_FieldTexts_r13_sg k_law01_FieldTexts_r17_sg k_ref01_Text_r9_st k_law01_FieldTexts_r15_st k_ref01_around_r7_st k_law01_FieldTexts_r13_st k_law01_FieldTexts_r17_st
attribute [go_sem] k_law01_FieldTexts k_law01_big k_ref01_Text k_ref01_Parse k_ref01_Check k_ref01_rows k_ref01_cells k_ref01_beyond k_ref01_held k_ref01_around k_ref01_weight
end Go.Proofs

