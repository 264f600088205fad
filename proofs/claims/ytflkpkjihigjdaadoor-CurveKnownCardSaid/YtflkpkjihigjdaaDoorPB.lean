/- A part of the proof. -/
import Derived.Test.YtflkpkjihigjdaaDoorPA
set_option linter.unusedSimpArgs false
set_option linter.unusedVariables false
namespace Go.Proofs
open Go Go.Sx

def k_law02_CurveKnown_r0 : List AOper := [
  ⟨some 0, .move (.const (.bool false)), none, []⟩]
def k_law02_CurveKnown_r1 : List AOper := [
  ⟨some 17, .call (.const (.fn (.func 6) [] [])) [], none, []⟩,
 ⟨some 18, .not (.tmp 17), none, []⟩,
 ⟨some 19, .move (.tmp 18), none, []⟩,
 ⟨some 20, .call (.const (.fn (.func 13) [] [])) [], (some (19, false)), []⟩,
 ⟨some 21, .not (.tmp 20), (some (19, false)), []⟩,
 ⟨some 22, .pick (.tmp 19) (.const (.bool true)) (.tmp 21), none, []⟩]
def k_law02_CurveKnown_r2 : List AOper := [
  ⟨some 0, .move (.const (.bool false)), none, []⟩]
def k_law02_CurveKnown_r3 : List AOper := [
  ⟨some 23, .call (.const (.fn (.func 14) [] [])) [], none, []⟩,
 ⟨some 1, .box (.const (.agg [.nilsl, .nilsl, .nilsl, .nilsl])), none, []⟩,
 ⟨none, .store 4 (.tmp 1) (.tmp 23), none, []⟩]
def k_law02_CurveKnown_r4 : List AOper := [
  ⟨some 25, .load (some (4)) (.tmp 1), none, []⟩,
 ⟨some 26, .call (.const (.fn (.func 15) [] [])) [.tmp 25, .const (.int .i64 (-2000)), .const (.int .i64 0)], none, []⟩,
 ⟨some 24, .move (.tmp 26), none, []⟩,
 ⟨some 27, .extract (.tmp 24) 0, none, []⟩,
 ⟨some 28, .extract (.tmp 24) 1, none, []⟩,
 ⟨some 2, .box (.const (.agg [.int .i64 0, .int .i64 0])), none, []⟩,
 ⟨none, .store 2 (.tmp 2) (.tmp 27), none, []⟩,
 ⟨some 3, .move (.tmp 28), none, []⟩]
def k_law02_CurveKnown_r5 : List AOper := [
  ⟨some 30, .load (some (4)) (.tmp 1), none, []⟩,
 ⟨some 31, .call (.const (.fn (.func 15) [] [])) [.tmp 30, .const (.int .i64 5000), .const (.int .i64 900000)], none, []⟩,
 ⟨some 29, .move (.tmp 31), none, []⟩,
 ⟨some 32, .extract (.tmp 29) 0, none, []⟩,
 ⟨some 33, .extract (.tmp 29) 1, none, []⟩,
 ⟨some 4, .box (.const (.agg [.int .i64 0, .int .i64 0])), none, []⟩,
 ⟨none, .store 2 (.tmp 4) (.tmp 32), none, []⟩,
 ⟨some 5, .move (.tmp 33), none, []⟩]
def k_law02_CurveKnown_r6 : List AOper := [
  ⟨some 35, .load (some (4)) (.tmp 1), none, []⟩,
 ⟨some 36, .call (.const (.fn (.func 16) [] [])) [.tmp 35, .const (.int .i64 0), .const (.int .i64 100000)], none, []⟩,
 ⟨some 34, .move (.tmp 36), none, []⟩,
 ⟨some 37, .extract (.tmp 34) 0, none, []⟩,
 ⟨some 38, .extract (.tmp 34) 1, none, []⟩,
 ⟨some 6, .box (.const (.agg [.int .i64 0, .int .i64 0])), none, []⟩,
 ⟨none, .store 2 (.tmp 6) (.tmp 37), none, []⟩,
 ⟨some 7, .move (.tmp 38), none, []⟩]
def k_law02_CurveKnown_r7 : List AOper := [
  ⟨some 40, .load (some (4)) (.tmp 1), none, []⟩,
 ⟨some 41, .call (.const (.fn (.func 17) [] [])) [.tmp 40, .const (.int .i64 0), .const (.int .i64 0)], none, []⟩,
 ⟨some 39, .move (.tmp 41), none, []⟩,
 ⟨some 42, .extract (.tmp 39) 0, none, []⟩,
 ⟨some 43, .extract (.tmp 39) 1, none, []⟩,
 ⟨some 8, .box (.const (.agg [.int .i64 0, .int .i64 0])), none, []⟩,
 ⟨none, .store 2 (.tmp 8) (.tmp 42), none, []⟩,
 ⟨some 9, .move (.tmp 43), none, []⟩]
def k_law02_CurveKnown_r8 : List AOper := [
  ⟨some 45, .load (some (4)) (.tmp 1), none, []⟩,
 ⟨some 46, .call (.const (.fn (.func 18) [] [])) [.tmp 45, .const (.int .i64 0), .const (.int .i64 0)], none, []⟩,
 ⟨some 44, .move (.tmp 46), none, []⟩,
 ⟨some 47, .extract (.tmp 44) 0, none, []⟩,
 ⟨some 48, .extract (.tmp 44) 1, none, []⟩,
 ⟨some 10, .box (.const (.agg [.int .i64 0, .int .i64 0])), none, []⟩,
 ⟨none, .store 2 (.tmp 10) (.tmp 47), none, []⟩,
 ⟨some 11, .move (.tmp 48), none, []⟩]
def k_law02_CurveKnown_r9 : List AOper := [
  ⟨some 49, .load (some (2)) (.tmp 2), none, []⟩,
 ⟨some 50, .move (.tmp 3), none, []⟩,
 ⟨some 51, .call (.const (.fn (.func 19) [] [])) [.tmp 49, .tmp 50, .const (.int .i64 0), .const (.int .i64 5)], none, []⟩,
 ⟨some 52, .not (.tmp 51), none, []⟩,
 ⟨some 53, .move (.tmp 52), none, []⟩,
 ⟨some 54, .load (some (2)) (.tmp 4), (some (53, false)), []⟩,
 ⟨some 55, .move (.tmp 5), (some (53, false)), []⟩,
 ⟨some 56, .call (.const (.fn (.func 19) [] [])) [.tmp 54, .tmp 55, .const (.int .i64 60), .const (.int .i64 80)], (some (53, false)), []⟩,
 ⟨some 57, .not (.tmp 56), (some (53, false)), []⟩,
 ⟨some 58, .pick (.tmp 53) (.const (.bool true)) (.tmp 57), none, []⟩,
 ⟨some 59, .move (.tmp 58), none, []⟩,
 ⟨some 60, .load (some (2)) (.tmp 6), (some (59, false)), []⟩,
 ⟨some 61, .move (.tmp 7), (some (59, false)), []⟩,
 ⟨some 62, .call (.const (.fn (.func 19) [] [])) [.tmp 60, .tmp 61, .const (.int .i64 25), .const (.int .i64 35)], (some (59, false)), []⟩,
 ⟨some 63, .not (.tmp 62), (some (59, false)), []⟩,
 ⟨some 64, .pick (.tmp 59) (.const (.bool true)) (.tmp 63), none, []⟩,
 ⟨some 65, .move (.tmp 64), none, []⟩,
 ⟨some 66, .load (some (2)) (.tmp 8), (some (65, false)), []⟩,
 ⟨some 67, .move (.tmp 9), (some (65, false)), []⟩,
 ⟨some 68, .call (.const (.fn (.func 19) [] [])) [.tmp 66, .tmp 67, .const (.int .i64 400), .const (.int .i64 600)], (some (65, false)), []⟩,
 ⟨some 69, .not (.tmp 68), (some (65, false)), []⟩,
 ⟨some 70, .pick (.tmp 65) (.const (.bool true)) (.tmp 69), none, []⟩,
 ⟨some 71, .move (.tmp 70), none, []⟩,
 ⟨some 72, .load (some (2)) (.tmp 10), (some (71, false)), []⟩,
 ⟨some 73, .move (.tmp 11), (some (71, false)), []⟩,
 ⟨some 74, .call (.const (.fn (.func 19) [] [])) [.tmp 72, .tmp 73, .const (.int .i64 11666), .const (.int .i64 700000)], (some (71, false)), []⟩,
 ⟨some 75, .not (.tmp 74), (some (71, false)), []⟩,
 ⟨some 76, .pick (.tmp 71) (.const (.bool true)) (.tmp 75), none, []⟩]
def k_law02_CurveKnown_r10 : List AOper := [
  ⟨some 0, .move (.const (.bool false)), none, []⟩]
def k_law02_CurveKnown_r11 : List AOper := [
  ⟨some 77, .call (.const (.fn (.func 14) [] [])) [], none, []⟩,
 ⟨some 78, .call (.const (.fn (.func 14) [] [])) [], none, []⟩,
 ⟨some 12, .box (.const (.agg [.nilsl, .nilsl, .nilsl, .nilsl])), none, []⟩,
 ⟨some 13, .box (.const (.agg [.nilsl, .nilsl, .nilsl, .nilsl])), none, []⟩,
 ⟨none, .store 4 (.tmp 12) (.tmp 77), none, []⟩,
 ⟨none, .store 4 (.tmp 13) (.tmp 78), none, []⟩]
def k_law02_CurveKnown_r12 : List AOper := [
  ⟨some 79, .fieldAddr 3 (.tmp 12), none, []⟩,
 ⟨some 80, .load none (.tmp 79), none, []⟩,
 ⟨some 81, .indexAddr 1 (.tmp 80) (.const (.int .i64 1)), none, []⟩,
 ⟨some 82, .load none (.tmp 81), none, []⟩,
 ⟨some 83, .indexAddr 1 (.tmp 82) (.const (.int .i64 1)), none, []⟩,
 ⟨none, .store 1 (.tmp 83) (.const (.int .i64 81)), none, []⟩]
def k_law02_CurveKnown_r13 : List AOper := [
  ⟨some 84, .buildSlice 1 [.const (.int .i64 5), .const (.int .i64 10)], none, []⟩,
 ⟨some 85, .buildSlice 1 [.const (.int .i64 20), .const (.int .i64 70)], none, []⟩,
 ⟨some 86, .buildSlice 1 [.tmp 84, .tmp 85], none, []⟩,
 ⟨some 87, .buildSlice 1 [.const (.int .i64 5), .const (.int .i64 10)], none, []⟩,
 ⟨some 88, .buildSlice 1 [.const (.int .i64 20), .const (.int .i64 70)], none, []⟩,
 ⟨some 89, .buildSlice 1 [.tmp 87, .tmp 88], none, []⟩,
 ⟨some 90, .fieldAddr 2 (.tmp 13), none, []⟩,
 ⟨none, .store 1 (.tmp 90) (.tmp 86), none, []⟩,
 ⟨some 91, .fieldAddr 3 (.tmp 13), none, []⟩,
 ⟨none, .store 1 (.tmp 91) (.tmp 89), none, []⟩]
def k_law02_CurveKnown_r14 : List AOper := [
  ⟨some 92, .buildSlice 1 [.const (.int .i64 (-1000))], none, []⟩,
 ⟨some 93, .buildSlice 1 [.const (.int .i64 0)], none, []⟩,
 ⟨some 94, .buildSlice 1 [.const (.int .i64 22)], none, []⟩,
 ⟨some 95, .buildSlice 1 [.tmp 94], none, []⟩,
 ⟨some 96, .buildSlice 1 [.const (.int .i64 22)], none, []⟩,
 ⟨some 97, .buildSlice 1 [.tmp 96], none, []⟩,
 ⟨some 98, .build [.nilsl, .nilsl, .nilsl, .nilsl] [(0, 1, .tmp 92), (1, 1, .tmp 93), (2, 1, .tmp 95), (3, 1, .tmp 97)], none, []⟩,
 ⟨some 14, .box (.const (.agg [.nilsl, .nilsl, .nilsl, .nilsl])), none, []⟩,
 ⟨none, .store 4 (.tmp 14) (.tmp 98), none, []⟩]
def k_law02_CurveKnown_r15 : List AOper := [
  ⟨some 100, .load (some (4)) (.tmp 1), none, []⟩,
 ⟨some 101, .call (.const (.fn (.func 20) [] [])) [.tmp 100], none, []⟩,
 ⟨some 99, .move (.tmp 101), none, []⟩,
 ⟨some 102, .extract (.tmp 99) 0, none, []⟩,
 ⟨some 103, .extract (.tmp 99) 1, none, []⟩,
 ⟨some 15, .move (.tmp 102), none, []⟩,
 ⟨some 16, .move (.tmp 103), none, []⟩]
def k_law02_CurveKnown_r16 : List AOper := [
  ⟨some 104, .load (some (4)) (.tmp 1), none, []⟩,
 ⟨some 105, .load (some (4)) (.tmp 1), none, []⟩,
 ⟨some 106, .call (.const (.fn (.func 21) [] [])) [.tmp 104, .tmp 105], none, []⟩,
 ⟨some 107, .move (.tmp 106), none, []⟩,
 ⟨some 108, .load (some (4)) (.tmp 1), (some (107, true)), []⟩,
 ⟨some 109, .load (some (4)) (.tmp 12), (some (107, true)), []⟩,
 ⟨some 110, .call (.const (.fn (.func 21) [] [])) [.tmp 108, .tmp 109], (some (107, true)), []⟩,
 ⟨some 111, .not (.tmp 110), (some (107, true)), []⟩,
 ⟨some 112, .pick (.tmp 107) (.tmp 111) (.const (.bool false)), none, []⟩,
 ⟨some 113, .move (.tmp 112), none, []⟩,
 ⟨some 114, .load (some (4)) (.tmp 1), (some (113, true)), []⟩,
 ⟨some 115, .load (some (4)) (.tmp 13), (some (113, true)), []⟩,
 ⟨some 116, .call (.const (.fn (.func 21) [] [])) [.tmp 114, .tmp 115], (some (113, true)), []⟩,
 ⟨some 117, .pick (.tmp 113) (.tmp 116) (.const (.bool false)), none, []⟩,
 ⟨some 118, .move (.tmp 117), none, []⟩,
 ⟨some 119, .load (some (4)) (.tmp 1), (some (118, true)), []⟩,
 ⟨some 120, .load (some (4)) (.tmp 14), (some (118, true)), []⟩,
 ⟨some 121, .call (.const (.fn (.func 21) [] [])) [.tmp 119, .tmp 120], (some (118, true)), []⟩,
 ⟨some 122, .not (.tmp 121), (some (118, true)), []⟩,
 ⟨some 123, .pick (.tmp 118) (.tmp 122) (.const (.bool false)), none, []⟩,
 ⟨some 124, .move (.tmp 123), none, []⟩,
 ⟨some 125, .move (.tmp 16), (some (124, true)), []⟩,
 ⟨some 126, .bin .plain .eql (.tmp 125) (.const (.int .i64 0)), (some (124, true)), []⟩,
 ⟨some 127, .pick (.tmp 124) (.tmp 126) (.const (.bool false)), none, []⟩,
 ⟨some 128, .move (.tmp 127), none, []⟩,
 ⟨some 129, .move (.tmp 15), (some (128, true)), []⟩,
 ⟨some 130, .bin .plain .eql (.tmp 129) (.const (.str [99, 117, 114, 118, 101, 115, 32, 50, 32, 50, 10, 103, 114, 105, 100, 32, 45, 50, 48, 48, 48, 32, 48, 10, 112, 108, 97, 116, 101, 32, 48, 32, 49, 48, 48, 48, 48, 48, 10, 108, 111, 119, 32, 48, 32, 49, 48, 10, 104, 105, 103, 104, 32, 53, 32, 49, 48, 10, 108, 111, 119, 32, 50, 48, 32, 54, 48, 10, 104, 105, 103, 104, 32, 50, 48, 32, 56, 48, 10])), (some (128, true)), []⟩,
 ⟨some 131, .pick (.tmp 128) (.tmp 130) (.const (.bool false)), none, []⟩,
 ⟨some 0, .move (.tmp 131), none, []⟩]
def k_law02_CurveKnown : AFun := { params := 0, ntmps := 132, body := (.seq (.reg k_law02_CurveKnown_r0 false) (.seq (.seq (.reg k_law02_CurveKnown_r1 false) (.cond (.tmp 22) (.seq (.reg k_law02_CurveKnown_r2 false) .ret) .skip)) (.seq (.reg k_law02_CurveKnown_r3 false) (.seq (.reg k_law02_CurveKnown_r4 false) (.seq (.reg k_law02_CurveKnown_r5 false) (.seq (.reg k_law02_CurveKnown_r6 false) (.seq (.reg k_law02_CurveKnown_r7 false) (.seq (.reg k_law02_CurveKnown_r8 false) (.seq (.seq (.reg k_law02_CurveKnown_r9 false) (.cond (.tmp 76) (.seq (.reg k_law02_CurveKnown_r10 false) .ret) .skip)) (.seq (.reg k_law02_CurveKnown_r11 false) (.seq (.reg k_law02_CurveKnown_r12 false) (.seq (.reg k_law02_CurveKnown_r13 false) (.seq (.reg k_law02_CurveKnown_r14 false) (.seq (.reg k_law02_CurveKnown_r15 false) (.seq (.reg k_law02_CurveKnown_r16 false) .ret))))))))))))))), res := [.tmp 0] }
theorem k_law02_CurveKnown_ok : cfun Tryd.prog Tryd.f4 = k_law02_CurveKnown := by kernel_rfl

def k_curve_Narrow_r0 : List AOper := [
  ⟨some 2, .box (.tmp 0), none, []⟩,
 ⟨some 4, .box (.const (.agg [.int .i64 0, .int .i64 0, .int .i64 0, .int .i64 0, .int .i64 0, .int .i64 0, .int .i64 0, .int .i64 0, .int .i64 0, .int .i64 0])), none, []⟩,
 ⟨some 5, .move (.const (.int .i64 0)), none, []⟩]
def k_curve_Narrow_r1 : List AOper := [
  ⟨some 10, .load (some (10)) (.tmp 2), none, []⟩,
 ⟨some 11, .call (.const (.fn (.func 35) [] [])) [.tmp 10], none, []⟩,
 ⟨some 6, .move (.tmp 11), none, []⟩]
def k_curve_Narrow_r2 : List AOper := [
  ⟨some 12, .move (.tmp 6), none, []⟩,
 ⟨some 13, .bin .plain .neq (.tmp 12) (.const (.int .i64 0)), none, []⟩]
def k_curve_Narrow_r3 : List AOper := [
  ⟨some 14, .build [.int .i64 0, .int .i64 0, .int .i64 0, .int .i64 0, .int .i64 0, .int .i64 0, .int .i64 0, .int .i64 0, .int .i64 0, .int .i64 0] [], none, []⟩,
 ⟨some 15, .move (.tmp 6), none, []⟩,
 ⟨none, .store 10 (.tmp 4) (.tmp 14), none, []⟩,
 ⟨some 5, .move (.tmp 15), none, []⟩]
def k_curve_Narrow_r4 : List AOper := [
  ⟨some 16, .move (.tmp 1), none, []⟩,
 ⟨some 17, .call (.const (.fn (.func 36) [] [])) [.tmp 16], none, []⟩,
 ⟨some 7, .move (.tmp 17), none, []⟩]
def k_curve_Narrow_r5 : List AOper := [
  ⟨some 18, .move (.tmp 7), none, []⟩,
 ⟨some 19, .bin .plain .neq (.tmp 18) (.const (.int .i64 0)), none, []⟩]
def k_curve_Narrow_r6 : List AOper := [
  ⟨some 20, .build [.int .i64 0, .int .i64 0, .int .i64 0, .int .i64 0, .int .i64 0, .int .i64 0, .int .i64 0, .int .i64 0, .int .i64 0, .int .i64 0] [], none, []⟩,
 ⟨some 21, .move (.tmp 7), none, []⟩,
 ⟨none, .store 10 (.tmp 4) (.tmp 20), none, []⟩,
 ⟨some 5, .move (.tmp 21), none, []⟩]
def k_curve_Narrow_r7 : List AOper := [
  ⟨some 22, .move (.tmp 1), none, []⟩,
 ⟨some 23, .len false (.tmp 22), none, []⟩,
 ⟨some 24, .move (.const (.int .i64 0)), none, []⟩]
def k_curve_Narrow_r8 : List AOper := [
  ⟨some 25, .bin .plain .lss (.tmp 24) (.tmp 23), none, []⟩]
def k_curve_Narrow_r9 : List AOper := [
  ⟨some 26, .indexAddr 4 (.tmp 22) (.tmp 24), none, []⟩,
 ⟨some 27, .load (some (4)) (.tmp 26), none, []⟩,
 ⟨some 9, .box (.const (.agg [.int .i64 0, .int .i64 0, .int .i64 0, .int .i64 0])), none, []⟩,
 ⟨none, .store 4 (.tmp 9) (.tmp 27), none, []⟩]
def k_curve_Narrow_r10 : List AOper := [
  ⟨some 28, .load (some (4)) (.tmp 9), none, []⟩,
 ⟨some 29, .call (.const (.fn (.func 37) [] [])) [.tmp 2, .tmp 28], none, []⟩,
 ⟨some 30, .not (.tmp 29), none, []⟩]
def k_curve_Narrow_r11 : List AOper := [
  ⟨some 31, .build [.int .i64 0, .int .i64 0, .int .i64 0, .int .i64 0, .int .i64 0, .int .i64 0, .int .i64 0, .int .i64 0, .int .i64 0, .int .i64 0] [], none, []⟩,
 ⟨none, .store 10 (.tmp 4) (.tmp 31), none, []⟩,
 ⟨some 5, .move (.const (.int .i64 12)), none, []⟩]
def k_curve_Narrow_r12 : List AOper := [
  ⟨some 32, .bin .plain .add (.tmp 24) (.const (.int .i64 1)), none, []⟩,
 ⟨some 24, .move (.tmp 32), none, []⟩]
def k_curve_Narrow_r13 : ACode := (.seq (.reg k_curve_Narrow_r8 false) (.seq (.cond (.tmp 25) .skip (.exit 0)) (.seq (.block 1 (.seq (.reg k_curve_Narrow_r9 false) (.seq (.reg k_curve_Narrow_r10 false) (.cond (.tmp 30) (.seq (.reg k_curve_Narrow_r11 false) .ret) .skip)))) (.reg k_curve_Narrow_r12 false))))
def k_curve_Narrow_r14 : List AOper := [
  ⟨some 33, .load (some (10)) (.tmp 2), none, []⟩,
 ⟨none, .store 10 (.tmp 4) (.tmp 33), none, []⟩,
 ⟨some 5, .move (.const (.int .i64 0)), none, []⟩]
def k_curve_Narrow : AFun := { params := 2, ntmps := 34, body := (.seq (.reg k_curve_Narrow_r0 false) (.seq (.seq (.reg k_curve_Narrow_r1 false) (.seq (.reg k_curve_Narrow_r2 false) (.cond (.tmp 13) (.seq (.reg k_curve_Narrow_r3 false) .ret) .skip))) (.seq (.seq (.reg k_curve_Narrow_r4 false) (.seq (.reg k_curve_Narrow_r5 false) (.cond (.tmp 19) (.seq (.reg k_curve_Narrow_r6 false) .ret) .skip))) (.seq (.seq (.reg k_curve_Narrow_r7 false) (.block 0 (.loop k_curve_Narrow_r13))) (.seq (.reg k_curve_Narrow_r14 false) .ret))))), res := [.cell 4 (some ((some (10)))), .tmp 5] }
theorem k_curve_Narrow_ok : cfun Tryd.prog Tryd.f11 = k_curve_Narrow := by kernel_rfl

def k_law02_laws_r0 : List AOper := [
  ⟨some 0, .move (.const (.bool false)), none, []⟩]
def k_law02_laws_r1 : List AOper := [
  ⟨some 18, .call (.const (.fn (.func 25) [] [])) [], none, []⟩,
 ⟨some 19, .call (.const (.fn (.func 25) [] [])) [], none, []⟩,
 ⟨some 20, .call (.const (.fn (.func 25) [] [])) [], none, []⟩,
 ⟨some 21, .call (.const (.fn (.func 25) [] [])) [], none, []⟩,
 ⟨some 1, .box (.const (.agg [.int .i64 0, .int .i64 0, .int .i64 0, .int .i64 0, .int .i64 0, .int .i64 0, .int .i64 0, .int .i64 0, .int .i64 0, .int .i64 0])), none, []⟩,
 ⟨some 2, .box (.const (.agg [.int .i64 0, .int .i64 0, .int .i64 0, .int .i64 0, .int .i64 0, .int .i64 0, .int .i64 0, .int .i64 0, .int .i64 0, .int .i64 0])), none, []⟩,
 ⟨some 3, .box (.const (.agg [.int .i64 0, .int .i64 0, .int .i64 0, .int .i64 0, .int .i64 0, .int .i64 0, .int .i64 0, .int .i64 0, .int .i64 0, .int .i64 0])), none, []⟩,
 ⟨some 4, .box (.const (.agg [.int .i64 0, .int .i64 0, .int .i64 0, .int .i64 0, .int .i64 0, .int .i64 0, .int .i64 0, .int .i64 0, .int .i64 0, .int .i64 0])), none, []⟩,
 ⟨none, .store 10 (.tmp 1) (.tmp 18), none, []⟩,
 ⟨none, .store 10 (.tmp 2) (.tmp 19), none, []⟩,
 ⟨none, .store 10 (.tmp 3) (.tmp 20), none, []⟩,
 ⟨none, .store 10 (.tmp 4) (.tmp 21), none, []⟩]
def k_law02_laws_r2 : List AOper := [
  ⟨some 22, .call (.const (.fn (.func 42) [] [])) [.const (.int .i64 5000)], none, []⟩,
 ⟨some 23, .call (.const (.fn (.func 42) [] [])) [.const (.int .i64 500000)], none, []⟩,
 ⟨some 24, .build [.int .i64 0, .int .i64 0] [(0, 1, .const (.int .i64 0)), (1, 1, .const (.int .i64 5))], none, []⟩,
 ⟨some 25, .build [.int .i64 0, .int .i64 0] [(0, 1, .const (.int .i64 2)), (1, 1, .const (.int .i64 1))], none, []⟩,
 ⟨some 26, .fieldAddr 6 (.tmp 1), none, []⟩,
 ⟨none, .store 2 (.tmp 26) (.tmp 22), none, []⟩,
 ⟨some 27, .fieldAddr 8 (.tmp 2), none, []⟩,
 ⟨none, .store 2 (.tmp 27) (.tmp 23), none, []⟩,
 ⟨some 28, .fieldAddr 2 (.tmp 3), none, []⟩,
 ⟨none, .store 2 (.tmp 28) (.tmp 24), none, []⟩,
 ⟨some 29, .fieldAddr 0 (.tmp 4), none, []⟩,
 ⟨none, .store 2 (.tmp 29) (.tmp 25), none, []⟩]
def k_law02_laws_r3 : List AOper := [
  ⟨some 31, .call (.const (.fn (.func 25) [] [])) [], none, []⟩,
 ⟨some 32, .call (.const (.fn (.func 43) [] [])) [.tmp 31, .const (.int .i64 (-1000)), .const (.int .i64 100000)], none, []⟩,
 ⟨some 30, .move (.tmp 32), none, []⟩,
 ⟨some 33, .extract (.tmp 30) 0, none, []⟩,
 ⟨some 34, .extract (.tmp 30) 1, none, []⟩,
 ⟨some 5, .box (.const (.agg [.int .i64 0, .int .i64 0])), none, []⟩,
 ⟨none, .store 2 (.tmp 5) (.tmp 33), none, []⟩,
 ⟨some 6, .move (.tmp 34), none, []⟩]
def k_law02_laws_r4 : List AOper := [
  ⟨some 36, .call (.const (.fn (.func 44) [] [])) [], none, []⟩,
 ⟨some 37, .call (.const (.fn (.func 43) [] [])) [.tmp 36, .const (.int .i64 (-1000)), .const (.int .i64 100000)], none, []⟩,
 ⟨some 35, .move (.tmp 37), none, []⟩,
 ⟨some 38, .extract (.tmp 35) 0, none, []⟩,
 ⟨some 39, .extract (.tmp 35) 1, none, []⟩,
 ⟨some 7, .box (.const (.agg [.int .i64 0, .int .i64 0])), none, []⟩,
 ⟨none, .store 2 (.tmp 7) (.tmp 38), none, []⟩,
 ⟨some 8, .move (.tmp 39), none, []⟩]
def k_law02_laws_r5 : List AOper := [
  ⟨some 41, .call (.const (.fn (.func 25) [] [])) [], none, []⟩,
 ⟨some 42, .call (.const (.fn (.func 43) [] [])) [.tmp 41, .const (.int .i64 (-9000)), .const (.int .i64 100000)], none, []⟩,
 ⟨some 40, .move (.tmp 42), none, []⟩,
 ⟨some 43, .extract (.tmp 40) 0, none, []⟩,
 ⟨some 44, .extract (.tmp 40) 1, none, []⟩,
 ⟨some 9, .box (.const (.agg [.int .i64 0, .int .i64 0])), none, []⟩,
 ⟨none, .store 2 (.tmp 9) (.tmp 43), none, []⟩,
 ⟨some 10, .move (.tmp 44), none, []⟩]
def k_law02_laws_r6 : List AOper := [
  ⟨some 45, .load (some (2)) (.tmp 5), none, []⟩,
 ⟨some 46, .move (.tmp 6), none, []⟩,
 ⟨some 47, .call (.const (.fn (.func 19) [] [])) [.tmp 45, .tmp 46, .const (.int .i64 4000), .const (.int .i64 4000)], none, []⟩,
 ⟨some 48, .not (.tmp 47), none, []⟩,
 ⟨some 49, .move (.tmp 48), none, []⟩,
 ⟨some 50, .load (some (2)) (.tmp 7), (some (49, false)), []⟩,
 ⟨some 51, .move (.tmp 8), (some (49, false)), []⟩,
 ⟨some 52, .call (.const (.fn (.func 19) [] [])) [.tmp 50, .tmp 51, .const (.int .i64 3761), .const (.int .i64 4264)], (some (49, false)), []⟩,
 ⟨some 53, .not (.tmp 52), (some (49, false)), []⟩,
 ⟨some 54, .pick (.tmp 49) (.const (.bool true)) (.tmp 53), none, []⟩,
 ⟨some 55, .move (.tmp 54), none, []⟩,
 ⟨some 56, .load (some (2)) (.tmp 9), (some (55, false)), []⟩,
 ⟨some 57, .move (.tmp 10), (some (55, false)), []⟩,
 ⟨some 58, .call (.const (.fn (.func 19) [] [])) [.tmp 56, .tmp 57, .const (.int .i64 0), .const (.int .i64 0)], (some (55, false)), []⟩,
 ⟨some 59, .not (.tmp 58), (some (55, false)), []⟩,
 ⟨some 60, .pick (.tmp 55) (.const (.bool true)) (.tmp 59), none, []⟩,
 ⟨some 61, .move (.tmp 60), none, []⟩,
 ⟨some 62, .load (some (10)) (.tmp 3), (some (61, false)), []⟩,
 ⟨some 63, .call (.const (.fn (.func 35) [] [])) [.tmp 62], (some (61, false)), []⟩,
 ⟨some 64, .bin .plain .neq (.tmp 63) (.const (.int .i64 2)), (some (61, false)), []⟩,
 ⟨some 65, .pick (.tmp 61) (.const (.bool true)) (.tmp 64), none, []⟩,
 ⟨some 66, .move (.tmp 65), none, []⟩,
 ⟨some 67, .load (some (10)) (.tmp 4), (some (66, false)), []⟩,
 ⟨some 68, .call (.const (.fn (.func 35) [] [])) [.tmp 67], (some (66, false)), []⟩,
 ⟨some 69, .bin .plain .neq (.tmp 68) (.const (.int .i64 11)), (some (66, false)), []⟩,
 ⟨some 70, .pick (.tmp 66) (.const (.bool true)) (.tmp 69), none, []⟩]
def k_law02_laws_r7 : List AOper := [
  ⟨some 0, .move (.const (.bool false)), none, []⟩]
def k_law02_laws_r8 : List AOper := [
  ⟨some 72, .call (.const (.fn (.func 25) [] [])) [], none, []⟩,
 ⟨some 73, .call (.const (.fn (.func 23) [] [])) [.tmp 72, .const (.int .i64 0), .const (.int .i64 0)], none, []⟩,
 ⟨some 71, .move (.tmp 73), none, []⟩,
 ⟨some 74, .extract (.tmp 71) 0, none, []⟩,
 ⟨some 75, .extract (.tmp 71) 1, none, []⟩,
 ⟨none, .store 2 (.tmp 5) (.tmp 74), none, []⟩,
 ⟨some 6, .move (.tmp 75), none, []⟩]
def k_law02_laws_r9 : List AOper := [
  ⟨some 77, .call (.const (.fn (.func 25) [] [])) [], none, []⟩,
 ⟨some 78, .call (.const (.fn (.func 23) [] [])) [.tmp 77, .const (.int .i64 (-1000)), .const (.int .i64 100000)], none, []⟩,
 ⟨some 76, .move (.tmp 78), none, []⟩,
 ⟨some 79, .extract (.tmp 76) 0, none, []⟩,
 ⟨some 80, .extract (.tmp 76) 1, none, []⟩,
 ⟨none, .store 2 (.tmp 7) (.tmp 79), none, []⟩,
 ⟨some 8, .move (.tmp 80), none, []⟩]
def k_law02_laws_r10 : List AOper := [
  ⟨some 82, .load (some (10)) (.tmp 1), none, []⟩,
 ⟨some 83, .call (.const (.fn (.func 23) [] [])) [.tmp 82, .const (.int .i64 4000), .const (.int .i64 0)], none, []⟩,
 ⟨some 81, .move (.tmp 83), none, []⟩,
 ⟨some 84, .extract (.tmp 81) 0, none, []⟩,
 ⟨some 85, .extract (.tmp 81) 1, none, []⟩,
 ⟨none, .store 2 (.tmp 9) (.tmp 84), none, []⟩,
 ⟨some 10, .move (.tmp 85), none, []⟩]
def k_law02_laws_r11 : List AOper := [
  ⟨some 87, .load (some (10)) (.tmp 2), none, []⟩,
 ⟨some 88, .call (.const (.fn (.func 23) [] [])) [.tmp 87, .const (.int .i64 4000), .const (.int .i64 0)], none, []⟩,
 ⟨some 86, .move (.tmp 88), none, []⟩,
 ⟨some 89, .extract (.tmp 86) 0, none, []⟩,
 ⟨some 90, .extract (.tmp 86) 1, none, []⟩,
 ⟨some 11, .box (.const (.agg [.int .i64 0, .int .i64 0])), none, []⟩,
 ⟨none, .store 2 (.tmp 11) (.tmp 89), none, []⟩,
 ⟨some 12, .move (.tmp 90), none, []⟩]
def k_law02_laws_r12 : List AOper := [
  ⟨some 91, .load (some (2)) (.tmp 5), none, []⟩,
 ⟨some 92, .move (.tmp 6), none, []⟩,
 ⟨some 93, .call (.const (.fn (.func 19) [] [])) [.tmp 91, .tmp 92, .const (.int .i64 0), .const (.int .i64 0)], none, []⟩,
 ⟨some 94, .not (.tmp 93), none, []⟩,
 ⟨some 95, .move (.tmp 94), none, []⟩,
 ⟨some 96, .load (some (2)) (.tmp 7), (some (95, false)), []⟩,
 ⟨some 97, .move (.tmp 8), (some (95, false)), []⟩,
 ⟨some 98, .call (.const (.fn (.func 19) [] [])) [.tmp 96, .tmp 97, .const (.int .i64 15178), .const (.int .i64 15179)], (some (95, false)), []⟩,
 ⟨some 99, .not (.tmp 98), (some (95, false)), []⟩,
 ⟨some 100, .pick (.tmp 95) (.const (.bool true)) (.tmp 99), none, []⟩,
 ⟨some 101, .move (.tmp 100), none, []⟩,
 ⟨some 102, .load (some (2)) (.tmp 9), (some (101, false)), []⟩,
 ⟨some 103, .move (.tmp 10), (some (101, false)), []⟩,
 ⟨some 104, .call (.const (.fn (.func 19) [] [])) [.tmp 102, .tmp 103, .const (.int .i64 5000), .const (.int .i64 5000)], (some (101, false)), []⟩,
 ⟨some 105, .not (.tmp 104), (some (101, false)), []⟩,
 ⟨some 106, .pick (.tmp 101) (.const (.bool true)) (.tmp 105), none, []⟩,
 ⟨some 107, .move (.tmp 106), none, []⟩,
 ⟨some 108, .load (some (2)) (.tmp 11), (some (107, false)), []⟩,
 ⟨some 109, .move (.tmp 12), (some (107, false)), []⟩,
 ⟨some 110, .call (.const (.fn (.func 19) [] [])) [.tmp 108, .tmp 109, .const (.int .i64 7589), .const (.int .i64 7590)], (some (107, false)), []⟩,
 ⟨some 111, .not (.tmp 110), (some (107, false)), []⟩,
 ⟨some 112, .pick (.tmp 107) (.const (.bool true)) (.tmp 111), none, []⟩]
def k_law02_laws_r13 : List AOper := [
  ⟨some 0, .move (.const (.bool false)), none, []⟩]
def k_law02_laws_r14 : List AOper := [
  ⟨some 114, .call (.const (.fn (.func 25) [] [])) [], none, []⟩,
 ⟨some 115, .buildSlice 1 [.const (.int .i64 (-1000)), .const (.int .i64 0)], none, []⟩,
 ⟨some 116, .buildSlice 1 [.const (.int .i64 0), .const (.int .i64 100000)], none, []⟩,
 ⟨some 117, .call (.const (.fn (.func 45) [] [])) [.tmp 114, .tmp 115, .tmp 116], none, []⟩,
 ⟨some 113, .move (.tmp 117), none, []⟩,
 ⟨some 118, .extract (.tmp 113) 0, none, []⟩,
 ⟨some 119, .extract (.tmp 113) 1, none, []⟩,
 ⟨some 13, .box (.const (.agg [.nilsl, .nilsl, .nilsl, .nilsl])), none, []⟩,
 ⟨none, .store 4 (.tmp 13) (.tmp 118), none, []⟩,
 ⟨some 14, .move (.tmp 119), none, []⟩]
def k_law02_laws_r15 : List AOper := [
  ⟨some 121, .call (.const (.fn (.func 44) [] [])) [], none, []⟩,
 ⟨some 122, .build [.int .i64 0, .int .i64 0] [(0, 1, .const (.int .i64 15000)), (1, 1, .const (.int .i64 15178))], none, []⟩,
 ⟨some 123, .build [.int .i64 0, .int .i64 0, .int .i64 0, .int .i64 0] [(0, 1, .const (.int .i64 (-1000))), (1, 1, .const (.int .i64 100000)), (2, 2, .tmp 122)], none, []⟩,
 ⟨some 124, .buildSlice 4 [.tmp 123], none, []⟩,
 ⟨some 125, .call (.const (.fn (.func 11) [] [])) [.tmp 121, .tmp 124], none, []⟩,
 ⟨some 120, .move (.tmp 125), none, []⟩,
 ⟨some 126, .extract (.tmp 120) 0, none, []⟩,
 ⟨some 127, .extract (.tmp 120) 1, none, []⟩,
 ⟨some 15, .box (.const (.agg [.int .i64 0, .int .i64 0, .int .i64 0, .int .i64 0, .int .i64 0, .int .i64 0, .int .i64 0, .int .i64 0, .int .i64 0, .int .i64 0])), none, []⟩,
 ⟨none, .store 10 (.tmp 15) (.tmp 126), none, []⟩,
 ⟨some 16, .move (.tmp 127), none, []⟩]
def k_law02_laws_r16 : List AOper := [
  ⟨some 128, .call (.const (.fn (.func 44) [] [])) [], none, []⟩,
 ⟨some 17, .box (.const (.agg [.int .i64 0, .int .i64 0, .int .i64 0, .int .i64 0, .int .i64 0, .int .i64 0, .int .i64 0, .int .i64 0, .int .i64 0, .int .i64 0])), none, []⟩,
 ⟨none, .store 10 (.tmp 17) (.tmp 128), none, []⟩]
def k_law02_laws_r17 : List AOper := [
  ⟨some 129, .build [.int .i64 0, .int .i64 0] [(0, 1, .const (.int .i64 19997)), (1, 1, .const (.int .i64 20128))], none, []⟩,
 ⟨some 130, .fieldAddr 2 (.tmp 17), none, []⟩,
 ⟨none, .store 2 (.tmp 130) (.tmp 129), none, []⟩]
def k_law02_laws_r18 : List AOper := [
  ⟨some 131, .move (.tmp 14), none, []⟩,
 ⟨some 132, .bin .plain .eql (.tmp 131) (.const (.int .i64 0)), none, []⟩,
 ⟨some 133, .move (.tmp 132), none, []⟩,
 ⟨some 134, .move (.tmp 16), (some (133, true)), []⟩,
 ⟨some 135, .bin .plain .eql (.tmp 134) (.const (.int .i64 0)), (some (133, true)), []⟩,
 ⟨some 136, .pick (.tmp 133) (.tmp 135) (.const (.bool false)), none, []⟩,
 ⟨some 137, .move (.tmp 136), none, []⟩,
 ⟨some 138, .fieldAddr 2 (.tmp 13), (some (137, true)), []⟩,
 ⟨some 139, .load none (.tmp 138), (some (137, true)), []⟩,
 ⟨some 140, .buildSlice 1 [.const (.int .i64 0), .const (.int .i64 15178)], (some (137, true)), []⟩,
 ⟨some 141, .buildSlice 1 [.const (.int .i64 0), .const (.int .i64 21213)], (some (137, true)), []⟩,
 ⟨some 142, .buildSlice 1 [.tmp 140, .tmp 141], (some (137, true)), []⟩,
 ⟨some 143, .call (.const (.fn (.func 46) [] [])) [.tmp 139, .tmp 142], (some (137, true)), []⟩,
 ⟨some 144, .pick (.tmp 137) (.tmp 143) (.const (.bool false)), none, []⟩,
 ⟨some 145, .move (.tmp 144), none, []⟩,
 ⟨some 146, .fieldAddr 3 (.tmp 13), (some (145, true)), []⟩,
 ⟨some 147, .load none (.tmp 146), (some (145, true)), []⟩,
 ⟨some 148, .buildSlice 1 [.const (.int .i64 0), .const (.int .i64 15179)], (some (145, true)), []⟩,
 ⟨some 149, .buildSlice 1 [.const (.int .i64 0), .const (.int .i64 21214)], (some (145, true)), []⟩,
 ⟨some 150, .buildSlice 1 [.tmp 148, .tmp 149], (some (145, true)), []⟩,
 ⟨some 151, .call (.const (.fn (.func 46) [] [])) [.tmp 147, .tmp 150], (some (145, true)), []⟩,
 ⟨some 152, .pick (.tmp 145) (.tmp 151) (.const (.bool false)), none, []⟩,
 ⟨some 153, .move (.tmp 152), none, []⟩,
 ⟨some 154, .load (some (10)) (.tmp 15), (some (153, true)), []⟩,
 ⟨some 155, .load (some (10)) (.tmp 17), (some (153, true)), []⟩,
 ⟨some 156, .eqAgg false [.int, .int, .int, .int, .int, .int, .int, .int, .int, .int] (.tmp 154) (.tmp 155), (some (153, true)), []⟩,
 ⟨some 157, .pick (.tmp 153) (.tmp 156) (.const (.bool false)), none, []⟩,
 ⟨some 0, .move (.tmp 157), none, []⟩]
def k_law02_laws : AFun := { params := 0, ntmps := 158, body := (.seq (.reg k_law02_laws_r0 false) (.seq (.reg k_law02_laws_r1 false) (.seq (.reg k_law02_laws_r2 false) (.seq (.reg k_law02_laws_r3 false) (.seq (.reg k_law02_laws_r4 false) (.seq (.reg k_law02_laws_r5 false) (.seq (.seq (.reg k_law02_laws_r6 false) (.cond (.tmp 70) (.seq (.reg k_law02_laws_r7 false) .ret) .skip)) (.seq (.reg k_law02_laws_r8 false) (.seq (.reg k_law02_laws_r9 false) (.seq (.reg k_law02_laws_r10 false) (.seq (.reg k_law02_laws_r11 false) (.seq (.seq (.reg k_law02_laws_r12 false) (.cond (.tmp 112) (.seq (.reg k_law02_laws_r13 false) .ret) .skip)) (.seq (.reg k_law02_laws_r14 false) (.seq (.reg k_law02_laws_r15 false) (.seq (.reg k_law02_laws_r16 false) (.seq (.reg k_law02_laws_r17 false) (.seq (.reg k_law02_laws_r18 false) .ret))))))))))))))))), res := [.tmp 0] }
theorem k_law02_laws_ok : cfun Tryd.prog Tryd.f13 = k_law02_laws := by kernel_rfl

def k_curve_Slope_r0 : List AOper := [
  ⟨some 3, .box (.tmp 0), none, []⟩,
 ⟨some 6, .box (.const (.agg [.int .i64 0, .int .i64 0])), none, []⟩,
 ⟨some 7, .move (.const (.int .i64 0)), none, []⟩]
def k_curve_Slope_r1 : List AOper := [
  ⟨some 9, .load (some (4)) (.tmp 3), none, []⟩,
 ⟨some 10, .call (.const (.fn (.func 26) [] [])) [.tmp 9], none, []⟩,
 ⟨some 8, .move (.tmp 10), none, []⟩]
def k_curve_Slope_r2 : List AOper := [
  ⟨some 11, .move (.tmp 8), none, []⟩,
 ⟨some 12, .bin .plain .neq (.tmp 11) (.const (.int .i64 0)), none, []⟩]
def k_curve_Slope_r3 : List AOper := [
  ⟨some 13, .build [.int .i64 0, .int .i64 0] [], none, []⟩,
 ⟨some 14, .move (.tmp 8), none, []⟩,
 ⟨none, .store 2 (.tmp 6) (.tmp 13), none, []⟩,
 ⟨some 7, .move (.tmp 14), none, []⟩]
def k_curve_Slope_r4 : List AOper := [
  ⟨some 15, .fieldAddr 0 (.tmp 3), none, []⟩,
 ⟨some 16, .load none (.tmp 15), none, []⟩,
 ⟨some 17, .move (.tmp 1), none, []⟩,
 ⟨some 18, .call (.const (.fn (.func 52) [] [])) [.tmp 16, .tmp 17], none, []⟩,
 ⟨some 19, .not (.tmp 18), none, []⟩]
def k_curve_Slope_r5 : List AOper := [
  ⟨some 20, .build [.int .i64 0, .int .i64 0] [], none, []⟩,
 ⟨none, .store 2 (.tmp 6) (.tmp 20), none, []⟩,
 ⟨some 7, .move (.const (.int .i64 7)), none, []⟩]
def k_curve_Slope_r6 : List AOper := [
  ⟨some 21, .move (.tmp 2), none, []⟩,
 ⟨some 22, .call (.const (.fn (.func 48) [] [])) [.tmp 21], none, []⟩,
 ⟨some 23, .not (.tmp 22), none, []⟩]
def k_curve_Slope_r7 : List AOper := [
  ⟨some 24, .build [.int .i64 0, .int .i64 0] [], none, []⟩,
 ⟨none, .store 2 (.tmp 6) (.tmp 24), none, []⟩,
 ⟨some 7, .move (.const (.int .i64 2)), none, []⟩]
def k_curve_Slope_r8 : List AOper := [
  ⟨some 25, .load (some (4)) (.tmp 3), none, []⟩,
 ⟨some 26, .move (.tmp 1), none, []⟩,
 ⟨some 27, .move (.tmp 2), none, []⟩,
 ⟨some 28, .call (.const (.fn (.func 53) [] [])) [.tmp 25, .tmp 26, .tmp 27], none, []⟩,
 ⟨none, .store 2 (.tmp 6) (.tmp 28), none, []⟩,
 ⟨some 7, .move (.const (.int .i64 0)), none, []⟩]
def k_curve_Slope : AFun := { params := 3, ntmps := 29, body := (.seq (.reg k_curve_Slope_r0 false) (.seq (.seq (.reg k_curve_Slope_r1 false) (.seq (.reg k_curve_Slope_r2 false) (.cond (.tmp 12) (.seq (.reg k_curve_Slope_r3 false) .ret) .skip))) (.seq (.seq (.reg k_curve_Slope_r4 false) (.cond (.tmp 19) (.seq (.reg k_curve_Slope_r5 false) .ret) .skip)) (.seq (.seq (.reg k_curve_Slope_r6 false) (.cond (.tmp 23) (.seq (.reg k_curve_Slope_r7 false) .ret) .skip)) (.seq (.reg k_curve_Slope_r8 false) .ret))))), res := [.cell 6 (some ((some (2)))), .tmp 7] }
theorem k_curve_Slope_ok : cfun Tryd.prog Tryd.f16 = k_curve_Slope := by kernel_rfl

def k_curve_Yield_r0 : List AOper := [
  ⟨some 3, .box (.tmp 0), none, []⟩,
 ⟨some 6, .box (.const (.agg [.int .i64 0, .int .i64 0])), none, []⟩,
 ⟨some 7, .move (.const (.int .i64 0)), none, []⟩]
def k_curve_Yield_r1 : List AOper := [
  ⟨some 9, .load (some (4)) (.tmp 3), none, []⟩,
 ⟨some 10, .call (.const (.fn (.func 26) [] [])) [.tmp 9], none, []⟩,
 ⟨some 8, .move (.tmp 10), none, []⟩]
def k_curve_Yield_r2 : List AOper := [
  ⟨some 11, .move (.tmp 8), none, []⟩,
 ⟨some 12, .bin .plain .neq (.tmp 11) (.const (.int .i64 0)), none, []⟩]
def k_curve_Yield_r3 : List AOper := [
  ⟨some 13, .build [.int .i64 0, .int .i64 0] [], none, []⟩,
 ⟨some 14, .move (.tmp 8), none, []⟩,
 ⟨none, .store 2 (.tmp 6) (.tmp 13), none, []⟩,
 ⟨some 7, .move (.tmp 14), none, []⟩]
def k_curve_Yield_r4 : List AOper := [
  ⟨some 15, .move (.tmp 1), none, []⟩,
 ⟨some 16, .call (.const (.fn (.func 47) [] [])) [.tmp 15], none, []⟩,
 ⟨some 17, .not (.tmp 16), none, []⟩]
def k_curve_Yield_r5 : List AOper := [
  ⟨some 18, .build [.int .i64 0, .int .i64 0] [], none, []⟩,
 ⟨none, .store 2 (.tmp 6) (.tmp 18), none, []⟩,
 ⟨some 7, .move (.const (.int .i64 2)), none, []⟩]
def k_curve_Yield_r6 : List AOper := [
  ⟨some 19, .fieldAddr 1 (.tmp 3), none, []⟩,
 ⟨some 20, .load none (.tmp 19), none, []⟩,
 ⟨some 21, .move (.tmp 2), none, []⟩,
 ⟨some 22, .call (.const (.fn (.func 52) [] [])) [.tmp 20, .tmp 21], none, []⟩,
 ⟨some 23, .not (.tmp 22), none, []⟩]
def k_curve_Yield_r7 : List AOper := [
  ⟨some 24, .build [.int .i64 0, .int .i64 0] [], none, []⟩,
 ⟨none, .store 2 (.tmp 6) (.tmp 24), none, []⟩,
 ⟨some 7, .move (.const (.int .i64 7)), none, []⟩]
def k_curve_Yield_r8 : List AOper := [
  ⟨some 25, .load (some (4)) (.tmp 3), none, []⟩,
 ⟨some 26, .move (.tmp 1), none, []⟩,
 ⟨some 27, .move (.tmp 2), none, []⟩,
 ⟨some 28, .call (.const (.fn (.func 54) [] [])) [.tmp 25, .tmp 26, .tmp 27], none, []⟩,
 ⟨none, .store 2 (.tmp 6) (.tmp 28), none, []⟩,
 ⟨some 7, .move (.const (.int .i64 0)), none, []⟩]
def k_curve_Yield : AFun := { params := 3, ntmps := 29, body := (.seq (.reg k_curve_Yield_r0 false) (.seq (.seq (.reg k_curve_Yield_r1 false) (.seq (.reg k_curve_Yield_r2 false) (.cond (.tmp 12) (.seq (.reg k_curve_Yield_r3 false) .ret) .skip))) (.seq (.seq (.reg k_curve_Yield_r4 false) (.cond (.tmp 17) (.seq (.reg k_curve_Yield_r5 false) .ret) .skip)) (.seq (.seq (.reg k_curve_Yield_r6 false) (.cond (.tmp 23) (.seq (.reg k_curve_Yield_r7 false) .ret) .skip)) (.seq (.reg k_curve_Yield_r8 false) .ret))))), res := [.cell 6 (some ((some (2)))), .tmp 7] }
theorem k_curve_Yield_ok : cfun Tryd.prog Tryd.f17 = k_curve_Yield := by kernel_rfl

def k_curve_Gain_r0 : List AOper := [
  ⟨some 3, .box (.tmp 0), none, []⟩,
 ⟨some 6, .box (.const (.agg [.int .i64 0, .int .i64 0])), none, []⟩,
 ⟨some 7, .move (.const (.int .i64 0)), none, []⟩]
def k_curve_Gain_r1 : List AOper := [
  ⟨some 11, .load (some (4)) (.tmp 3), none, []⟩,
 ⟨some 12, .call (.const (.fn (.func 26) [] [])) [.tmp 11], none, []⟩,
 ⟨some 8, .move (.tmp 12), none, []⟩]
def k_curve_Gain_r2 : List AOper := [
  ⟨some 13, .move (.tmp 8), none, []⟩,
 ⟨some 14, .bin .plain .neq (.tmp 13) (.const (.int .i64 0)), none, []⟩]
def k_curve_Gain_r3 : List AOper := [
  ⟨some 15, .build [.int .i64 0, .int .i64 0] [], none, []⟩,
 ⟨some 16, .move (.tmp 8), none, []⟩,
 ⟨none, .store 2 (.tmp 6) (.tmp 15), none, []⟩,
 ⟨some 7, .move (.tmp 16), none, []⟩]
def k_curve_Gain_r4 : List AOper := [
  ⟨some 17, .fieldAddr 0 (.tmp 3), none, []⟩,
 ⟨some 18, .load none (.tmp 17), none, []⟩,
 ⟨some 19, .move (.tmp 1), none, []⟩,
 ⟨some 20, .call (.const (.fn (.func 52) [] [])) [.tmp 18, .tmp 19], none, []⟩,
 ⟨some 21, .not (.tmp 20), none, []⟩,
 ⟨some 22, .move (.tmp 21), none, []⟩,
 ⟨some 23, .fieldAddr 1 (.tmp 3), (some (22, false)), []⟩,
 ⟨some 24, .load none (.tmp 23), (some (22, false)), []⟩,
 ⟨some 25, .move (.tmp 2), (some (22, false)), []⟩,
 ⟨some 26, .call (.const (.fn (.func 52) [] [])) [.tmp 24, .tmp 25], (some (22, false)), []⟩,
 ⟨some 27, .not (.tmp 26), (some (22, false)), []⟩,
 ⟨some 28, .pick (.tmp 22) (.const (.bool true)) (.tmp 27), none, []⟩]
def k_curve_Gain_r5 : List AOper := [
  ⟨some 29, .build [.int .i64 0, .int .i64 0] [], none, []⟩,
 ⟨none, .store 2 (.tmp 6) (.tmp 29), none, []⟩,
 ⟨some 7, .move (.const (.int .i64 7)), none, []⟩]
def k_curve_Gain_r6 : List AOper := [
  ⟨some 30, .load (some (4)) (.tmp 3), none, []⟩,
 ⟨some 31, .move (.tmp 1), none, [0]⟩,
 ⟨some 32, .fieldAddr 1 (.tmp 3), none, [0, 1]⟩,
 ⟨some 33, .load none (.tmp 32), none, [0, 1]⟩,
 ⟨some 34, .move (.tmp 2), none, [0, 1, 2, 3]⟩,
 ⟨some 35, .indexAddr 1 (.tmp 33) (.tmp 34), none, [0, 1]⟩,
 ⟨some 36, .load none (.tmp 35), none, [0, 1]⟩,
 ⟨some 37, .call (.const (.fn (.func 53) [] [])) [.tmp 30, .tmp 31, .tmp 36], none, []⟩,
 ⟨some 38, .load (some (4)) (.tmp 3), none, [0, 1, 2, 3, 4, 5, 6, 7]⟩,
 ⟨some 39, .move (.tmp 1), none, [0, 1, 2, 3, 4, 5, 6, 7, 8]⟩,
 ⟨some 40, .fieldAddr 1 (.tmp 3), none, [0, 1, 2, 3, 4, 5, 6, 7, 8, 9]⟩,
 ⟨some 41, .load none (.tmp 40), none, [0, 1, 2, 3, 4, 5, 6, 7, 8, 9]⟩,
 ⟨some 42, .move (.tmp 2), none, [0, 1, 2, 3, 4, 5, 6, 7, 8, 9, 10, 11]⟩,
 ⟨some 43, .bin .plain .add (.tmp 42) (.const (.int .i64 1)), none, [0, 1, 2, 3, 4, 5, 6, 7, 8, 9, 10, 11]⟩,
 ⟨some 44, .indexAddr 1 (.tmp 41) (.tmp 43), none, [0, 1, 2, 3, 4, 5, 6, 7, 8, 9]⟩,
 ⟨some 45, .load none (.tmp 44), none, [0, 1, 2, 3, 4, 5, 6, 7, 8, 9]⟩,
 ⟨some 46, .call (.const (.fn (.func 53) [] [])) [.tmp 38, .tmp 39, .tmp 45], none, []⟩,
 ⟨some 47, .call (.const (.fn (.func 55) [] [])) [.tmp 37, .tmp 46], none, []⟩,
 ⟨some 9, .box (.const (.agg [.int .i64 0, .int .i64 0])), none, [0, 1, 2, 3, 4, 5, 6, 7, 8, 9, 10, 11, 12, 13, 14, 15, 16, 17]⟩,
 ⟨none, .store 2 (.tmp 9) (.tmp 47), none, []⟩]
def k_curve_Gain_r6s : List (List AOper) := [
  [
  ⟨some 30, .load (some (4)) (.tmp 3), none, []⟩,
 ⟨some 31, .move (.tmp 1), none, [0]⟩,
 ⟨some 32, .fieldAddr 1 (.tmp 3), none, [0, 1]⟩,
 ⟨some 33, .load none (.tmp 32), none, [0, 1]⟩,
 ⟨some 34, .move (.tmp 2), none, [0, 1, 2, 3]⟩,
 ⟨some 35, .indexAddr 1 (.tmp 33) (.tmp 34), none, [0, 1]⟩,
 ⟨some 36, .load none (.tmp 35), none, [0, 1]⟩,
 ⟨some 37, .call (.const (.fn (.func 53) [] [])) [.tmp 30, .tmp 31, .tmp 36], none, []⟩,
 ⟨some 38, .load (some (4)) (.tmp 3), none, [0, 1, 2, 3, 4, 5, 6, 7]⟩,
 ⟨some 39, .move (.tmp 1), none, [0, 1, 2, 3, 4, 5, 6, 7, 8]⟩,
 ⟨some 40, .fieldAddr 1 (.tmp 3), none, [0, 1, 2, 3, 4, 5, 6, 7, 8, 9]⟩,
 ⟨some 41, .load none (.tmp 40), none, [0, 1, 2, 3, 4, 5, 6, 7, 8, 9]⟩,
 ⟨some 42, .move (.tmp 2), none, [0, 1, 2, 3, 4, 5, 6, 7, 8, 9, 10, 11]⟩,
 ⟨some 43, .bin .plain .add (.tmp 42) (.const (.int .i64 1)), none, [0, 1, 2, 3, 4, 5, 6, 7, 8, 9, 10, 11]⟩,
 ⟨some 44, .indexAddr 1 (.tmp 41) (.tmp 43), none, [0, 1, 2, 3, 4, 5, 6, 7, 8, 9]⟩,
 ⟨some 45, .load none (.tmp 44), none, [0, 1, 2, 3, 4, 5, 6, 7, 8, 9]⟩,
 ⟨some 46, .call (.const (.fn (.func 53) [] [])) [.tmp 38, .tmp 39, .tmp 45], none, []⟩,
 ⟨some 47, .call (.const (.fn (.func 55) [] [])) [.tmp 37, .tmp 46], none, []⟩,
 ⟨some 9, .box (.const (.agg [.int .i64 0, .int .i64 0])), none, [0, 1, 2, 3, 4, 5, 6, 7, 8, 9, 10, 11, 12, 13, 14, 15, 16, 17]⟩], 
  [
  ⟨none, .store 2 (.tmp 9) (.tmp 47), none, []⟩]]
theorem k_curve_Gain_r6_sg : segs k_curve_Gain_r6 = k_curve_Gain_r6s := by kernel_rfl
theorem k_curve_Gain_r6_st : statOK k_curve_Gain_r6 = true := by kernel_rfl
def k_curve_Gain_r7 : List AOper := [
  ⟨some 48, .load (some (4)) (.tmp 3), none, []⟩,
 ⟨some 49, .fieldAddr 0 (.tmp 3), none, [0]⟩,
 ⟨some 50, .load none (.tmp 49), none, [0]⟩,
 ⟨some 51, .move (.tmp 1), none, [0, 1, 2]⟩,
 ⟨some 52, .indexAddr 1 (.tmp 50) (.tmp 51), none, [0]⟩,
 ⟨some 53, .load none (.tmp 52), none, [0]⟩,
 ⟨some 54, .move (.tmp 2), none, [0, 1, 2, 3, 4, 5]⟩,
 ⟨some 55, .call (.const (.fn (.func 54) [] [])) [.tmp 48, .tmp 53, .tmp 54], none, []⟩,
 ⟨some 56, .load (some (4)) (.tmp 3), none, [0, 1, 2, 3, 4, 5, 6, 7]⟩,
 ⟨some 57, .fieldAddr 0 (.tmp 3), none, [0, 1, 2, 3, 4, 5, 6, 7, 8]⟩,
 ⟨some 58, .load none (.tmp 57), none, [0, 1, 2, 3, 4, 5, 6, 7, 8]⟩,
 ⟨some 59, .move (.tmp 1), none, [0, 1, 2, 3, 4, 5, 6, 7, 8, 9, 10]⟩,
 ⟨some 60, .bin .plain .add (.tmp 59) (.const (.int .i64 1)), none, [0, 1, 2, 3, 4, 5, 6, 7, 8, 9, 10]⟩,
 ⟨some 61, .indexAddr 1 (.tmp 58) (.tmp 60), none, [0, 1, 2, 3, 4, 5, 6, 7, 8]⟩,
 ⟨some 62, .load none (.tmp 61), none, [0, 1, 2, 3, 4, 5, 6, 7, 8]⟩,
 ⟨some 63, .move (.tmp 2), none, [0, 1, 2, 3, 4, 5, 6, 7, 8, 9, 10, 11, 12, 13, 14]⟩,
 ⟨some 64, .call (.const (.fn (.func 54) [] [])) [.tmp 56, .tmp 62, .tmp 63], none, []⟩,
 ⟨some 65, .call (.const (.fn (.func 55) [] [])) [.tmp 55, .tmp 64], none, []⟩,
 ⟨some 10, .box (.const (.agg [.int .i64 0, .int .i64 0])), none, [0, 1, 2, 3, 4, 5, 6, 7, 8, 9, 10, 11, 12, 13, 14, 15, 16, 17]⟩,
 ⟨none, .store 2 (.tmp 10) (.tmp 65), none, []⟩]
def k_curve_Gain_r7s : List (List AOper) := [
  [
  ⟨some 48, .load (some (4)) (.tmp 3), none, []⟩,
 ⟨some 49, .fieldAddr 0 (.tmp 3), none, [0]⟩,
 ⟨some 50, .load none (.tmp 49), none, [0]⟩,
 ⟨some 51, .move (.tmp 1), none, [0, 1, 2]⟩,
 ⟨some 52, .indexAddr 1 (.tmp 50) (.tmp 51), none, [0]⟩,
 ⟨some 53, .load none (.tmp 52), none, [0]⟩,
 ⟨some 54, .move (.tmp 2), none, [0, 1, 2, 3, 4, 5]⟩,
 ⟨some 55, .call (.const (.fn (.func 54) [] [])) [.tmp 48, .tmp 53, .tmp 54], none, []⟩,
 ⟨some 56, .load (some (4)) (.tmp 3), none, [0, 1, 2, 3, 4, 5, 6, 7]⟩,
 ⟨some 57, .fieldAddr 0 (.tmp 3), none, [0, 1, 2, 3, 4, 5, 6, 7, 8]⟩,
 ⟨some 58, .load none (.tmp 57), none, [0, 1, 2, 3, 4, 5, 6, 7, 8]⟩,
 ⟨some 59, .move (.tmp 1), none, [0, 1, 2, 3, 4, 5, 6, 7, 8, 9, 10]⟩,
 ⟨some 60, .bin .plain .add (.tmp 59) (.const (.int .i64 1)), none, [0, 1, 2, 3, 4, 5, 6, 7, 8, 9, 10]⟩,
 ⟨some 61, .indexAddr 1 (.tmp 58) (.tmp 60), none, [0, 1, 2, 3, 4, 5, 6, 7, 8]⟩,
 ⟨some 62, .load none (.tmp 61), none, [0, 1, 2, 3, 4, 5, 6, 7, 8]⟩,
 ⟨some 63, .move (.tmp 2), none, [0, 1, 2, 3, 4, 5, 6, 7, 8, 9, 10, 11, 12, 13, 14]⟩,
 ⟨some 64, .call (.const (.fn (.func 54) [] [])) [.tmp 56, .tmp 62, .tmp 63], none, []⟩,
 ⟨some 65, .call (.const (.fn (.func 55) [] [])) [.tmp 55, .tmp 64], none, []⟩,
 ⟨some 10, .box (.const (.agg [.int .i64 0, .int .i64 0])), none, [0, 1, 2, 3, 4, 5, 6, 7, 8, 9, 10, 11, 12, 13, 14, 15, 16, 17]⟩], 
  [
  ⟨none, .store 2 (.tmp 10) (.tmp 65), none, []⟩]]
theorem k_curve_Gain_r7_sg : segs k_curve_Gain_r7 = k_curve_Gain_r7s := by kernel_rfl
theorem k_curve_Gain_r7_st : statOK k_curve_Gain_r7 = true := by kernel_rfl
def k_curve_Gain_r8 : List AOper := [
  ⟨some 66, .fieldAddr 0 (.tmp 10), none, []⟩,
 ⟨some 67, .load none (.tmp 66), none, []⟩,
 ⟨some 68, .bin .plain .eql (.tmp 67) (.const (.int .i64 0)), none, []⟩]
def k_curve_Gain_r9 : List AOper := [
  ⟨some 69, .build [.int .i64 0, .int .i64 0] [], none, []⟩,
 ⟨none, .store 2 (.tmp 6) (.tmp 69), none, []⟩,
 ⟨some 7, .move (.const (.int .i64 15)), none, []⟩]
def k_curve_Gain_r10 : List AOper := [
  ⟨some 70, .fieldAddr 0 (.tmp 9), none, []⟩,
 ⟨some 71, .load none (.tmp 70), none, []⟩,
 ⟨some 72, .bin .plain .mul (.const (.int .i64 1000000)) (.tmp 71), none, []⟩,
 ⟨some 73, .fieldAddr 1 (.tmp 10), none, [0, 1, 2]⟩,
 ⟨some 74, .load none (.tmp 73), none, [0, 1, 2]⟩,
 ⟨some 75, .bin .plain .quo (.tmp 72) (.tmp 74), none, []⟩,
 ⟨some 76, .fieldAddr 1 (.tmp 9), none, [0, 1, 2, 3, 4, 5]⟩,
 ⟨some 77, .load none (.tmp 76), none, [0, 1, 2, 3, 4, 5]⟩,
 ⟨some 78, .bin .plain .mul (.const (.int .i64 1000000)) (.tmp 77), none, [0, 1, 2, 3, 4, 5]⟩,
 ⟨some 79, .fieldAddr 0 (.tmp 10), none, [0, 1, 2, 3, 4, 5, 6, 7, 8]⟩,
 ⟨some 80, .load none (.tmp 79), none, [0, 1, 2, 3, 4, 5, 6, 7, 8]⟩,
 ⟨some 81, .call (.const (.fn (.func 51) [] [])) [.tmp 78, .tmp 80], none, [0, 1, 2, 3, 4, 5]⟩,
 ⟨some 82, .build [.int .i64 0, .int .i64 0] [(0, 1, .tmp 75), (1, 1, .tmp 81)], none, []⟩,
 ⟨none, .store 2 (.tmp 6) (.tmp 82), none, []⟩,
 ⟨some 7, .move (.const (.int .i64 0)), none, []⟩]
def k_curve_Gain_r10s : List (List AOper) := [
  [
  ⟨some 70, .fieldAddr 0 (.tmp 9), none, []⟩,
 ⟨some 71, .load none (.tmp 70), none, []⟩,
 ⟨some 72, .bin .plain .mul (.const (.int .i64 1000000)) (.tmp 71), none, []⟩,
 ⟨some 73, .fieldAddr 1 (.tmp 10), none, [0, 1, 2]⟩,
 ⟨some 74, .load none (.tmp 73), none, [0, 1, 2]⟩,
 ⟨some 75, .bin .plain .quo (.tmp 72) (.tmp 74), none, []⟩,
 ⟨some 76, .fieldAddr 1 (.tmp 9), none, [0, 1, 2, 3, 4, 5]⟩,
 ⟨some 77, .load none (.tmp 76), none, [0, 1, 2, 3, 4, 5]⟩,
 ⟨some 78, .bin .plain .mul (.const (.int .i64 1000000)) (.tmp 77), none, [0, 1, 2, 3, 4, 5]⟩,
 ⟨some 79, .fieldAddr 0 (.tmp 10), none, [0, 1, 2, 3, 4, 5, 6, 7, 8]⟩,
 ⟨some 80, .load none (.tmp 79), none, [0, 1, 2, 3, 4, 5, 6, 7, 8]⟩,
 ⟨some 81, .call (.const (.fn (.func 51) [] [])) [.tmp 78, .tmp 80], none, [0, 1, 2, 3, 4, 5]⟩], 
  [
  ⟨some 82, .build [.int .i64 0, .int .i64 0] [(0, 1, .tmp 75), (1, 1, .tmp 81)], none, []⟩], 
  [
  ⟨none, .store 2 (.tmp 6) (.tmp 82), none, []⟩], 
  [
  ⟨some 7, .move (.const (.int .i64 0)), none, []⟩]]
theorem k_curve_Gain_r10_sg : segs k_curve_Gain_r10 = k_curve_Gain_r10s := by kernel_rfl
theorem k_curve_Gain_r10_st : statOK k_curve_Gain_r10 = true := by kernel_rfl
def k_curve_Gain : AFun := { params := 3, ntmps := 83, body := (.seq (.reg k_curve_Gain_r0 false) (.seq (.seq (.reg k_curve_Gain_r1 false) (.seq (.reg k_curve_Gain_r2 false) (.cond (.tmp 14) (.seq (.reg k_curve_Gain_r3 false) .ret) .skip))) (.seq (.seq (.reg k_curve_Gain_r4 false) (.cond (.tmp 28) (.seq (.reg k_curve_Gain_r5 false) .ret) .skip)) (.seq (.reg k_curve_Gain_r6 true) (.seq (.reg k_curve_Gain_r7 true) (.seq (.seq (.reg k_curve_Gain_r8 false) (.cond (.tmp 68) (.seq (.reg k_curve_Gain_r9 false) .ret) .skip)) (.seq (.reg k_curve_Gain_r10 true) .ret))))))), res := [.cell 6 (some ((some (2)))), .tmp 7] }
theorem k_curve_Gain_ok : cfun Tryd.prog Tryd.f18 = k_curve_Gain := by kernel_rfl

def k_law02_is_r0 : List AOper := [
  ⟨some 4, .box (.tmp 0), none, []⟩,
 ⟨some 8, .move (.const (.bool false)), none, []⟩]
def k_law02_is_r1 : List AOper := [
  ⟨some 9, .move (.tmp 1), none, []⟩,
 ⟨some 10, .bin .plain .eql (.tmp 9) (.const (.int .i64 0)), none, []⟩,
 ⟨some 11, .move (.tmp 10), none, []⟩,
 ⟨some 12, .load (some (2)) (.tmp 4), (some (11, true)), []⟩,
 ⟨some 13, .move (.tmp 2), (some (11, true)), []⟩,
 ⟨some 14, .move (.tmp 3), (some (11, true)), []⟩,
 ⟨some 15, .build [.int .i64 0, .int .i64 0] [(0, 1, .tmp 13), (1, 1, .tmp 14)], (some (11, true)), []⟩,
 ⟨some 16, .eqAgg false [.int, .int] (.tmp 12) (.tmp 15), (some (11, true)), []⟩,
 ⟨some 17, .pick (.tmp 11) (.tmp 16) (.const (.bool false)), none, []⟩,
 ⟨some 8, .move (.tmp 17), none, []⟩]
def k_law02_is : AFun := { params := 4, ntmps := 18, body := (.seq (.reg k_law02_is_r0 false) (.seq (.reg k_law02_is_r1 false) .ret)), res := [.tmp 8] }
theorem k_law02_is_ok : cfun Tryd.prog Tryd.f19 = k_law02_is := by kernel_rfl

def k_curve_Text_r0 : List AOper := [
  ⟨some 1, .box (.tmp 0), none, []⟩,
 ⟨some 2, .move (.const (.str [])), none, []⟩,
 ⟨some 3, .move (.const (.int .i64 0)), none, []⟩]
def k_curve_Text_r1 : List AOper := [
  ⟨some 7, .load (some (4)) (.tmp 1), none, []⟩,
 ⟨some 8, .call (.const (.fn (.func 26) [] [])) [.tmp 7], none, []⟩,
 ⟨some 4, .move (.tmp 8), none, []⟩]
def k_curve_Text_r2 : List AOper := [
  ⟨some 9, .move (.tmp 4), none, []⟩,
 ⟨some 10, .bin .plain .neq (.tmp 9) (.const (.int .i64 0)), none, []⟩]
def k_curve_Text_r3 : List AOper := [
  ⟨some 11, .move (.tmp 4), none, []⟩,
 ⟨some 2, .move (.const (.str [])), none, []⟩,
 ⟨some 3, .move (.tmp 11), none, []⟩]
def k_curve_Text_r4 : List AOper := [
  ⟨some 12, .fieldAddr 0 (.tmp 1), none, []⟩,
 ⟨some 13, .load none (.tmp 12), none, []⟩,
 ⟨some 14, .len false (.tmp 13), none, []⟩,
 ⟨some 15, .fieldAddr 1 (.tmp 1), none, []⟩,
 ⟨some 16, .load none (.tmp 15), none, []⟩,
 ⟨some 17, .len false (.tmp 16), none, []⟩,
 ⟨some 18, .buildSlice 1 [.tmp 14, .tmp 17], none, []⟩,
 ⟨some 19, .call (.const (.fn (.func 56) [] [])) [.const (.nilsl), .const (.str [99, 117, 114, 118, 101, 115]), .tmp 18], none, []⟩,
 ⟨some 5, .move (.tmp 19), none, []⟩]
def k_curve_Text_r5 : List AOper := [
  ⟨some 20, .move (.tmp 5), none, []⟩,
 ⟨some 21, .fieldAddr 0 (.tmp 1), none, []⟩,
 ⟨some 22, .load none (.tmp 21), none, []⟩,
 ⟨some 23, .call (.const (.fn (.func 56) [] [])) [.tmp 20, .const (.str [103, 114, 105, 100]), .tmp 22], none, []⟩,
 ⟨some 5, .move (.tmp 23), none, []⟩]
def k_curve_Text_r6 : List AOper := [
  ⟨some 24, .move (.tmp 5), none, []⟩,
 ⟨some 25, .fieldAddr 1 (.tmp 1), none, []⟩,
 ⟨some 26, .load none (.tmp 25), none, []⟩,
 ⟨some 27, .call (.const (.fn (.func 56) [] [])) [.tmp 24, .const (.str [112, 108, 97, 116, 101]), .tmp 26], none, []⟩,
 ⟨some 5, .move (.tmp 27), none, []⟩]
def k_curve_Text_r7 : List AOper := [
  ⟨some 28, .fieldAddr 0 (.tmp 1), none, []⟩,
 ⟨some 29, .load none (.tmp 28), none, []⟩,
 ⟨some 30, .len false (.tmp 29), none, []⟩,
 ⟨some 31, .move (.const (.int .i64 0)), none, []⟩]
def k_curve_Text_r8 : List AOper := [
  ⟨some 32, .bin .plain .lss (.tmp 31) (.tmp 30), none, []⟩]
def k_curve_Text_r9 : List AOper := [
  ⟨some 33, .move (.tmp 31), none, []⟩,
 ⟨some 6, .move (.tmp 33), none, []⟩]
def k_curve_Text_r10 : List AOper := [
  ⟨some 34, .move (.tmp 5), none, []⟩,
 ⟨some 35, .fieldAddr 2 (.tmp 1), none, []⟩,
 ⟨some 36, .load none (.tmp 35), none, []⟩,
 ⟨some 37, .move (.tmp 6), none, []⟩,
 ⟨some 38, .indexAddr 1 (.tmp 36) (.tmp 37), none, []⟩,
 ⟨some 39, .load none (.tmp 38), none, []⟩,
 ⟨some 40, .call (.const (.fn (.func 56) [] [])) [.tmp 34, .const (.str [108, 111, 119]), .tmp 39], none, []⟩,
 ⟨some 5, .move (.tmp 40), none, []⟩]
def k_curve_Text_r11 : List AOper := [
  ⟨some 41, .move (.tmp 5), none, []⟩,
 ⟨some 42, .fieldAddr 3 (.tmp 1), none, []⟩,
 ⟨some 43, .load none (.tmp 42), none, []⟩,
 ⟨some 44, .move (.tmp 6), none, []⟩,
 ⟨some 45, .indexAddr 1 (.tmp 43) (.tmp 44), none, []⟩,
 ⟨some 46, .load none (.tmp 45), none, []⟩,
 ⟨some 47, .call (.const (.fn (.func 56) [] [])) [.tmp 41, .const (.str [104, 105, 103, 104]), .tmp 46], none, []⟩,
 ⟨some 5, .move (.tmp 47), none, []⟩]
def k_curve_Text_r12 : List AOper := [
  ⟨some 48, .bin .plain .add (.tmp 31) (.const (.int .i64 1)), none, []⟩,
 ⟨some 31, .move (.tmp 48), none, []⟩]
def k_curve_Text_r13 : ACode := (.seq (.reg k_curve_Text_r8 false) (.seq (.cond (.tmp 32) .skip (.exit 0)) (.seq (.block 1 (.seq (.reg k_curve_Text_r9 false) (.seq (.reg k_curve_Text_r10 false) (.reg k_curve_Text_r11 false)))) (.reg k_curve_Text_r12 false))))
def k_curve_Text_r14 : List AOper := [
  ⟨some 49, .move (.tmp 5), none, []⟩,
 ⟨some 50, .bytesToStr (.tmp 49), none, []⟩,
 ⟨some 2, .move (.tmp 50), none, []⟩,
 ⟨some 3, .move (.const (.int .i64 0)), none, []⟩]
def k_curve_Text : AFun := { params := 1, ntmps := 51, body := (.seq (.reg k_curve_Text_r0 false) (.seq (.seq (.reg k_curve_Text_r1 false) (.seq (.reg k_curve_Text_r2 false) (.cond (.tmp 10) (.seq (.reg k_curve_Text_r3 false) .ret) .skip))) (.seq (.reg k_curve_Text_r4 false) (.seq (.reg k_curve_Text_r5 false) (.seq (.reg k_curve_Text_r6 false) (.seq (.seq (.reg k_curve_Text_r7 false) (.block 0 (.loop k_curve_Text_r13))) (.seq (.reg k_curve_Text_r14 false) .ret))))))), res := [.tmp 2, .tmp 3] }
theorem k_curve_Text_ok : cfun Tryd.prog Tryd.f20 = k_curve_Text := by kernel_rfl

def k_curve_Inside_r0 : List AOper := [
  ⟨some 2, .box (.tmp 0), none, []⟩,
 ⟨some 3, .box (.tmp 1), none, []⟩,
 ⟨some 4, .move (.const (.bool false)), none, []⟩]
def k_curve_Inside_r1 : List AOper := [
  ⟨some 9, .load (some (4)) (.tmp 2), none, []⟩,
 ⟨some 10, .call (.const (.fn (.func 26) [] [])) [.tmp 9], none, []⟩,
 ⟨some 11, .bin .plain .neq (.tmp 10) (.const (.int .i64 0)), none, []⟩,
 ⟨some 12, .move (.tmp 11), none, []⟩,
 ⟨some 13, .load (some (4)) (.tmp 3), (some (12, false)), []⟩,
 ⟨some 14, .call (.const (.fn (.func 26) [] [])) [.tmp 13], (some (12, false)), []⟩,
 ⟨some 15, .bin .plain .neq (.tmp 14) (.const (.int .i64 0)), (some (12, false)), []⟩,
 ⟨some 16, .pick (.tmp 12) (.const (.bool true)) (.tmp 15), none, []⟩]
def k_curve_Inside_r2 : List AOper := [
  ⟨some 4, .move (.const (.bool false)), none, []⟩]
def k_curve_Inside_r3 : List AOper := [
  ⟨some 17, .fieldAddr 0 (.tmp 2), none, []⟩,
 ⟨some 18, .load none (.tmp 17), none, []⟩,
 ⟨some 19, .fieldAddr 0 (.tmp 3), none, []⟩,
 ⟨some 20, .load none (.tmp 19), none, []⟩,
 ⟨some 21, .buildSlice 1 [.tmp 18, .tmp 20], none, []⟩,
 ⟨some 22, .call (.const (.fn (.func 57) [] [])) [.tmp 21], none, []⟩,
 ⟨some 23, .len false (.tmp 22), none, []⟩,
 ⟨some 24, .move (.const (.int .i64 0)), none, []⟩]
def k_curve_Inside_r4 : List AOper := [
  ⟨some 25, .bin .plain .lss (.tmp 24) (.tmp 23), none, []⟩]
def k_curve_Inside_r5 : List AOper := [
  ⟨some 26, .indexAddr 1 (.tmp 22) (.tmp 24), none, []⟩,
 ⟨some 27, .load none (.tmp 26), none, []⟩,
 ⟨some 6, .move (.tmp 27), none, []⟩]
def k_curve_Inside_r6 : List AOper := [
  ⟨some 28, .fieldAddr 1 (.tmp 2), none, []⟩,
 ⟨some 29, .load none (.tmp 28), none, []⟩,
 ⟨some 30, .fieldAddr 1 (.tmp 3), none, []⟩,
 ⟨some 31, .load none (.tmp 30), none, []⟩,
 ⟨some 32, .buildSlice 1 [.tmp 29, .tmp 31], none, []⟩,
 ⟨some 33, .call (.const (.fn (.func 57) [] [])) [.tmp 32], none, []⟩,
 ⟨some 34, .len false (.tmp 33), none, []⟩,
 ⟨some 35, .move (.const (.int .i64 0)), none, []⟩]
def k_curve_Inside_r7 : List AOper := [
  ⟨some 36, .bin .plain .lss (.tmp 35) (.tmp 34), none, []⟩]
def k_curve_Inside_r8 : List AOper := [
  ⟨some 37, .indexAddr 1 (.tmp 33) (.tmp 35), none, []⟩,
 ⟨some 38, .load none (.tmp 37), none, []⟩,
 ⟨some 8, .move (.tmp 38), none, []⟩]
def k_curve_Inside_r9 : List AOper := [
  ⟨some 39, .load (some (4)) (.tmp 2), none, []⟩,
 ⟨some 40, .load (some (4)) (.tmp 3), none, []⟩,
 ⟨some 41, .move (.tmp 6), none, []⟩,
 ⟨some 42, .move (.tmp 8), none, []⟩,
 ⟨some 43, .call (.const (.fn (.func 58) [] [])) [.tmp 39, .tmp 40, .tmp 41, .tmp 42], none, []⟩,
 ⟨some 44, .not (.tmp 43), none, []⟩]
def k_curve_Inside_r10 : List AOper := [
  ⟨some 4, .move (.const (.bool false)), none, []⟩]
def k_curve_Inside_r11 : List AOper := [
  ⟨some 45, .bin .plain .add (.tmp 35) (.const (.int .i64 1)), none, []⟩,
 ⟨some 35, .move (.tmp 45), none, []⟩]
def k_curve_Inside_r12 : ACode := (.seq (.reg k_curve_Inside_r7 false) (.seq (.cond (.tmp 36) .skip (.exit 2)) (.seq (.block 3 (.seq (.reg k_curve_Inside_r8 false) (.seq (.reg k_curve_Inside_r9 false) (.cond (.tmp 44) (.seq (.reg k_curve_Inside_r10 false) .ret) .skip)))) (.reg k_curve_Inside_r11 false))))
def k_curve_Inside_r13 : List AOper := [
  ⟨some 46, .bin .plain .add (.tmp 24) (.const (.int .i64 1)), none, []⟩,
 ⟨some 24, .move (.tmp 46), none, []⟩]
def k_curve_Inside_r14 : ACode := (.seq (.reg k_curve_Inside_r4 false) (.seq (.cond (.tmp 25) .skip (.exit 0)) (.seq (.block 1 (.seq (.reg k_curve_Inside_r5 false) (.seq (.reg k_curve_Inside_r6 false) (.block 2 (.loop k_curve_Inside_r12))))) (.reg k_curve_Inside_r13 false))))
def k_curve_Inside_r15 : List AOper := [
  ⟨some 4, .move (.const (.bool true)), none, []⟩]
def k_curve_Inside : AFun := { params := 2, ntmps := 47, body := (.seq (.reg k_curve_Inside_r0 false) (.seq (.seq (.reg k_curve_Inside_r1 false) (.cond (.tmp 16) (.seq (.reg k_curve_Inside_r2 false) .ret) .skip)) (.seq (.seq (.reg k_curve_Inside_r3 false) (.block 0 (.loop k_curve_Inside_r14))) (.seq (.reg k_curve_Inside_r15 false) .ret)))), res := [.tmp 4] }
theorem k_curve_Inside_ok : cfun Tryd.prog Tryd.f21 = k_curve_Inside := by kernel_rfl

def k_curve_checkReads_r0 : List AOper := [
  ⟨some 2, .move (.const (.int .i64 0)), none, []⟩]
def k_curve_checkReads_r1 : List AOper := [
  ⟨some 5, .move (.tmp 0), none, []⟩,
 ⟨some 6, .len false (.tmp 5), none, []⟩,
 ⟨some 7, .bin .plain .gtr (.tmp 6) (.const (.int .i64 60)), none, []⟩]
def k_curve_checkReads_r2 : List AOper := [
  ⟨some 2, .move (.const (.int .i64 8)), none, []⟩]
def k_curve_checkReads_r3 : List AOper := [
  ⟨some 8, .move (.tmp 0), none, []⟩,
 ⟨some 9, .len false (.tmp 8), none, []⟩,
 ⟨some 10, .move (.const (.int .i64 0)), none, []⟩]
def k_curve_checkReads_r4 : List AOper := [
  ⟨some 11, .bin .plain .lss (.tmp 10) (.tmp 9), none, []⟩]
def k_curve_checkReads_r5 : List AOper := [
  ⟨some 12, .indexAddr 4 (.tmp 8) (.tmp 10), none, []⟩,
 ⟨some 13, .load (some (4)) (.tmp 12), none, []⟩,
 ⟨some 4, .box (.const (.agg [.int .i64 0, .int .i64 0, .int .i64 0, .int .i64 0])), none, []⟩,
 ⟨none, .store 4 (.tmp 4) (.tmp 13), none, []⟩]
def k_curve_checkReads_r6 : List AOper := [
  ⟨some 14, .fieldAddr 0 (.tmp 4), none, []⟩,
 ⟨some 15, .load none (.tmp 14), none, []⟩,
 ⟨some 16, .call (.const (.fn (.func 47) [] [])) [.tmp 15], none, []⟩,
 ⟨some 17, .not (.tmp 16), none, []⟩,
 ⟨some 18, .move (.tmp 17), none, []⟩,
 ⟨some 19, .fieldAddr 1 (.tmp 4), (some (18, false)), []⟩,
 ⟨some 20, .load none (.tmp 19), (some (18, false)), []⟩,
 ⟨some 21, .call (.const (.fn (.func 48) [] [])) [.tmp 20], (some (18, false)), []⟩,
 ⟨some 22, .not (.tmp 21), (some (18, false)), []⟩,
 ⟨some 23, .pick (.tmp 18) (.const (.bool true)) (.tmp 22), none, []⟩]
def k_curve_checkReads_r7 : List AOper := [
  ⟨some 2, .move (.const (.int .i64 2)), none, []⟩]
def k_curve_checkReads_r8 : List AOper := [
  ⟨some 24, .fieldAddr 2 (.tmp 4), none, []⟩,
 ⟨some 25, .fieldAddr 0 (.tmp 24), none, []⟩,
 ⟨some 26, .load none (.tmp 25), none, []⟩,
 ⟨some 27, .fieldAddr 2 (.tmp 4), none, []⟩,
 ⟨some 28, .fieldAddr 1 (.tmp 27), none, []⟩,
 ⟨some 29, .load none (.tmp 28), none, []⟩,
 ⟨some 30, .bin .plain .gtr (.tmp 26) (.tmp 29), none, []⟩]
def k_curve_checkReads_r9 : List AOper := [
  ⟨some 2, .move (.const (.int .i64 11)), none, []⟩]
def k_curve_checkReads_r10 : List AOper := [
  ⟨some 31, .bin .plain .add (.tmp 10) (.const (.int .i64 1)), none, []⟩,
 ⟨some 10, .move (.tmp 31), none, []⟩]
def k_curve_checkReads_r11 : ACode := (.seq (.reg k_curve_checkReads_r4 false) (.seq (.cond (.tmp 11) .skip (.exit 0)) (.seq (.block 1 (.seq (.reg k_curve_checkReads_r5 false) (.seq (.seq (.reg k_curve_checkReads_r6 false) (.cond (.tmp 23) (.seq (.reg k_curve_checkReads_r7 false) .ret) .skip)) (.seq (.reg k_curve_checkReads_r8 false) (.cond (.tmp 30) (.seq (.reg k_curve_checkReads_r9 false) .ret) .skip))))) (.reg k_curve_checkReads_r10 false))))
def k_curve_checkReads_r12 : List AOper := [
  ⟨some 2, .move (.const (.int .i64 0)), none, []⟩]
def k_curve_checkReads : AFun := { params := 1, ntmps := 32, body := (.seq (.reg k_curve_checkReads_r0 false) (.seq (.seq (.reg k_curve_checkReads_r1 false) (.cond (.tmp 7) (.seq (.reg k_curve_checkReads_r2 false) .ret) .skip)) (.seq (.seq (.reg k_curve_checkReads_r3 false) (.block 0 (.loop k_curve_checkReads_r11))) (.seq (.reg k_curve_checkReads_r12 false) .ret)))), res := [.tmp 2] }
theorem k_curve_checkReads_ok : cfun Tryd.prog Tryd.f36 = k_curve_checkReads := by kernel_rfl

def k_curve_narrow_r0 : List AOper := [
  ⟨some 2, .box (.tmp 0), none, []⟩,
 ⟨some 3, .box (.tmp 1), none, []⟩,
 ⟨some 4, .move (.const (.bool false)), none, []⟩]
def k_curve_narrow_r1 : List AOper := [
  ⟨some 11, .load none (.tmp 2), none, []⟩,
 ⟨some 12, .nilCheck (.tmp 11), none, []⟩,
 ⟨some 13, .fieldAddr 0 (.tmp 12), none, []⟩,
 ⟨some 14, .load none (.tmp 2), none, [0, 1, 2]⟩,
 ⟨some 15, .nilCheck (.tmp 14), none, [0, 1, 2]⟩,
 ⟨some 16, .fieldAddr 2 (.tmp 15), none, [0, 1, 2]⟩,
 ⟨some 17, .load none (.tmp 2), none, [0, 1, 2, 3, 4, 5]⟩,
 ⟨some 18, .nilCheck (.tmp 17), none, [0, 1, 2, 3, 4, 5]⟩,
 ⟨some 19, .fieldAddr 4 (.tmp 18), none, [0, 1, 2, 3, 4, 5]⟩,
 ⟨some 20, .load none (.tmp 2), none, [0, 1, 2, 3, 4, 5, 6, 7, 8]⟩,
 ⟨some 21, .nilCheck (.tmp 20), none, [0, 1, 2, 3, 4, 5, 6, 7, 8]⟩,
 ⟨some 22, .fieldAddr 6 (.tmp 21), none, [0, 1, 2, 3, 4, 5, 6, 7, 8]⟩,
 ⟨some 23, .load none (.tmp 2), none, [0, 1, 2, 3, 4, 5, 6, 7, 8, 9, 10, 11]⟩,
 ⟨some 24, .nilCheck (.tmp 23), none, [0, 1, 2, 3, 4, 5, 6, 7, 8, 9, 10, 11]⟩,
 ⟨some 25, .fieldAddr 8 (.tmp 24), none, [0, 1, 2, 3, 4, 5, 6, 7, 8, 9, 10, 11]⟩,
 ⟨some 26, .buildSlice 1 [.tmp 13, .tmp 16, .tmp 19, .tmp 22, .tmp 25], none, []⟩,
 ⟨some 27, .len false (.tmp 26), none, []⟩,
 ⟨some 28, .move (.const (.int .i64 0)), none, [0, 1, 2, 3, 4, 5, 6, 7, 8, 9, 10, 11, 12, 13, 14, 15, 16]⟩]
def k_curve_narrow_r1s : List (List AOper) := [
  [
  ⟨some 11, .load none (.tmp 2), none, []⟩,
 ⟨some 12, .nilCheck (.tmp 11), none, []⟩,
 ⟨some 13, .fieldAddr 0 (.tmp 12), none, []⟩,
 ⟨some 14, .load none (.tmp 2), none, [0, 1, 2]⟩,
 ⟨some 15, .nilCheck (.tmp 14), none, [0, 1, 2]⟩,
 ⟨some 16, .fieldAddr 2 (.tmp 15), none, [0, 1, 2]⟩,
 ⟨some 17, .load none (.tmp 2), none, [0, 1, 2, 3, 4, 5]⟩,
 ⟨some 18, .nilCheck (.tmp 17), none, [0, 1, 2, 3, 4, 5]⟩,
 ⟨some 19, .fieldAddr 4 (.tmp 18), none, [0, 1, 2, 3, 4, 5]⟩,
 ⟨some 20, .load none (.tmp 2), none, [0, 1, 2, 3, 4, 5, 6, 7, 8]⟩,
 ⟨some 21, .nilCheck (.tmp 20), none, [0, 1, 2, 3, 4, 5, 6, 7, 8]⟩,
 ⟨some 22, .fieldAddr 6 (.tmp 21), none, [0, 1, 2, 3, 4, 5, 6, 7, 8]⟩,
 ⟨some 23, .load none (.tmp 2), none, [0, 1, 2, 3, 4, 5, 6, 7, 8, 9, 10, 11]⟩,
 ⟨some 24, .nilCheck (.tmp 23), none, [0, 1, 2, 3, 4, 5, 6, 7, 8, 9, 10, 11]⟩,
 ⟨some 25, .fieldAddr 8 (.tmp 24), none, [0, 1, 2, 3, 4, 5, 6, 7, 8, 9, 10, 11]⟩,
 ⟨some 26, .buildSlice 1 [.tmp 13, .tmp 16, .tmp 19, .tmp 22, .tmp 25], none, []⟩,
 ⟨some 27, .len false (.tmp 26), none, []⟩,
 ⟨some 28, .move (.const (.int .i64 0)), none, [0, 1, 2, 3, 4, 5, 6, 7, 8, 9, 10, 11, 12, 13, 14, 15, 16]⟩]]
theorem k_curve_narrow_r1_sg : segs k_curve_narrow_r1 = k_curve_narrow_r1s := by kernel_rfl
theorem k_curve_narrow_r1_st : statOK k_curve_narrow_r1 = true := by kernel_rfl
def k_curve_narrow_r2 : List AOper := [
  ⟨some 29, .bin .plain .lss (.tmp 28) (.tmp 27), none, []⟩]
def k_curve_narrow_r3 : List AOper := [
  ⟨some 30, .indexAddr 1 (.tmp 26) (.tmp 28), none, []⟩,
 ⟨some 31, .load none (.tmp 30), none, []⟩,
 ⟨some 6, .box (.const (.nilptr)), none, []⟩,
 ⟨none, .store 1 (.tmp 6) (.tmp 31), none, []⟩]
def k_curve_narrow_r4 : List AOper := [
  ⟨some 32, .load none (.tmp 6), none, []⟩,
 ⟨some 33, .nilCheck (.tmp 32), none, []⟩,
 ⟨some 34, .load (some (2)) (.tmp 33), none, []⟩,
 ⟨some 7, .box (.const (.agg [.int .i64 0, .int .i64 0])), none, []⟩,
 ⟨none, .store 2 (.tmp 7) (.tmp 34), none, []⟩]
def k_curve_narrow_r5 : List AOper := [
  ⟨some 35, .makeFunc (.func 66) [] [.tmp 6, .tmp 2, .tmp 3], none, []⟩,
 ⟨some 8, .box (.const (.nilfn)), none, []⟩,
 ⟨none, .store 1 (.tmp 8) (.tmp 35), none, []⟩]
def k_curve_narrow_r6 : List AOper := [
  ⟨some 36, .makeFunc (.func 67) [] [.tmp 8, .tmp 3], none, []⟩,
 ⟨some 9, .move (.tmp 36), none, []⟩]
def k_curve_narrow_r7 : List AOper := [
  ⟨some 37, .makeFunc (.func 68) [] [.tmp 8, .tmp 3], none, []⟩,
 ⟨some 10, .move (.tmp 37), none, []⟩]
def k_curve_narrow_r8 : List AOper := [
  ⟨some 38, .load none (.tmp 6), none, []⟩,
 ⟨some 39, .load none (.tmp 2), none, [0]⟩,
 ⟨some 40, .nilCheck (.tmp 39), none, [0]⟩,
 ⟨some 41, .fieldAddr 2 (.tmp 40), none, [0]⟩,
 ⟨some 42, .bin .ptr .eql (.tmp 38) (.tmp 41), none, []⟩]
def k_curve_narrow_r8s : List (List AOper) := [
  [
  ⟨some 38, .load none (.tmp 6), none, []⟩,
 ⟨some 39, .load none (.tmp 2), none, [0]⟩,
 ⟨some 40, .nilCheck (.tmp 39), none, [0]⟩,
 ⟨some 41, .fieldAddr 2 (.tmp 40), none, [0]⟩], 
  [
  ⟨some 42, .bin .ptr .eql (.tmp 38) (.tmp 41), none, []⟩]]
theorem k_curve_narrow_r8_sg : segs k_curve_narrow_r8 = k_curve_narrow_r8s := by kernel_rfl
theorem k_curve_narrow_r8_st : statOK k_curve_narrow_r8 = true := by kernel_rfl
def k_curve_narrow_r9 : List AOper := [
  ⟨some 43, .move (.tmp 10), none, []⟩,
 ⟨some 44, .move (.tmp 9), none, []⟩,
 ⟨some 9, .move (.tmp 43), none, []⟩,
 ⟨some 10, .move (.tmp 44), none, []⟩]
def k_curve_narrow_r10 : List AOper := [
  ⟨some 45, .load none (.tmp 6), none, []⟩,
 ⟨some 46, .load (some (2)) (.tmp 7), none, [0]⟩,
 ⟨some 47, .move (.tmp 9), none, [0, 1]⟩,
 ⟨some 48, .move (.tmp 10), none, [0, 1, 2]⟩,
 ⟨some 49, .call (.const (.fn (.func 69) [] [])) [.tmp 46, .tmp 47, .tmp 48], none, [0]⟩,
 ⟨some 50, .nilCheck (.tmp 45), none, []⟩,
 ⟨none, .store 2 (.tmp 50) (.tmp 49), none, []⟩]
def k_curve_narrow_r10s : List (List AOper) := [
  [
  ⟨some 45, .load none (.tmp 6), none, []⟩,
 ⟨some 46, .load (some (2)) (.tmp 7), none, [0]⟩,
 ⟨some 47, .move (.tmp 9), none, [0, 1]⟩,
 ⟨some 48, .move (.tmp 10), none, [0, 1, 2]⟩,
 ⟨some 49, .call (.const (.fn (.func 69) [] [])) [.tmp 46, .tmp 47, .tmp 48], none, [0]⟩], 
  [
  ⟨some 50, .nilCheck (.tmp 45), none, []⟩], 
  [
  ⟨none, .store 2 (.tmp 50) (.tmp 49), none, []⟩]]
theorem k_curve_narrow_r10_sg : segs k_curve_narrow_r10 = k_curve_narrow_r10s := by kernel_rfl
theorem k_curve_narrow_r10_st : statOK k_curve_narrow_r10 = true := by kernel_rfl
def k_curve_narrow_r11 : List AOper := [
  ⟨some 51, .load none (.tmp 6), none, []⟩,
 ⟨some 52, .nilCheck (.tmp 51), none, []⟩,
 ⟨some 53, .load (some (2)) (.tmp 52), none, []⟩,
 ⟨some 54, .load (some (2)) (.const (.rptr (.agg [.int .i64 1, .int .i64 0]) 0)), none, [0, 1, 2]⟩,
 ⟨some 55, .eqAgg false [.int, .int] (.tmp 53) (.tmp 54), none, []⟩]
def k_curve_narrow_r11s : List (List AOper) := [
  [
  ⟨some 51, .load none (.tmp 6), none, []⟩,
 ⟨some 52, .nilCheck (.tmp 51), none, []⟩,
 ⟨some 53, .load (some (2)) (.tmp 52), none, []⟩,
 ⟨some 54, .load (some (2)) (.const (.rptr (.agg [.int .i64 1, .int .i64 0]) 0)), none, [0, 1, 2]⟩], 
  [
  ⟨some 55, .eqAgg false [.int, .int] (.tmp 53) (.tmp 54), none, []⟩]]
theorem k_curve_narrow_r11_sg : segs k_curve_narrow_r11 = k_curve_narrow_r11s := by kernel_rfl
theorem k_curve_narrow_r11_st : statOK k_curve_narrow_r11 = true := by kernel_rfl
def k_curve_narrow_r12 : List AOper := [
  ⟨some 4, .move (.const (.bool false)), none, []⟩]
def k_curve_narrow_r13 : List AOper := [
  ⟨some 56, .bin .plain .add (.tmp 28) (.const (.int .i64 1)), none, []⟩,
 ⟨some 28, .move (.tmp 56), none, []⟩]
def k_curve_narrow_r14 : ACode := (.seq (.reg k_curve_narrow_r2 false) (.seq (.cond (.tmp 29) .skip (.exit 0)) (.seq (.block 1 (.seq (.reg k_curve_narrow_r3 false) (.seq (.reg k_curve_narrow_r4 false) (.seq (.reg k_curve_narrow_r5 false) (.seq (.reg k_curve_narrow_r6 false) (.seq (.reg k_curve_narrow_r7 false) (.seq (.seq (.reg k_curve_narrow_r8 true) (.cond (.tmp 42) (.reg k_curve_narrow_r9 false) .skip)) (.seq (.reg k_curve_narrow_r10 true) (.seq (.reg k_curve_narrow_r11 true) (.cond (.tmp 55) (.seq (.reg k_curve_narrow_r12 false) .ret) .skip)))))))))) (.reg k_curve_narrow_r13 false))))
def k_curve_narrow_r15 : List AOper := [
  ⟨some 4, .move (.const (.bool true)), none, []⟩]
def k_curve_narrow : AFun := { params := 2, ntmps := 57, body := (.seq (.reg k_curve_narrow_r0 false) (.seq (.seq (.reg k_curve_narrow_r1 true) (.block 0 (.loop k_curve_narrow_r14))) (.seq (.reg k_curve_narrow_r15 false) .ret))), res := [.tmp 4] }
theorem k_curve_narrow_ok : cfun Tryd.prog Tryd.f37 = k_curve_narrow := by kernel_rfl

def k_curve_Drive_r0 : List AOper := [
  ⟨some 3, .box (.tmp 0), none, []⟩,
 ⟨some 6, .box (.const (.agg [.int .i64 0, .int .i64 0])), none, []⟩,
 ⟨some 7, .move (.const (.int .i64 0)), none, []⟩]
def k_curve_Drive_r1 : List AOper := [
  ⟨some 9, .load (some (10)) (.tmp 3), none, []⟩,
 ⟨some 10, .move (.tmp 1), none, []⟩,
 ⟨some 11, .move (.tmp 2), none, []⟩,
 ⟨some 12, .call (.const (.fn (.func 60) [] [])) [.tmp 9, .tmp 10, .tmp 11], none, []⟩,
 ⟨some 8, .move (.tmp 12), none, []⟩]
def k_curve_Drive_r2 : List AOper := [
  ⟨some 13, .move (.tmp 8), none, []⟩,
 ⟨some 14, .bin .plain .neq (.tmp 13) (.const (.int .i64 0)), none, []⟩]
def k_curve_Drive_r3 : List AOper := [
  ⟨some 15, .build [.int .i64 0, .int .i64 0] [], none, []⟩,
 ⟨some 16, .move (.tmp 8), none, []⟩,
 ⟨none, .store 2 (.tmp 6) (.tmp 15), none, []⟩,
 ⟨some 7, .move (.tmp 16), none, []⟩]
def k_curve_Drive_r4 : List AOper := [
  ⟨some 17, .load (some (10)) (.tmp 3), none, []⟩,
 ⟨some 18, .move (.tmp 1), none, []⟩,
 ⟨some 19, .move (.tmp 2), none, []⟩,
 ⟨some 20, .call (.const (.fn (.func 77) [] [])) [.tmp 17, .tmp 18, .tmp 19], none, []⟩,
 ⟨none, .store 2 (.tmp 6) (.tmp 20), none, []⟩,
 ⟨some 7, .move (.const (.int .i64 0)), none, []⟩]
def k_curve_Drive : AFun := { params := 3, ntmps := 21, body := (.seq (.reg k_curve_Drive_r0 false) (.seq (.seq (.reg k_curve_Drive_r1 false) (.seq (.reg k_curve_Drive_r2 false) (.cond (.tmp 14) (.seq (.reg k_curve_Drive_r3 false) .ret) .skip))) (.seq (.reg k_curve_Drive_r4 false) .ret))), res := [.cell 6 (some ((some (2)))), .tmp 7] }
theorem k_curve_Drive_ok : cfun Tryd.prog Tryd.f43 = k_curve_Drive := by kernel_rfl

def k_law02_wide_r0 : List AOper := [
  ⟨some 0, .box (.const (.agg [.int .i64 0, .int .i64 0, .int .i64 0, .int .i64 0, .int .i64 0, .int .i64 0, .int .i64 0, .int .i64 0, .int .i64 0, .int .i64 0])), none, []⟩]
def k_law02_wide_r1 : List AOper := [
  ⟨some 2, .call (.const (.fn (.func 25) [] [])) [], none, []⟩,
 ⟨some 1, .box (.const (.agg [.int .i64 0, .int .i64 0, .int .i64 0, .int .i64 0, .int .i64 0, .int .i64 0, .int .i64 0, .int .i64 0, .int .i64 0, .int .i64 0])), none, []⟩,
 ⟨none, .store 10 (.tmp 1) (.tmp 2), none, []⟩]
def k_law02_wide_r2 : List AOper := [
  ⟨some 3, .build [.int .i64 0, .int .i64 0] [(0, 1, .const (.int .i64 19000)), (1, 1, .const (.int .i64 21000))], none, []⟩,
 ⟨some 4, .fieldAddr 2 (.tmp 1), none, []⟩,
 ⟨none, .store 2 (.tmp 4) (.tmp 3), none, []⟩]
def k_law02_wide_r3 : List AOper := [
  ⟨some 5, .load (some (10)) (.tmp 1), none, []⟩,
 ⟨none, .store 10 (.tmp 0) (.tmp 5), none, []⟩]
def k_law02_wide : AFun := { params := 0, ntmps := 6, body := (.seq (.reg k_law02_wide_r0 false) (.seq (.reg k_law02_wide_r1 false) (.seq (.reg k_law02_wide_r2 false) (.seq (.reg k_law02_wide_r3 false) .ret)))), res := [.cell 0 (some ((some (10))))] }
theorem k_law02_wide_ok : cfun Tryd.prog Tryd.f44 = k_law02_wide := by kernel_rfl

def k_curve_Of_r0 : List AOper := [
  ⟨some 3, .box (.tmp 0), none, []⟩,
 ⟨some 6, .box (.const (.agg [.nilsl, .nilsl, .nilsl, .nilsl])), none, []⟩,
 ⟨some 7, .move (.const (.int .i64 0)), none, []⟩]
def k_curve_Of_r1 : List AOper := [
  ⟨some 16, .load (some (10)) (.tmp 3), none, []⟩,
 ⟨some 17, .call (.const (.fn (.func 35) [] [])) [.tmp 16], none, []⟩,
 ⟨some 8, .move (.tmp 17), none, []⟩]
def k_curve_Of_r2 : List AOper := [
  ⟨some 18, .move (.tmp 8), none, []⟩,
 ⟨some 19, .bin .plain .neq (.tmp 18) (.const (.int .i64 0)), none, []⟩]
def k_curve_Of_r3 : List AOper := [
  ⟨some 20, .build [.nilsl, .nilsl, .nilsl, .nilsl] [], none, []⟩,
 ⟨some 21, .move (.tmp 8), none, []⟩,
 ⟨none, .store 4 (.tmp 6) (.tmp 20), none, []⟩,
 ⟨some 7, .move (.tmp 21), none, []⟩]
def k_curve_Of_r4 : List AOper := [
  ⟨some 22, .move (.tmp 1), none, []⟩,
 ⟨some 23, .move (.tmp 2), none, []⟩,
 ⟨some 24, .call (.const (.fn (.func 62) [] [])) [.tmp 22, .tmp 23], none, []⟩,
 ⟨some 9, .move (.tmp 24), none, []⟩]
def k_curve_Of_r5 : List AOper := [
  ⟨some 25, .move (.tmp 9), none, []⟩,
 ⟨some 26, .bin .plain .neq (.tmp 25) (.const (.int .i64 0)), none, []⟩]
def k_curve_Of_r6 : List AOper := [
  ⟨some 27, .build [.nilsl, .nilsl, .nilsl, .nilsl] [], none, []⟩,
 ⟨some 28, .move (.tmp 9), none, []⟩,
 ⟨none, .store 4 (.tmp 6) (.tmp 27), none, []⟩,
 ⟨some 7, .move (.tmp 28), none, []⟩]
def k_curve_Of_r7 : List AOper := [
  ⟨some 29, .move (.tmp 1), none, []⟩,
 ⟨some 30, .move (.tmp 2), none, []⟩,
 ⟨some 31, .call (.const (.fn (.func 78) [] [])) [.tmp 29, .tmp 30], none, []⟩,
 ⟨some 10, .box (.const (.agg [.nilsl, .nilsl, .nilsl, .nilsl])), none, []⟩,
 ⟨none, .store 4 (.tmp 10) (.tmp 31), none, []⟩]
def k_curve_Of_r8 : List AOper := [
  ⟨some 32, .move (.tmp 1), none, []⟩,
 ⟨some 33, .len false (.tmp 32), none, []⟩,
 ⟨some 34, .move (.const (.int .i64 0)), none, []⟩]
def k_curve_Of_r9 : List AOper := [
  ⟨some 35, .bin .plain .lss (.tmp 34) (.tmp 33), none, []⟩]
def k_curve_Of_r10 : List AOper := [
  ⟨some 36, .move (.tmp 34), none, []⟩,
 ⟨some 37, .indexAddr 1 (.tmp 32) (.tmp 34), none, []⟩,
 ⟨some 38, .load none (.tmp 37), none, []⟩,
 ⟨some 11, .move (.tmp 36), none, []⟩,
 ⟨some 12, .move (.tmp 38), none, []⟩]
def k_curve_Of_r11 : List AOper := [
  ⟨some 39, .move (.tmp 2), none, []⟩,
 ⟨some 40, .len false (.tmp 39), none, []⟩,
 ⟨some 41, .move (.const (.int .i64 0)), none, []⟩]
def k_curve_Of_r12 : List AOper := [
  ⟨some 42, .bin .plain .lss (.tmp 41) (.tmp 40), none, []⟩]
def k_curve_Of_r13 : List AOper := [
  ⟨some 43, .move (.tmp 41), none, []⟩,
 ⟨some 44, .indexAddr 1 (.tmp 39) (.tmp 41), none, []⟩,
 ⟨some 45, .load none (.tmp 44), none, []⟩,
 ⟨some 13, .move (.tmp 43), none, []⟩,
 ⟨some 14, .move (.tmp 45), none, []⟩]
def k_curve_Of_r14 : List AOper := [
  ⟨some 46, .load (some (10)) (.tmp 3), none, []⟩,
 ⟨some 47, .move (.tmp 12), none, []⟩,
 ⟨some 48, .move (.tmp 14), none, []⟩,
 ⟨some 49, .call (.const (.fn (.func 61) [] [])) [.tmp 46, .tmp 47, .tmp 48], none, []⟩,
 ⟨some 15, .box (.const (.agg [.int .i64 0, .int .i64 0])), none, []⟩,
 ⟨none, .store 2 (.tmp 15) (.tmp 49), none, []⟩]
def k_curve_Of_r15 : List AOper := [
  ⟨some 50, .fieldAddr 2 (.tmp 10), none, []⟩,
 ⟨some 51, .load none (.tmp 50), none, []⟩,
 ⟨some 52, .move (.tmp 11), none, [0, 1]⟩,
 ⟨some 53, .indexAddr 1 (.tmp 51) (.tmp 52), none, []⟩,
 ⟨some 54, .load none (.tmp 53), none, []⟩,
 ⟨some 55, .move (.tmp 13), none, [0, 1, 2, 3, 4]⟩,
 ⟨some 56, .fieldAddr 3 (.tmp 10), none, [0, 1, 2, 3, 4, 5]⟩,
 ⟨some 57, .load none (.tmp 56), none, [0, 1, 2, 3, 4, 5]⟩,
 ⟨some 58, .move (.tmp 11), none, [0, 1, 2, 3, 4, 5, 6, 7]⟩,
 ⟨some 59, .indexAddr 1 (.tmp 57) (.tmp 58), none, [0, 1, 2, 3, 4, 5]⟩,
 ⟨some 60, .load none (.tmp 59), none, [0, 1, 2, 3, 4, 5]⟩,
 ⟨some 61, .move (.tmp 13), none, [0, 1, 2, 3, 4, 5, 6, 7, 8, 9, 10]⟩,
 ⟨some 62, .fieldAddr 0 (.tmp 15), none, [0, 1, 2, 3, 4, 5, 6, 7, 8, 9, 10, 11]⟩,
 ⟨some 63, .load none (.tmp 62), none, [0, 1, 2, 3, 4, 5, 6, 7, 8, 9, 10, 11]⟩,
 ⟨some 64, .fieldAddr 1 (.tmp 15), none, [0, 1, 2, 3, 4, 5, 6, 7, 8, 9, 10, 11, 12, 13]⟩,
 ⟨some 65, .load none (.tmp 64), none, [0, 1, 2, 3, 4, 5, 6, 7, 8, 9, 10, 11, 12, 13]⟩,
 ⟨some 66, .indexAddr 1 (.tmp 54) (.tmp 55), none, [11, 14, 15]⟩,
 ⟨none, .store 1 (.tmp 66) (.tmp 63), none, [11, 14, 15]⟩,
 ⟨some 67, .indexAddr 1 (.tmp 60) (.tmp 61), none, []⟩,
 ⟨none, .store 1 (.tmp 67) (.tmp 65), none, []⟩]
def k_curve_Of_r15s : List (List AOper) := [
  [
  ⟨some 50, .fieldAddr 2 (.tmp 10), none, []⟩,
 ⟨some 51, .load none (.tmp 50), none, []⟩,
 ⟨some 52, .move (.tmp 11), none, [0, 1]⟩,
 ⟨some 53, .indexAddr 1 (.tmp 51) (.tmp 52), none, []⟩,
 ⟨some 54, .load none (.tmp 53), none, []⟩,
 ⟨some 55, .move (.tmp 13), none, [0, 1, 2, 3, 4]⟩,
 ⟨some 56, .fieldAddr 3 (.tmp 10), none, [0, 1, 2, 3, 4, 5]⟩,
 ⟨some 57, .load none (.tmp 56), none, [0, 1, 2, 3, 4, 5]⟩,
 ⟨some 58, .move (.tmp 11), none, [0, 1, 2, 3, 4, 5, 6, 7]⟩,
 ⟨some 59, .indexAddr 1 (.tmp 57) (.tmp 58), none, [0, 1, 2, 3, 4, 5]⟩,
 ⟨some 60, .load none (.tmp 59), none, [0, 1, 2, 3, 4, 5]⟩,
 ⟨some 61, .move (.tmp 13), none, [0, 1, 2, 3, 4, 5, 6, 7, 8, 9, 10]⟩,
 ⟨some 62, .fieldAddr 0 (.tmp 15), none, [0, 1, 2, 3, 4, 5, 6, 7, 8, 9, 10, 11]⟩,
 ⟨some 63, .load none (.tmp 62), none, [0, 1, 2, 3, 4, 5, 6, 7, 8, 9, 10, 11]⟩,
 ⟨some 64, .fieldAddr 1 (.tmp 15), none, [0, 1, 2, 3, 4, 5, 6, 7, 8, 9, 10, 11, 12, 13]⟩,
 ⟨some 65, .load none (.tmp 64), none, [0, 1, 2, 3, 4, 5, 6, 7, 8, 9, 10, 11, 12, 13]⟩,
 ⟨some 66, .indexAddr 1 (.tmp 54) (.tmp 55), none, [11, 14, 15]⟩,
 ⟨none, .store 1 (.tmp 66) (.tmp 63), none, [11, 14, 15]⟩], 
  [
  ⟨some 67, .indexAddr 1 (.tmp 60) (.tmp 61), none, []⟩], 
  [
  ⟨none, .store 1 (.tmp 67) (.tmp 65), none, []⟩]]
theorem k_curve_Of_r15_sg : segs k_curve_Of_r15 = k_curve_Of_r15s := by kernel_rfl
theorem k_curve_Of_r15_st : statOK k_curve_Of_r15 = true := by kernel_rfl
def k_curve_Of_r16 : List AOper := [
  ⟨some 68, .bin .plain .add (.tmp 41) (.const (.int .i64 1)), none, []⟩,
 ⟨some 41, .move (.tmp 68), none, []⟩]
def k_curve_Of_r17 : ACode := (.seq (.reg k_curve_Of_r12 false) (.seq (.cond (.tmp 42) .skip (.exit 2)) (.seq (.block 3 (.seq (.reg k_curve_Of_r13 false) (.seq (.reg k_curve_Of_r14 false) (.reg k_curve_Of_r15 true)))) (.reg k_curve_Of_r16 false))))
def k_curve_Of_r18 : List AOper := [
  ⟨some 69, .bin .plain .add (.tmp 34) (.const (.int .i64 1)), none, []⟩,
 ⟨some 34, .move (.tmp 69), none, []⟩]
def k_curve_Of_r19 : ACode := (.seq (.reg k_curve_Of_r9 false) (.seq (.cond (.tmp 35) .skip (.exit 0)) (.seq (.block 1 (.seq (.reg k_curve_Of_r10 false) (.seq (.reg k_curve_Of_r11 false) (.block 2 (.loop k_curve_Of_r17))))) (.reg k_curve_Of_r18 false))))
def k_curve_Of_r20 : List AOper := [
  ⟨some 70, .load (some (4)) (.tmp 10), none, []⟩,
 ⟨none, .store 4 (.tmp 6) (.tmp 70), none, []⟩,
 ⟨some 7, .move (.const (.int .i64 0)), none, []⟩]
def k_curve_Of : AFun := { params := 3, ntmps := 71, body := (.seq (.reg k_curve_Of_r0 false) (.seq (.seq (.reg k_curve_Of_r1 false) (.seq (.reg k_curve_Of_r2 false) (.cond (.tmp 19) (.seq (.reg k_curve_Of_r3 false) .ret) .skip))) (.seq (.seq (.reg k_curve_Of_r4 false) (.seq (.reg k_curve_Of_r5 false) (.cond (.tmp 26) (.seq (.reg k_curve_Of_r6 false) .ret) .skip))) (.seq (.reg k_curve_Of_r7 false) (.seq (.seq (.reg k_curve_Of_r8 false) (.block 0 (.loop k_curve_Of_r19))) (.seq (.reg k_curve_Of_r20 false) .ret)))))), res := [.cell 6 (some ((some (4)))), .tmp 7] }
theorem k_curve_Of_ok : cfun Tryd.prog Tryd.f45 = k_curve_Of := by kernel_rfl

def k_kit_SameLists_r0 : List AOper := [
  ⟨some 4, .move (.const (.bool false)), none, []⟩]
def k_kit_SameLists_r1 : List AOper := [
  ⟨some 6, .move (.tmp 0), none, []⟩,
 ⟨some 7, .len false (.tmp 6), none, []⟩,
 ⟨some 8, .move (.tmp 1), none, []⟩,
 ⟨some 9, .len false (.tmp 8), none, []⟩,
 ⟨some 10, .bin .plain .neq (.tmp 7) (.tmp 9), none, []⟩]
def k_kit_SameLists_r2 : List AOper := [
  ⟨some 4, .move (.const (.bool false)), none, []⟩]
def k_kit_SameLists_r3 : List AOper := [
  ⟨some 5, .move (.const (.int .i64 0)), none, []⟩]
def k_kit_SameLists_r4 : List AOper := [
  ⟨some 11, .move (.tmp 5), none, []⟩,
 ⟨some 12, .move (.tmp 0), none, []⟩,
 ⟨some 13, .len false (.tmp 12), none, []⟩,
 ⟨some 14, .bin .plain .lss (.tmp 11) (.tmp 13), none, []⟩]
def k_kit_SameLists_r5 : List AOper := [
  ⟨some 17, .move (.tmp 0), none, []⟩,
 ⟨some 18, .move (.tmp 5), none, [0]⟩,
 ⟨some 19, .indexAddr 1 (.tmp 17) (.tmp 18), none, []⟩,
 ⟨some 20, .load none (.tmp 19), none, []⟩,
 ⟨some 21, .move (.tmp 1), none, [0, 1, 2, 3]⟩,
 ⟨some 22, .move (.tmp 5), none, [0, 1, 2, 3, 4]⟩,
 ⟨some 23, .indexAddr 1 (.tmp 21) (.tmp 22), none, [0, 1, 2, 3]⟩,
 ⟨some 24, .load none (.tmp 23), none, [0, 1, 2, 3]⟩,
 ⟨some 25, .call (.const (.fn (.func 79) [] [])) [.tmp 20, .tmp 24], none, []⟩,
 ⟨some 26, .not (.tmp 25), none, []⟩]
def k_kit_SameLists_r5s : List (List AOper) := [
  [
  ⟨some 17, .move (.tmp 0), none, []⟩,
 ⟨some 18, .move (.tmp 5), none, [0]⟩,
 ⟨some 19, .indexAddr 1 (.tmp 17) (.tmp 18), none, []⟩,
 ⟨some 20, .load none (.tmp 19), none, []⟩,
 ⟨some 21, .move (.tmp 1), none, [0, 1, 2, 3]⟩,
 ⟨some 22, .move (.tmp 5), none, [0, 1, 2, 3, 4]⟩,
 ⟨some 23, .indexAddr 1 (.tmp 21) (.tmp 22), none, [0, 1, 2, 3]⟩,
 ⟨some 24, .load none (.tmp 23), none, [0, 1, 2, 3]⟩], 
  [
  ⟨some 25, .call (.const (.fn (.func 79) [] [])) [.tmp 20, .tmp 24], none, []⟩], 
  [
  ⟨some 26, .not (.tmp 25), none, []⟩]]
theorem k_kit_SameLists_r5_sg : segs k_kit_SameLists_r5 = k_kit_SameLists_r5s := by kernel_rfl
theorem k_kit_SameLists_r5_st : statOK k_kit_SameLists_r5 = true := by kernel_rfl
def k_kit_SameLists_r6 : List AOper := [
  ⟨some 4, .move (.const (.bool false)), none, []⟩]
def k_kit_SameLists_r7 : List AOper := [
  ⟨some 15, .move (.tmp 5), none, []⟩,
 ⟨some 16, .bin .plain .add (.tmp 15) (.const (.int .i64 1)), none, []⟩,
 ⟨some 5, .move (.tmp 16), none, []⟩]
def k_kit_SameLists_r8 : ACode := (.seq (.seq (.reg k_kit_SameLists_r4 false) (.cond (.tmp 14) .skip (.exit 0))) (.seq (.block 1 (.seq (.reg k_kit_SameLists_r5 true) (.cond (.tmp 26) (.seq (.reg k_kit_SameLists_r6 false) .ret) .skip))) (.reg k_kit_SameLists_r7 false)))
def k_kit_SameLists_r9 : List AOper := [
  ⟨some 4, .move (.const (.bool true)), none, []⟩]
def k_kit_SameLists : AFun := { params := 2, ntmps := 27, body := (.seq (.reg k_kit_SameLists_r0 false) (.seq (.seq (.reg k_kit_SameLists_r1 false) (.cond (.tmp 10) (.seq (.reg k_kit_SameLists_r2 false) .ret) .skip)) (.seq (.seq (.reg k_kit_SameLists_r3 false) (.block 0 (.loop k_kit_SameLists_r8))) (.seq (.reg k_kit_SameLists_r9 false) .ret)))), res := [.tmp 4] }
theorem k_kit_SameLists_ok : cfun Tryd.prog Tryd.f46 = k_kit_SameLists := by kernel_rfl

def k_curve_isCell_r0 : List AOper := [
  ⟨some 4, .move (.const (.bool false)), none, []⟩]
def k_curve_isCell_r1 : List AOper := [
  ⟨some 5, .move (.tmp 1), none, []⟩,
 ⟨some 6, .move (.tmp 0), none, []⟩,
 ⟨some 7, .len false (.tmp 6), none, []⟩,
 ⟨some 8, .bin .plain .sub (.tmp 7) (.const (.int .i64 2)), none, []⟩,
 ⟨some 9, .call (.const (.fn (.func 80) [] [])) [.tmp 5, .const (.int .i64 0), .tmp 8], none, []⟩,
 ⟨some 4, .move (.tmp 9), none, []⟩]
def k_curve_isCell : AFun := { params := 2, ntmps := 10, body := (.seq (.reg k_curve_isCell_r0 false) (.seq (.reg k_curve_isCell_r1 false) .ret)), res := [.tmp 4] }
theorem k_curve_isCell_ok : cfun Tryd.prog Tryd.f52 = k_curve_isCell := by kernel_rfl

def k_curve_slope_r0 : List AOper := [
  ⟨some 3, .box (.tmp 0), none, []⟩,
 ⟨some 6, .box (.const (.agg [.int .i64 0, .int .i64 0])), none, []⟩]
def k_curve_slope_r1 : List AOper := [
  ⟨some 7, .fieldAddr 2 (.tmp 3), none, []⟩,
 ⟨some 8, .load none (.tmp 7), none, []⟩,
 ⟨some 9, .fieldAddr 3 (.tmp 3), none, []⟩,
 ⟨some 10, .load none (.tmp 9), none, []⟩,
 ⟨some 11, .fieldAddr 0 (.tmp 3), none, []⟩,
 ⟨some 12, .load none (.tmp 11), none, []⟩,
 ⟨some 13, .fieldAddr 1 (.tmp 3), none, []⟩,
 ⟨some 14, .load none (.tmp 13), none, []⟩,
 ⟨some 15, .move (.tmp 1), none, []⟩,
 ⟨some 16, .move (.tmp 2), none, []⟩,
 ⟨some 17, .call (.const (.fn (.func 83) [] [])) [.tmp 8, .tmp 10, .tmp 12, .tmp 14, .tmp 15, .tmp 16, .const (.int .i64 1000)], none, []⟩,
 ⟨none, .store 2 (.tmp 6) (.tmp 17), none, []⟩]
def k_curve_slope : AFun := { params := 3, ntmps := 18, body := (.seq (.reg k_curve_slope_r0 false) (.seq (.reg k_curve_slope_r1 false) .ret)), res := [.cell 6 (some ((some (2))))] }
theorem k_curve_slope_ok : cfun Tryd.prog Tryd.f53 = k_curve_slope := by kernel_rfl

def k_curve_yield_r0 : List AOper := [
  ⟨some 3, .box (.tmp 0), none, []⟩,
 ⟨some 6, .box (.const (.agg [.int .i64 0, .int .i64 0])), none, []⟩]
def k_curve_yield_r1 : List AOper := [
  ⟨some 7, .fieldAddr 2 (.tmp 3), none, []⟩,
 ⟨some 8, .load none (.tmp 7), none, []⟩,
 ⟨some 9, .fieldAddr 3 (.tmp 3), none, []⟩,
 ⟨some 10, .load none (.tmp 9), none, []⟩,
 ⟨some 11, .fieldAddr 1 (.tmp 3), none, []⟩,
 ⟨some 12, .load none (.tmp 11), none, []⟩,
 ⟨some 13, .fieldAddr 0 (.tmp 3), none, []⟩,
 ⟨some 14, .load none (.tmp 13), none, []⟩,
 ⟨some 15, .move (.tmp 2), none, []⟩,
 ⟨some 16, .move (.tmp 1), none, []⟩,
 ⟨some 17, .call (.const (.fn (.func 84) [] [])) [.tmp 8, .tmp 10, .tmp 12, .tmp 14, .tmp 15, .tmp 16, .const (.int .i64 1000000)], none, []⟩,
 ⟨none, .store 2 (.tmp 6) (.tmp 17), none, []⟩]
def k_curve_yield : AFun := { params := 3, ntmps := 18, body := (.seq (.reg k_curve_yield_r0 false) (.seq (.reg k_curve_yield_r1 false) .ret)), res := [.cell 6 (some ((some (2))))] }
theorem k_curve_yield_ok : cfun Tryd.prog Tryd.f54 = k_curve_yield := by kernel_rfl

def k_curve_hull_r0 : List AOper := [
  ⟨some 2, .box (.tmp 0), none, []⟩,
 ⟨some 3, .box (.tmp 1), none, []⟩,
 ⟨some 4, .box (.const (.agg [.int .i64 0, .int .i64 0])), none, []⟩]
def k_curve_hull_r1 : List AOper := [
  ⟨some 5, .fieldAddr 0 (.tmp 2), none, []⟩,
 ⟨some 6, .load none (.tmp 5), none, []⟩,
 ⟨some 7, .fieldAddr 0 (.tmp 3), none, []⟩,
 ⟨some 8, .load none (.tmp 7), none, []⟩,
 ⟨some 9, .minmax false [.tmp 6, .tmp 8], none, []⟩,
 ⟨some 10, .fieldAddr 1 (.tmp 2), none, []⟩,
 ⟨some 11, .load none (.tmp 10), none, []⟩,
 ⟨some 12, .fieldAddr 1 (.tmp 3), none, []⟩,
 ⟨some 13, .load none (.tmp 12), none, []⟩,
 ⟨some 14, .minmax true [.tmp 11, .tmp 13], none, []⟩,
 ⟨some 15, .build [.int .i64 0, .int .i64 0] [(0, 1, .tmp 9), (1, 1, .tmp 14)], none, []⟩,
 ⟨none, .store 2 (.tmp 4) (.tmp 15), none, []⟩]
def k_curve_hull : AFun := { params := 2, ntmps := 16, body := (.seq (.reg k_curve_hull_r0 false) (.seq (.reg k_curve_hull_r1 false) .ret)), res := [.cell 4 (some ((some (2))))] }
theorem k_curve_hull_ok : cfun Tryd.prog Tryd.f55 = k_curve_hull := by kernel_rfl

def k_curve_appendRow_r0 : List AOper := [
  ⟨some 6, .move (.const (.nilsl)), none, []⟩]
def k_curve_appendRow_r1 : List AOper := [
  ⟨some 9, .move (.tmp 0), none, []⟩,
 ⟨some 10, .move (.tmp 1), none, []⟩,
 ⟨some 11, .appendStr (.tmp 9) (.tmp 10), none, []⟩,
 ⟨some 0, .move (.tmp 11), none, []⟩]
def k_curve_appendRow_r2 : List AOper := [
  ⟨some 12, .move (.tmp 2), none, []⟩,
 ⟨some 13, .len false (.tmp 12), none, []⟩,
 ⟨some 14, .move (.const (.int .i64 0)), none, []⟩]
def k_curve_appendRow_r3 : List AOper := [
  ⟨some 15, .bin .plain .lss (.tmp 14) (.tmp 13), none, []⟩]
def k_curve_appendRow_r4 : List AOper := [
  ⟨some 16, .indexAddr 1 (.tmp 12) (.tmp 14), none, []⟩,
 ⟨some 17, .load none (.tmp 16), none, []⟩,
 ⟨some 8, .move (.tmp 17), none, []⟩]
def k_curve_appendRow_r5 : List AOper := [
  ⟨some 18, .move (.tmp 0), none, []⟩,
 ⟨some 19, .buildSlice 1 [.const (.int .u8 32)], none, []⟩,
 ⟨some 20, .append 1 1 false (.tmp 18) (.tmp 19), none, []⟩,
 ⟨some 0, .move (.tmp 20), none, []⟩]
def k_curve_appendRow_r6 : List AOper := [
  ⟨some 21, .move (.tmp 0), none, []⟩,
 ⟨some 22, .move (.tmp 8), none, []⟩,
 ⟨some 23, .call (.const (.fn (.func 85) [] [])) [.tmp 21, .tmp 22, .const (.int .i64 10)], none, []⟩,
 ⟨some 0, .move (.tmp 23), none, []⟩]
def k_curve_appendRow_r7 : List AOper := [
  ⟨some 24, .bin .plain .add (.tmp 14) (.const (.int .i64 1)), none, []⟩,
 ⟨some 14, .move (.tmp 24), none, []⟩]
def k_curve_appendRow_r8 : ACode := (.seq (.reg k_curve_appendRow_r3 false) (.seq (.cond (.tmp 15) .skip (.exit 0)) (.seq (.block 1 (.seq (.reg k_curve_appendRow_r4 false) (.seq (.reg k_curve_appendRow_r5 false) (.reg k_curve_appendRow_r6 false)))) (.reg k_curve_appendRow_r7 false))))
def k_curve_appendRow_r9 : List AOper := [
  ⟨some 25, .move (.tmp 0), none, []⟩,
 ⟨some 26, .buildSlice 1 [.const (.int .u8 10)], none, []⟩,
 ⟨some 27, .append 1 1 false (.tmp 25) (.tmp 26), none, []⟩,
 ⟨some 6, .move (.tmp 27), none, []⟩]
def k_curve_appendRow : AFun := { params := 3, ntmps := 28, body := (.seq (.reg k_curve_appendRow_r0 false) (.seq (.reg k_curve_appendRow_r1 false) (.seq (.seq (.reg k_curve_appendRow_r2 false) (.block 0 (.loop k_curve_appendRow_r8))) (.seq (.reg k_curve_appendRow_r9 false) .ret)))), res := [.tmp 6] }
theorem k_curve_appendRow_ok : cfun Tryd.prog Tryd.f56 = k_curve_appendRow := by kernel_rfl

def k_slices_Concat_int_int_r0 : List AOper := [
  ⟨some 2, .move (.const (.nilsl)), none, []⟩]
def k_slices_Concat_int_int_r1 : List AOper := [
  ⟨some 3, .move (.const (.int .i64 0)), none, []⟩]
def k_slices_Concat_int_int_r2 : List AOper := [
  ⟨some 9, .move (.tmp 0), none, []⟩,
 ⟨some 10, .len false (.tmp 9), none, []⟩,
 ⟨some 11, .move (.const (.int .i64 0)), none, []⟩]
def k_slices_Concat_int_int_r3 : List AOper := [
  ⟨some 12, .bin .plain .lss (.tmp 11) (.tmp 10), none, []⟩]
def k_slices_Concat_int_int_r4 : List AOper := [
  ⟨some 13, .indexAddr 1 (.tmp 9) (.tmp 11), none, []⟩,
 ⟨some 14, .load none (.tmp 13), none, []⟩,
 ⟨some 5, .move (.tmp 14), none, []⟩]
def k_slices_Concat_int_int_r5 : List AOper := [
  ⟨some 15, .move (.tmp 3), none, []⟩,
 ⟨some 16, .move (.tmp 5), none, []⟩,
 ⟨some 17, .len false (.tmp 16), none, []⟩,
 ⟨some 18, .bin .plain .add (.tmp 15) (.tmp 17), none, []⟩,
 ⟨some 3, .move (.tmp 18), none, []⟩]
def k_slices_Concat_int_int_r6 : List AOper := [
  ⟨some 19, .move (.tmp 3), none, []⟩,
 ⟨some 20, .bin .plain .lss (.tmp 19) (.const (.int .i64 0)), none, []⟩]
def k_slices_Concat_int_int_r7 : List AOper := [
  ⟨some 21, .makeIface 9 (.const (.str [108, 101, 110, 32, 111, 117, 116, 32, 111, 102, 32, 114, 97, 110, 103, 101])), none, []⟩,
 ⟨none, .bad, none, []⟩]
def k_slices_Concat_int_int_r8 : List AOper := [
  ⟨some 22, .bin .plain .add (.tmp 11) (.const (.int .i64 1)), none, []⟩,
 ⟨some 11, .move (.tmp 22), none, []⟩]
def k_slices_Concat_int_int_r9 : ACode := (.seq (.reg k_slices_Concat_int_int_r3 false) (.seq (.cond (.tmp 12) .skip (.exit 0)) (.seq (.block 1 (.seq (.reg k_slices_Concat_int_int_r4 false) (.seq (.reg k_slices_Concat_int_int_r5 false) (.seq (.reg k_slices_Concat_int_int_r6 false) (.cond (.tmp 20) (.reg k_slices_Concat_int_int_r7 false) .skip))))) (.reg k_slices_Concat_int_int_r8 false))))
def k_slices_Concat_int_int_r10 : List AOper := [
  ⟨some 23, .move (.tmp 3), none, []⟩,
 ⟨some 24, .call (.const (.fn (.func 86) [] [])) [.const (.nilsl), .tmp 23], none, []⟩,
 ⟨some 6, .move (.tmp 24), none, []⟩]
def k_slices_Concat_int_int_r11 : List AOper := [
  ⟨some 25, .move (.tmp 0), none, []⟩,
 ⟨some 26, .len false (.tmp 25), none, []⟩,
 ⟨some 27, .move (.const (.int .i64 0)), none, []⟩]
def k_slices_Concat_int_int_r12 : List AOper := [
  ⟨some 28, .bin .plain .lss (.tmp 27) (.tmp 26), none, []⟩]
def k_slices_Concat_int_int_r13 : List AOper := [
  ⟨some 29, .indexAddr 1 (.tmp 25) (.tmp 27), none, []⟩,
 ⟨some 30, .load none (.tmp 29), none, []⟩,
 ⟨some 8, .move (.tmp 30), none, []⟩]
def k_slices_Concat_int_int_r14 : List AOper := [
  ⟨some 31, .move (.tmp 6), none, []⟩,
 ⟨some 32, .move (.tmp 8), none, []⟩,
 ⟨some 33, .append 1 8 false (.tmp 31) (.tmp 32), none, []⟩,
 ⟨some 6, .move (.tmp 33), none, []⟩]
def k_slices_Concat_int_int_r15 : List AOper := [
  ⟨some 34, .bin .plain .add (.tmp 27) (.const (.int .i64 1)), none, []⟩,
 ⟨some 27, .move (.tmp 34), none, []⟩]
def k_slices_Concat_int_int_r16 : ACode := (.seq (.reg k_slices_Concat_int_int_r12 false) (.seq (.cond (.tmp 28) .skip (.exit 2)) (.seq (.block 3 (.seq (.reg k_slices_Concat_int_int_r13 false) (.reg k_slices_Concat_int_int_r14 false))) (.reg k_slices_Concat_int_int_r15 false))))
def k_slices_Concat_int_int_r17 : List AOper := [
  ⟨some 35, .move (.tmp 6), none, []⟩,
 ⟨some 2, .move (.tmp 35), none, []⟩]
def k_slices_Concat_int_int : AFun := { params := 1, ntmps := 36, body := (.seq (.reg k_slices_Concat_int_int_r0 false) (.seq (.reg k_slices_Concat_int_int_r1 false) (.seq (.seq (.reg k_slices_Concat_int_int_r2 false) (.block 0 (.loop k_slices_Concat_int_int_r9))) (.seq (.reg k_slices_Concat_int_int_r10 false) (.seq (.seq (.reg k_slices_Concat_int_int_r11 false) (.block 2 (.loop k_slices_Concat_int_int_r16))) (.seq (.reg k_slices_Concat_int_int_r17 false) .ret)))))), res := [.tmp 2] }
theorem k_slices_Concat_int_int_ok : cfun Tryd.prog Tryd.f57 = k_slices_Concat_int_int := by kernel_rfl

def k_curve_insideAt_r0 : List AOper := [
  ⟨some 4, .box (.tmp 0), none, []⟩,
 ⟨some 5, .box (.tmp 1), none, []⟩,
 ⟨some 8, .move (.const (.bool false)), none, []⟩]
def k_curve_insideAt_r1 : List AOper := [
  ⟨some 13, .fieldAddr 0 (.tmp 4), none, []⟩,
 ⟨some 14, .load none (.tmp 13), none, []⟩,
 ⟨some 15, .move (.tmp 2), none, [0, 1]⟩,
 ⟨some 16, .call (.const (.fn (.func 49) [] [])) [.tmp 14, .tmp 15], none, []⟩,
 ⟨some 17, .fieldAddr 1 (.tmp 4), none, [0, 1, 2, 3]⟩,
 ⟨some 18, .load none (.tmp 17), none, [0, 1, 2, 3]⟩,
 ⟨some 19, .move (.tmp 3), none, [0, 1, 2, 3, 4, 5]⟩,
 ⟨some 20, .call (.const (.fn (.func 49) [] [])) [.tmp 18, .tmp 19], none, []⟩,
 ⟨some 9, .box (.const (.agg [.int .i64 0, .int .i64 0, .int .i64 0])), none, [0, 1, 2, 3, 4, 5, 6, 7]⟩,
 ⟨some 10, .box (.const (.agg [.int .i64 0, .int .i64 0, .int .i64 0])), none, [0, 1, 2, 3, 4, 5, 6, 7, 8]⟩,
 ⟨none, .store 3 (.tmp 9) (.tmp 16), none, []⟩,
 ⟨none, .store 3 (.tmp 10) (.tmp 20), none, []⟩]
def k_curve_insideAt_r1s : List (List AOper) := [
  [
  ⟨some 13, .fieldAddr 0 (.tmp 4), none, []⟩,
 ⟨some 14, .load none (.tmp 13), none, []⟩,
 ⟨some 15, .move (.tmp 2), none, [0, 1]⟩,
 ⟨some 16, .call (.const (.fn (.func 49) [] [])) [.tmp 14, .tmp 15], none, []⟩,
 ⟨some 17, .fieldAddr 1 (.tmp 4), none, [0, 1, 2, 3]⟩,
 ⟨some 18, .load none (.tmp 17), none, [0, 1, 2, 3]⟩,
 ⟨some 19, .move (.tmp 3), none, [0, 1, 2, 3, 4, 5]⟩,
 ⟨some 20, .call (.const (.fn (.func 49) [] [])) [.tmp 18, .tmp 19], none, []⟩,
 ⟨some 9, .box (.const (.agg [.int .i64 0, .int .i64 0, .int .i64 0])), none, [0, 1, 2, 3, 4, 5, 6, 7]⟩,
 ⟨some 10, .box (.const (.agg [.int .i64 0, .int .i64 0, .int .i64 0])), none, [0, 1, 2, 3, 4, 5, 6, 7, 8]⟩], 
  [
  ⟨none, .store 3 (.tmp 9) (.tmp 16), none, []⟩], 
  [
  ⟨none, .store 3 (.tmp 10) (.tmp 20), none, []⟩]]
theorem k_curve_insideAt_r1_sg : segs k_curve_insideAt_r1 = k_curve_insideAt_r1s := by kernel_rfl
theorem k_curve_insideAt_r1_st : statOK k_curve_insideAt_r1 = true := by kernel_rfl
def k_curve_insideAt_r2 : List AOper := [
  ⟨some 21, .fieldAddr 0 (.tmp 5), none, []⟩,
 ⟨some 22, .load none (.tmp 21), none, []⟩,
 ⟨some 23, .move (.tmp 2), none, [0, 1]⟩,
 ⟨some 24, .call (.const (.fn (.func 49) [] [])) [.tmp 22, .tmp 23], none, []⟩,
 ⟨some 25, .fieldAddr 1 (.tmp 5), none, [0, 1, 2, 3]⟩,
 ⟨some 26, .load none (.tmp 25), none, [0, 1, 2, 3]⟩,
 ⟨some 27, .move (.tmp 3), none, [0, 1, 2, 3, 4, 5]⟩,
 ⟨some 28, .call (.const (.fn (.func 49) [] [])) [.tmp 26, .tmp 27], none, []⟩,
 ⟨some 11, .box (.const (.agg [.int .i64 0, .int .i64 0, .int .i64 0])), none, [0, 1, 2, 3, 4, 5, 6, 7]⟩,
 ⟨some 12, .box (.const (.agg [.int .i64 0, .int .i64 0, .int .i64 0])), none, [0, 1, 2, 3, 4, 5, 6, 7, 8]⟩,
 ⟨none, .store 3 (.tmp 11) (.tmp 24), none, []⟩,
 ⟨none, .store 3 (.tmp 12) (.tmp 28), none, []⟩]
def k_curve_insideAt_r2s : List (List AOper) := [
  [
  ⟨some 21, .fieldAddr 0 (.tmp 5), none, []⟩,
 ⟨some 22, .load none (.tmp 21), none, []⟩,
 ⟨some 23, .move (.tmp 2), none, [0, 1]⟩,
 ⟨some 24, .call (.const (.fn (.func 49) [] [])) [.tmp 22, .tmp 23], none, []⟩,
 ⟨some 25, .fieldAddr 1 (.tmp 5), none, [0, 1, 2, 3]⟩,
 ⟨some 26, .load none (.tmp 25), none, [0, 1, 2, 3]⟩,
 ⟨some 27, .move (.tmp 3), none, [0, 1, 2, 3, 4, 5]⟩,
 ⟨some 28, .call (.const (.fn (.func 49) [] [])) [.tmp 26, .tmp 27], none, []⟩,
 ⟨some 11, .box (.const (.agg [.int .i64 0, .int .i64 0, .int .i64 0])), none, [0, 1, 2, 3, 4, 5, 6, 7]⟩,
 ⟨some 12, .box (.const (.agg [.int .i64 0, .int .i64 0, .int .i64 0])), none, [0, 1, 2, 3, 4, 5, 6, 7, 8]⟩], 
  [
  ⟨none, .store 3 (.tmp 11) (.tmp 24), none, []⟩], 
  [
  ⟨none, .store 3 (.tmp 12) (.tmp 28), none, []⟩]]
theorem k_curve_insideAt_r2_sg : segs k_curve_insideAt_r2 = k_curve_insideAt_r2s := by kernel_rfl
theorem k_curve_insideAt_r2_st : statOK k_curve_insideAt_r2 = true := by kernel_rfl
def k_curve_insideAt_r3 : List AOper := [
  ⟨some 29, .fieldAddr 2 (.tmp 5), none, []⟩,
 ⟨some 30, .load none (.tmp 29), none, []⟩,
 ⟨some 31, .load (some (3)) (.tmp 11), none, [0, 1]⟩,
 ⟨some 32, .load (some (3)) (.tmp 12), none, [0, 1, 2]⟩,
 ⟨some 33, .call (.const (.fn (.func 50) [] [])) [.tmp 30, .tmp 31, .tmp 32], none, []⟩,
 ⟨some 34, .fieldAddr 2 (.tmp 4), none, [0, 1, 2, 3, 4]⟩,
 ⟨some 35, .load none (.tmp 34), none, [0, 1, 2, 3, 4]⟩,
 ⟨some 36, .load (some (3)) (.tmp 9), none, [0, 1, 2, 3, 4, 5, 6]⟩,
 ⟨some 37, .load (some (3)) (.tmp 10), none, [0, 1, 2, 3, 4, 5, 6, 7]⟩,
 ⟨some 38, .call (.const (.fn (.func 50) [] [])) [.tmp 35, .tmp 36, .tmp 37], none, []⟩,
 ⟨some 39, .call (.const (.fn (.func 87) [] [])) [.tmp 33, .tmp 38], none, []⟩,
 ⟨some 40, .not (.tmp 39), none, []⟩,
 ⟨some 41, .move (.tmp 40), none, []⟩,
 ⟨some 42, .fieldAddr 3 (.tmp 4), (some (41, true)), []⟩,
 ⟨some 43, .load none (.tmp 42), (some (41, true)), []⟩,
 ⟨some 44, .load (some (3)) (.tmp 9), (some (41, true)), [13, 14]⟩,
 ⟨some 45, .load (some (3)) (.tmp 10), (some (41, true)), [13, 14, 15]⟩,
 ⟨some 46, .call (.const (.fn (.func 50) [] [])) [.tmp 43, .tmp 44, .tmp 45], (some (41, true)), []⟩,
 ⟨some 47, .fieldAddr 3 (.tmp 5), (some (41, true)), [13, 14, 15, 16, 17]⟩,
 ⟨some 48, .load none (.tmp 47), (some (41, true)), [13, 14, 15, 16, 17]⟩,
 ⟨some 49, .load (some (3)) (.tmp 11), (some (41, true)), [13, 14, 15, 16, 17, 18, 19]⟩,
 ⟨some 50, .load (some (3)) (.tmp 12), (some (41, true)), [13, 14, 15, 16, 17, 18, 19, 20]⟩,
 ⟨some 51, .call (.const (.fn (.func 50) [] [])) [.tmp 48, .tmp 49, .tmp 50], (some (41, true)), []⟩,
 ⟨some 52, .call (.const (.fn (.func 87) [] [])) [.tmp 46, .tmp 51], (some (41, true)), []⟩,
 ⟨some 53, .not (.tmp 52), (some (41, true)), []⟩,
 ⟨some 54, .pick (.tmp 41) (.tmp 53) (.const (.bool false)), none, []⟩,
 ⟨some 8, .move (.tmp 54), none, []⟩]
def k_curve_insideAt_r3s : List (List AOper) := [
  [
  ⟨some 29, .fieldAddr 2 (.tmp 5), none, []⟩,
 ⟨some 30, .load none (.tmp 29), none, []⟩,
 ⟨some 31, .load (some (3)) (.tmp 11), none, [0, 1]⟩,
 ⟨some 32, .load (some (3)) (.tmp 12), none, [0, 1, 2]⟩,
 ⟨some 33, .call (.const (.fn (.func 50) [] [])) [.tmp 30, .tmp 31, .tmp 32], none, []⟩,
 ⟨some 34, .fieldAddr 2 (.tmp 4), none, [0, 1, 2, 3, 4]⟩,
 ⟨some 35, .load none (.tmp 34), none, [0, 1, 2, 3, 4]⟩,
 ⟨some 36, .load (some (3)) (.tmp 9), none, [0, 1, 2, 3, 4, 5, 6]⟩,
 ⟨some 37, .load (some (3)) (.tmp 10), none, [0, 1, 2, 3, 4, 5, 6, 7]⟩], 
  [
  ⟨some 38, .call (.const (.fn (.func 50) [] [])) [.tmp 35, .tmp 36, .tmp 37], none, []⟩], 
  [
  ⟨some 39, .call (.const (.fn (.func 87) [] [])) [.tmp 33, .tmp 38], none, []⟩], 
  [
  ⟨some 40, .not (.tmp 39), none, []⟩], 
  [
  ⟨some 41, .move (.tmp 40), none, []⟩], 
  [
  ⟨some 42, .fieldAddr 3 (.tmp 4), (some (41, true)), []⟩,
 ⟨some 43, .load none (.tmp 42), (some (41, true)), []⟩,
 ⟨some 44, .load (some (3)) (.tmp 9), (some (41, true)), [13, 14]⟩,
 ⟨some 45, .load (some (3)) (.tmp 10), (some (41, true)), [13, 14, 15]⟩,
 ⟨some 46, .call (.const (.fn (.func 50) [] [])) [.tmp 43, .tmp 44, .tmp 45], (some (41, true)), []⟩,
 ⟨some 47, .fieldAddr 3 (.tmp 5), (some (41, true)), [13, 14, 15, 16, 17]⟩,
 ⟨some 48, .load none (.tmp 47), (some (41, true)), [13, 14, 15, 16, 17]⟩,
 ⟨some 49, .load (some (3)) (.tmp 11), (some (41, true)), [13, 14, 15, 16, 17, 18, 19]⟩,
 ⟨some 50, .load (some (3)) (.tmp 12), (some (41, true)), [13, 14, 15, 16, 17, 18, 19, 20]⟩], 
  [
  ⟨some 51, .call (.const (.fn (.func 50) [] [])) [.tmp 48, .tmp 49, .tmp 50], (some (41, true)), []⟩], 
  [
  ⟨some 52, .call (.const (.fn (.func 87) [] [])) [.tmp 46, .tmp 51], (some (41, true)), []⟩], 
  [
  ⟨some 53, .not (.tmp 52), (some (41, true)), []⟩], 
  [
  ⟨some 54, .pick (.tmp 41) (.tmp 53) (.const (.bool false)), none, []⟩], 
  [
  ⟨some 8, .move (.tmp 54), none, []⟩]]
theorem k_curve_insideAt_r3_sg : segs k_curve_insideAt_r3 = k_curve_insideAt_r3s := by kernel_rfl
theorem k_curve_insideAt_r3_st : statOK k_curve_insideAt_r3 = true := by kernel_rfl
def k_curve_insideAt : AFun := { params := 4, ntmps := 55, body := (.seq (.reg k_curve_insideAt_r0 false) (.seq (.reg k_curve_insideAt_r1 true) (.seq (.reg k_curve_insideAt_r2 true) (.seq (.reg k_curve_insideAt_r3 true) .ret)))), res := [.tmp 8] }
theorem k_curve_insideAt_ok : cfun Tryd.prog Tryd.f58 = k_curve_insideAt := by kernel_rfl

def k_curve_narrow_1_r0 : List AOper := [
  ⟨some 5, .box (.const (.agg [.int .i64 0, .int .i64 0])), none, []⟩]
def k_curve_narrow_1_r1 : List AOper := [
  ⟨some 6, .load none (.tmp 1), none, []⟩,
 ⟨some 7, .move (.tmp 0), none, []⟩,
 ⟨some 8, .move (.tmp 0), none, []⟩,
 ⟨some 9, .build [.int .i64 0, .int .i64 0] [(0, 1, .tmp 7), (1, 1, .tmp 8)], none, []⟩,
 ⟨some 10, .nilCheck (.tmp 6), none, []⟩,
 ⟨none, .store 2 (.tmp 10) (.tmp 9), none, []⟩]
def k_curve_narrow_1_r2 : List AOper := [
  ⟨some 11, .load none (.tmp 2), none, []⟩,
 ⟨some 12, .nilCheck (.tmp 11), none, []⟩,
 ⟨some 13, .load (some (10)) (.tmp 12), none, []⟩,
 ⟨some 14, .fieldAddr 0 (.tmp 3), none, [0, 1, 2]⟩,
 ⟨some 15, .load none (.tmp 14), none, [0, 1, 2]⟩,
 ⟨some 16, .fieldAddr 1 (.tmp 3), none, [0, 1, 2, 3, 4]⟩,
 ⟨some 17, .load none (.tmp 16), none, [0, 1, 2, 3, 4]⟩,
 ⟨some 18, .call (.const (.fn (.func 61) [] [])) [.tmp 13, .tmp 15, .tmp 17], none, []⟩,
 ⟨none, .store 2 (.tmp 5) (.tmp 18), none, []⟩]
def k_curve_narrow_1_r2s : List (List AOper) := [
  [
  ⟨some 11, .load none (.tmp 2), none, []⟩,
 ⟨some 12, .nilCheck (.tmp 11), none, []⟩,
 ⟨some 13, .load (some (10)) (.tmp 12), none, []⟩,
 ⟨some 14, .fieldAddr 0 (.tmp 3), none, [0, 1, 2]⟩,
 ⟨some 15, .load none (.tmp 14), none, [0, 1, 2]⟩,
 ⟨some 16, .fieldAddr 1 (.tmp 3), none, [0, 1, 2, 3, 4]⟩,
 ⟨some 17, .load none (.tmp 16), none, [0, 1, 2, 3, 4]⟩], 
  [
  ⟨some 18, .call (.const (.fn (.func 61) [] [])) [.tmp 13, .tmp 15, .tmp 17], none, []⟩], 
  [
  ⟨none, .store 2 (.tmp 5) (.tmp 18), none, []⟩]]
theorem k_curve_narrow_1_r2_sg : segs k_curve_narrow_1_r2 = k_curve_narrow_1_r2s := by kernel_rfl
theorem k_curve_narrow_1_r2_st : statOK k_curve_narrow_1_r2 = true := by kernel_rfl
def k_curve_narrow_1 : AFun := { params := 4, ntmps := 19, body := (.seq (.reg k_curve_narrow_1_r0 false) (.seq (.reg k_curve_narrow_1_r1 false) (.seq (.reg k_curve_narrow_1_r2 true) .ret))), res := [.cell 5 (some ((some (2))))] }
theorem k_curve_narrow_1_ok : cfun Tryd.prog Tryd.f66 = k_curve_narrow_1 := by kernel_rfl

def k_curve_narrow_2_r0 : List AOper := [
  ⟨some 4, .move (.const (.bool false)), none, []⟩]
def k_curve_narrow_2_r1 : List AOper := [
  ⟨some 5, .load none (.tmp 1), none, []⟩,
 ⟨some 6, .move (.tmp 0), none, [0]⟩,
 ⟨some 7, .call (.tmp 5) [.tmp 6], none, []⟩,
 ⟨some 8, .field none 1 (.tmp 7), none, []⟩,
 ⟨some 9, .fieldAddr 2 (.tmp 2), none, [0, 1, 2, 3]⟩,
 ⟨some 10, .fieldAddr 0 (.tmp 9), none, [0, 1, 2, 3]⟩,
 ⟨some 11, .load none (.tmp 10), none, [0, 1, 2, 3]⟩,
 ⟨some 12, .bin .plain .lss (.tmp 8) (.tmp 11), none, []⟩,
 ⟨some 4, .move (.tmp 12), none, []⟩]
def k_curve_narrow_2_r1s : List (List AOper) := [
  [
  ⟨some 5, .load none (.tmp 1), none, []⟩,
 ⟨some 6, .move (.tmp 0), none, [0]⟩,
 ⟨some 7, .call (.tmp 5) [.tmp 6], none, []⟩,
 ⟨some 8, .field none 1 (.tmp 7), none, []⟩,
 ⟨some 9, .fieldAddr 2 (.tmp 2), none, [0, 1, 2, 3]⟩,
 ⟨some 10, .fieldAddr 0 (.tmp 9), none, [0, 1, 2, 3]⟩,
 ⟨some 11, .load none (.tmp 10), none, [0, 1, 2, 3]⟩], 
  [
  ⟨some 12, .bin .plain .lss (.tmp 8) (.tmp 11), none, []⟩], 
  [
  ⟨some 4, .move (.tmp 12), none, []⟩]]
theorem k_curve_narrow_2_r1_sg : segs k_curve_narrow_2_r1 = k_curve_narrow_2_r1s := by kernel_rfl
theorem k_curve_narrow_2_r1_st : statOK k_curve_narrow_2_r1 = true := by kernel_rfl
def k_curve_narrow_2 : AFun := { params := 3, ntmps := 13, body := (.seq (.reg k_curve_narrow_2_r0 false) (.seq (.reg k_curve_narrow_2_r1 true) .ret)), res := [.tmp 4] }
theorem k_curve_narrow_2_ok : cfun Tryd.prog Tryd.f67 = k_curve_narrow_2 := by kernel_rfl

def k_curve_narrow_3_r0 : List AOper := [
  ⟨some 4, .move (.const (.bool false)), none, []⟩]
def k_curve_narrow_3_r1 : List AOper := [
  ⟨some 5, .load none (.tmp 1), none, []⟩,
 ⟨some 6, .move (.tmp 0), none, [0]⟩,
 ⟨some 7, .call (.tmp 5) [.tmp 6], none, []⟩,
 ⟨some 8, .field none 0 (.tmp 7), none, []⟩,
 ⟨some 9, .fieldAddr 2 (.tmp 2), none, [0, 1, 2, 3]⟩,
 ⟨some 10, .fieldAddr 1 (.tmp 9), none, [0, 1, 2, 3]⟩,
 ⟨some 11, .load none (.tmp 10), none, [0, 1, 2, 3]⟩,
 ⟨some 12, .bin .plain .gtr (.tmp 8) (.tmp 11), none, []⟩,
 ⟨some 4, .move (.tmp 12), none, []⟩]
def k_curve_narrow_3_r1s : List (List AOper) := [
  [
  ⟨some 5, .load none (.tmp 1), none, []⟩,
 ⟨some 6, .move (.tmp 0), none, [0]⟩,
 ⟨some 7, .call (.tmp 5) [.tmp 6], none, []⟩,
 ⟨some 8, .field none 0 (.tmp 7), none, []⟩,
 ⟨some 9, .fieldAddr 2 (.tmp 2), none, [0, 1, 2, 3]⟩,
 ⟨some 10, .fieldAddr 1 (.tmp 9), none, [0, 1, 2, 3]⟩,
 ⟨some 11, .load none (.tmp 10), none, [0, 1, 2, 3]⟩], 
  [
  ⟨some 12, .bin .plain .gtr (.tmp 8) (.tmp 11), none, []⟩], 
  [
  ⟨some 4, .move (.tmp 12), none, []⟩]]
theorem k_curve_narrow_3_r1_sg : segs k_curve_narrow_3_r1 = k_curve_narrow_3_r1s := by kernel_rfl
theorem k_curve_narrow_3_r1_st : statOK k_curve_narrow_3_r1 = true := by kernel_rfl
def k_curve_narrow_3 : AFun := { params := 3, ntmps := 13, body := (.seq (.reg k_curve_narrow_3_r0 false) (.seq (.reg k_curve_narrow_3_r1 true) .ret)), res := [.tmp 4] }
theorem k_curve_narrow_3_ok : cfun Tryd.prog Tryd.f68 = k_curve_narrow_3 := by kernel_rfl

def k_curve_kept_r0 : List AOper := [
  ⟨some 3, .box (.tmp 0), none, []⟩,
 ⟨some 4, .box (.tmp 1), none, []⟩,
 ⟨some 5, .box (.tmp 2), none, []⟩,
 ⟨some 6, .box (.const (.agg [.int .i64 0, .int .i64 0])), none, []⟩]
def k_curve_kept_r1 : List AOper := [
  ⟨some 10, .fieldAddr 1 (.tmp 3), none, []⟩,
 ⟨some 11, .load none (.tmp 10), none, []⟩,
 ⟨some 12, .fieldAddr 0 (.tmp 3), none, []⟩,
 ⟨some 13, .load none (.tmp 12), none, []⟩,
 ⟨some 14, .bin .plain .sub (.tmp 11) (.tmp 13), none, []⟩,
 ⟨some 15, .bin .plain .add (.tmp 14) (.const (.int .i64 1)), none, []⟩,
 ⟨some 7, .move (.tmp 15), none, []⟩]
def k_curve_kept_r2 : List AOper := [
  ⟨some 16, .move (.tmp 7), none, []⟩,
 ⟨some 17, .makeFunc (.func 95) [] [.tmp 4, .tmp 3], none, []⟩,
 ⟨some 18, .call (.const (.fn (.func 94) [] [])) [.tmp 16, .tmp 17], none, []⟩,
 ⟨some 8, .move (.tmp 18), none, []⟩]
def k_curve_kept_r3 : List AOper := [
  ⟨some 19, .move (.tmp 7), none, []⟩,
 ⟨some 20, .makeFunc (.func 96) [] [.tmp 5, .tmp 3], none, []⟩,
 ⟨some 21, .call (.const (.fn (.func 94) [] [])) [.tmp 19, .tmp 20], none, []⟩,
 ⟨some 9, .move (.tmp 21), none, []⟩]
def k_curve_kept_r4 : List AOper := [
  ⟨some 22, .move (.tmp 8), none, []⟩,
 ⟨some 23, .move (.tmp 9), none, []⟩,
 ⟨some 24, .bin .plain .geq (.tmp 22) (.tmp 23), none, []⟩]
def k_curve_kept_r5 : List AOper := [
  ⟨some 25, .load (some (2)) (.const (.rptr (.agg [.int .i64 1, .int .i64 0]) 0)), none, []⟩,
 ⟨none, .store 2 (.tmp 6) (.tmp 25), none, []⟩]
def k_curve_kept_r6 : List AOper := [
  ⟨some 26, .fieldAddr 0 (.tmp 3), none, []⟩,
 ⟨some 27, .load none (.tmp 26), none, []⟩,
 ⟨some 28, .move (.tmp 8), none, []⟩,
 ⟨some 29, .bin .plain .add (.tmp 27) (.tmp 28), none, []⟩,
 ⟨some 30, .fieldAddr 0 (.tmp 3), none, []⟩,
 ⟨some 31, .load none (.tmp 30), none, []⟩,
 ⟨some 32, .move (.tmp 9), none, []⟩,
 ⟨some 33, .bin .plain .add (.tmp 31) (.tmp 32), none, []⟩,
 ⟨some 34, .bin .plain .sub (.tmp 33) (.const (.int .i64 1)), none, []⟩,
 ⟨some 35, .build [.int .i64 0, .int .i64 0] [(0, 1, .tmp 29), (1, 1, .tmp 34)], none, []⟩,
 ⟨none, .store 2 (.tmp 6) (.tmp 35), none, []⟩]
def k_curve_kept : AFun := { params := 3, ntmps := 36, body := (.seq (.reg k_curve_kept_r0 false) (.seq (.reg k_curve_kept_r1 false) (.seq (.reg k_curve_kept_r2 false) (.seq (.reg k_curve_kept_r3 false) (.seq (.seq (.reg k_curve_kept_r4 false) (.cond (.tmp 24) (.seq (.reg k_curve_kept_r5 false) .ret) .skip)) (.seq (.reg k_curve_kept_r6 false) .ret)))))), res := [.cell 6 (some ((some (2))))] }
theorem k_curve_kept_ok : cfun Tryd.prog Tryd.f69 = k_curve_kept := by kernel_rfl

def k_curve_linesOf_r0 : List AOper := [
  ⟨some 4, .box (.const (.agg [.nilsl, .nilsl, .nilsl, .nilsl])), none, []⟩]
def k_curve_linesOf_r1 : List AOper := [
  ⟨some 6, .move (.tmp 0), none, []⟩,
 ⟨some 7, .call (.const (.fn (.func 98) [] [])) [.tmp 6], none, []⟩,
 ⟨some 8, .move (.tmp 1), none, []⟩,
 ⟨some 9, .call (.const (.fn (.func 98) [] [])) [.tmp 8], none, []⟩,
 ⟨some 10, .build [.nilsl, .nilsl, .nilsl, .nilsl] [(0, 1, .tmp 7), (1, 1, .tmp 9)], none, []⟩,
 ⟨some 5, .box (.const (.agg [.nilsl, .nilsl, .nilsl, .nilsl])), none, []⟩,
 ⟨none, .store 4 (.tmp 5) (.tmp 10), none, []⟩]
def k_curve_linesOf_r2 : List AOper := [
  ⟨some 11, .move (.tmp 0), none, []⟩,
 ⟨some 12, .len false (.tmp 11), none, []⟩,
 ⟨some 13, .move (.const (.int .i64 0)), none, []⟩]
def k_curve_linesOf_r3 : List AOper := [
  ⟨some 14, .bin .plain .lss (.tmp 13) (.tmp 12), none, []⟩]
def k_curve_linesOf_r4 : List AOper := [
  ⟨some 15, .fieldAddr 2 (.tmp 5), none, []⟩,
 ⟨some 16, .load none (.tmp 15), none, []⟩,
 ⟨some 17, .move (.tmp 1), none, [0, 1]⟩,
 ⟨some 18, .len false (.tmp 17), none, [0, 1]⟩,
 ⟨some 19, .makeSlice (.int .i64 0) 8 (.tmp 18) (.tmp 18), none, [0, 1]⟩,
 ⟨some 20, .buildSlice 1 [.tmp 19], none, [0, 1]⟩,
 ⟨some 21, .append 1 24 false (.tmp 16) (.tmp 20), none, []⟩,
 ⟨some 22, .fieldAddr 2 (.tmp 5), none, []⟩,
 ⟨none, .store 1 (.tmp 22) (.tmp 21), none, []⟩]
def k_curve_linesOf_r4s : List (List AOper) := [
  [
  ⟨some 15, .fieldAddr 2 (.tmp 5), none, []⟩,
 ⟨some 16, .load none (.tmp 15), none, []⟩,
 ⟨some 17, .move (.tmp 1), none, [0, 1]⟩,
 ⟨some 18, .len false (.tmp 17), none, [0, 1]⟩,
 ⟨some 19, .makeSlice (.int .i64 0) 8 (.tmp 18) (.tmp 18), none, [0, 1]⟩,
 ⟨some 20, .buildSlice 1 [.tmp 19], none, [0, 1]⟩], 
  [
  ⟨some 21, .append 1 24 false (.tmp 16) (.tmp 20), none, []⟩], 
  [
  ⟨some 22, .fieldAddr 2 (.tmp 5), none, []⟩], 
  [
  ⟨none, .store 1 (.tmp 22) (.tmp 21), none, []⟩]]
theorem k_curve_linesOf_r4_sg : segs k_curve_linesOf_r4 = k_curve_linesOf_r4s := by kernel_rfl
theorem k_curve_linesOf_r4_st : statOK k_curve_linesOf_r4 = true := by kernel_rfl
def k_curve_linesOf_r5 : List AOper := [
  ⟨some 23, .fieldAddr 3 (.tmp 5), none, []⟩,
 ⟨some 24, .load none (.tmp 23), none, []⟩,
 ⟨some 25, .move (.tmp 1), none, [0, 1]⟩,
 ⟨some 26, .len false (.tmp 25), none, [0, 1]⟩,
 ⟨some 27, .makeSlice (.int .i64 0) 8 (.tmp 26) (.tmp 26), none, [0, 1]⟩,
 ⟨some 28, .buildSlice 1 [.tmp 27], none, [0, 1]⟩,
 ⟨some 29, .append 1 24 false (.tmp 24) (.tmp 28), none, []⟩,
 ⟨some 30, .fieldAddr 3 (.tmp 5), none, []⟩,
 ⟨none, .store 1 (.tmp 30) (.tmp 29), none, []⟩]
def k_curve_linesOf_r5s : List (List AOper) := [
  [
  ⟨some 23, .fieldAddr 3 (.tmp 5), none, []⟩,
 ⟨some 24, .load none (.tmp 23), none, []⟩,
 ⟨some 25, .move (.tmp 1), none, [0, 1]⟩,
 ⟨some 26, .len false (.tmp 25), none, [0, 1]⟩,
 ⟨some 27, .makeSlice (.int .i64 0) 8 (.tmp 26) (.tmp 26), none, [0, 1]⟩,
 ⟨some 28, .buildSlice 1 [.tmp 27], none, [0, 1]⟩], 
  [
  ⟨some 29, .append 1 24 false (.tmp 24) (.tmp 28), none, []⟩], 
  [
  ⟨some 30, .fieldAddr 3 (.tmp 5), none, []⟩], 
  [
  ⟨none, .store 1 (.tmp 30) (.tmp 29), none, []⟩]]
theorem k_curve_linesOf_r5_sg : segs k_curve_linesOf_r5 = k_curve_linesOf_r5s := by kernel_rfl
theorem k_curve_linesOf_r5_st : statOK k_curve_linesOf_r5 = true := by kernel_rfl
def k_curve_linesOf_r6 : List AOper := [
  ⟨some 31, .bin .plain .add (.tmp 13) (.const (.int .i64 1)), none, []⟩,
 ⟨some 13, .move (.tmp 31), none, []⟩]
def k_curve_linesOf_r7 : ACode := (.seq (.reg k_curve_linesOf_r3 false) (.seq (.cond (.tmp 14) .skip (.exit 0)) (.seq (.block 1 (.seq (.reg k_curve_linesOf_r4 true) (.reg k_curve_linesOf_r5 true))) (.reg k_curve_linesOf_r6 false))))
def k_curve_linesOf_r8 : List AOper := [
  ⟨some 32, .load (some (4)) (.tmp 5), none, []⟩,
 ⟨none, .store 4 (.tmp 4) (.tmp 32), none, []⟩]
def k_curve_linesOf : AFun := { params := 2, ntmps := 33, body := (.seq (.reg k_curve_linesOf_r0 false) (.seq (.reg k_curve_linesOf_r1 false) (.seq (.seq (.reg k_curve_linesOf_r2 false) (.block 0 (.loop k_curve_linesOf_r7))) (.seq (.reg k_curve_linesOf_r8 false) .ret)))), res := [.cell 4 (some ((some (4))))] }
theorem k_curve_linesOf_ok : cfun Tryd.prog Tryd.f78 = k_curve_linesOf := by kernel_rfl

def k_kit_Same_r0 : List AOper := [
  ⟨some 4, .move (.const (.bool false)), none, []⟩]
def k_kit_Same_r1 : List AOper := [
  ⟨some 6, .move (.tmp 0), none, []⟩,
 ⟨some 7, .len false (.tmp 6), none, []⟩,
 ⟨some 8, .move (.tmp 1), none, []⟩,
 ⟨some 9, .len false (.tmp 8), none, []⟩,
 ⟨some 10, .bin .plain .neq (.tmp 7) (.tmp 9), none, []⟩]
def k_kit_Same_r2 : List AOper := [
  ⟨some 4, .move (.const (.bool false)), none, []⟩]
def k_kit_Same_r3 : List AOper := [
  ⟨some 5, .move (.const (.int .i64 0)), none, []⟩]
def k_kit_Same_r4 : List AOper := [
  ⟨some 11, .move (.tmp 5), none, []⟩,
 ⟨some 12, .move (.tmp 0), none, []⟩,
 ⟨some 13, .len false (.tmp 12), none, []⟩,
 ⟨some 14, .bin .plain .lss (.tmp 11) (.tmp 13), none, []⟩]
def k_kit_Same_r5 : List AOper := [
  ⟨some 17, .move (.tmp 0), none, []⟩,
 ⟨some 18, .move (.tmp 5), none, [0]⟩,
 ⟨some 19, .indexAddr 1 (.tmp 17) (.tmp 18), none, []⟩,
 ⟨some 20, .load none (.tmp 19), none, []⟩,
 ⟨some 21, .move (.tmp 1), none, [0, 1, 2, 3]⟩,
 ⟨some 22, .move (.tmp 5), none, [0, 1, 2, 3, 4]⟩,
 ⟨some 23, .indexAddr 1 (.tmp 21) (.tmp 22), none, [0, 1, 2, 3]⟩,
 ⟨some 24, .load none (.tmp 23), none, [0, 1, 2, 3]⟩,
 ⟨some 25, .bin .plain .neq (.tmp 20) (.tmp 24), none, []⟩]
def k_kit_Same_r5s : List (List AOper) := [
  [
  ⟨some 17, .move (.tmp 0), none, []⟩,
 ⟨some 18, .move (.tmp 5), none, [0]⟩,
 ⟨some 19, .indexAddr 1 (.tmp 17) (.tmp 18), none, []⟩,
 ⟨some 20, .load none (.tmp 19), none, []⟩,
 ⟨some 21, .move (.tmp 1), none, [0, 1, 2, 3]⟩,
 ⟨some 22, .move (.tmp 5), none, [0, 1, 2, 3, 4]⟩,
 ⟨some 23, .indexAddr 1 (.tmp 21) (.tmp 22), none, [0, 1, 2, 3]⟩,
 ⟨some 24, .load none (.tmp 23), none, [0, 1, 2, 3]⟩], 
  [
  ⟨some 25, .bin .plain .neq (.tmp 20) (.tmp 24), none, []⟩]]
theorem k_kit_Same_r5_sg : segs k_kit_Same_r5 = k_kit_Same_r5s := by kernel_rfl
theorem k_kit_Same_r5_st : statOK k_kit_Same_r5 = true := by kernel_rfl
def k_kit_Same_r6 : List AOper := [
  ⟨some 4, .move (.const (.bool false)), none, []⟩]
def k_kit_Same_r7 : List AOper := [
  ⟨some 15, .move (.tmp 5), none, []⟩,
 ⟨some 16, .bin .plain .add (.tmp 15) (.const (.int .i64 1)), none, []⟩,
 ⟨some 5, .move (.tmp 16), none, []⟩]
def k_kit_Same_r8 : ACode := (.seq (.seq (.reg k_kit_Same_r4 false) (.cond (.tmp 14) .skip (.exit 0))) (.seq (.block 1 (.seq (.reg k_kit_Same_r5 true) (.cond (.tmp 25) (.seq (.reg k_kit_Same_r6 false) .ret) .skip))) (.reg k_kit_Same_r7 false)))
def k_kit_Same_r9 : List AOper := [
  ⟨some 4, .move (.const (.bool true)), none, []⟩]
def k_kit_Same : AFun := { params := 2, ntmps := 26, body := (.seq (.reg k_kit_Same_r0 false) (.seq (.seq (.reg k_kit_Same_r1 false) (.cond (.tmp 10) (.seq (.reg k_kit_Same_r2 false) .ret) .skip)) (.seq (.seq (.reg k_kit_Same_r3 false) (.block 0 (.loop k_kit_Same_r8))) (.seq (.reg k_kit_Same_r9 false) .ret)))), res := [.tmp 4] }
theorem k_kit_Same_ok : cfun Tryd.prog Tryd.f79 = k_kit_Same := by kernel_rfl

def k_curve_steepness_curve_byGrid_r0 : List AOper := [
  ⟨some 14, .box (.const (.agg [.int .i64 0, .int .i64 0])), none, []⟩]
def k_curve_steepness_curve_byGrid_r1 : List AOper := [
  ⟨some 21, .move (.tmp 3), none, []⟩,
 ⟨some 22, .move (.tmp 5), none, []⟩,
 ⟨some 23, .call (.const (.fn (.func 49) [] [])) [.tmp 21, .tmp 22], none, []⟩,
 ⟨some 15, .box (.const (.agg [.int .i64 0, .int .i64 0, .int .i64 0])), none, []⟩,
 ⟨none, .store 3 (.tmp 15) (.tmp 23), none, []⟩]
def k_curve_steepness_curve_byGrid_r2 : List AOper := [
  ⟨some 16, .box (.const (.agg [.int .i64 0, .int .i64 0])), none, []⟩]
def k_curve_steepness_curve_byGrid_r3 : List AOper := [
  ⟨some 24, .load (some (3)) (.tmp 15), none, []⟩,
 ⟨some 25, .call (.const (.fn (.func 82) [] [])) [.tmp 24], none, []⟩,
 ⟨some 26, .move (.const (.int .i64 0)), none, []⟩]
def k_curve_steepness_curve_byGrid_r4 : List AOper := [
  ⟨some 27, .bin .plain .lss (.tmp 26) (.const (.int .i64 2)), none, []⟩]
def k_curve_steepness_curve_byGrid_r5 : List AOper := [
  ⟨some 28, .move (.tmp 26), none, []⟩,
 ⟨some 29, .indexAgg 2 1 false (.tmp 25) (.tmp 26), none, []⟩,
 ⟨some 17, .move (.tmp 28), none, []⟩,
 ⟨some 18, .move (.tmp 29), none, []⟩]
def k_curve_steepness_curve_byGrid_r6 : List AOper := [
  ⟨some 30, .move (.tmp 18), none, []⟩,
 ⟨some 31, .bin .plain .eql (.tmp 30) (.const (.int .i64 0)), none, []⟩]
def k_curve_steepness_curve_byGrid_r7 : List AOper := [
  ⟨some 32, .fieldAddr 0 (.tmp 15), none, []⟩,
 ⟨some 33, .load none (.tmp 32), none, []⟩,
 ⟨some 34, .move (.tmp 17), none, []⟩,
 ⟨some 35, .bin .plain .add (.tmp 33) (.tmp 34), none, []⟩,
 ⟨some 19, .move (.tmp 35), none, []⟩]
def k_curve_steepness_curve_byGrid_r8 : List AOper := [
  ⟨some 36, .fieldAddr 0 (.tmp 16), none, []⟩,
 ⟨some 37, .load none (.tmp 36), none, []⟩,
 ⟨some 38, .move (.tmp 18), none, [0, 1]⟩,
 ⟨some 39, .move (.tmp 0), none, [0, 1, 2]⟩,
 ⟨some 40, .makeIface 115 (.tmp 39), none, [0, 1, 2]⟩,
 ⟨some 41, .move (.tmp 4), none, [0, 1, 2, 3, 4]⟩,
 ⟨some 42, .bin .plain .add (.tmp 41) (.const (.int .i64 1)), none, [0, 1, 2, 3, 4]⟩,
 ⟨some 43, .move (.tmp 19), none, [0, 1, 2, 3, 4, 5, 6]⟩,
 ⟨some 44, .callM [(115, 133), (117, 134)] (.tmp 40) [.tmp 42, .tmp 43], none, [0, 1, 2]⟩,
 ⟨some 45, .move (.tmp 1), none, [0, 1, 2, 3, 4, 5, 6, 7, 8]⟩,
 ⟨some 46, .makeIface 115 (.tmp 45), none, [0, 1, 2, 3, 4, 5, 6, 7, 8]⟩,
 ⟨some 47, .move (.tmp 4), none, [0, 1, 2, 3, 4, 5, 6, 7, 8, 9, 10]⟩,
 ⟨some 48, .move (.tmp 19), none, [0, 1, 2, 3, 4, 5, 6, 7, 8, 9, 10, 11]⟩,
 ⟨some 49, .callM [(115, 133), (117, 134)] (.tmp 46) [.tmp 47, .tmp 48], none, [0, 1, 2]⟩,
 ⟨some 50, .bin .plain .sub (.tmp 44) (.tmp 49), none, [0, 1, 2]⟩,
 ⟨some 51, .minmax true [.const (.int .i64 0), .tmp 50], none, [0, 1, 2]⟩,
 ⟨some 52, .bin .plain .mul (.tmp 38) (.tmp 51), none, [0, 1]⟩,
 ⟨some 53, .bin .plain .add (.tmp 37) (.tmp 52), none, []⟩,
 ⟨some 54, .fieldAddr 0 (.tmp 16), none, []⟩,
 ⟨none, .store 1 (.tmp 54) (.tmp 53), none, []⟩]
def k_curve_steepness_curve_byGrid_r8s : List (List AOper) := [
  [
  ⟨some 36, .fieldAddr 0 (.tmp 16), none, []⟩,
 ⟨some 37, .load none (.tmp 36), none, []⟩,
 ⟨some 38, .move (.tmp 18), none, [0, 1]⟩,
 ⟨some 39, .move (.tmp 0), none, [0, 1, 2]⟩,
 ⟨some 40, .makeIface 115 (.tmp 39), none, [0, 1, 2]⟩,
 ⟨some 41, .move (.tmp 4), none, [0, 1, 2, 3, 4]⟩,
 ⟨some 42, .bin .plain .add (.tmp 41) (.const (.int .i64 1)), none, [0, 1, 2, 3, 4]⟩,
 ⟨some 43, .move (.tmp 19), none, [0, 1, 2, 3, 4, 5, 6]⟩,
 ⟨some 44, .callM [(115, 133), (117, 134)] (.tmp 40) [.tmp 42, .tmp 43], none, [0, 1, 2]⟩,
 ⟨some 45, .move (.tmp 1), none, [0, 1, 2, 3, 4, 5, 6, 7, 8]⟩,
 ⟨some 46, .makeIface 115 (.tmp 45), none, [0, 1, 2, 3, 4, 5, 6, 7, 8]⟩,
 ⟨some 47, .move (.tmp 4), none, [0, 1, 2, 3, 4, 5, 6, 7, 8, 9, 10]⟩,
 ⟨some 48, .move (.tmp 19), none, [0, 1, 2, 3, 4, 5, 6, 7, 8, 9, 10, 11]⟩,
 ⟨some 49, .callM [(115, 133), (117, 134)] (.tmp 46) [.tmp 47, .tmp 48], none, [0, 1, 2]⟩,
 ⟨some 50, .bin .plain .sub (.tmp 44) (.tmp 49), none, [0, 1, 2]⟩,
 ⟨some 51, .minmax true [.const (.int .i64 0), .tmp 50], none, [0, 1, 2]⟩,
 ⟨some 52, .bin .plain .mul (.tmp 38) (.tmp 51), none, [0, 1]⟩], 
  [
  ⟨some 53, .bin .plain .add (.tmp 37) (.tmp 52), none, []⟩], 
  [
  ⟨some 54, .fieldAddr 0 (.tmp 16), none, []⟩], 
  [
  ⟨none, .store 1 (.tmp 54) (.tmp 53), none, []⟩]]
theorem k_curve_steepness_curve_byGrid_r8_sg : segs k_curve_steepness_curve_byGrid_r8 = k_curve_steepness_curve_byGrid_r8s := by kernel_rfl
theorem k_curve_steepness_curve_byGrid_r8_st : statOK k_curve_steepness_curve_byGrid_r8 = true := by kernel_rfl
def k_curve_steepness_curve_byGrid_r9 : List AOper := [
  ⟨some 55, .fieldAddr 1 (.tmp 16), none, []⟩,
 ⟨some 56, .load none (.tmp 55), none, []⟩,
 ⟨some 57, .move (.tmp 18), none, [0, 1]⟩,
 ⟨some 58, .move (.tmp 1), none, [0, 1, 2]⟩,
 ⟨some 59, .makeIface 115 (.tmp 58), none, [0, 1, 2]⟩,
 ⟨some 60, .move (.tmp 4), none, [0, 1, 2, 3, 4]⟩,
 ⟨some 61, .bin .plain .add (.tmp 60) (.const (.int .i64 1)), none, [0, 1, 2, 3, 4]⟩,
 ⟨some 62, .move (.tmp 19), none, [0, 1, 2, 3, 4, 5, 6]⟩,
 ⟨some 63, .callM [(115, 133), (117, 134)] (.tmp 59) [.tmp 61, .tmp 62], none, [0, 1, 2]⟩,
 ⟨some 64, .move (.tmp 0), none, [0, 1, 2, 3, 4, 5, 6, 7, 8]⟩,
 ⟨some 65, .makeIface 115 (.tmp 64), none, [0, 1, 2, 3, 4, 5, 6, 7, 8]⟩,
 ⟨some 66, .move (.tmp 4), none, [0, 1, 2, 3, 4, 5, 6, 7, 8, 9, 10]⟩,
 ⟨some 67, .move (.tmp 19), none, [0, 1, 2, 3, 4, 5, 6, 7, 8, 9, 10, 11]⟩,
 ⟨some 68, .callM [(115, 133), (117, 134)] (.tmp 65) [.tmp 66, .tmp 67], none, [0, 1, 2]⟩,
 ⟨some 69, .bin .plain .sub (.tmp 63) (.tmp 68), none, [0, 1, 2]⟩,
 ⟨some 70, .bin .plain .mul (.tmp 57) (.tmp 69), none, [0, 1]⟩,
 ⟨some 71, .bin .plain .add (.tmp 56) (.tmp 70), none, []⟩,
 ⟨some 72, .fieldAddr 1 (.tmp 16), none, []⟩,
 ⟨none, .store 1 (.tmp 72) (.tmp 71), none, []⟩]
def k_curve_steepness_curve_byGrid_r9s : List (List AOper) := [
  [
  ⟨some 55, .fieldAddr 1 (.tmp 16), none, []⟩,
 ⟨some 56, .load none (.tmp 55), none, []⟩,
 ⟨some 57, .move (.tmp 18), none, [0, 1]⟩,
 ⟨some 58, .move (.tmp 1), none, [0, 1, 2]⟩,
 ⟨some 59, .makeIface 115 (.tmp 58), none, [0, 1, 2]⟩,
 ⟨some 60, .move (.tmp 4), none, [0, 1, 2, 3, 4]⟩,
 ⟨some 61, .bin .plain .add (.tmp 60) (.const (.int .i64 1)), none, [0, 1, 2, 3, 4]⟩,
 ⟨some 62, .move (.tmp 19), none, [0, 1, 2, 3, 4, 5, 6]⟩,
 ⟨some 63, .callM [(115, 133), (117, 134)] (.tmp 59) [.tmp 61, .tmp 62], none, [0, 1, 2]⟩,
 ⟨some 64, .move (.tmp 0), none, [0, 1, 2, 3, 4, 5, 6, 7, 8]⟩,
 ⟨some 65, .makeIface 115 (.tmp 64), none, [0, 1, 2, 3, 4, 5, 6, 7, 8]⟩,
 ⟨some 66, .move (.tmp 4), none, [0, 1, 2, 3, 4, 5, 6, 7, 8, 9, 10]⟩,
 ⟨some 67, .move (.tmp 19), none, [0, 1, 2, 3, 4, 5, 6, 7, 8, 9, 10, 11]⟩,
 ⟨some 68, .callM [(115, 133), (117, 134)] (.tmp 65) [.tmp 66, .tmp 67], none, [0, 1, 2]⟩,
 ⟨some 69, .bin .plain .sub (.tmp 63) (.tmp 68), none, [0, 1, 2]⟩,
 ⟨some 70, .bin .plain .mul (.tmp 57) (.tmp 69), none, [0, 1]⟩], 
  [
  ⟨some 71, .bin .plain .add (.tmp 56) (.tmp 70), none, []⟩], 
  [
  ⟨some 72, .fieldAddr 1 (.tmp 16), none, []⟩], 
  [
  ⟨none, .store 1 (.tmp 72) (.tmp 71), none, []⟩]]
theorem k_curve_steepness_curve_byGrid_r9_sg : segs k_curve_steepness_curve_byGrid_r9 = k_curve_steepness_curve_byGrid_r9s := by kernel_rfl
theorem k_curve_steepness_curve_byGrid_r9_st : statOK k_curve_steepness_curve_byGrid_r9 = true := by kernel_rfl
def k_curve_steepness_curve_byGrid_r10 : List AOper := [
  ⟨some 73, .bin .plain .add (.tmp 26) (.const (.int .i64 1)), none, []⟩,
 ⟨some 26, .move (.tmp 73), none, []⟩]
def k_curve_steepness_curve_byGrid_r11 : ACode := (.seq (.reg k_curve_steepness_curve_byGrid_r4 false) (.seq (.cond (.tmp 27) .skip (.exit 0)) (.seq (.block 1 (.seq (.reg k_curve_steepness_curve_byGrid_r5 false) (.seq (.seq (.reg k_curve_steepness_curve_byGrid_r6 false) (.cond (.tmp 31) (.exit 1) .skip)) (.seq (.reg k_curve_steepness_curve_byGrid_r7 false) (.seq (.reg k_curve_steepness_curve_byGrid_r8 true) (.reg k_curve_steepness_curve_byGrid_r9 true)))))) (.reg k_curve_steepness_curve_byGrid_r10 false))))
def k_curve_steepness_curve_byGrid_r12 : List AOper := [
  ⟨some 74, .move (.tmp 2), none, []⟩,
 ⟨some 75, .move (.tmp 4), none, [0]⟩,
 ⟨some 76, .bin .plain .add (.tmp 75) (.const (.int .i64 1)), none, [0]⟩,
 ⟨some 77, .indexAddr 1 (.tmp 74) (.tmp 76), none, []⟩,
 ⟨some 78, .load none (.tmp 77), none, []⟩,
 ⟨some 79, .move (.tmp 2), none, [0, 1, 2, 3, 4]⟩,
 ⟨some 80, .move (.tmp 4), none, [0, 1, 2, 3, 4, 5]⟩,
 ⟨some 81, .indexAddr 1 (.tmp 79) (.tmp 80), none, [0, 1, 2, 3, 4]⟩,
 ⟨some 82, .load none (.tmp 81), none, [0, 1, 2, 3, 4]⟩,
 ⟨some 83, .bin .plain .sub (.tmp 78) (.tmp 82), none, []⟩,
 ⟨some 84, .fieldAddr 2 (.tmp 15), none, [0, 1, 2, 3, 4, 5, 6, 7, 8, 9]⟩,
 ⟨some 85, .load none (.tmp 84), none, [0, 1, 2, 3, 4, 5, 6, 7, 8, 9]⟩,
 ⟨some 86, .bin .plain .mul (.tmp 83) (.tmp 85), none, []⟩,
 ⟨some 20, .move (.tmp 86), none, []⟩]
def k_curve_steepness_curve_byGrid_r12s : List (List AOper) := [
  [
  ⟨some 74, .move (.tmp 2), none, []⟩,
 ⟨some 75, .move (.tmp 4), none, [0]⟩,
 ⟨some 76, .bin .plain .add (.tmp 75) (.const (.int .i64 1)), none, [0]⟩,
 ⟨some 77, .indexAddr 1 (.tmp 74) (.tmp 76), none, []⟩,
 ⟨some 78, .load none (.tmp 77), none, []⟩,
 ⟨some 79, .move (.tmp 2), none, [0, 1, 2, 3, 4]⟩,
 ⟨some 80, .move (.tmp 4), none, [0, 1, 2, 3, 4, 5]⟩,
 ⟨some 81, .indexAddr 1 (.tmp 79) (.tmp 80), none, [0, 1, 2, 3, 4]⟩,
 ⟨some 82, .load none (.tmp 81), none, [0, 1, 2, 3, 4]⟩,
 ⟨some 83, .bin .plain .sub (.tmp 78) (.tmp 82), none, []⟩,
 ⟨some 84, .fieldAddr 2 (.tmp 15), none, [0, 1, 2, 3, 4, 5, 6, 7, 8, 9]⟩,
 ⟨some 85, .load none (.tmp 84), none, [0, 1, 2, 3, 4, 5, 6, 7, 8, 9]⟩], 
  [
  ⟨some 86, .bin .plain .mul (.tmp 83) (.tmp 85), none, []⟩], 
  [
  ⟨some 20, .move (.tmp 86), none, []⟩]]
theorem k_curve_steepness_curve_byGrid_r12_sg : segs k_curve_steepness_curve_byGrid_r12 = k_curve_steepness_curve_byGrid_r12s := by kernel_rfl
theorem k_curve_steepness_curve_byGrid_r12_st : statOK k_curve_steepness_curve_byGrid_r12 = true := by kernel_rfl
def k_curve_steepness_curve_byGrid_r13 : List AOper := [
  ⟨some 87, .move (.tmp 6), none, []⟩,
 ⟨some 88, .fieldAddr 0 (.tmp 16), none, [0]⟩,
 ⟨some 89, .load none (.tmp 88), none, [0]⟩,
 ⟨some 90, .bin .plain .mul (.tmp 87) (.tmp 89), none, []⟩,
 ⟨some 91, .move (.tmp 20), none, [0, 1, 2, 3]⟩,
 ⟨some 92, .bin .plain .quo (.tmp 90) (.tmp 91), none, []⟩,
 ⟨some 93, .move (.tmp 6), none, [0, 1, 2, 3, 4, 5]⟩,
 ⟨some 94, .fieldAddr 1 (.tmp 16), none, [0, 1, 2, 3, 4, 5, 6]⟩,
 ⟨some 95, .load none (.tmp 94), none, [0, 1, 2, 3, 4, 5, 6]⟩,
 ⟨some 96, .bin .plain .mul (.tmp 93) (.tmp 95), none, [0, 1, 2, 3, 4, 5]⟩,
 ⟨some 97, .move (.tmp 20), none, [0, 1, 2, 3, 4, 5, 6, 7, 8, 9]⟩,
 ⟨some 98, .call (.const (.fn (.func 51) [] [])) [.tmp 96, .tmp 97], none, [0, 1, 2, 3, 4, 5]⟩,
 ⟨some 99, .build [.int .i64 0, .int .i64 0] [(0, 1, .tmp 92), (1, 1, .tmp 98)], none, []⟩,
 ⟨none, .store 2 (.tmp 14) (.tmp 99), none, []⟩]
def k_curve_steepness_curve_byGrid_r13s : List (List AOper) := [
  [
  ⟨some 87, .move (.tmp 6), none, []⟩,
 ⟨some 88, .fieldAddr 0 (.tmp 16), none, [0]⟩,
 ⟨some 89, .load none (.tmp 88), none, [0]⟩,
 ⟨some 90, .bin .plain .mul (.tmp 87) (.tmp 89), none, []⟩,
 ⟨some 91, .move (.tmp 20), none, [0, 1, 2, 3]⟩,
 ⟨some 92, .bin .plain .quo (.tmp 90) (.tmp 91), none, []⟩,
 ⟨some 93, .move (.tmp 6), none, [0, 1, 2, 3, 4, 5]⟩,
 ⟨some 94, .fieldAddr 1 (.tmp 16), none, [0, 1, 2, 3, 4, 5, 6]⟩,
 ⟨some 95, .load none (.tmp 94), none, [0, 1, 2, 3, 4, 5, 6]⟩,
 ⟨some 96, .bin .plain .mul (.tmp 93) (.tmp 95), none, [0, 1, 2, 3, 4, 5]⟩,
 ⟨some 97, .move (.tmp 20), none, [0, 1, 2, 3, 4, 5, 6, 7, 8, 9]⟩,
 ⟨some 98, .call (.const (.fn (.func 51) [] [])) [.tmp 96, .tmp 97], none, [0, 1, 2, 3, 4, 5]⟩], 
  [
  ⟨some 99, .build [.int .i64 0, .int .i64 0] [(0, 1, .tmp 92), (1, 1, .tmp 98)], none, []⟩], 
  [
  ⟨none, .store 2 (.tmp 14) (.tmp 99), none, []⟩]]
theorem k_curve_steepness_curve_byGrid_r13_sg : segs k_curve_steepness_curve_byGrid_r13 = k_curve_steepness_curve_byGrid_r13s := by kernel_rfl
theorem k_curve_steepness_curve_byGrid_r13_st : statOK k_curve_steepness_curve_byGrid_r13 = true := by kernel_rfl
def k_curve_steepness_curve_byGrid : AFun := { params := 7, ntmps := 100, body := (.seq (.reg k_curve_steepness_curve_byGrid_r0 false) (.seq (.reg k_curve_steepness_curve_byGrid_r1 false) (.seq (.reg k_curve_steepness_curve_byGrid_r2 false) (.seq (.seq (.reg k_curve_steepness_curve_byGrid_r3 false) (.block 0 (.loop k_curve_steepness_curve_byGrid_r11))) (.seq (.reg k_curve_steepness_curve_byGrid_r12 true) (.seq (.reg k_curve_steepness_curve_byGrid_r13 true) .ret)))))), res := [.cell 14 (some ((some (2))))] }
theorem k_curve_steepness_curve_byGrid_ok : cfun Tryd.prog Tryd.f83 = k_curve_steepness_curve_byGrid := by kernel_rfl

def k_curve_steepness_curve_byPlate_r0 : List AOper := [
  ⟨some 14, .box (.const (.agg [.int .i64 0, .int .i64 0])), none, []⟩]
def k_curve_steepness_curve_byPlate_r1 : List AOper := [
  ⟨some 21, .move (.tmp 3), none, []⟩,
 ⟨some 22, .move (.tmp 5), none, []⟩,
 ⟨some 23, .call (.const (.fn (.func 49) [] [])) [.tmp 21, .tmp 22], none, []⟩,
 ⟨some 15, .box (.const (.agg [.int .i64 0, .int .i64 0, .int .i64 0])), none, []⟩,
 ⟨none, .store 3 (.tmp 15) (.tmp 23), none, []⟩]
def k_curve_steepness_curve_byPlate_r2 : List AOper := [
  ⟨some 16, .box (.const (.agg [.int .i64 0, .int .i64 0])), none, []⟩]
def k_curve_steepness_curve_byPlate_r3 : List AOper := [
  ⟨some 24, .load (some (3)) (.tmp 15), none, []⟩,
 ⟨some 25, .call (.const (.fn (.func 82) [] [])) [.tmp 24], none, []⟩,
 ⟨some 26, .move (.const (.int .i64 0)), none, []⟩]
def k_curve_steepness_curve_byPlate_r4 : List AOper := [
  ⟨some 27, .bin .plain .lss (.tmp 26) (.const (.int .i64 2)), none, []⟩]
def k_curve_steepness_curve_byPlate_r5 : List AOper := [
  ⟨some 28, .move (.tmp 26), none, []⟩,
 ⟨some 29, .indexAgg 2 1 false (.tmp 25) (.tmp 26), none, []⟩,
 ⟨some 17, .move (.tmp 28), none, []⟩,
 ⟨some 18, .move (.tmp 29), none, []⟩]
def k_curve_steepness_curve_byPlate_r6 : List AOper := [
  ⟨some 30, .move (.tmp 18), none, []⟩,
 ⟨some 31, .bin .plain .eql (.tmp 30) (.const (.int .i64 0)), none, []⟩]
def k_curve_steepness_curve_byPlate_r7 : List AOper := [
  ⟨some 32, .fieldAddr 0 (.tmp 15), none, []⟩,
 ⟨some 33, .load none (.tmp 32), none, []⟩,
 ⟨some 34, .move (.tmp 17), none, []⟩,
 ⟨some 35, .bin .plain .add (.tmp 33) (.tmp 34), none, []⟩,
 ⟨some 19, .move (.tmp 35), none, []⟩]
def k_curve_steepness_curve_byPlate_r8 : List AOper := [
  ⟨some 36, .fieldAddr 0 (.tmp 16), none, []⟩,
 ⟨some 37, .load none (.tmp 36), none, []⟩,
 ⟨some 38, .move (.tmp 18), none, [0, 1]⟩,
 ⟨some 39, .move (.tmp 0), none, [0, 1, 2]⟩,
 ⟨some 40, .makeIface 117 (.tmp 39), none, [0, 1, 2]⟩,
 ⟨some 41, .move (.tmp 4), none, [0, 1, 2, 3, 4]⟩,
 ⟨some 42, .bin .plain .add (.tmp 41) (.const (.int .i64 1)), none, [0, 1, 2, 3, 4]⟩,
 ⟨some 43, .move (.tmp 19), none, [0, 1, 2, 3, 4, 5, 6]⟩,
 ⟨some 44, .callM [(115, 133), (117, 134)] (.tmp 40) [.tmp 42, .tmp 43], none, [0, 1, 2]⟩,
 ⟨some 45, .move (.tmp 1), none, [0, 1, 2, 3, 4, 5, 6, 7, 8]⟩,
 ⟨some 46, .makeIface 117 (.tmp 45), none, [0, 1, 2, 3, 4, 5, 6, 7, 8]⟩,
 ⟨some 47, .move (.tmp 4), none, [0, 1, 2, 3, 4, 5, 6, 7, 8, 9, 10]⟩,
 ⟨some 48, .move (.tmp 19), none, [0, 1, 2, 3, 4, 5, 6, 7, 8, 9, 10, 11]⟩,
 ⟨some 49, .callM [(115, 133), (117, 134)] (.tmp 46) [.tmp 47, .tmp 48], none, [0, 1, 2]⟩,
 ⟨some 50, .bin .plain .sub (.tmp 44) (.tmp 49), none, [0, 1, 2]⟩,
 ⟨some 51, .minmax true [.const (.int .i64 0), .tmp 50], none, [0, 1, 2]⟩,
 ⟨some 52, .bin .plain .mul (.tmp 38) (.tmp 51), none, [0, 1]⟩,
 ⟨some 53, .bin .plain .add (.tmp 37) (.tmp 52), none, []⟩,
 ⟨some 54, .fieldAddr 0 (.tmp 16), none, []⟩,
 ⟨none, .store 1 (.tmp 54) (.tmp 53), none, []⟩]
def k_curve_steepness_curve_byPlate_r8s : List (List AOper) := [
  [
  ⟨some 36, .fieldAddr 0 (.tmp 16), none, []⟩,
 ⟨some 37, .load none (.tmp 36), none, []⟩,
 ⟨some 38, .move (.tmp 18), none, [0, 1]⟩,
 ⟨some 39, .move (.tmp 0), none, [0, 1, 2]⟩,
 ⟨some 40, .makeIface 117 (.tmp 39), none, [0, 1, 2]⟩,
 ⟨some 41, .move (.tmp 4), none, [0, 1, 2, 3, 4]⟩,
 ⟨some 42, .bin .plain .add (.tmp 41) (.const (.int .i64 1)), none, [0, 1, 2, 3, 4]⟩,
 ⟨some 43, .move (.tmp 19), none, [0, 1, 2, 3, 4, 5, 6]⟩,
 ⟨some 44, .callM [(115, 133), (117, 134)] (.tmp 40) [.tmp 42, .tmp 43], none, [0, 1, 2]⟩,
 ⟨some 45, .move (.tmp 1), none, [0, 1, 2, 3, 4, 5, 6, 7, 8]⟩,
 ⟨some 46, .makeIface 117 (.tmp 45), none, [0, 1, 2, 3, 4, 5, 6, 7, 8]⟩,
 ⟨some 47, .move (.tmp 4), none, [0, 1, 2, 3, 4, 5, 6, 7, 8, 9, 10]⟩,
 ⟨some 48, .move (.tmp 19), none, [0, 1, 2, 3, 4, 5, 6, 7, 8, 9, 10, 11]⟩,
 ⟨some 49, .callM [(115, 133), (117, 134)] (.tmp 46) [.tmp 47, .tmp 48], none, [0, 1, 2]⟩,
 ⟨some 50, .bin .plain .sub (.tmp 44) (.tmp 49), none, [0, 1, 2]⟩,
 ⟨some 51, .minmax true [.const (.int .i64 0), .tmp 50], none, [0, 1, 2]⟩,
 ⟨some 52, .bin .plain .mul (.tmp 38) (.tmp 51), none, [0, 1]⟩], 
  [
  ⟨some 53, .bin .plain .add (.tmp 37) (.tmp 52), none, []⟩], 
  [
  ⟨some 54, .fieldAddr 0 (.tmp 16), none, []⟩], 
  [
  ⟨none, .store 1 (.tmp 54) (.tmp 53), none, []⟩]]
theorem k_curve_steepness_curve_byPlate_r8_sg : segs k_curve_steepness_curve_byPlate_r8 = k_curve_steepness_curve_byPlate_r8s := by kernel_rfl
theorem k_curve_steepness_curve_byPlate_r8_st : statOK k_curve_steepness_curve_byPlate_r8 = true := by kernel_rfl
def k_curve_steepness_curve_byPlate_r9 : List AOper := [
  ⟨some 55, .fieldAddr 1 (.tmp 16), none, []⟩,
 ⟨some 56, .load none (.tmp 55), none, []⟩,
 ⟨some 57, .move (.tmp 18), none, [0, 1]⟩,
 ⟨some 58, .move (.tmp 1), none, [0, 1, 2]⟩,
 ⟨some 59, .makeIface 117 (.tmp 58), none, [0, 1, 2]⟩,
 ⟨some 60, .move (.tmp 4), none, [0, 1, 2, 3, 4]⟩,
 ⟨some 61, .bin .plain .add (.tmp 60) (.const (.int .i64 1)), none, [0, 1, 2, 3, 4]⟩,
 ⟨some 62, .move (.tmp 19), none, [0, 1, 2, 3, 4, 5, 6]⟩,
 ⟨some 63, .callM [(115, 133), (117, 134)] (.tmp 59) [.tmp 61, .tmp 62], none, [0, 1, 2]⟩,
 ⟨some 64, .move (.tmp 0), none, [0, 1, 2, 3, 4, 5, 6, 7, 8]⟩,
 ⟨some 65, .makeIface 117 (.tmp 64), none, [0, 1, 2, 3, 4, 5, 6, 7, 8]⟩,
 ⟨some 66, .move (.tmp 4), none, [0, 1, 2, 3, 4, 5, 6, 7, 8, 9, 10]⟩,
 ⟨some 67, .move (.tmp 19), none, [0, 1, 2, 3, 4, 5, 6, 7, 8, 9, 10, 11]⟩,
 ⟨some 68, .callM [(115, 133), (117, 134)] (.tmp 65) [.tmp 66, .tmp 67], none, [0, 1, 2]⟩,
 ⟨some 69, .bin .plain .sub (.tmp 63) (.tmp 68), none, [0, 1, 2]⟩,
 ⟨some 70, .bin .plain .mul (.tmp 57) (.tmp 69), none, [0, 1]⟩,
 ⟨some 71, .bin .plain .add (.tmp 56) (.tmp 70), none, []⟩,
 ⟨some 72, .fieldAddr 1 (.tmp 16), none, []⟩,
 ⟨none, .store 1 (.tmp 72) (.tmp 71), none, []⟩]
def k_curve_steepness_curve_byPlate_r9s : List (List AOper) := [
  [
  ⟨some 55, .fieldAddr 1 (.tmp 16), none, []⟩,
 ⟨some 56, .load none (.tmp 55), none, []⟩,
 ⟨some 57, .move (.tmp 18), none, [0, 1]⟩,
 ⟨some 58, .move (.tmp 1), none, [0, 1, 2]⟩,
 ⟨some 59, .makeIface 117 (.tmp 58), none, [0, 1, 2]⟩,
 ⟨some 60, .move (.tmp 4), none, [0, 1, 2, 3, 4]⟩,
 ⟨some 61, .bin .plain .add (.tmp 60) (.const (.int .i64 1)), none, [0, 1, 2, 3, 4]⟩,
 ⟨some 62, .move (.tmp 19), none, [0, 1, 2, 3, 4, 5, 6]⟩,
 ⟨some 63, .callM [(115, 133), (117, 134)] (.tmp 59) [.tmp 61, .tmp 62], none, [0, 1, 2]⟩,
 ⟨some 64, .move (.tmp 0), none, [0, 1, 2, 3, 4, 5, 6, 7, 8]⟩,
 ⟨some 65, .makeIface 117 (.tmp 64), none, [0, 1, 2, 3, 4, 5, 6, 7, 8]⟩,
 ⟨some 66, .move (.tmp 4), none, [0, 1, 2, 3, 4, 5, 6, 7, 8, 9, 10]⟩,
 ⟨some 67, .move (.tmp 19), none, [0, 1, 2, 3, 4, 5, 6, 7, 8, 9, 10, 11]⟩,
 ⟨some 68, .callM [(115, 133), (117, 134)] (.tmp 65) [.tmp 66, .tmp 67], none, [0, 1, 2]⟩,
 ⟨some 69, .bin .plain .sub (.tmp 63) (.tmp 68), none, [0, 1, 2]⟩,
 ⟨some 70, .bin .plain .mul (.tmp 57) (.tmp 69), none, [0, 1]⟩], 
  [
  ⟨some 71, .bin .plain .add (.tmp 56) (.tmp 70), none, []⟩], 
  [
  ⟨some 72, .fieldAddr 1 (.tmp 16), none, []⟩], 
  [
  ⟨none, .store 1 (.tmp 72) (.tmp 71), none, []⟩]]
theorem k_curve_steepness_curve_byPlate_r9_sg : segs k_curve_steepness_curve_byPlate_r9 = k_curve_steepness_curve_byPlate_r9s := by kernel_rfl
theorem k_curve_steepness_curve_byPlate_r9_st : statOK k_curve_steepness_curve_byPlate_r9 = true := by kernel_rfl
def k_curve_steepness_curve_byPlate_r10 : List AOper := [
  ⟨some 73, .bin .plain .add (.tmp 26) (.const (.int .i64 1)), none, []⟩,
 ⟨some 26, .move (.tmp 73), none, []⟩]
def k_curve_steepness_curve_byPlate_r11 : ACode := (.seq (.reg k_curve_steepness_curve_byPlate_r4 false) (.seq (.cond (.tmp 27) .skip (.exit 0)) (.seq (.block 1 (.seq (.reg k_curve_steepness_curve_byPlate_r5 false) (.seq (.seq (.reg k_curve_steepness_curve_byPlate_r6 false) (.cond (.tmp 31) (.exit 1) .skip)) (.seq (.reg k_curve_steepness_curve_byPlate_r7 false) (.seq (.reg k_curve_steepness_curve_byPlate_r8 true) (.reg k_curve_steepness_curve_byPlate_r9 true)))))) (.reg k_curve_steepness_curve_byPlate_r10 false))))
def k_curve_steepness_curve_byPlate_r12 : List AOper := [
  ⟨some 74, .move (.tmp 2), none, []⟩,
 ⟨some 75, .move (.tmp 4), none, [0]⟩,
 ⟨some 76, .bin .plain .add (.tmp 75) (.const (.int .i64 1)), none, [0]⟩,
 ⟨some 77, .indexAddr 1 (.tmp 74) (.tmp 76), none, []⟩,
 ⟨some 78, .load none (.tmp 77), none, []⟩,
 ⟨some 79, .move (.tmp 2), none, [0, 1, 2, 3, 4]⟩,
 ⟨some 80, .move (.tmp 4), none, [0, 1, 2, 3, 4, 5]⟩,
 ⟨some 81, .indexAddr 1 (.tmp 79) (.tmp 80), none, [0, 1, 2, 3, 4]⟩,
 ⟨some 82, .load none (.tmp 81), none, [0, 1, 2, 3, 4]⟩,
 ⟨some 83, .bin .plain .sub (.tmp 78) (.tmp 82), none, []⟩,
 ⟨some 84, .fieldAddr 2 (.tmp 15), none, [0, 1, 2, 3, 4, 5, 6, 7, 8, 9]⟩,
 ⟨some 85, .load none (.tmp 84), none, [0, 1, 2, 3, 4, 5, 6, 7, 8, 9]⟩,
 ⟨some 86, .bin .plain .mul (.tmp 83) (.tmp 85), none, []⟩,
 ⟨some 20, .move (.tmp 86), none, []⟩]
def k_curve_steepness_curve_byPlate_r12s : List (List AOper) := [
  [
  ⟨some 74, .move (.tmp 2), none, []⟩,
 ⟨some 75, .move (.tmp 4), none, [0]⟩,
 ⟨some 76, .bin .plain .add (.tmp 75) (.const (.int .i64 1)), none, [0]⟩,
 ⟨some 77, .indexAddr 1 (.tmp 74) (.tmp 76), none, []⟩,
 ⟨some 78, .load none (.tmp 77), none, []⟩,
 ⟨some 79, .move (.tmp 2), none, [0, 1, 2, 3, 4]⟩,
 ⟨some 80, .move (.tmp 4), none, [0, 1, 2, 3, 4, 5]⟩,
 ⟨some 81, .indexAddr 1 (.tmp 79) (.tmp 80), none, [0, 1, 2, 3, 4]⟩,
 ⟨some 82, .load none (.tmp 81), none, [0, 1, 2, 3, 4]⟩,
 ⟨some 83, .bin .plain .sub (.tmp 78) (.tmp 82), none, []⟩,
 ⟨some 84, .fieldAddr 2 (.tmp 15), none, [0, 1, 2, 3, 4, 5, 6, 7, 8, 9]⟩,
 ⟨some 85, .load none (.tmp 84), none, [0, 1, 2, 3, 4, 5, 6, 7, 8, 9]⟩], 
  [
  ⟨some 86, .bin .plain .mul (.tmp 83) (.tmp 85), none, []⟩], 
  [
  ⟨some 20, .move (.tmp 86), none, []⟩]]
theorem k_curve_steepness_curve_byPlate_r12_sg : segs k_curve_steepness_curve_byPlate_r12 = k_curve_steepness_curve_byPlate_r12s := by kernel_rfl
theorem k_curve_steepness_curve_byPlate_r12_st : statOK k_curve_steepness_curve_byPlate_r12 = true := by kernel_rfl
def k_curve_steepness_curve_byPlate_r13 : List AOper := [
  ⟨some 87, .move (.tmp 6), none, []⟩,
 ⟨some 88, .fieldAddr 0 (.tmp 16), none, [0]⟩,
 ⟨some 89, .load none (.tmp 88), none, [0]⟩,
 ⟨some 90, .bin .plain .mul (.tmp 87) (.tmp 89), none, []⟩,
 ⟨some 91, .move (.tmp 20), none, [0, 1, 2, 3]⟩,
 ⟨some 92, .bin .plain .quo (.tmp 90) (.tmp 91), none, []⟩,
 ⟨some 93, .move (.tmp 6), none, [0, 1, 2, 3, 4, 5]⟩,
 ⟨some 94, .fieldAddr 1 (.tmp 16), none, [0, 1, 2, 3, 4, 5, 6]⟩,
 ⟨some 95, .load none (.tmp 94), none, [0, 1, 2, 3, 4, 5, 6]⟩,
 ⟨some 96, .bin .plain .mul (.tmp 93) (.tmp 95), none, [0, 1, 2, 3, 4, 5]⟩,
 ⟨some 97, .move (.tmp 20), none, [0, 1, 2, 3, 4, 5, 6, 7, 8, 9]⟩,
 ⟨some 98, .call (.const (.fn (.func 51) [] [])) [.tmp 96, .tmp 97], none, [0, 1, 2, 3, 4, 5]⟩,
 ⟨some 99, .build [.int .i64 0, .int .i64 0] [(0, 1, .tmp 92), (1, 1, .tmp 98)], none, []⟩,
 ⟨none, .store 2 (.tmp 14) (.tmp 99), none, []⟩]
def k_curve_steepness_curve_byPlate_r13s : List (List AOper) := [
  [
  ⟨some 87, .move (.tmp 6), none, []⟩,
 ⟨some 88, .fieldAddr 0 (.tmp 16), none, [0]⟩,
 ⟨some 89, .load none (.tmp 88), none, [0]⟩,
 ⟨some 90, .bin .plain .mul (.tmp 87) (.tmp 89), none, []⟩,
 ⟨some 91, .move (.tmp 20), none, [0, 1, 2, 3]⟩,
 ⟨some 92, .bin .plain .quo (.tmp 90) (.tmp 91), none, []⟩,
 ⟨some 93, .move (.tmp 6), none, [0, 1, 2, 3, 4, 5]⟩,
 ⟨some 94, .fieldAddr 1 (.tmp 16), none, [0, 1, 2, 3, 4, 5, 6]⟩,
 ⟨some 95, .load none (.tmp 94), none, [0, 1, 2, 3, 4, 5, 6]⟩,
 ⟨some 96, .bin .plain .mul (.tmp 93) (.tmp 95), none, [0, 1, 2, 3, 4, 5]⟩,
 ⟨some 97, .move (.tmp 20), none, [0, 1, 2, 3, 4, 5, 6, 7, 8, 9]⟩,
 ⟨some 98, .call (.const (.fn (.func 51) [] [])) [.tmp 96, .tmp 97], none, [0, 1, 2, 3, 4, 5]⟩], 
  [
  ⟨some 99, .build [.int .i64 0, .int .i64 0] [(0, 1, .tmp 92), (1, 1, .tmp 98)], none, []⟩], 
  [
  ⟨none, .store 2 (.tmp 14) (.tmp 99), none, []⟩]]
theorem k_curve_steepness_curve_byPlate_r13_sg : segs k_curve_steepness_curve_byPlate_r13 = k_curve_steepness_curve_byPlate_r13s := by kernel_rfl
theorem k_curve_steepness_curve_byPlate_r13_st : statOK k_curve_steepness_curve_byPlate_r13 = true := by kernel_rfl
def k_curve_steepness_curve_byPlate : AFun := { params := 7, ntmps := 100, body := (.seq (.reg k_curve_steepness_curve_byPlate_r0 false) (.seq (.reg k_curve_steepness_curve_byPlate_r1 false) (.seq (.reg k_curve_steepness_curve_byPlate_r2 false) (.seq (.seq (.reg k_curve_steepness_curve_byPlate_r3 false) (.block 0 (.loop k_curve_steepness_curve_byPlate_r11))) (.seq (.reg k_curve_steepness_curve_byPlate_r12 true) (.seq (.reg k_curve_steepness_curve_byPlate_r13 true) .ret)))))), res := [.cell 14 (some ((some (2))))] }
theorem k_curve_steepness_curve_byPlate_ok : cfun Tryd.prog Tryd.f84 = k_curve_steepness_curve_byPlate := by kernel_rfl

def k_strconv_AppendInt_r0 : List AOper := [
  ⟨some 6, .move (.const (.nilsl)), none, []⟩]
def k_strconv_AppendInt_r1 : List AOper := [
  ⟨some 7, .move (.tmp 0), none, []⟩,
 ⟨some 8, .move (.tmp 1), none, []⟩,
 ⟨some 9, .move (.tmp 2), none, []⟩,
 ⟨some 10, .call (.const (.fn (.func 100) [] [])) [.tmp 7, .tmp 8, .tmp 9], none, []⟩,
 ⟨some 6, .move (.tmp 10), none, []⟩]
def k_strconv_AppendInt : AFun := { params := 3, ntmps := 11, body := (.seq (.reg k_strconv_AppendInt_r0 false) (.seq (.reg k_strconv_AppendInt_r1 false) .ret)), res := [.tmp 6] }
theorem k_strconv_AppendInt_ok : cfun Tryd.prog Tryd.f85 = k_strconv_AppendInt := by kernel_rfl

def k_slices_Grow_int_int_r0 : List AOper := [
  ⟨some 4, .move (.const (.nilsl)), none, []⟩]
def k_slices_Grow_int_int_r1 : List AOper := [
  ⟨some 5, .move (.tmp 1), none, []⟩,
 ⟨some 6, .bin .plain .lss (.tmp 5) (.const (.int .i64 0)), none, []⟩]
def k_slices_Grow_int_int_r2 : List AOper := [
  ⟨some 7, .makeIface 9 (.const (.str [99, 97, 110, 110, 111, 116, 32, 98, 101, 32, 110, 101, 103, 97, 116, 105, 118, 101])), none, []⟩,
 ⟨none, .bad, none, []⟩]
def k_slices_Grow_int_int_r3 : List AOper := [
  ⟨some 8, .move (.tmp 1), none, []⟩,
 ⟨some 9, .move (.tmp 0), none, []⟩,
 ⟨some 10, .cap (.tmp 9), none, []⟩,
 ⟨some 11, .move (.tmp 0), none, []⟩,
 ⟨some 12, .len false (.tmp 11), none, []⟩,
 ⟨some 13, .bin .plain .sub (.tmp 10) (.tmp 12), none, []⟩,
 ⟨some 14, .bin .plain .sub (.tmp 8) (.tmp 13), none, []⟩,
 ⟨some 1, .move (.tmp 14), none, []⟩]
def k_slices_Grow_int_int_r4 : List AOper := [
  ⟨some 15, .move (.tmp 1), none, []⟩,
 ⟨some 16, .bin .plain .gtr (.tmp 15) (.const (.int .i64 0)), none, []⟩]
def k_slices_Grow_int_int_r5 : List AOper := [
  ⟨some 17, .move (.tmp 0), none, []⟩,
 ⟨some 18, .move (.tmp 0), none, []⟩,
 ⟨some 19, .cap (.tmp 18), none, []⟩,
 ⟨some 20, .slice false 1 (.tmp 17) none (some (.tmp 19)), none, []⟩,
 ⟨some 21, .move (.tmp 1), none, []⟩,
 ⟨some 22, .appendN 1 8 (.int .i64 0) (.tmp 20) (.tmp 21), none, []⟩,
 ⟨some 23, .move (.tmp 0), none, []⟩,
 ⟨some 24, .len false (.tmp 23), none, []⟩,
 ⟨some 25, .slice false 1 (.tmp 22) none (some (.tmp 24)), none, []⟩,
 ⟨some 0, .move (.tmp 25), none, []⟩]
def k_slices_Grow_int_int_r6 : List AOper := [
  ⟨some 26, .move (.tmp 0), none, []⟩,
 ⟨some 4, .move (.tmp 26), none, []⟩]
def k_slices_Grow_int_int : AFun := { params := 2, ntmps := 27, body := (.seq (.reg k_slices_Grow_int_int_r0 false) (.seq (.seq (.reg k_slices_Grow_int_int_r1 false) (.cond (.tmp 6) (.reg k_slices_Grow_int_int_r2 false) .skip)) (.seq (.seq (.reg k_slices_Grow_int_int_r3 false) (.seq (.reg k_slices_Grow_int_int_r4 false) (.cond (.tmp 16) (.reg k_slices_Grow_int_int_r5 false) .skip))) (.seq (.reg k_slices_Grow_int_int_r6 false) .ret)))), res := [.tmp 4] }
theorem k_slices_Grow_int_int_ok : cfun Tryd.prog Tryd.f86 = k_slices_Grow_int_int := by kernel_rfl

def k_curve_fraction_less_r0 : List AOper := [
  ⟨some 2, .box (.tmp 0), none, []⟩,
 ⟨some 3, .box (.tmp 1), none, []⟩,
 ⟨some 4, .move (.const (.bool false)), none, []⟩]
def k_curve_fraction_less_r1 : List AOper := [
  ⟨some 10, .fieldAddr 0 (.tmp 2), none, []⟩,
 ⟨some 11, .load none (.tmp 10), none, []⟩,
 ⟨some 12, .toInt .u64 (.tmp 11), none, []⟩,
 ⟨some 13, .fieldAddr 1 (.tmp 3), none, []⟩,
 ⟨some 14, .load none (.tmp 13), none, []⟩,
 ⟨some 15, .toInt .u64 (.tmp 14), none, []⟩,
 ⟨some 16, .call (.const (.fn (.func 101) [] [])) [.tmp 12, .tmp 15], none, []⟩,
 ⟨some 9, .move (.tmp 16), none, []⟩,
 ⟨some 17, .extract (.tmp 9) 0, none, []⟩,
 ⟨some 18, .extract (.tmp 9) 1, none, []⟩,
 ⟨some 5, .move (.tmp 17), none, []⟩,
 ⟨some 6, .move (.tmp 18), none, []⟩]
def k_curve_fraction_less_r2 : List AOper := [
  ⟨some 20, .fieldAddr 0 (.tmp 3), none, []⟩,
 ⟨some 21, .load none (.tmp 20), none, []⟩,
 ⟨some 22, .toInt .u64 (.tmp 21), none, []⟩,
 ⟨some 23, .fieldAddr 1 (.tmp 2), none, []⟩,
 ⟨some 24, .load none (.tmp 23), none, []⟩,
 ⟨some 25, .toInt .u64 (.tmp 24), none, []⟩,
 ⟨some 26, .call (.const (.fn (.func 101) [] [])) [.tmp 22, .tmp 25], none, []⟩,
 ⟨some 19, .move (.tmp 26), none, []⟩,
 ⟨some 27, .extract (.tmp 19) 0, none, []⟩,
 ⟨some 28, .extract (.tmp 19) 1, none, []⟩,
 ⟨some 7, .move (.tmp 27), none, []⟩,
 ⟨some 8, .move (.tmp 28), none, []⟩]
def k_curve_fraction_less_r3 : List AOper := [
  ⟨some 29, .move (.tmp 5), none, []⟩,
 ⟨some 30, .move (.tmp 7), none, []⟩,
 ⟨some 31, .bin .plain .lss (.tmp 29) (.tmp 30), none, []⟩,
 ⟨some 32, .move (.tmp 31), none, []⟩,
 ⟨some 33, .move (.tmp 5), (some (32, false)), []⟩,
 ⟨some 34, .move (.tmp 7), (some (32, false)), []⟩,
 ⟨some 35, .bin .plain .eql (.tmp 33) (.tmp 34), (some (32, false)), []⟩,
 ⟨some 36, .move (.tmp 35), (some (32, false)), []⟩,
 ⟨some 37, .move (.tmp 6), (some (36, true)), []⟩,
 ⟨some 38, .move (.tmp 8), (some (36, true)), []⟩,
 ⟨some 39, .bin .plain .lss (.tmp 37) (.tmp 38), (some (36, true)), []⟩,
 ⟨some 40, .pick (.tmp 36) (.tmp 39) (.const (.bool false)), (some (32, false)), []⟩,
 ⟨some 41, .pick (.tmp 32) (.const (.bool true)) (.tmp 40), none, []⟩,
 ⟨some 4, .move (.tmp 41), none, []⟩]
def k_curve_fraction_less : AFun := { params := 2, ntmps := 42, body := (.seq (.reg k_curve_fraction_less_r0 false) (.seq (.reg k_curve_fraction_less_r1 false) (.seq (.reg k_curve_fraction_less_r2 false) (.seq (.reg k_curve_fraction_less_r3 false) .ret)))), res := [.tmp 4] }
theorem k_curve_fraction_less_ok : cfun Tryd.prog Tryd.f87 = k_curve_fraction_less := by kernel_rfl

def k_curve_kept_1_r0 : List AOper := [
  ⟨some 4, .move (.const (.bool false)), none, []⟩]
def k_curve_kept_1_r1 : List AOper := [
  ⟨some 5, .load none (.tmp 1), none, []⟩,
 ⟨some 6, .fieldAddr 0 (.tmp 2), none, []⟩,
 ⟨some 7, .load none (.tmp 6), none, []⟩,
 ⟨some 8, .move (.tmp 0), none, []⟩,
 ⟨some 9, .bin .plain .add (.tmp 7) (.tmp 8), none, []⟩,
 ⟨some 10, .call (.tmp 5) [.tmp 9], none, []⟩,
 ⟨some 11, .not (.tmp 10), none, []⟩,
 ⟨some 4, .move (.tmp 11), none, []⟩]
def k_curve_kept_1 : AFun := { params := 3, ntmps := 12, body := (.seq (.reg k_curve_kept_1_r0 false) (.seq (.reg k_curve_kept_1_r1 false) .ret)), res := [.tmp 4] }
theorem k_curve_kept_1_ok : cfun Tryd.prog Tryd.f95 = k_curve_kept_1 := by kernel_rfl

def k_curve_kept_2_r0 : List AOper := [
  ⟨some 4, .move (.const (.bool false)), none, []⟩]
def k_curve_kept_2_r1 : List AOper := [
  ⟨some 5, .load none (.tmp 1), none, []⟩,
 ⟨some 6, .fieldAddr 0 (.tmp 2), none, []⟩,
 ⟨some 7, .load none (.tmp 6), none, []⟩,
 ⟨some 8, .move (.tmp 0), none, []⟩,
 ⟨some 9, .bin .plain .add (.tmp 7) (.tmp 8), none, []⟩,
 ⟨some 10, .call (.tmp 5) [.tmp 9], none, []⟩,
 ⟨some 4, .move (.tmp 10), none, []⟩]
def k_curve_kept_2 : AFun := { params := 3, ntmps := 11, body := (.seq (.reg k_curve_kept_2_r0 false) (.seq (.reg k_curve_kept_2_r1 false) .ret)), res := [.tmp 4] }
theorem k_curve_kept_2_ok : cfun Tryd.prog Tryd.f96 = k_curve_kept_2 := by kernel_rfl

def k_curve_copied_r0 : List AOper := [
  ⟨some 2, .move (.const (.nilsl)), none, []⟩]
def k_curve_copied_r1 : List AOper := [
  ⟨some 3, .move (.tmp 0), none, []⟩,
 ⟨some 4, .append 1 8 false (.const (.nilsl)) (.tmp 3), none, []⟩,
 ⟨some 2, .move (.tmp 4), none, []⟩]
def k_curve_copied : AFun := { params := 1, ntmps := 5, body := (.seq (.reg k_curve_copied_r0 false) (.seq (.reg k_curve_copied_r1 false) .ret)), res := [.tmp 2] }
theorem k_curve_copied_ok : cfun Tryd.prog Tryd.f98 = k_curve_copied := by kernel_rfl

def k_istrconv_AppendInt_r0 : List AOper := [
  ⟨some 6, .move (.const (.nilsl)), none, []⟩]
def k_istrconv_AppendInt_r1 : List AOper := [
  ⟨some 8, .move (.tmp 1), none, []⟩,
 ⟨some 9, .toInt .u64 (.tmp 8), none, []⟩,
 ⟨some 7, .move (.tmp 9), none, []⟩]
def k_istrconv_AppendInt_r2 : List AOper := [
  ⟨some 10, .move (.tmp 1), none, []⟩,
 ⟨some 11, .bin .plain .lss (.tmp 10) (.const (.int .i64 0)), none, []⟩]
def k_istrconv_AppendInt_r3 : List AOper := [
  ⟨some 12, .move (.tmp 0), none, []⟩,
 ⟨some 13, .buildSlice 1 [.const (.int .u8 45)], none, []⟩,
 ⟨some 14, .append 1 1 false (.tmp 12) (.tmp 13), none, []⟩,
 ⟨some 0, .move (.tmp 14), none, []⟩]
def k_istrconv_AppendInt_r4 : List AOper := [
  ⟨some 15, .move (.tmp 7), none, []⟩,
 ⟨some 16, .neg (.tmp 15), none, []⟩,
 ⟨some 7, .move (.tmp 16), none, []⟩]
def k_istrconv_AppendInt_r5 : List AOper := [
  ⟨some 17, .move (.tmp 0), none, []⟩,
 ⟨some 18, .move (.tmp 7), none, []⟩,
 ⟨some 19, .move (.tmp 2), none, []⟩,
 ⟨some 20, .call (.const (.fn (.func 104) [] [])) [.tmp 17, .tmp 18, .tmp 19], none, []⟩,
 ⟨some 6, .move (.tmp 20), none, []⟩]
def k_istrconv_AppendInt : AFun := { params := 3, ntmps := 21, body := (.seq (.reg k_istrconv_AppendInt_r0 false) (.seq (.reg k_istrconv_AppendInt_r1 false) (.seq (.seq (.reg k_istrconv_AppendInt_r2 false) (.cond (.tmp 11) (.seq (.reg k_istrconv_AppendInt_r3 false) (.reg k_istrconv_AppendInt_r4 false)) .skip)) (.seq (.reg k_istrconv_AppendInt_r5 false) .ret)))), res := [.tmp 6] }
theorem k_istrconv_AppendInt_ok : cfun Tryd.prog Tryd.f100 = k_istrconv_AppendInt := by kernel_rfl

def k_bits_Mul64_r0 : List AOper := [
  ⟨some 4, .move (.const (.int .u64 0)), none, []⟩,
 ⟨some 5, .move (.const (.int .u64 0)), none, []⟩]
def k_bits_Mul64_r1 : List AOper := [
  ⟨some 14, .move (.tmp 0), none, []⟩,
 ⟨some 15, .bin .plain .and (.tmp 14) (.const (.int .u64 4294967295)), none, []⟩,
 ⟨some 6, .move (.tmp 15), none, []⟩]
def k_bits_Mul64_r2 : List AOper := [
  ⟨some 16, .move (.tmp 0), none, []⟩,
 ⟨some 17, .bin .plain .shr (.tmp 16) (.const (.int .u64 32)), none, []⟩,
 ⟨some 7, .move (.tmp 17), none, []⟩]
def k_bits_Mul64_r3 : List AOper := [
  ⟨some 18, .move (.tmp 1), none, []⟩,
 ⟨some 19, .bin .plain .and (.tmp 18) (.const (.int .u64 4294967295)), none, []⟩,
 ⟨some 8, .move (.tmp 19), none, []⟩]
def k_bits_Mul64_r4 : List AOper := [
  ⟨some 20, .move (.tmp 1), none, []⟩,
 ⟨some 21, .bin .plain .shr (.tmp 20) (.const (.int .u64 32)), none, []⟩,
 ⟨some 9, .move (.tmp 21), none, []⟩]
def k_bits_Mul64_r5 : List AOper := [
  ⟨some 22, .move (.tmp 6), none, []⟩,
 ⟨some 23, .move (.tmp 8), none, []⟩,
 ⟨some 24, .bin .plain .mul (.tmp 22) (.tmp 23), none, []⟩,
 ⟨some 10, .move (.tmp 24), none, []⟩]
def k_bits_Mul64_r6 : List AOper := [
  ⟨some 25, .move (.tmp 7), none, []⟩,
 ⟨some 26, .move (.tmp 8), none, []⟩,
 ⟨some 27, .bin .plain .mul (.tmp 25) (.tmp 26), none, []⟩,
 ⟨some 28, .move (.tmp 10), none, []⟩,
 ⟨some 29, .bin .plain .shr (.tmp 28) (.const (.int .u64 32)), none, []⟩,
 ⟨some 30, .bin .plain .add (.tmp 27) (.tmp 29), none, []⟩,
 ⟨some 11, .move (.tmp 30), none, []⟩]
def k_bits_Mul64_r7 : List AOper := [
  ⟨some 31, .move (.tmp 11), none, []⟩,
 ⟨some 32, .bin .plain .and (.tmp 31) (.const (.int .u64 4294967295)), none, []⟩,
 ⟨some 12, .move (.tmp 32), none, []⟩]
def k_bits_Mul64_r8 : List AOper := [
  ⟨some 33, .move (.tmp 11), none, []⟩,
 ⟨some 34, .bin .plain .shr (.tmp 33) (.const (.int .u64 32)), none, []⟩,
 ⟨some 13, .move (.tmp 34), none, []⟩]
def k_bits_Mul64_r9 : List AOper := [
  ⟨some 35, .move (.tmp 12), none, []⟩,
 ⟨some 36, .move (.tmp 6), none, []⟩,
 ⟨some 37, .move (.tmp 9), none, []⟩,
 ⟨some 38, .bin .plain .mul (.tmp 36) (.tmp 37), none, []⟩,
 ⟨some 39, .bin .plain .add (.tmp 35) (.tmp 38), none, []⟩,
 ⟨some 12, .move (.tmp 39), none, []⟩]
def k_bits_Mul64_r10 : List AOper := [
  ⟨some 40, .move (.tmp 7), none, []⟩,
 ⟨some 41, .move (.tmp 9), none, []⟩,
 ⟨some 42, .bin .plain .mul (.tmp 40) (.tmp 41), none, []⟩,
 ⟨some 43, .move (.tmp 13), none, []⟩,
 ⟨some 44, .bin .plain .add (.tmp 42) (.tmp 43), none, []⟩,
 ⟨some 45, .move (.tmp 12), none, []⟩,
 ⟨some 46, .bin .plain .shr (.tmp 45) (.const (.int .u64 32)), none, []⟩,
 ⟨some 47, .bin .plain .add (.tmp 44) (.tmp 46), none, []⟩,
 ⟨some 4, .move (.tmp 47), none, []⟩]
def k_bits_Mul64_r11 : List AOper := [
  ⟨some 48, .move (.tmp 0), none, []⟩,
 ⟨some 49, .move (.tmp 1), none, []⟩,
 ⟨some 50, .bin .plain .mul (.tmp 48) (.tmp 49), none, []⟩,
 ⟨some 5, .move (.tmp 50), none, []⟩]
def k_bits_Mul64 : AFun := { params := 2, ntmps := 51, body := (.seq (.reg k_bits_Mul64_r0 false) (.seq (.reg k_bits_Mul64_r1 false) (.seq (.reg k_bits_Mul64_r2 false) (.seq (.reg k_bits_Mul64_r3 false) (.seq (.reg k_bits_Mul64_r4 false) (.seq (.reg k_bits_Mul64_r5 false) (.seq (.reg k_bits_Mul64_r6 false) (.seq (.reg k_bits_Mul64_r7 false) (.seq (.reg k_bits_Mul64_r8 false) (.seq (.reg k_bits_Mul64_r9 false) (.seq (.reg k_bits_Mul64_r10 false) (.seq (.reg k_bits_Mul64_r11 false) .ret)))))))))))), res := [.tmp 4, .tmp 5] }
theorem k_bits_Mul64_ok : cfun Tryd.prog Tryd.f101 = k_bits_Mul64 := by kernel_rfl

def k_istrconv_AppendUint_r0 : List AOper := [
  ⟨some 6, .move (.const (.nilsl)), none, []⟩]
def k_istrconv_AppendUint_r1 : List AOper := [
  ⟨some 9, .move (.tmp 2), none, []⟩,
 ⟨some 10, .bin .plain .eql (.tmp 9) (.const (.int .i64 10)), none, []⟩]
def k_istrconv_AppendUint_r2 : List AOper := [
  ⟨some 11, .move (.tmp 1), none, []⟩,
 ⟨some 12, .bin .plain .lss (.tmp 11) (.const (.int .u64 100)), none, []⟩]
def k_istrconv_AppendUint_r3 : List AOper := [
  ⟨some 13, .move (.tmp 0), none, []⟩,
 ⟨some 14, .move (.tmp 1), none, []⟩,
 ⟨some 15, .toInt .i64 (.tmp 14), none, []⟩,
 ⟨some 16, .call (.const (.fn (.func 107) [] [])) [.tmp 15], none, []⟩,
 ⟨some 17, .appendStr (.tmp 13) (.tmp 16), none, []⟩,
 ⟨some 6, .move (.tmp 17), none, []⟩]
def k_istrconv_AppendUint_r4 : List AOper := [
  ⟨some 7, .allocArr [.int .u8 0, .int .u8 0, .int .u8 0, .int .u8 0, .int .u8 0, .int .u8 0, .int .u8 0, .int .u8 0, .int .u8 0, .int .u8 0, .int .u8 0, .int .u8 0, .int .u8 0, .int .u8 0, .int .u8 0, .int .u8 0, .int .u8 0, .int .u8 0, .int .u8 0, .int .u8 0, .int .u8 0, .int .u8 0, .int .u8 0, .int .u8 0], none, []⟩]
def k_istrconv_AppendUint_r5 : List AOper := [
  ⟨some 18, .move (.tmp 1), none, []⟩,
 ⟨some 19, .call (.const (.fn (.func 108) [] [])) [.tmp 18], none, []⟩,
 ⟨some 8, .move (.tmp 19), none, []⟩]
def k_istrconv_AppendUint_r6 : List AOper := [
  ⟨some 20, .move (.tmp 8), none, []⟩,
 ⟨some 21, .sliceArrB 24 (.tmp 7) none (some (.tmp 20)), none, []⟩,
 ⟨some 22, .move (.tmp 1), none, []⟩,
 ⟨some 23, .call (.const (.fn (.func 109) [] [])) [.tmp 21, .tmp 22], none, []⟩]
def k_istrconv_AppendUint_r7 : List AOper := [
  ⟨some 24, .move (.tmp 0), none, []⟩,
 ⟨some 25, .move (.tmp 8), none, []⟩,
 ⟨some 26, .sliceArrB 24 (.tmp 7) none (some (.tmp 25)), none, []⟩,
 ⟨some 27, .append 1 1 false (.tmp 24) (.tmp 26), none, []⟩,
 ⟨some 6, .move (.tmp 27), none, []⟩]
def k_istrconv_AppendUint_r8 : List AOper := [
  ⟨some 29, .move (.tmp 0), none, []⟩,
 ⟨some 30, .move (.tmp 1), none, []⟩,
 ⟨some 31, .move (.tmp 2), none, []⟩,
 ⟨some 32, .call (.const (.fn (.func 110) [] [])) [.tmp 29, .tmp 30, .tmp 31, .const (.bool false), .const (.bool true)], none, []⟩,
 ⟨some 28, .move (.tmp 32), none, []⟩,
 ⟨some 33, .extract (.tmp 28) 0, none, []⟩,
 ⟨some 34, .extract (.tmp 28) 1, none, []⟩,
 ⟨some 0, .move (.tmp 33), none, []⟩]
def k_istrconv_AppendUint_r9 : List AOper := [
  ⟨some 35, .move (.tmp 0), none, []⟩,
 ⟨some 6, .move (.tmp 35), none, []⟩]
def k_istrconv_AppendUint : AFun := { params := 3, ntmps := 36, body := (.seq (.reg k_istrconv_AppendUint_r0 false) (.seq (.seq (.reg k_istrconv_AppendUint_r1 false) (.cond (.tmp 10) (.seq (.seq (.reg k_istrconv_AppendUint_r2 false) (.cond (.tmp 12) (.seq (.reg k_istrconv_AppendUint_r3 false) .ret) .skip)) (.seq (.reg k_istrconv_AppendUint_r4 false) (.seq (.reg k_istrconv_AppendUint_r5 false) (.seq (.reg k_istrconv_AppendUint_r6 false) (.seq (.reg k_istrconv_AppendUint_r7 false) .ret))))) .skip)) (.seq (.reg k_istrconv_AppendUint_r8 false) (.seq (.reg k_istrconv_AppendUint_r9 false) .ret)))), res := [.tmp 6] }
theorem k_istrconv_AppendUint_ok : cfun Tryd.prog Tryd.f104 = k_istrconv_AppendUint := by kernel_rfl

def k_istrconv_small_r0 : List AOper := [
  ⟨some 2, .move (.const (.str [])), none, []⟩]
def k_istrconv_small_r1 : List AOper := [
  ⟨some 3, .move (.tmp 0), none, []⟩,
 ⟨some 4, .bin .plain .lss (.tmp 3) (.const (.int .i64 10)), none, []⟩]
def k_istrconv_small_r2 : List AOper := [
  ⟨some 5, .move (.tmp 0), none, []⟩,
 ⟨some 6, .move (.tmp 0), none, []⟩,
 ⟨some 7, .bin .plain .add (.tmp 6) (.const (.int .i64 1)), none, []⟩,
 ⟨some 8, .slice true 1 (.const (.str [48, 49, 50, 51, 52, 53, 54, 55, 56, 57, 97, 98, 99, 100, 101, 102, 103, 104, 105, 106, 107, 108, 109, 110, 111, 112, 113, 114, 115, 116, 117, 118, 119, 120, 121, 122])) (some (.tmp 5)) (some (.tmp 7)), none, []⟩,
 ⟨some 2, .move (.tmp 8), none, []⟩]
def k_istrconv_small_r3 : List AOper := [
  ⟨some 9, .move (.tmp 0), none, []⟩,
 ⟨some 10, .bin .plain .mul (.tmp 9) (.const (.int .i64 2)), none, []⟩,
 ⟨some 11, .move (.tmp 0), none, []⟩,
 ⟨some 12, .bin .plain .mul (.tmp 11) (.const (.int .i64 2)), none, []⟩,
 ⟨some 13, .bin .plain .add (.tmp 12) (.const (.int .i64 2)), none, []⟩,
 ⟨some 14, .slice true 1 (.const (.str [48, 48, 48, 49, 48, 50, 48, 51, 48, 52, 48, 53, 48, 54, 48, 55, 48, 56, 48, 57, 49, 48, 49, 49, 49, 50, 49, 51, 49, 52, 49, 53, 49, 54, 49, 55, 49, 56, 49, 57, 50, 48, 50, 49, 50, 50, 50, 51, 50, 52, 50, 53, 50, 54, 50, 55, 50, 56, 50, 57, 51, 48, 51, 49, 51, 50, 51, 51, 51, 52, 51, 53, 51, 54, 51, 55, 51, 56, 51, 57, 52, 48, 52, 49, 52, 50, 52, 51, 52, 52, 52, 53, 52, 54, 52, 55, 52, 56, 52, 57, 53, 48, 53, 49, 53, 50, 53, 51, 53, 52, 53, 53, 53, 54, 53, 55, 53, 56, 53, 57, 54, 48, 54, 49, 54, 50, 54, 51, 54, 52, 54, 53, 54, 54, 54, 55, 54, 56, 54, 57, 55, 48, 55, 49, 55, 50, 55, 51, 55, 52, 55, 53, 55, 54, 55, 55, 55, 56, 55, 57, 56, 48, 56, 49, 56, 50, 56, 51, 56, 52, 56, 53, 56, 54, 56, 55, 56, 56, 56, 57, 57, 48, 57, 49, 57, 50, 57, 51, 57, 52, 57, 53, 57, 54, 57, 55, 57, 56, 57, 57])) (some (.tmp 10)) (some (.tmp 13)), none, []⟩,
 ⟨some 2, .move (.tmp 14), none, []⟩]
def k_istrconv_small : AFun := { params := 1, ntmps := 15, body := (.seq (.reg k_istrconv_small_r0 false) (.seq (.seq (.reg k_istrconv_small_r1 false) (.cond (.tmp 4) (.seq (.reg k_istrconv_small_r2 false) .ret) .skip)) (.seq (.reg k_istrconv_small_r3 false) .ret))), res := [.tmp 2] }
theorem k_istrconv_small_ok : cfun Tryd.prog Tryd.f107 = k_istrconv_small := by kernel_rfl

def k_istrconv_numDigits_r0 : List AOper := [
  ⟨some 2, .move (.const (.int .i64 0)), none, []⟩]
def k_istrconv_numDigits_r1 : List AOper := [
  ⟨some 4, .move (.tmp 0), none, []⟩,
 ⟨some 5, .call (.const (.fn (.func 106) [] [])) [.tmp 4], none, []⟩,
 ⟨some 6, .call (.const (.fn (.func 111) [] [])) [.tmp 5], none, []⟩,
 ⟨some 3, .move (.tmp 6), none, []⟩]
def k_istrconv_numDigits_r2 : List AOper := [
  ⟨some 7, .move (.tmp 3), none, []⟩,
 ⟨some 8, .move (.tmp 0), none, []⟩,
 ⟨some 9, .move (.tmp 3), none, []⟩,
 ⟨some 10, .indexArr 20 1 (.const (.rptr (.agg [.int .u64 1, .int .u64 10, .int .u64 100, .int .u64 1000, .int .u64 10000, .int .u64 100000, .int .u64 1000000, .int .u64 10000000, .int .u64 100000000, .int .u64 1000000000, .int .u64 10000000000, .int .u64 100000000000, .int .u64 1000000000000, .int .u64 10000000000000, .int .u64 100000000000000, .int .u64 1000000000000000, .int .u64 10000000000000000, .int .u64 100000000000000000, .int .u64 1000000000000000000, .int .u64 10000000000000000000]) 0)) (.tmp 9), none, []⟩,
 ⟨some 11, .load none (.tmp 10), none, []⟩,
 ⟨some 12, .bin .plain .geq (.tmp 8) (.tmp 11), none, []⟩,
 ⟨some 13, .call (.const (.fn (.func 112) [] [])) [.tmp 12], none, []⟩,
 ⟨some 14, .bin .plain .add (.tmp 7) (.tmp 13), none, []⟩,
 ⟨some 2, .move (.tmp 14), none, []⟩]
def k_istrconv_numDigits : AFun := { params := 1, ntmps := 15, body := (.seq (.reg k_istrconv_numDigits_r0 false) (.seq (.reg k_istrconv_numDigits_r1 false) (.seq (.reg k_istrconv_numDigits_r2 false) .ret))), res := [.tmp 2] }
theorem k_istrconv_numDigits_ok : cfun Tryd.prog Tryd.f108 = k_istrconv_numDigits := by kernel_rfl

def k_istrconv_formatBase10_r0 : List AOper := [
  ⟨some 17, .move (.tmp 0), none, []⟩,
 ⟨some 18, .len false (.tmp 17), none, []⟩,
 ⟨some 4, .move (.tmp 18), none, []⟩]
def k_istrconv_formatBase10_r1 : List AOper := [
  ⟨some 19, .move (.tmp 4), none, []⟩,
 ⟨some 20, .bin .plain .geq (.tmp 19) (.const (.int .i64 8)), none, []⟩]
def k_istrconv_formatBase10_r2 : List AOper := [
  ⟨some 21, .move (.tmp 1), none, []⟩,
 ⟨some 22, .bin .plain .rem (.tmp 21) (.const (.int .u64 100000000)), none, []⟩,
 ⟨some 23, .toInt .u32 (.tmp 22), none, []⟩,
 ⟨some 5, .move (.tmp 23), none, []⟩]
def k_istrconv_formatBase10_r3 : List AOper := [
  ⟨some 24, .move (.tmp 1), none, []⟩,
 ⟨some 25, .bin .plain .quo (.tmp 24) (.const (.int .u64 100000000)), none, []⟩,
 ⟨some 1, .move (.tmp 25), none, []⟩]
def k_istrconv_formatBase10_r4 : List AOper := [
  ⟨some 26, .move (.tmp 5), none, []⟩,
 ⟨some 27, .bin .plain .quo (.tmp 26) (.const (.int .u32 10000)), none, []⟩,
 ⟨some 28, .move (.tmp 5), none, []⟩,
 ⟨some 29, .bin .plain .rem (.tmp 28) (.const (.int .u32 10000)), none, []⟩,
 ⟨some 6, .move (.tmp 27), none, []⟩,
 ⟨some 7, .move (.tmp 29), none, []⟩]
def k_istrconv_formatBase10_r5 : List AOper := [
  ⟨some 30, .move (.tmp 7), none, []⟩,
 ⟨some 31, .bin .plain .quo (.tmp 30) (.const (.int .u32 100)), none, []⟩,
 ⟨some 32, .bin .plain .mul (.tmp 31) (.const (.int .u32 2)), none, []⟩,
 ⟨some 33, .move (.tmp 7), none, []⟩,
 ⟨some 34, .bin .plain .rem (.tmp 33) (.const (.int .u32 100)), none, []⟩,
 ⟨some 35, .bin .plain .mul (.tmp 34) (.const (.int .u32 2)), none, []⟩,
 ⟨some 8, .move (.tmp 32), none, []⟩,
 ⟨some 9, .move (.tmp 35), none, []⟩]
def k_istrconv_formatBase10_r6 : List AOper := [
  ⟨some 36, .move (.tmp 6), none, []⟩,
 ⟨some 37, .bin .plain .quo (.tmp 36) (.const (.int .u32 100)), none, []⟩,
 ⟨some 38, .bin .plain .mul (.tmp 37) (.const (.int .u32 2)), none, []⟩,
 ⟨some 39, .move (.tmp 6), none, []⟩,
 ⟨some 40, .bin .plain .rem (.tmp 39) (.const (.int .u32 100)), none, []⟩,
 ⟨some 41, .bin .plain .mul (.tmp 40) (.const (.int .u32 2)), none, []⟩,
 ⟨some 10, .move (.tmp 38), none, []⟩,
 ⟨some 11, .move (.tmp 41), none, []⟩]
def k_istrconv_formatBase10_r7 : List AOper := [
  ⟨some 42, .move (.tmp 0), none, []⟩,
 ⟨some 43, .move (.tmp 4), none, [0]⟩,
 ⟨some 44, .bin .plain .sub (.tmp 43) (.const (.int .i64 1)), none, [0]⟩,
 ⟨some 45, .move (.tmp 0), none, [0, 1, 2]⟩,
 ⟨some 46, .move (.tmp 4), none, [0, 1, 2, 3]⟩,
 ⟨some 47, .bin .plain .sub (.tmp 46) (.const (.int .i64 2)), none, [0, 1, 2, 3]⟩,
 ⟨some 48, .move (.tmp 9), none, [0, 1, 2, 3, 4, 5]⟩,
 ⟨some 49, .bin .plain .add (.tmp 48) (.const (.int .u32 1)), none, [0, 1, 2, 3, 4, 5]⟩,
 ⟨some 50, .indexStr (.const (.str [48, 48, 48, 49, 48, 50, 48, 51, 48, 52, 48, 53, 48, 54, 48, 55, 48, 56, 48, 57, 49, 48, 49, 49, 49, 50, 49, 51, 49, 52, 49, 53, 49, 54, 49, 55, 49, 56, 49, 57, 50, 48, 50, 49, 50, 50, 50, 51, 50, 52, 50, 53, 50, 54, 50, 55, 50, 56, 50, 57, 51, 48, 51, 49, 51, 50, 51, 51, 51, 52, 51, 53, 51, 54, 51, 55, 51, 56, 51, 57, 52, 48, 52, 49, 52, 50, 52, 51, 52, 52, 52, 53, 52, 54, 52, 55, 52, 56, 52, 57, 53, 48, 53, 49, 53, 50, 53, 51, 53, 52, 53, 53, 53, 54, 53, 55, 53, 56, 53, 57, 54, 48, 54, 49, 54, 50, 54, 51, 54, 52, 54, 53, 54, 54, 54, 55, 54, 56, 54, 57, 55, 48, 55, 49, 55, 50, 55, 51, 55, 52, 55, 53, 55, 54, 55, 55, 55, 56, 55, 57, 56, 48, 56, 49, 56, 50, 56, 51, 56, 52, 56, 53, 56, 54, 56, 55, 56, 56, 56, 57, 57, 48, 57, 49, 57, 50, 57, 51, 57, 52, 57, 53, 57, 54, 57, 55, 57, 56, 57, 57])) (.tmp 49), none, [0, 1, 2, 3, 4, 5]⟩,
 ⟨some 51, .move (.tmp 9), none, [0, 1, 2, 3, 4, 5, 6, 7, 8]⟩,
 ⟨some 52, .indexStr (.const (.str [48, 48, 48, 49, 48, 50, 48, 51, 48, 52, 48, 53, 48, 54, 48, 55, 48, 56, 48, 57, 49, 48, 49, 49, 49, 50, 49, 51, 49, 52, 49, 53, 49, 54, 49, 55, 49, 56, 49, 57, 50, 48, 50, 49, 50, 50, 50, 51, 50, 52, 50, 53, 50, 54, 50, 55, 50, 56, 50, 57, 51, 48, 51, 49, 51, 50, 51, 51, 51, 52, 51, 53, 51, 54, 51, 55, 51, 56, 51, 57, 52, 48, 52, 49, 52, 50, 52, 51, 52, 52, 52, 53, 52, 54, 52, 55, 52, 56, 52, 57, 53, 48, 53, 49, 53, 50, 53, 51, 53, 52, 53, 53, 53, 54, 53, 55, 53, 56, 53, 57, 54, 48, 54, 49, 54, 50, 54, 51, 54, 52, 54, 53, 54, 54, 54, 55, 54, 56, 54, 57, 55, 48, 55, 49, 55, 50, 55, 51, 55, 52, 55, 53, 55, 54, 55, 55, 55, 56, 55, 57, 56, 48, 56, 49, 56, 50, 56, 51, 56, 52, 56, 53, 56, 54, 56, 55, 56, 56, 56, 57, 57, 48, 57, 49, 57, 50, 57, 51, 57, 52, 57, 53, 57, 54, 57, 55, 57, 56, 57, 57])) (.tmp 51), none, [0, 1, 2, 3, 4, 5, 6, 7, 8]⟩,
 ⟨some 53, .indexAddr 1 (.tmp 42) (.tmp 44), none, [3, 4, 5, 9, 10]⟩,
 ⟨none, .store 1 (.tmp 53) (.tmp 50), none, [3, 4, 5, 9, 10]⟩,
 ⟨some 54, .indexAddr 1 (.tmp 45) (.tmp 47), none, []⟩,
 ⟨none, .store 1 (.tmp 54) (.tmp 52), none, []⟩]
def k_istrconv_formatBase10_r7s : List (List AOper) := [
  [
  ⟨some 42, .move (.tmp 0), none, []⟩,
 ⟨some 43, .move (.tmp 4), none, [0]⟩,
 ⟨some 44, .bin .plain .sub (.tmp 43) (.const (.int .i64 1)), none, [0]⟩,
 ⟨some 45, .move (.tmp 0), none, [0, 1, 2]⟩,
 ⟨some 46, .move (.tmp 4), none, [0, 1, 2, 3]⟩,
 ⟨some 47, .bin .plain .sub (.tmp 46) (.const (.int .i64 2)), none, [0, 1, 2, 3]⟩,
 ⟨some 48, .move (.tmp 9), none, [0, 1, 2, 3, 4, 5]⟩,
 ⟨some 49, .bin .plain .add (.tmp 48) (.const (.int .u32 1)), none, [0, 1, 2, 3, 4, 5]⟩,
 ⟨some 50, .indexStr (.const (.str [48, 48, 48, 49, 48, 50, 48, 51, 48, 52, 48, 53, 48, 54, 48, 55, 48, 56, 48, 57, 49, 48, 49, 49, 49, 50, 49, 51, 49, 52, 49, 53, 49, 54, 49, 55, 49, 56, 49, 57, 50, 48, 50, 49, 50, 50, 50, 51, 50, 52, 50, 53, 50, 54, 50, 55, 50, 56, 50, 57, 51, 48, 51, 49, 51, 50, 51, 51, 51, 52, 51, 53, 51, 54, 51, 55, 51, 56, 51, 57, 52, 48, 52, 49, 52, 50, 52, 51, 52, 52, 52, 53, 52, 54, 52, 55, 52, 56, 52, 57, 53, 48, 53, 49, 53, 50, 53, 51, 53, 52, 53, 53, 53, 54, 53, 55, 53, 56, 53, 57, 54, 48, 54, 49, 54, 50, 54, 51, 54, 52, 54, 53, 54, 54, 54, 55, 54, 56, 54, 57, 55, 48, 55, 49, 55, 50, 55, 51, 55, 52, 55, 53, 55, 54, 55, 55, 55, 56, 55, 57, 56, 48, 56, 49, 56, 50, 56, 51, 56, 52, 56, 53, 56, 54, 56, 55, 56, 56, 56, 57, 57, 48, 57, 49, 57, 50, 57, 51, 57, 52, 57, 53, 57, 54, 57, 55, 57, 56, 57, 57])) (.tmp 49), none, [0, 1, 2, 3, 4, 5]⟩,
 ⟨some 51, .move (.tmp 9), none, [0, 1, 2, 3, 4, 5, 6, 7, 8]⟩,
 ⟨some 52, .indexStr (.const (.str [48, 48, 48, 49, 48, 50, 48, 51, 48, 52, 48, 53, 48, 54, 48, 55, 48, 56, 48, 57, 49, 48, 49, 49, 49, 50, 49, 51, 49, 52, 49, 53, 49, 54, 49, 55, 49, 56, 49, 57, 50, 48, 50, 49, 50, 50, 50, 51, 50, 52, 50, 53, 50, 54, 50, 55, 50, 56, 50, 57, 51, 48, 51, 49, 51, 50, 51, 51, 51, 52, 51, 53, 51, 54, 51, 55, 51, 56, 51, 57, 52, 48, 52, 49, 52, 50, 52, 51, 52, 52, 52, 53, 52, 54, 52, 55, 52, 56, 52, 57, 53, 48, 53, 49, 53, 50, 53, 51, 53, 52, 53, 53, 53, 54, 53, 55, 53, 56, 53, 57, 54, 48, 54, 49, 54, 50, 54, 51, 54, 52, 54, 53, 54, 54, 54, 55, 54, 56, 54, 57, 55, 48, 55, 49, 55, 50, 55, 51, 55, 52, 55, 53, 55, 54, 55, 55, 55, 56, 55, 57, 56, 48, 56, 49, 56, 50, 56, 51, 56, 52, 56, 53, 56, 54, 56, 55, 56, 56, 56, 57, 57, 48, 57, 49, 57, 50, 57, 51, 57, 52, 57, 53, 57, 54, 57, 55, 57, 56, 57, 57])) (.tmp 51), none, [0, 1, 2, 3, 4, 5, 6, 7, 8]⟩,
 ⟨some 53, .indexAddr 1 (.tmp 42) (.tmp 44), none, [3, 4, 5, 9, 10]⟩,
 ⟨none, .store 1 (.tmp 53) (.tmp 50), none, [3, 4, 5, 9, 10]⟩], 
  [
  ⟨some 54, .indexAddr 1 (.tmp 45) (.tmp 47), none, []⟩], 
  [
  ⟨none, .store 1 (.tmp 54) (.tmp 52), none, []⟩]]
theorem k_istrconv_formatBase10_r7_sg : segs k_istrconv_formatBase10_r7 = k_istrconv_formatBase10_r7s := by kernel_rfl
theorem k_istrconv_formatBase10_r7_st : statOK k_istrconv_formatBase10_r7 = true := by kernel_rfl
def k_istrconv_formatBase10_r8 : List AOper := [
  ⟨some 55, .move (.tmp 0), none, []⟩,
 ⟨some 56, .move (.tmp 4), none, [0]⟩,
 ⟨some 57, .bin .plain .sub (.tmp 56) (.const (.int .i64 3)), none, [0]⟩,
 ⟨some 58, .move (.tmp 0), none, [0, 1, 2]⟩,
 ⟨some 59, .move (.tmp 4), none, [0, 1, 2, 3]⟩,
 ⟨some 60, .bin .plain .sub (.tmp 59) (.const (.int .i64 4)), none, [0, 1, 2, 3]⟩,
 ⟨some 61, .move (.tmp 8), none, [0, 1, 2, 3, 4, 5]⟩,
 ⟨some 62, .bin .plain .add (.tmp 61) (.const (.int .u32 1)), none, [0, 1, 2, 3, 4, 5]⟩,
 ⟨some 63, .indexStr (.const (.str [48, 48, 48, 49, 48, 50, 48, 51, 48, 52, 48, 53, 48, 54, 48, 55, 48, 56, 48, 57, 49, 48, 49, 49, 49, 50, 49, 51, 49, 52, 49, 53, 49, 54, 49, 55, 49, 56, 49, 57, 50, 48, 50, 49, 50, 50, 50, 51, 50, 52, 50, 53, 50, 54, 50, 55, 50, 56, 50, 57, 51, 48, 51, 49, 51, 50, 51, 51, 51, 52, 51, 53, 51, 54, 51, 55, 51, 56, 51, 57, 52, 48, 52, 49, 52, 50, 52, 51, 52, 52, 52, 53, 52, 54, 52, 55, 52, 56, 52, 57, 53, 48, 53, 49, 53, 50, 53, 51, 53, 52, 53, 53, 53, 54, 53, 55, 53, 56, 53, 57, 54, 48, 54, 49, 54, 50, 54, 51, 54, 52, 54, 53, 54, 54, 54, 55, 54, 56, 54, 57, 55, 48, 55, 49, 55, 50, 55, 51, 55, 52, 55, 53, 55, 54, 55, 55, 55, 56, 55, 57, 56, 48, 56, 49, 56, 50, 56, 51, 56, 52, 56, 53, 56, 54, 56, 55, 56, 56, 56, 57, 57, 48, 57, 49, 57, 50, 57, 51, 57, 52, 57, 53, 57, 54, 57, 55, 57, 56, 57, 57])) (.tmp 62), none, [0, 1, 2, 3, 4, 5]⟩,
 ⟨some 64, .move (.tmp 8), none, [0, 1, 2, 3, 4, 5, 6, 7, 8]⟩,
 ⟨some 65, .indexStr (.const (.str [48, 48, 48, 49, 48, 50, 48, 51, 48, 52, 48, 53, 48, 54, 48, 55, 48, 56, 48, 57, 49, 48, 49, 49, 49, 50, 49, 51, 49, 52, 49, 53, 49, 54, 49, 55, 49, 56, 49, 57, 50, 48, 50, 49, 50, 50, 50, 51, 50, 52, 50, 53, 50, 54, 50, 55, 50, 56, 50, 57, 51, 48, 51, 49, 51, 50, 51, 51, 51, 52, 51, 53, 51, 54, 51, 55, 51, 56, 51, 57, 52, 48, 52, 49, 52, 50, 52, 51, 52, 52, 52, 53, 52, 54, 52, 55, 52, 56, 52, 57, 53, 48, 53, 49, 53, 50, 53, 51, 53, 52, 53, 53, 53, 54, 53, 55, 53, 56, 53, 57, 54, 48, 54, 49, 54, 50, 54, 51, 54, 52, 54, 53, 54, 54, 54, 55, 54, 56, 54, 57, 55, 48, 55, 49, 55, 50, 55, 51, 55, 52, 55, 53, 55, 54, 55, 55, 55, 56, 55, 57, 56, 48, 56, 49, 56, 50, 56, 51, 56, 52, 56, 53, 56, 54, 56, 55, 56, 56, 56, 57, 57, 48, 57, 49, 57, 50, 57, 51, 57, 52, 57, 53, 57, 54, 57, 55, 57, 56, 57, 57])) (.tmp 64), none, [0, 1, 2, 3, 4, 5, 6, 7, 8]⟩,
 ⟨some 66, .indexAddr 1 (.tmp 55) (.tmp 57), none, [3, 4, 5, 9, 10]⟩,
 ⟨none, .store 1 (.tmp 66) (.tmp 63), none, [3, 4, 5, 9, 10]⟩,
 ⟨some 67, .indexAddr 1 (.tmp 58) (.tmp 60), none, []⟩,
 ⟨none, .store 1 (.tmp 67) (.tmp 65), none, []⟩]
def k_istrconv_formatBase10_r8s : List (List AOper) := [
  [
  ⟨some 55, .move (.tmp 0), none, []⟩,
 ⟨some 56, .move (.tmp 4), none, [0]⟩,
 ⟨some 57, .bin .plain .sub (.tmp 56) (.const (.int .i64 3)), none, [0]⟩,
 ⟨some 58, .move (.tmp 0), none, [0, 1, 2]⟩,
 ⟨some 59, .move (.tmp 4), none, [0, 1, 2, 3]⟩,
 ⟨some 60, .bin .plain .sub (.tmp 59) (.const (.int .i64 4)), none, [0, 1, 2, 3]⟩,
 ⟨some 61, .move (.tmp 8), none, [0, 1, 2, 3, 4, 5]⟩,
 ⟨some 62, .bin .plain .add (.tmp 61) (.const (.int .u32 1)), none, [0, 1, 2, 3, 4, 5]⟩,
 ⟨some 63, .indexStr (.const (.str [48, 48, 48, 49, 48, 50, 48, 51, 48, 52, 48, 53, 48, 54, 48, 55, 48, 56, 48, 57, 49, 48, 49, 49, 49, 50, 49, 51, 49, 52, 49, 53, 49, 54, 49, 55, 49, 56, 49, 57, 50, 48, 50, 49, 50, 50, 50, 51, 50, 52, 50, 53, 50, 54, 50, 55, 50, 56, 50, 57, 51, 48, 51, 49, 51, 50, 51, 51, 51, 52, 51, 53, 51, 54, 51, 55, 51, 56, 51, 57, 52, 48, 52, 49, 52, 50, 52, 51, 52, 52, 52, 53, 52, 54, 52, 55, 52, 56, 52, 57, 53, 48, 53, 49, 53, 50, 53, 51, 53, 52, 53, 53, 53, 54, 53, 55, 53, 56, 53, 57, 54, 48, 54, 49, 54, 50, 54, 51, 54, 52, 54, 53, 54, 54, 54, 55, 54, 56, 54, 57, 55, 48, 55, 49, 55, 50, 55, 51, 55, 52, 55, 53, 55, 54, 55, 55, 55, 56, 55, 57, 56, 48, 56, 49, 56, 50, 56, 51, 56, 52, 56, 53, 56, 54, 56, 55, 56, 56, 56, 57, 57, 48, 57, 49, 57, 50, 57, 51, 57, 52, 57, 53, 57, 54, 57, 55, 57, 56, 57, 57])) (.tmp 62), none, [0, 1, 2, 3, 4, 5]⟩,
 ⟨some 64, .move (.tmp 8), none, [0, 1, 2, 3, 4, 5, 6, 7, 8]⟩,
 ⟨some 65, .indexStr (.const (.str [48, 48, 48, 49, 48, 50, 48, 51, 48, 52, 48, 53, 48, 54, 48, 55, 48, 56, 48, 57, 49, 48, 49, 49, 49, 50, 49, 51, 49, 52, 49, 53, 49, 54, 49, 55, 49, 56, 49, 57, 50, 48, 50, 49, 50, 50, 50, 51, 50, 52, 50, 53, 50, 54, 50, 55, 50, 56, 50, 57, 51, 48, 51, 49, 51, 50, 51, 51, 51, 52, 51, 53, 51, 54, 51, 55, 51, 56, 51, 57, 52, 48, 52, 49, 52, 50, 52, 51, 52, 52, 52, 53, 52, 54, 52, 55, 52, 56, 52, 57, 53, 48, 53, 49, 53, 50, 53, 51, 53, 52, 53, 53, 53, 54, 53, 55, 53, 56, 53, 57, 54, 48, 54, 49, 54, 50, 54, 51, 54, 52, 54, 53, 54, 54, 54, 55, 54, 56, 54, 57, 55, 48, 55, 49, 55, 50, 55, 51, 55, 52, 55, 53, 55, 54, 55, 55, 55, 56, 55, 57, 56, 48, 56, 49, 56, 50, 56, 51, 56, 52, 56, 53, 56, 54, 56, 55, 56, 56, 56, 57, 57, 48, 57, 49, 57, 50, 57, 51, 57, 52, 57, 53, 57, 54, 57, 55, 57, 56, 57, 57])) (.tmp 64), none, [0, 1, 2, 3, 4, 5, 6, 7, 8]⟩,
 ⟨some 66, .indexAddr 1 (.tmp 55) (.tmp 57), none, [3, 4, 5, 9, 10]⟩,
 ⟨none, .store 1 (.tmp 66) (.tmp 63), none, [3, 4, 5, 9, 10]⟩], 
  [
  ⟨some 67, .indexAddr 1 (.tmp 58) (.tmp 60), none, []⟩], 
  [
  ⟨none, .store 1 (.tmp 67) (.tmp 65), none, []⟩]]
theorem k_istrconv_formatBase10_r8_sg : segs k_istrconv_formatBase10_r8 = k_istrconv_formatBase10_r8s := by kernel_rfl
theorem k_istrconv_formatBase10_r8_st : statOK k_istrconv_formatBase10_r8 = true := by kernel_rfl
def k_istrconv_formatBase10_r9 : List AOper := [
  ⟨some 68, .move (.tmp 0), none, []⟩,
 ⟨some 69, .move (.tmp 4), none, [0]⟩,
 ⟨some 70, .bin .plain .sub (.tmp 69) (.const (.int .i64 5)), none, [0]⟩,
 ⟨some 71, .move (.tmp 0), none, [0, 1, 2]⟩,
 ⟨some 72, .move (.tmp 4), none, [0, 1, 2, 3]⟩,
 ⟨some 73, .bin .plain .sub (.tmp 72) (.const (.int .i64 6)), none, [0, 1, 2, 3]⟩,
 ⟨some 74, .move (.tmp 11), none, [0, 1, 2, 3, 4, 5]⟩,
 ⟨some 75, .bin .plain .add (.tmp 74) (.const (.int .u32 1)), none, [0, 1, 2, 3, 4, 5]⟩,
 ⟨some 76, .indexStr (.const (.str [48, 48, 48, 49, 48, 50, 48, 51, 48, 52, 48, 53, 48, 54, 48, 55, 48, 56, 48, 57, 49, 48, 49, 49, 49, 50, 49, 51, 49, 52, 49, 53, 49, 54, 49, 55, 49, 56, 49, 57, 50, 48, 50, 49, 50, 50, 50, 51, 50, 52, 50, 53, 50, 54, 50, 55, 50, 56, 50, 57, 51, 48, 51, 49, 51, 50, 51, 51, 51, 52, 51, 53, 51, 54, 51, 55, 51, 56, 51, 57, 52, 48, 52, 49, 52, 50, 52, 51, 52, 52, 52, 53, 52, 54, 52, 55, 52, 56, 52, 57, 53, 48, 53, 49, 53, 50, 53, 51, 53, 52, 53, 53, 53, 54, 53, 55, 53, 56, 53, 57, 54, 48, 54, 49, 54, 50, 54, 51, 54, 52, 54, 53, 54, 54, 54, 55, 54, 56, 54, 57, 55, 48, 55, 49, 55, 50, 55, 51, 55, 52, 55, 53, 55, 54, 55, 55, 55, 56, 55, 57, 56, 48, 56, 49, 56, 50, 56, 51, 56, 52, 56, 53, 56, 54, 56, 55, 56, 56, 56, 57, 57, 48, 57, 49, 57, 50, 57, 51, 57, 52, 57, 53, 57, 54, 57, 55, 57, 56, 57, 57])) (.tmp 75), none, [0, 1, 2, 3, 4, 5]⟩,
 ⟨some 77, .move (.tmp 11), none, [0, 1, 2, 3, 4, 5, 6, 7, 8]⟩,
 ⟨some 78, .indexStr (.const (.str [48, 48, 48, 49, 48, 50, 48, 51, 48, 52, 48, 53, 48, 54, 48, 55, 48, 56, 48, 57, 49, 48, 49, 49, 49, 50, 49, 51, 49, 52, 49, 53, 49, 54, 49, 55, 49, 56, 49, 57, 50, 48, 50, 49, 50, 50, 50, 51, 50, 52, 50, 53, 50, 54, 50, 55, 50, 56, 50, 57, 51, 48, 51, 49, 51, 50, 51, 51, 51, 52, 51, 53, 51, 54, 51, 55, 51, 56, 51, 57, 52, 48, 52, 49, 52, 50, 52, 51, 52, 52, 52, 53, 52, 54, 52, 55, 52, 56, 52, 57, 53, 48, 53, 49, 53, 50, 53, 51, 53, 52, 53, 53, 53, 54, 53, 55, 53, 56, 53, 57, 54, 48, 54, 49, 54, 50, 54, 51, 54, 52, 54, 53, 54, 54, 54, 55, 54, 56, 54, 57, 55, 48, 55, 49, 55, 50, 55, 51, 55, 52, 55, 53, 55, 54, 55, 55, 55, 56, 55, 57, 56, 48, 56, 49, 56, 50, 56, 51, 56, 52, 56, 53, 56, 54, 56, 55, 56, 56, 56, 57, 57, 48, 57, 49, 57, 50, 57, 51, 57, 52, 57, 53, 57, 54, 57, 55, 57, 56, 57, 57])) (.tmp 77), none, [0, 1, 2, 3, 4, 5, 6, 7, 8]⟩,
 ⟨some 79, .indexAddr 1 (.tmp 68) (.tmp 70), none, [3, 4, 5, 9, 10]⟩,
 ⟨none, .store 1 (.tmp 79) (.tmp 76), none, [3, 4, 5, 9, 10]⟩,
 ⟨some 80, .indexAddr 1 (.tmp 71) (.tmp 73), none, []⟩,
 ⟨none, .store 1 (.tmp 80) (.tmp 78), none, []⟩]
def k_istrconv_formatBase10_r9s : List (List AOper) := [
  [
  ⟨some 68, .move (.tmp 0), none, []⟩,
 ⟨some 69, .move (.tmp 4), none, [0]⟩,
 ⟨some 70, .bin .plain .sub (.tmp 69) (.const (.int .i64 5)), none, [0]⟩,
 ⟨some 71, .move (.tmp 0), none, [0, 1, 2]⟩,
 ⟨some 72, .move (.tmp 4), none, [0, 1, 2, 3]⟩,
 ⟨some 73, .bin .plain .sub (.tmp 72) (.const (.int .i64 6)), none, [0, 1, 2, 3]⟩,
 ⟨some 74, .move (.tmp 11), none, [0, 1, 2, 3, 4, 5]⟩,
 ⟨some 75, .bin .plain .add (.tmp 74) (.const (.int .u32 1)), none, [0, 1, 2, 3, 4, 5]⟩,
 ⟨some 76, .indexStr (.const (.str [48, 48, 48, 49, 48, 50, 48, 51, 48, 52, 48, 53, 48, 54, 48, 55, 48, 56, 48, 57, 49, 48, 49, 49, 49, 50, 49, 51, 49, 52, 49, 53, 49, 54, 49, 55, 49, 56, 49, 57, 50, 48, 50, 49, 50, 50, 50, 51, 50, 52, 50, 53, 50, 54, 50, 55, 50, 56, 50, 57, 51, 48, 51, 49, 51, 50, 51, 51, 51, 52, 51, 53, 51, 54, 51, 55, 51, 56, 51, 57, 52, 48, 52, 49, 52, 50, 52, 51, 52, 52, 52, 53, 52, 54, 52, 55, 52, 56, 52, 57, 53, 48, 53, 49, 53, 50, 53, 51, 53, 52, 53, 53, 53, 54, 53, 55, 53, 56, 53, 57, 54, 48, 54, 49, 54, 50, 54, 51, 54, 52, 54, 53, 54, 54, 54, 55, 54, 56, 54, 57, 55, 48, 55, 49, 55, 50, 55, 51, 55, 52, 55, 53, 55, 54, 55, 55, 55, 56, 55, 57, 56, 48, 56, 49, 56, 50, 56, 51, 56, 52, 56, 53, 56, 54, 56, 55, 56, 56, 56, 57, 57, 48, 57, 49, 57, 50, 57, 51, 57, 52, 57, 53, 57, 54, 57, 55, 57, 56, 57, 57])) (.tmp 75), none, [0, 1, 2, 3, 4, 5]⟩,
 ⟨some 77, .move (.tmp 11), none, [0, 1, 2, 3, 4, 5, 6, 7, 8]⟩,
 ⟨some 78, .indexStr (.const (.str [48, 48, 48, 49, 48, 50, 48, 51, 48, 52, 48, 53, 48, 54, 48, 55, 48, 56, 48, 57, 49, 48, 49, 49, 49, 50, 49, 51, 49, 52, 49, 53, 49, 54, 49, 55, 49, 56, 49, 57, 50, 48, 50, 49, 50, 50, 50, 51, 50, 52, 50, 53, 50, 54, 50, 55, 50, 56, 50, 57, 51, 48, 51, 49, 51, 50, 51, 51, 51, 52, 51, 53, 51, 54, 51, 55, 51, 56, 51, 57, 52, 48, 52, 49, 52, 50, 52, 51, 52, 52, 52, 53, 52, 54, 52, 55, 52, 56, 52, 57, 53, 48, 53, 49, 53, 50, 53, 51, 53, 52, 53, 53, 53, 54, 53, 55, 53, 56, 53, 57, 54, 48, 54, 49, 54, 50, 54, 51, 54, 52, 54, 53, 54, 54, 54, 55, 54, 56, 54, 57, 55, 48, 55, 49, 55, 50, 55, 51, 55, 52, 55, 53, 55, 54, 55, 55, 55, 56, 55, 57, 56, 48, 56, 49, 56, 50, 56, 51, 56, 52, 56, 53, 56, 54, 56, 55, 56, 56, 56, 57, 57, 48, 57, 49, 57, 50, 57, 51, 57, 52, 57, 53, 57, 54, 57, 55, 57, 56, 57, 57])) (.tmp 77), none, [0, 1, 2, 3, 4, 5, 6, 7, 8]⟩,
 ⟨some 79, .indexAddr 1 (.tmp 68) (.tmp 70), none, [3, 4, 5, 9, 10]⟩,
 ⟨none, .store 1 (.tmp 79) (.tmp 76), none, [3, 4, 5, 9, 10]⟩], 
  [
  ⟨some 80, .indexAddr 1 (.tmp 71) (.tmp 73), none, []⟩], 
  [
  ⟨none, .store 1 (.tmp 80) (.tmp 78), none, []⟩]]
theorem k_istrconv_formatBase10_r9_sg : segs k_istrconv_formatBase10_r9 = k_istrconv_formatBase10_r9s := by kernel_rfl
theorem k_istrconv_formatBase10_r9_st : statOK k_istrconv_formatBase10_r9 = true := by kernel_rfl
def k_istrconv_formatBase10_r10 : List AOper := [
  ⟨some 81, .move (.tmp 0), none, []⟩,
 ⟨some 82, .move (.tmp 4), none, [0]⟩,
 ⟨some 83, .bin .plain .sub (.tmp 82) (.const (.int .i64 7)), none, [0]⟩,
 ⟨some 84, .move (.tmp 0), none, [0, 1, 2]⟩,
 ⟨some 85, .move (.tmp 4), none, [0, 1, 2, 3]⟩,
 ⟨some 86, .bin .plain .sub (.tmp 85) (.const (.int .i64 8)), none, [0, 1, 2, 3]⟩,
 ⟨some 87, .move (.tmp 10), none, [0, 1, 2, 3, 4, 5]⟩,
 ⟨some 88, .bin .plain .add (.tmp 87) (.const (.int .u32 1)), none, [0, 1, 2, 3, 4, 5]⟩,
 ⟨some 89, .indexStr (.const (.str [48, 48, 48, 49, 48, 50, 48, 51, 48, 52, 48, 53, 48, 54, 48, 55, 48, 56, 48, 57, 49, 48, 49, 49, 49, 50, 49, 51, 49, 52, 49, 53, 49, 54, 49, 55, 49, 56, 49, 57, 50, 48, 50, 49, 50, 50, 50, 51, 50, 52, 50, 53, 50, 54, 50, 55, 50, 56, 50, 57, 51, 48, 51, 49, 51, 50, 51, 51, 51, 52, 51, 53, 51, 54, 51, 55, 51, 56, 51, 57, 52, 48, 52, 49, 52, 50, 52, 51, 52, 52, 52, 53, 52, 54, 52, 55, 52, 56, 52, 57, 53, 48, 53, 49, 53, 50, 53, 51, 53, 52, 53, 53, 53, 54, 53, 55, 53, 56, 53, 57, 54, 48, 54, 49, 54, 50, 54, 51, 54, 52, 54, 53, 54, 54, 54, 55, 54, 56, 54, 57, 55, 48, 55, 49, 55, 50, 55, 51, 55, 52, 55, 53, 55, 54, 55, 55, 55, 56, 55, 57, 56, 48, 56, 49, 56, 50, 56, 51, 56, 52, 56, 53, 56, 54, 56, 55, 56, 56, 56, 57, 57, 48, 57, 49, 57, 50, 57, 51, 57, 52, 57, 53, 57, 54, 57, 55, 57, 56, 57, 57])) (.tmp 88), none, [0, 1, 2, 3, 4, 5]⟩,
 ⟨some 90, .move (.tmp 10), none, [0, 1, 2, 3, 4, 5, 6, 7, 8]⟩,
 ⟨some 91, .indexStr (.const (.str [48, 48, 48, 49, 48, 50, 48, 51, 48, 52, 48, 53, 48, 54, 48, 55, 48, 56, 48, 57, 49, 48, 49, 49, 49, 50, 49, 51, 49, 52, 49, 53, 49, 54, 49, 55, 49, 56, 49, 57, 50, 48, 50, 49, 50, 50, 50, 51, 50, 52, 50, 53, 50, 54, 50, 55, 50, 56, 50, 57, 51, 48, 51, 49, 51, 50, 51, 51, 51, 52, 51, 53, 51, 54, 51, 55, 51, 56, 51, 57, 52, 48, 52, 49, 52, 50, 52, 51, 52, 52, 52, 53, 52, 54, 52, 55, 52, 56, 52, 57, 53, 48, 53, 49, 53, 50, 53, 51, 53, 52, 53, 53, 53, 54, 53, 55, 53, 56, 53, 57, 54, 48, 54, 49, 54, 50, 54, 51, 54, 52, 54, 53, 54, 54, 54, 55, 54, 56, 54, 57, 55, 48, 55, 49, 55, 50, 55, 51, 55, 52, 55, 53, 55, 54, 55, 55, 55, 56, 55, 57, 56, 48, 56, 49, 56, 50, 56, 51, 56, 52, 56, 53, 56, 54, 56, 55, 56, 56, 56, 57, 57, 48, 57, 49, 57, 50, 57, 51, 57, 52, 57, 53, 57, 54, 57, 55, 57, 56, 57, 57])) (.tmp 90), none, [0, 1, 2, 3, 4, 5, 6, 7, 8]⟩,
 ⟨some 92, .indexAddr 1 (.tmp 81) (.tmp 83), none, [3, 4, 5, 9, 10]⟩,
 ⟨none, .store 1 (.tmp 92) (.tmp 89), none, [3, 4, 5, 9, 10]⟩,
 ⟨some 93, .indexAddr 1 (.tmp 84) (.tmp 86), none, []⟩,
 ⟨none, .store 1 (.tmp 93) (.tmp 91), none, []⟩]
def k_istrconv_formatBase10_r10s : List (List AOper) := [
  [
  ⟨some 81, .move (.tmp 0), none, []⟩,
 ⟨some 82, .move (.tmp 4), none, [0]⟩,
 ⟨some 83, .bin .plain .sub (.tmp 82) (.const (.int .i64 7)), none, [0]⟩,
 ⟨some 84, .move (.tmp 0), none, [0, 1, 2]⟩,
 ⟨some 85, .move (.tmp 4), none, [0, 1, 2, 3]⟩,
 ⟨some 86, .bin .plain .sub (.tmp 85) (.const (.int .i64 8)), none, [0, 1, 2, 3]⟩,
 ⟨some 87, .move (.tmp 10), none, [0, 1, 2, 3, 4, 5]⟩,
 ⟨some 88, .bin .plain .add (.tmp 87) (.const (.int .u32 1)), none, [0, 1, 2, 3, 4, 5]⟩,
 ⟨some 89, .indexStr (.const (.str [48, 48, 48, 49, 48, 50, 48, 51, 48, 52, 48, 53, 48, 54, 48, 55, 48, 56, 48, 57, 49, 48, 49, 49, 49, 50, 49, 51, 49, 52, 49, 53, 49, 54, 49, 55, 49, 56, 49, 57, 50, 48, 50, 49, 50, 50, 50, 51, 50, 52, 50, 53, 50, 54, 50, 55, 50, 56, 50, 57, 51, 48, 51, 49, 51, 50, 51, 51, 51, 52, 51, 53, 51, 54, 51, 55, 51, 56, 51, 57, 52, 48, 52, 49, 52, 50, 52, 51, 52, 52, 52, 53, 52, 54, 52, 55, 52, 56, 52, 57, 53, 48, 53, 49, 53, 50, 53, 51, 53, 52, 53, 53, 53, 54, 53, 55, 53, 56, 53, 57, 54, 48, 54, 49, 54, 50, 54, 51, 54, 52, 54, 53, 54, 54, 54, 55, 54, 56, 54, 57, 55, 48, 55, 49, 55, 50, 55, 51, 55, 52, 55, 53, 55, 54, 55, 55, 55, 56, 55, 57, 56, 48, 56, 49, 56, 50, 56, 51, 56, 52, 56, 53, 56, 54, 56, 55, 56, 56, 56, 57, 57, 48, 57, 49, 57, 50, 57, 51, 57, 52, 57, 53, 57, 54, 57, 55, 57, 56, 57, 57])) (.tmp 88), none, [0, 1, 2, 3, 4, 5]⟩,
 ⟨some 90, .move (.tmp 10), none, [0, 1, 2, 3, 4, 5, 6, 7, 8]⟩,
 ⟨some 91, .indexStr (.const (.str [48, 48, 48, 49, 48, 50, 48, 51, 48, 52, 48, 53, 48, 54, 48, 55, 48, 56, 48, 57, 49, 48, 49, 49, 49, 50, 49, 51, 49, 52, 49, 53, 49, 54, 49, 55, 49, 56, 49, 57, 50, 48, 50, 49, 50, 50, 50, 51, 50, 52, 50, 53, 50, 54, 50, 55, 50, 56, 50, 57, 51, 48, 51, 49, 51, 50, 51, 51, 51, 52, 51, 53, 51, 54, 51, 55, 51, 56, 51, 57, 52, 48, 52, 49, 52, 50, 52, 51, 52, 52, 52, 53, 52, 54, 52, 55, 52, 56, 52, 57, 53, 48, 53, 49, 53, 50, 53, 51, 53, 52, 53, 53, 53, 54, 53, 55, 53, 56, 53, 57, 54, 48, 54, 49, 54, 50, 54, 51, 54, 52, 54, 53, 54, 54, 54, 55, 54, 56, 54, 57, 55, 48, 55, 49, 55, 50, 55, 51, 55, 52, 55, 53, 55, 54, 55, 55, 55, 56, 55, 57, 56, 48, 56, 49, 56, 50, 56, 51, 56, 52, 56, 53, 56, 54, 56, 55, 56, 56, 56, 57, 57, 48, 57, 49, 57, 50, 57, 51, 57, 52, 57, 53, 57, 54, 57, 55, 57, 56, 57, 57])) (.tmp 90), none, [0, 1, 2, 3, 4, 5, 6, 7, 8]⟩,
 ⟨some 92, .indexAddr 1 (.tmp 81) (.tmp 83), none, [3, 4, 5, 9, 10]⟩,
 ⟨none, .store 1 (.tmp 92) (.tmp 89), none, [3, 4, 5, 9, 10]⟩], 
  [
  ⟨some 93, .indexAddr 1 (.tmp 84) (.tmp 86), none, []⟩], 
  [
  ⟨none, .store 1 (.tmp 93) (.tmp 91), none, []⟩]]
theorem k_istrconv_formatBase10_r10_sg : segs k_istrconv_formatBase10_r10 = k_istrconv_formatBase10_r10s := by kernel_rfl
theorem k_istrconv_formatBase10_r10_st : statOK k_istrconv_formatBase10_r10 = true := by kernel_rfl
def k_istrconv_formatBase10_r11 : List AOper := [
  ⟨some 94, .move (.tmp 4), none, []⟩,
 ⟨some 95, .bin .plain .sub (.tmp 94) (.const (.int .i64 8)), none, []⟩,
 ⟨some 4, .move (.tmp 95), none, []⟩]
def k_istrconv_formatBase10_r12 : ACode := (.seq (.seq (.reg k_istrconv_formatBase10_r1 false) (.cond (.tmp 20) .skip (.exit 0))) (.block 1 (.seq (.reg k_istrconv_formatBase10_r2 false) (.seq (.reg k_istrconv_formatBase10_r3 false) (.seq (.reg k_istrconv_formatBase10_r4 false) (.seq (.reg k_istrconv_formatBase10_r5 false) (.seq (.reg k_istrconv_formatBase10_r6 false) (.seq (.reg k_istrconv_formatBase10_r7 true) (.seq (.reg k_istrconv_formatBase10_r8 true) (.seq (.reg k_istrconv_formatBase10_r9 true) (.seq (.reg k_istrconv_formatBase10_r10 true) (.reg k_istrconv_formatBase10_r11 false))))))))))))
def k_istrconv_formatBase10_r13 : List AOper := [
  ⟨some 96, .move (.tmp 1), none, []⟩,
 ⟨some 97, .toInt .u32 (.tmp 96), none, []⟩,
 ⟨some 12, .move (.tmp 97), none, []⟩]
def k_istrconv_formatBase10_r14 : List AOper := [
  ⟨some 98, .move (.tmp 4), none, []⟩,
 ⟨some 99, .bin .plain .geq (.tmp 98) (.const (.int .i64 4)), none, []⟩]
def k_istrconv_formatBase10_r15 : List AOper := [
  ⟨some 100, .move (.tmp 12), none, []⟩,
 ⟨some 101, .bin .plain .rem (.tmp 100) (.const (.int .u32 10000)), none, []⟩,
 ⟨some 13, .move (.tmp 101), none, []⟩]
def k_istrconv_formatBase10_r16 : List AOper := [
  ⟨some 102, .move (.tmp 12), none, []⟩,
 ⟨some 103, .bin .plain .quo (.tmp 102) (.const (.int .u32 10000)), none, []⟩,
 ⟨some 12, .move (.tmp 103), none, []⟩]
def k_istrconv_formatBase10_r17 : List AOper := [
  ⟨some 104, .move (.tmp 13), none, []⟩,
 ⟨some 105, .bin .plain .quo (.tmp 104) (.const (.int .u32 100)), none, []⟩,
 ⟨some 106, .bin .plain .mul (.tmp 105) (.const (.int .u32 2)), none, []⟩,
 ⟨some 107, .move (.tmp 13), none, []⟩,
 ⟨some 108, .bin .plain .rem (.tmp 107) (.const (.int .u32 100)), none, []⟩,
 ⟨some 109, .bin .plain .mul (.tmp 108) (.const (.int .u32 2)), none, []⟩,
 ⟨some 14, .move (.tmp 106), none, []⟩,
 ⟨some 15, .move (.tmp 109), none, []⟩]
def k_istrconv_formatBase10_r18 : List AOper := [
  ⟨some 110, .move (.tmp 0), none, []⟩,
 ⟨some 111, .move (.tmp 4), none, [0]⟩,
 ⟨some 112, .bin .plain .sub (.tmp 111) (.const (.int .i64 1)), none, [0]⟩,
 ⟨some 113, .move (.tmp 0), none, [0, 1, 2]⟩,
 ⟨some 114, .move (.tmp 4), none, [0, 1, 2, 3]⟩,
 ⟨some 115, .bin .plain .sub (.tmp 114) (.const (.int .i64 2)), none, [0, 1, 2, 3]⟩,
 ⟨some 116, .move (.tmp 15), none, [0, 1, 2, 3, 4, 5]⟩,
 ⟨some 117, .bin .plain .add (.tmp 116) (.const (.int .u32 1)), none, [0, 1, 2, 3, 4, 5]⟩,
 ⟨some 118, .indexStr (.const (.str [48, 48, 48, 49, 48, 50, 48, 51, 48, 52, 48, 53, 48, 54, 48, 55, 48, 56, 48, 57, 49, 48, 49, 49, 49, 50, 49, 51, 49, 52, 49, 53, 49, 54, 49, 55, 49, 56, 49, 57, 50, 48, 50, 49, 50, 50, 50, 51, 50, 52, 50, 53, 50, 54, 50, 55, 50, 56, 50, 57, 51, 48, 51, 49, 51, 50, 51, 51, 51, 52, 51, 53, 51, 54, 51, 55, 51, 56, 51, 57, 52, 48, 52, 49, 52, 50, 52, 51, 52, 52, 52, 53, 52, 54, 52, 55, 52, 56, 52, 57, 53, 48, 53, 49, 53, 50, 53, 51, 53, 52, 53, 53, 53, 54, 53, 55, 53, 56, 53, 57, 54, 48, 54, 49, 54, 50, 54, 51, 54, 52, 54, 53, 54, 54, 54, 55, 54, 56, 54, 57, 55, 48, 55, 49, 55, 50, 55, 51, 55, 52, 55, 53, 55, 54, 55, 55, 55, 56, 55, 57, 56, 48, 56, 49, 56, 50, 56, 51, 56, 52, 56, 53, 56, 54, 56, 55, 56, 56, 56, 57, 57, 48, 57, 49, 57, 50, 57, 51, 57, 52, 57, 53, 57, 54, 57, 55, 57, 56, 57, 57])) (.tmp 117), none, [0, 1, 2, 3, 4, 5]⟩,
 ⟨some 119, .move (.tmp 15), none, [0, 1, 2, 3, 4, 5, 6, 7, 8]⟩,
 ⟨some 120, .indexStr (.const (.str [48, 48, 48, 49, 48, 50, 48, 51, 48, 52, 48, 53, 48, 54, 48, 55, 48, 56, 48, 57, 49, 48, 49, 49, 49, 50, 49, 51, 49, 52, 49, 53, 49, 54, 49, 55, 49, 56, 49, 57, 50, 48, 50, 49, 50, 50, 50, 51, 50, 52, 50, 53, 50, 54, 50, 55, 50, 56, 50, 57, 51, 48, 51, 49, 51, 50, 51, 51, 51, 52, 51, 53, 51, 54, 51, 55, 51, 56, 51, 57, 52, 48, 52, 49, 52, 50, 52, 51, 52, 52, 52, 53, 52, 54, 52, 55, 52, 56, 52, 57, 53, 48, 53, 49, 53, 50, 53, 51, 53, 52, 53, 53, 53, 54, 53, 55, 53, 56, 53, 57, 54, 48, 54, 49, 54, 50, 54, 51, 54, 52, 54, 53, 54, 54, 54, 55, 54, 56, 54, 57, 55, 48, 55, 49, 55, 50, 55, 51, 55, 52, 55, 53, 55, 54, 55, 55, 55, 56, 55, 57, 56, 48, 56, 49, 56, 50, 56, 51, 56, 52, 56, 53, 56, 54, 56, 55, 56, 56, 56, 57, 57, 48, 57, 49, 57, 50, 57, 51, 57, 52, 57, 53, 57, 54, 57, 55, 57, 56, 57, 57])) (.tmp 119), none, [0, 1, 2, 3, 4, 5, 6, 7, 8]⟩,
 ⟨some 121, .indexAddr 1 (.tmp 110) (.tmp 112), none, [3, 4, 5, 9, 10]⟩,
 ⟨none, .store 1 (.tmp 121) (.tmp 118), none, [3, 4, 5, 9, 10]⟩,
 ⟨some 122, .indexAddr 1 (.tmp 113) (.tmp 115), none, []⟩,
 ⟨none, .store 1 (.tmp 122) (.tmp 120), none, []⟩]
def k_istrconv_formatBase10_r18s : List (List AOper) := [
  [
  ⟨some 110, .move (.tmp 0), none, []⟩,
 ⟨some 111, .move (.tmp 4), none, [0]⟩,
 ⟨some 112, .bin .plain .sub (.tmp 111) (.const (.int .i64 1)), none, [0]⟩,
 ⟨some 113, .move (.tmp 0), none, [0, 1, 2]⟩,
 ⟨some 114, .move (.tmp 4), none, [0, 1, 2, 3]⟩,
 ⟨some 115, .bin .plain .sub (.tmp 114) (.const (.int .i64 2)), none, [0, 1, 2, 3]⟩,
 ⟨some 116, .move (.tmp 15), none, [0, 1, 2, 3, 4, 5]⟩,
 ⟨some 117, .bin .plain .add (.tmp 116) (.const (.int .u32 1)), none, [0, 1, 2, 3, 4, 5]⟩,
 ⟨some 118, .indexStr (.const (.str [48, 48, 48, 49, 48, 50, 48, 51, 48, 52, 48, 53, 48, 54, 48, 55, 48, 56, 48, 57, 49, 48, 49, 49, 49, 50, 49, 51, 49, 52, 49, 53, 49, 54, 49, 55, 49, 56, 49, 57, 50, 48, 50, 49, 50, 50, 50, 51, 50, 52, 50, 53, 50, 54, 50, 55, 50, 56, 50, 57, 51, 48, 51, 49, 51, 50, 51, 51, 51, 52, 51, 53, 51, 54, 51, 55, 51, 56, 51, 57, 52, 48, 52, 49, 52, 50, 52, 51, 52, 52, 52, 53, 52, 54, 52, 55, 52, 56, 52, 57, 53, 48, 53, 49, 53, 50, 53, 51, 53, 52, 53, 53, 53, 54, 53, 55, 53, 56, 53, 57, 54, 48, 54, 49, 54, 50, 54, 51, 54, 52, 54, 53, 54, 54, 54, 55, 54, 56, 54, 57, 55, 48, 55, 49, 55, 50, 55, 51, 55, 52, 55, 53, 55, 54, 55, 55, 55, 56, 55, 57, 56, 48, 56, 49, 56, 50, 56, 51, 56, 52, 56, 53, 56, 54, 56, 55, 56, 56, 56, 57, 57, 48, 57, 49, 57, 50, 57, 51, 57, 52, 57, 53, 57, 54, 57, 55, 57, 56, 57, 57])) (.tmp 117), none, [0, 1, 2, 3, 4, 5]⟩,
 ⟨some 119, .move (.tmp 15), none, [0, 1, 2, 3, 4, 5, 6, 7, 8]⟩,
 ⟨some 120, .indexStr (.const (.str [48, 48, 48, 49, 48, 50, 48, 51, 48, 52, 48, 53, 48, 54, 48, 55, 48, 56, 48, 57, 49, 48, 49, 49, 49, 50, 49, 51, 49, 52, 49, 53, 49, 54, 49, 55, 49, 56, 49, 57, 50, 48, 50, 49, 50, 50, 50, 51, 50, 52, 50, 53, 50, 54, 50, 55, 50, 56, 50, 57, 51, 48, 51, 49, 51, 50, 51, 51, 51, 52, 51, 53, 51, 54, 51, 55, 51, 56, 51, 57, 52, 48, 52, 49, 52, 50, 52, 51, 52, 52, 52, 53, 52, 54, 52, 55, 52, 56, 52, 57, 53, 48, 53, 49, 53, 50, 53, 51, 53, 52, 53, 53, 53, 54, 53, 55, 53, 56, 53, 57, 54, 48, 54, 49, 54, 50, 54, 51, 54, 52, 54, 53, 54, 54, 54, 55, 54, 56, 54, 57, 55, 48, 55, 49, 55, 50, 55, 51, 55, 52, 55, 53, 55, 54, 55, 55, 55, 56, 55, 57, 56, 48, 56, 49, 56, 50, 56, 51, 56, 52, 56, 53, 56, 54, 56, 55, 56, 56, 56, 57, 57, 48, 57, 49, 57, 50, 57, 51, 57, 52, 57, 53, 57, 54, 57, 55, 57, 56, 57, 57])) (.tmp 119), none, [0, 1, 2, 3, 4, 5, 6, 7, 8]⟩,
 ⟨some 121, .indexAddr 1 (.tmp 110) (.tmp 112), none, [3, 4, 5, 9, 10]⟩,
 ⟨none, .store 1 (.tmp 121) (.tmp 118), none, [3, 4, 5, 9, 10]⟩], 
  [
  ⟨some 122, .indexAddr 1 (.tmp 113) (.tmp 115), none, []⟩], 
  [
  ⟨none, .store 1 (.tmp 122) (.tmp 120), none, []⟩]]
theorem k_istrconv_formatBase10_r18_sg : segs k_istrconv_formatBase10_r18 = k_istrconv_formatBase10_r18s := by kernel_rfl
theorem k_istrconv_formatBase10_r18_st : statOK k_istrconv_formatBase10_r18 = true := by kernel_rfl
def k_istrconv_formatBase10_r19 : List AOper := [
  ⟨some 123, .move (.tmp 0), none, []⟩,
 ⟨some 124, .move (.tmp 4), none, [0]⟩,
 ⟨some 125, .bin .plain .sub (.tmp 124) (.const (.int .i64 3)), none, [0]⟩,
 ⟨some 126, .move (.tmp 0), none, [0, 1, 2]⟩,
 ⟨some 127, .move (.tmp 4), none, [0, 1, 2, 3]⟩,
 ⟨some 128, .bin .plain .sub (.tmp 127) (.const (.int .i64 4)), none, [0, 1, 2, 3]⟩,
 ⟨some 129, .move (.tmp 14), none, [0, 1, 2, 3, 4, 5]⟩,
 ⟨some 130, .bin .plain .add (.tmp 129) (.const (.int .u32 1)), none, [0, 1, 2, 3, 4, 5]⟩,
 ⟨some 131, .indexStr (.const (.str [48, 48, 48, 49, 48, 50, 48, 51, 48, 52, 48, 53, 48, 54, 48, 55, 48, 56, 48, 57, 49, 48, 49, 49, 49, 50, 49, 51, 49, 52, 49, 53, 49, 54, 49, 55, 49, 56, 49, 57, 50, 48, 50, 49, 50, 50, 50, 51, 50, 52, 50, 53, 50, 54, 50, 55, 50, 56, 50, 57, 51, 48, 51, 49, 51, 50, 51, 51, 51, 52, 51, 53, 51, 54, 51, 55, 51, 56, 51, 57, 52, 48, 52, 49, 52, 50, 52, 51, 52, 52, 52, 53, 52, 54, 52, 55, 52, 56, 52, 57, 53, 48, 53, 49, 53, 50, 53, 51, 53, 52, 53, 53, 53, 54, 53, 55, 53, 56, 53, 57, 54, 48, 54, 49, 54, 50, 54, 51, 54, 52, 54, 53, 54, 54, 54, 55, 54, 56, 54, 57, 55, 48, 55, 49, 55, 50, 55, 51, 55, 52, 55, 53, 55, 54, 55, 55, 55, 56, 55, 57, 56, 48, 56, 49, 56, 50, 56, 51, 56, 52, 56, 53, 56, 54, 56, 55, 56, 56, 56, 57, 57, 48, 57, 49, 57, 50, 57, 51, 57, 52, 57, 53, 57, 54, 57, 55, 57, 56, 57, 57])) (.tmp 130), none, [0, 1, 2, 3, 4, 5]⟩,
 ⟨some 132, .move (.tmp 14), none, [0, 1, 2, 3, 4, 5, 6, 7, 8]⟩,
 ⟨some 133, .indexStr (.const (.str [48, 48, 48, 49, 48, 50, 48, 51, 48, 52, 48, 53, 48, 54, 48, 55, 48, 56, 48, 57, 49, 48, 49, 49, 49, 50, 49, 51, 49, 52, 49, 53, 49, 54, 49, 55, 49, 56, 49, 57, 50, 48, 50, 49, 50, 50, 50, 51, 50, 52, 50, 53, 50, 54, 50, 55, 50, 56, 50, 57, 51, 48, 51, 49, 51, 50, 51, 51, 51, 52, 51, 53, 51, 54, 51, 55, 51, 56, 51, 57, 52, 48, 52, 49, 52, 50, 52, 51, 52, 52, 52, 53, 52, 54, 52, 55, 52, 56, 52, 57, 53, 48, 53, 49, 53, 50, 53, 51, 53, 52, 53, 53, 53, 54, 53, 55, 53, 56, 53, 57, 54, 48, 54, 49, 54, 50, 54, 51, 54, 52, 54, 53, 54, 54, 54, 55, 54, 56, 54, 57, 55, 48, 55, 49, 55, 50, 55, 51, 55, 52, 55, 53, 55, 54, 55, 55, 55, 56, 55, 57, 56, 48, 56, 49, 56, 50, 56, 51, 56, 52, 56, 53, 56, 54, 56, 55, 56, 56, 56, 57, 57, 48, 57, 49, 57, 50, 57, 51, 57, 52, 57, 53, 57, 54, 57, 55, 57, 56, 57, 57])) (.tmp 132), none, [0, 1, 2, 3, 4, 5, 6, 7, 8]⟩,
 ⟨some 134, .indexAddr 1 (.tmp 123) (.tmp 125), none, [3, 4, 5, 9, 10]⟩,
 ⟨none, .store 1 (.tmp 134) (.tmp 131), none, [3, 4, 5, 9, 10]⟩,
 ⟨some 135, .indexAddr 1 (.tmp 126) (.tmp 128), none, []⟩,
 ⟨none, .store 1 (.tmp 135) (.tmp 133), none, []⟩]
def k_istrconv_formatBase10_r19s : List (List AOper) := [
  [
  ⟨some 123, .move (.tmp 0), none, []⟩,
 ⟨some 124, .move (.tmp 4), none, [0]⟩,
 ⟨some 125, .bin .plain .sub (.tmp 124) (.const (.int .i64 3)), none, [0]⟩,
 ⟨some 126, .move (.tmp 0), none, [0, 1, 2]⟩,
 ⟨some 127, .move (.tmp 4), none, [0, 1, 2, 3]⟩,
 ⟨some 128, .bin .plain .sub (.tmp 127) (.const (.int .i64 4)), none, [0, 1, 2, 3]⟩,
 ⟨some 129, .move (.tmp 14), none, [0, 1, 2, 3, 4, 5]⟩,
 ⟨some 130, .bin .plain .add (.tmp 129) (.const (.int .u32 1)), none, [0, 1, 2, 3, 4, 5]⟩,
 ⟨some 131, .indexStr (.const (.str [48, 48, 48, 49, 48, 50, 48, 51, 48, 52, 48, 53, 48, 54, 48, 55, 48, 56, 48, 57, 49, 48, 49, 49, 49, 50, 49, 51, 49, 52, 49, 53, 49, 54, 49, 55, 49, 56, 49, 57, 50, 48, 50, 49, 50, 50, 50, 51, 50, 52, 50, 53, 50, 54, 50, 55, 50, 56, 50, 57, 51, 48, 51, 49, 51, 50, 51, 51, 51, 52, 51, 53, 51, 54, 51, 55, 51, 56, 51, 57, 52, 48, 52, 49, 52, 50, 52, 51, 52, 52, 52, 53, 52, 54, 52, 55, 52, 56, 52, 57, 53, 48, 53, 49, 53, 50, 53, 51, 53, 52, 53, 53, 53, 54, 53, 55, 53, 56, 53, 57, 54, 48, 54, 49, 54, 50, 54, 51, 54, 52, 54, 53, 54, 54, 54, 55, 54, 56, 54, 57, 55, 48, 55, 49, 55, 50, 55, 51, 55, 52, 55, 53, 55, 54, 55, 55, 55, 56, 55, 57, 56, 48, 56, 49, 56, 50, 56, 51, 56, 52, 56, 53, 56, 54, 56, 55, 56, 56, 56, 57, 57, 48, 57, 49, 57, 50, 57, 51, 57, 52, 57, 53, 57, 54, 57, 55, 57, 56, 57, 57])) (.tmp 130), none, [0, 1, 2, 3, 4, 5]⟩,
 ⟨some 132, .move (.tmp 14), none, [0, 1, 2, 3, 4, 5, 6, 7, 8]⟩,
 ⟨some 133, .indexStr (.const (.str [48, 48, 48, 49, 48, 50, 48, 51, 48, 52, 48, 53, 48, 54, 48, 55, 48, 56, 48, 57, 49, 48, 49, 49, 49, 50, 49, 51, 49, 52, 49, 53, 49, 54, 49, 55, 49, 56, 49, 57, 50, 48, 50, 49, 50, 50, 50, 51, 50, 52, 50, 53, 50, 54, 50, 55, 50, 56, 50, 57, 51, 48, 51, 49, 51, 50, 51, 51, 51, 52, 51, 53, 51, 54, 51, 55, 51, 56, 51, 57, 52, 48, 52, 49, 52, 50, 52, 51, 52, 52, 52, 53, 52, 54, 52, 55, 52, 56, 52, 57, 53, 48, 53, 49, 53, 50, 53, 51, 53, 52, 53, 53, 53, 54, 53, 55, 53, 56, 53, 57, 54, 48, 54, 49, 54, 50, 54, 51, 54, 52, 54, 53, 54, 54, 54, 55, 54, 56, 54, 57, 55, 48, 55, 49, 55, 50, 55, 51, 55, 52, 55, 53, 55, 54, 55, 55, 55, 56, 55, 57, 56, 48, 56, 49, 56, 50, 56, 51, 56, 52, 56, 53, 56, 54, 56, 55, 56, 56, 56, 57, 57, 48, 57, 49, 57, 50, 57, 51, 57, 52, 57, 53, 57, 54, 57, 55, 57, 56, 57, 57])) (.tmp 132), none, [0, 1, 2, 3, 4, 5, 6, 7, 8]⟩,
 ⟨some 134, .indexAddr 1 (.tmp 123) (.tmp 125), none, [3, 4, 5, 9, 10]⟩,
 ⟨none, .store 1 (.tmp 134) (.tmp 131), none, [3, 4, 5, 9, 10]⟩], 
  [
  ⟨some 135, .indexAddr 1 (.tmp 126) (.tmp 128), none, []⟩], 
  [
  ⟨none, .store 1 (.tmp 135) (.tmp 133), none, []⟩]]
theorem k_istrconv_formatBase10_r19_sg : segs k_istrconv_formatBase10_r19 = k_istrconv_formatBase10_r19s := by kernel_rfl
theorem k_istrconv_formatBase10_r19_st : statOK k_istrconv_formatBase10_r19 = true := by kernel_rfl
def k_istrconv_formatBase10_r20 : List AOper := [
  ⟨some 136, .move (.tmp 4), none, []⟩,
 ⟨some 137, .bin .plain .sub (.tmp 136) (.const (.int .i64 4)), none, []⟩,
 ⟨some 4, .move (.tmp 137), none, []⟩]
def k_istrconv_formatBase10_r21 : List AOper := [
  ⟨some 138, .move (.tmp 4), none, []⟩,
 ⟨some 139, .bin .plain .geq (.tmp 138) (.const (.int .i64 2)), none, []⟩]
def k_istrconv_formatBase10_r22 : List AOper := [
  ⟨some 140, .move (.tmp 12), none, []⟩,
 ⟨some 141, .bin .plain .rem (.tmp 140) (.const (.int .u32 100)), none, []⟩,
 ⟨some 142, .bin .plain .mul (.tmp 141) (.const (.int .u32 2)), none, []⟩,
 ⟨some 16, .move (.tmp 142), none, []⟩]
def k_istrconv_formatBase10_r23 : List AOper := [
  ⟨some 143, .move (.tmp 12), none, []⟩,
 ⟨some 144, .bin .plain .quo (.tmp 143) (.const (.int .u32 100)), none, []⟩,
 ⟨some 12, .move (.tmp 144), none, []⟩]
def k_istrconv_formatBase10_r24 : List AOper := [
  ⟨some 145, .move (.tmp 0), none, []⟩,
 ⟨some 146, .move (.tmp 4), none, [0]⟩,
 ⟨some 147, .bin .plain .sub (.tmp 146) (.const (.int .i64 1)), none, [0]⟩,
 ⟨some 148, .move (.tmp 0), none, [0, 1, 2]⟩,
 ⟨some 149, .move (.tmp 4), none, [0, 1, 2, 3]⟩,
 ⟨some 150, .bin .plain .sub (.tmp 149) (.const (.int .i64 2)), none, [0, 1, 2, 3]⟩,
 ⟨some 151, .move (.tmp 16), none, [0, 1, 2, 3, 4, 5]⟩,
 ⟨some 152, .bin .plain .add (.tmp 151) (.const (.int .u32 1)), none, [0, 1, 2, 3, 4, 5]⟩,
 ⟨some 153, .indexStr (.const (.str [48, 48, 48, 49, 48, 50, 48, 51, 48, 52, 48, 53, 48, 54, 48, 55, 48, 56, 48, 57, 49, 48, 49, 49, 49, 50, 49, 51, 49, 52, 49, 53, 49, 54, 49, 55, 49, 56, 49, 57, 50, 48, 50, 49, 50, 50, 50, 51, 50, 52, 50, 53, 50, 54, 50, 55, 50, 56, 50, 57, 51, 48, 51, 49, 51, 50, 51, 51, 51, 52, 51, 53, 51, 54, 51, 55, 51, 56, 51, 57, 52, 48, 52, 49, 52, 50, 52, 51, 52, 52, 52, 53, 52, 54, 52, 55, 52, 56, 52, 57, 53, 48, 53, 49, 53, 50, 53, 51, 53, 52, 53, 53, 53, 54, 53, 55, 53, 56, 53, 57, 54, 48, 54, 49, 54, 50, 54, 51, 54, 52, 54, 53, 54, 54, 54, 55, 54, 56, 54, 57, 55, 48, 55, 49, 55, 50, 55, 51, 55, 52, 55, 53, 55, 54, 55, 55, 55, 56, 55, 57, 56, 48, 56, 49, 56, 50, 56, 51, 56, 52, 56, 53, 56, 54, 56, 55, 56, 56, 56, 57, 57, 48, 57, 49, 57, 50, 57, 51, 57, 52, 57, 53, 57, 54, 57, 55, 57, 56, 57, 57])) (.tmp 152), none, [0, 1, 2, 3, 4, 5]⟩,
 ⟨some 154, .move (.tmp 16), none, [0, 1, 2, 3, 4, 5, 6, 7, 8]⟩,
 ⟨some 155, .indexStr (.const (.str [48, 48, 48, 49, 48, 50, 48, 51, 48, 52, 48, 53, 48, 54, 48, 55, 48, 56, 48, 57, 49, 48, 49, 49, 49, 50, 49, 51, 49, 52, 49, 53, 49, 54, 49, 55, 49, 56, 49, 57, 50, 48, 50, 49, 50, 50, 50, 51, 50, 52, 50, 53, 50, 54, 50, 55, 50, 56, 50, 57, 51, 48, 51, 49, 51, 50, 51, 51, 51, 52, 51, 53, 51, 54, 51, 55, 51, 56, 51, 57, 52, 48, 52, 49, 52, 50, 52, 51, 52, 52, 52, 53, 52, 54, 52, 55, 52, 56, 52, 57, 53, 48, 53, 49, 53, 50, 53, 51, 53, 52, 53, 53, 53, 54, 53, 55, 53, 56, 53, 57, 54, 48, 54, 49, 54, 50, 54, 51, 54, 52, 54, 53, 54, 54, 54, 55, 54, 56, 54, 57, 55, 48, 55, 49, 55, 50, 55, 51, 55, 52, 55, 53, 55, 54, 55, 55, 55, 56, 55, 57, 56, 48, 56, 49, 56, 50, 56, 51, 56, 52, 56, 53, 56, 54, 56, 55, 56, 56, 56, 57, 57, 48, 57, 49, 57, 50, 57, 51, 57, 52, 57, 53, 57, 54, 57, 55, 57, 56, 57, 57])) (.tmp 154), none, [0, 1, 2, 3, 4, 5, 6, 7, 8]⟩,
 ⟨some 156, .indexAddr 1 (.tmp 145) (.tmp 147), none, [3, 4, 5, 9, 10]⟩,
 ⟨none, .store 1 (.tmp 156) (.tmp 153), none, [3, 4, 5, 9, 10]⟩,
 ⟨some 157, .indexAddr 1 (.tmp 148) (.tmp 150), none, []⟩,
 ⟨none, .store 1 (.tmp 157) (.tmp 155), none, []⟩]
def k_istrconv_formatBase10_r24s : List (List AOper) := [
  [
  ⟨some 145, .move (.tmp 0), none, []⟩,
 ⟨some 146, .move (.tmp 4), none, [0]⟩,
 ⟨some 147, .bin .plain .sub (.tmp 146) (.const (.int .i64 1)), none, [0]⟩,
 ⟨some 148, .move (.tmp 0), none, [0, 1, 2]⟩,
 ⟨some 149, .move (.tmp 4), none, [0, 1, 2, 3]⟩,
 ⟨some 150, .bin .plain .sub (.tmp 149) (.const (.int .i64 2)), none, [0, 1, 2, 3]⟩,
 ⟨some 151, .move (.tmp 16), none, [0, 1, 2, 3, 4, 5]⟩,
 ⟨some 152, .bin .plain .add (.tmp 151) (.const (.int .u32 1)), none, [0, 1, 2, 3, 4, 5]⟩,
 ⟨some 153, .indexStr (.const (.str [48, 48, 48, 49, 48, 50, 48, 51, 48, 52, 48, 53, 48, 54, 48, 55, 48, 56, 48, 57, 49, 48, 49, 49, 49, 50, 49, 51, 49, 52, 49, 53, 49, 54, 49, 55, 49, 56, 49, 57, 50, 48, 50, 49, 50, 50, 50, 51, 50, 52, 50, 53, 50, 54, 50, 55, 50, 56, 50, 57, 51, 48, 51, 49, 51, 50, 51, 51, 51, 52, 51, 53, 51, 54, 51, 55, 51, 56, 51, 57, 52, 48, 52, 49, 52, 50, 52, 51, 52, 52, 52, 53, 52, 54, 52, 55, 52, 56, 52, 57, 53, 48, 53, 49, 53, 50, 53, 51, 53, 52, 53, 53, 53, 54, 53, 55, 53, 56, 53, 57, 54, 48, 54, 49, 54, 50, 54, 51, 54, 52, 54, 53, 54, 54, 54, 55, 54, 56, 54, 57, 55, 48, 55, 49, 55, 50, 55, 51, 55, 52, 55, 53, 55, 54, 55, 55, 55, 56, 55, 57, 56, 48, 56, 49, 56, 50, 56, 51, 56, 52, 56, 53, 56, 54, 56, 55, 56, 56, 56, 57, 57, 48, 57, 49, 57, 50, 57, 51, 57, 52, 57, 53, 57, 54, 57, 55, 57, 56, 57, 57])) (.tmp 152), none, [0, 1, 2, 3, 4, 5]⟩,
 ⟨some 154, .move (.tmp 16), none, [0, 1, 2, 3, 4, 5, 6, 7, 8]⟩,
 ⟨some 155, .indexStr (.const (.str [48, 48, 48, 49, 48, 50, 48, 51, 48, 52, 48, 53, 48, 54, 48, 55, 48, 56, 48, 57, 49, 48, 49, 49, 49, 50, 49, 51, 49, 52, 49, 53, 49, 54, 49, 55, 49, 56, 49, 57, 50, 48, 50, 49, 50, 50, 50, 51, 50, 52, 50, 53, 50, 54, 50, 55, 50, 56, 50, 57, 51, 48, 51, 49, 51, 50, 51, 51, 51, 52, 51, 53, 51, 54, 51, 55, 51, 56, 51, 57, 52, 48, 52, 49, 52, 50, 52, 51, 52, 52, 52, 53, 52, 54, 52, 55, 52, 56, 52, 57, 53, 48, 53, 49, 53, 50, 53, 51, 53, 52, 53, 53, 53, 54, 53, 55, 53, 56, 53, 57, 54, 48, 54, 49, 54, 50, 54, 51, 54, 52, 54, 53, 54, 54, 54, 55, 54, 56, 54, 57, 55, 48, 55, 49, 55, 50, 55, 51, 55, 52, 55, 53, 55, 54, 55, 55, 55, 56, 55, 57, 56, 48, 56, 49, 56, 50, 56, 51, 56, 52, 56, 53, 56, 54, 56, 55, 56, 56, 56, 57, 57, 48, 57, 49, 57, 50, 57, 51, 57, 52, 57, 53, 57, 54, 57, 55, 57, 56, 57, 57])) (.tmp 154), none, [0, 1, 2, 3, 4, 5, 6, 7, 8]⟩,
 ⟨some 156, .indexAddr 1 (.tmp 145) (.tmp 147), none, [3, 4, 5, 9, 10]⟩,
 ⟨none, .store 1 (.tmp 156) (.tmp 153), none, [3, 4, 5, 9, 10]⟩], 
  [
  ⟨some 157, .indexAddr 1 (.tmp 148) (.tmp 150), none, []⟩], 
  [
  ⟨none, .store 1 (.tmp 157) (.tmp 155), none, []⟩]]
theorem k_istrconv_formatBase10_r24_sg : segs k_istrconv_formatBase10_r24 = k_istrconv_formatBase10_r24s := by kernel_rfl
theorem k_istrconv_formatBase10_r24_st : statOK k_istrconv_formatBase10_r24 = true := by kernel_rfl
def k_istrconv_formatBase10_r25 : List AOper := [
  ⟨some 158, .move (.tmp 4), none, []⟩,
 ⟨some 159, .bin .plain .sub (.tmp 158) (.const (.int .i64 2)), none, []⟩,
 ⟨some 4, .move (.tmp 159), none, []⟩]
def k_istrconv_formatBase10_r26 : List AOper := [
  ⟨some 160, .move (.tmp 4), none, []⟩,
 ⟨some 161, .bin .plain .gtr (.tmp 160) (.const (.int .i64 0)), none, []⟩]
def k_istrconv_formatBase10_r27 : List AOper := [
  ⟨some 162, .move (.tmp 0), none, []⟩,
 ⟨some 163, .move (.tmp 12), none, []⟩,
 ⟨some 164, .bin .plain .add (.const (.int .u32 48)) (.tmp 163), none, []⟩,
 ⟨some 165, .toInt .u8 (.tmp 164), none, []⟩,
 ⟨some 166, .indexAddr 1 (.tmp 162) (.const (.int .i64 0)), none, []⟩,
 ⟨none, .store 1 (.tmp 166) (.tmp 165), none, []⟩]
def k_istrconv_formatBase10 : AFun := { params := 2, ntmps := 167, body := (.seq (.reg k_istrconv_formatBase10_r0 false) (.seq (.block 0 (.loop k_istrconv_formatBase10_r12)) (.seq (.reg k_istrconv_formatBase10_r13 false) (.seq (.seq (.reg k_istrconv_formatBase10_r14 false) (.cond (.tmp 99) (.seq (.reg k_istrconv_formatBase10_r15 false) (.seq (.reg k_istrconv_formatBase10_r16 false) (.seq (.reg k_istrconv_formatBase10_r17 false) (.seq (.reg k_istrconv_formatBase10_r18 true) (.seq (.reg k_istrconv_formatBase10_r19 true) (.reg k_istrconv_formatBase10_r20 false)))))) .skip)) (.seq (.seq (.reg k_istrconv_formatBase10_r21 false) (.cond (.tmp 139) (.seq (.reg k_istrconv_formatBase10_r22 false) (.seq (.reg k_istrconv_formatBase10_r23 false) (.seq (.reg k_istrconv_formatBase10_r24 true) (.reg k_istrconv_formatBase10_r25 false)))) .skip)) (.seq (.reg k_istrconv_formatBase10_r26 false) (.cond (.tmp 161) (.reg k_istrconv_formatBase10_r27 false) .skip))))))), res := [] }
theorem k_istrconv_formatBase10_ok : cfun Tryd.prog Tryd.f109 = k_istrconv_formatBase10 := by kernel_rfl

def k_istrconv_formatBits_r0 : List AOper := [
  ⟨some 10, .move (.const (.nilsl)), none, []⟩,
 ⟨some 11, .move (.const (.str [])), none, []⟩]
def k_istrconv_formatBits_r1 : List AOper := [
  ⟨some 19, .move (.tmp 2), none, []⟩,
 ⟨some 20, .bin .plain .lss (.tmp 19) (.const (.int .i64 2)), none, []⟩,
 ⟨some 21, .move (.tmp 20), none, []⟩,
 ⟨some 22, .move (.tmp 2), (some (21, false)), []⟩,
 ⟨some 23, .bin .plain .eql (.tmp 22) (.const (.int .i64 10)), (some (21, false)), []⟩,
 ⟨some 24, .pick (.tmp 21) (.const (.bool true)) (.tmp 23), none, []⟩,
 ⟨some 25, .move (.tmp 24), none, []⟩,
 ⟨some 26, .move (.tmp 2), (some (25, false)), []⟩,
 ⟨some 27, .bin .plain .gtr (.tmp 26) (.const (.int .i64 36)), (some (25, false)), []⟩,
 ⟨some 28, .pick (.tmp 25) (.const (.bool true)) (.tmp 27), none, []⟩]
def k_istrconv_formatBits_r2 : List AOper := [
  ⟨some 29, .makeIface 9 (.const (.str [115, 116, 114, 99, 111, 110, 118, 58, 32, 105, 108, 108, 101, 103, 97, 108, 32, 65, 112, 112, 101, 110, 100, 73, 110, 116, 47, 70, 111, 114, 109, 97, 116, 73, 110, 116, 32, 98, 97, 115, 101])), none, []⟩,
 ⟨none, .bad, none, []⟩]
def k_istrconv_formatBits_r3 : List AOper := [
  ⟨some 12, .allocArr [.int .u8 0, .int .u8 0, .int .u8 0, .int .u8 0, .int .u8 0, .int .u8 0, .int .u8 0, .int .u8 0, .int .u8 0, .int .u8 0, .int .u8 0, .int .u8 0, .int .u8 0, .int .u8 0, .int .u8 0, .int .u8 0, .int .u8 0, .int .u8 0, .int .u8 0, .int .u8 0, .int .u8 0, .int .u8 0, .int .u8 0, .int .u8 0, .int .u8 0, .int .u8 0, .int .u8 0, .int .u8 0, .int .u8 0, .int .u8 0, .int .u8 0, .int .u8 0, .int .u8 0, .int .u8 0, .int .u8 0, .int .u8 0, .int .u8 0, .int .u8 0, .int .u8 0, .int .u8 0, .int .u8 0, .int .u8 0, .int .u8 0, .int .u8 0, .int .u8 0, .int .u8 0, .int .u8 0, .int .u8 0, .int .u8 0, .int .u8 0, .int .u8 0, .int .u8 0, .int .u8 0, .int .u8 0, .int .u8 0, .int .u8 0, .int .u8 0, .int .u8 0, .int .u8 0, .int .u8 0, .int .u8 0, .int .u8 0, .int .u8 0, .int .u8 0, .int .u8 0], none, []⟩]
def k_istrconv_formatBits_r4 : List AOper := [
  ⟨some 13, .move (.const (.int .i64 65)), none, []⟩]
def k_istrconv_formatBits_r5 : List AOper := [
  ⟨some 30, .move (.tmp 3), none, []⟩]
def k_istrconv_formatBits_r6 : List AOper := [
  ⟨some 31, .move (.tmp 1), none, []⟩,
 ⟨some 32, .neg (.tmp 31), none, []⟩,
 ⟨some 1, .move (.tmp 32), none, []⟩]
def k_istrconv_formatBits_r7 : List AOper := [
  ⟨some 33, .move (.tmp 2), none, []⟩,
 ⟨some 34, .call (.const (.fn (.func 113) [] [])) [.tmp 33], none, []⟩]
def k_istrconv_formatBits_r8 : List AOper := [
  ⟨some 35, .move (.tmp 2), none, []⟩,
 ⟨some 36, .toInt .u64 (.tmp 35), none, []⟩,
 ⟨some 37, .call (.const (.fn (.func 114) [] [])) [.tmp 36], none, []⟩,
 ⟨some 38, .toInt .u64 (.tmp 37), none, []⟩,
 ⟨some 14, .move (.tmp 38), none, []⟩]
def k_istrconv_formatBits_r9 : List AOper := [
  ⟨some 39, .move (.tmp 2), none, []⟩,
 ⟨some 40, .toInt .u64 (.tmp 39), none, []⟩,
 ⟨some 15, .move (.tmp 40), none, []⟩]
def k_istrconv_formatBits_r10 : List AOper := [
  ⟨some 41, .move (.tmp 2), none, []⟩,
 ⟨some 42, .toInt .u64 (.tmp 41), none, []⟩,
 ⟨some 43, .bin .plain .sub (.tmp 42) (.const (.int .u64 1)), none, []⟩,
 ⟨some 16, .move (.tmp 43), none, []⟩]
def k_istrconv_formatBits_r11 : List AOper := [
  ⟨some 44, .move (.tmp 1), none, []⟩,
 ⟨some 45, .move (.tmp 15), none, []⟩,
 ⟨some 46, .bin .plain .geq (.tmp 44) (.tmp 45), none, []⟩]
def k_istrconv_formatBits_r12 : List AOper := [
  ⟨some 47, .move (.tmp 13), none, []⟩,
 ⟨some 48, .bin .plain .sub (.tmp 47) (.const (.int .i64 1)), none, []⟩,
 ⟨some 13, .move (.tmp 48), none, []⟩]
def k_istrconv_formatBits_r13 : List AOper := [
  ⟨some 49, .move (.tmp 13), none, []⟩,
 ⟨some 50, .move (.tmp 1), none, []⟩,
 ⟨some 51, .move (.tmp 16), none, []⟩,
 ⟨some 52, .bin .plain .and (.tmp 50) (.tmp 51), none, []⟩,
 ⟨some 53, .indexStr (.const (.str [48, 49, 50, 51, 52, 53, 54, 55, 56, 57, 97, 98, 99, 100, 101, 102, 103, 104, 105, 106, 107, 108, 109, 110, 111, 112, 113, 114, 115, 116, 117, 118, 119, 120, 121, 122])) (.tmp 52), none, []⟩,
 ⟨some 54, .indexArrB 65 (.tmp 12) (.tmp 49), none, []⟩,
 ⟨none, .store 1 (.tmp 54) (.tmp 53), none, []⟩]
def k_istrconv_formatBits_r14 : List AOper := [
  ⟨some 55, .move (.tmp 1), none, []⟩,
 ⟨some 56, .move (.tmp 14), none, []⟩,
 ⟨some 57, .bin .plain .shr (.tmp 55) (.tmp 56), none, []⟩,
 ⟨some 1, .move (.tmp 57), none, []⟩]
def k_istrconv_formatBits_r15 : ACode := (.seq (.seq (.reg k_istrconv_formatBits_r11 false) (.cond (.tmp 46) .skip (.exit 0))) (.block 1 (.seq (.reg k_istrconv_formatBits_r12 false) (.seq (.reg k_istrconv_formatBits_r13 false) (.reg k_istrconv_formatBits_r14 false)))))
def k_istrconv_formatBits_r16 : List AOper := [
  ⟨some 58, .move (.tmp 13), none, []⟩,
 ⟨some 59, .bin .plain .sub (.tmp 58) (.const (.int .i64 1)), none, []⟩,
 ⟨some 13, .move (.tmp 59), none, []⟩]
def k_istrconv_formatBits_r17 : List AOper := [
  ⟨some 60, .move (.tmp 13), none, []⟩,
 ⟨some 61, .move (.tmp 1), none, []⟩,
 ⟨some 62, .indexStr (.const (.str [48, 49, 50, 51, 52, 53, 54, 55, 56, 57, 97, 98, 99, 100, 101, 102, 103, 104, 105, 106, 107, 108, 109, 110, 111, 112, 113, 114, 115, 116, 117, 118, 119, 120, 121, 122])) (.tmp 61), none, []⟩,
 ⟨some 63, .indexArrB 65 (.tmp 12) (.tmp 60), none, []⟩,
 ⟨none, .store 1 (.tmp 63) (.tmp 62), none, []⟩]
def k_istrconv_formatBits_r18 : List AOper := [
  ⟨some 64, .move (.tmp 2), none, []⟩,
 ⟨some 65, .toInt .u64 (.tmp 64), none, []⟩,
 ⟨some 17, .move (.tmp 65), none, []⟩]
def k_istrconv_formatBits_r19 : List AOper := [
  ⟨some 66, .move (.tmp 1), none, []⟩,
 ⟨some 67, .move (.tmp 17), none, []⟩,
 ⟨some 68, .bin .plain .geq (.tmp 66) (.tmp 67), none, []⟩]
def k_istrconv_formatBits_r20 : List AOper := [
  ⟨some 69, .move (.tmp 13), none, []⟩,
 ⟨some 70, .bin .plain .sub (.tmp 69) (.const (.int .i64 1)), none, []⟩,
 ⟨some 13, .move (.tmp 70), none, []⟩]
def k_istrconv_formatBits_r21 : List AOper := [
  ⟨some 71, .move (.tmp 1), none, []⟩,
 ⟨some 72, .move (.tmp 17), none, []⟩,
 ⟨some 73, .bin .plain .quo (.tmp 71) (.tmp 72), none, []⟩,
 ⟨some 18, .move (.tmp 73), none, []⟩]
def k_istrconv_formatBits_r22 : List AOper := [
  ⟨some 74, .move (.tmp 13), none, []⟩,
 ⟨some 75, .move (.tmp 1), none, []⟩,
 ⟨some 76, .move (.tmp 18), none, []⟩,
 ⟨some 77, .move (.tmp 17), none, []⟩,
 ⟨some 78, .bin .plain .mul (.tmp 76) (.tmp 77), none, []⟩,
 ⟨some 79, .bin .plain .sub (.tmp 75) (.tmp 78), none, []⟩,
 ⟨some 80, .indexStr (.const (.str [48, 49, 50, 51, 52, 53, 54, 55, 56, 57, 97, 98, 99, 100, 101, 102, 103, 104, 105, 106, 107, 108, 109, 110, 111, 112, 113, 114, 115, 116, 117, 118, 119, 120, 121, 122])) (.tmp 79), none, []⟩,
 ⟨some 81, .indexArrB 65 (.tmp 12) (.tmp 74), none, []⟩,
 ⟨none, .store 1 (.tmp 81) (.tmp 80), none, []⟩]
def k_istrconv_formatBits_r23 : List AOper := [
  ⟨some 82, .move (.tmp 18), none, []⟩,
 ⟨some 1, .move (.tmp 82), none, []⟩]
def k_istrconv_formatBits_r24 : ACode := (.seq (.seq (.reg k_istrconv_formatBits_r19 false) (.cond (.tmp 68) .skip (.exit 2))) (.block 3 (.seq (.reg k_istrconv_formatBits_r20 false) (.seq (.reg k_istrconv_formatBits_r21 false) (.seq (.reg k_istrconv_formatBits_r22 false) (.reg k_istrconv_formatBits_r23 false))))))
def k_istrconv_formatBits_r25 : List AOper := [
  ⟨some 83, .move (.tmp 13), none, []⟩,
 ⟨some 84, .bin .plain .sub (.tmp 83) (.const (.int .i64 1)), none, []⟩,
 ⟨some 13, .move (.tmp 84), none, []⟩]
def k_istrconv_formatBits_r26 : List AOper := [
  ⟨some 85, .move (.tmp 13), none, []⟩,
 ⟨some 86, .move (.tmp 1), none, []⟩,
 ⟨some 87, .indexStr (.const (.str [48, 49, 50, 51, 52, 53, 54, 55, 56, 57, 97, 98, 99, 100, 101, 102, 103, 104, 105, 106, 107, 108, 109, 110, 111, 112, 113, 114, 115, 116, 117, 118, 119, 120, 121, 122])) (.tmp 86), none, []⟩,
 ⟨some 88, .indexArrB 65 (.tmp 12) (.tmp 85), none, []⟩,
 ⟨none, .store 1 (.tmp 88) (.tmp 87), none, []⟩]
def k_istrconv_formatBits_r27 : List AOper := [
  ⟨some 89, .move (.tmp 3), none, []⟩]
def k_istrconv_formatBits_r28 : List AOper := [
  ⟨some 90, .move (.tmp 13), none, []⟩,
 ⟨some 91, .bin .plain .sub (.tmp 90) (.const (.int .i64 1)), none, []⟩,
 ⟨some 13, .move (.tmp 91), none, []⟩]
def k_istrconv_formatBits_r29 : List AOper := [
  ⟨some 92, .move (.tmp 13), none, []⟩,
 ⟨some 93, .indexArrB 65 (.tmp 12) (.tmp 92), none, []⟩,
 ⟨none, .store 1 (.tmp 93) (.const (.int .u8 45)), none, []⟩]
def k_istrconv_formatBits_r30 : List AOper := [
  ⟨some 94, .move (.tmp 4), none, []⟩]
def k_istrconv_formatBits_r31 : List AOper := [
  ⟨some 95, .move (.tmp 0), none, []⟩,
 ⟨some 96, .move (.tmp 13), none, []⟩,
 ⟨some 97, .sliceArrB 65 (.tmp 12) (some (.tmp 96)) none, none, []⟩,
 ⟨some 98, .append 1 1 false (.tmp 95) (.tmp 97), none, []⟩,
 ⟨some 10, .move (.tmp 98), none, []⟩]
def k_istrconv_formatBits_r32 : List AOper := [
  ⟨some 99, .move (.tmp 13), none, []⟩,
 ⟨some 100, .sliceArrB 65 (.tmp 12) (some (.tmp 99)) none, none, []⟩,
 ⟨some 101, .bytesToStr (.tmp 100), none, []⟩,
 ⟨some 11, .move (.tmp 101), none, []⟩]
def k_istrconv_formatBits : AFun := { params := 5, ntmps := 102, body := (.seq (.reg k_istrconv_formatBits_r0 false) (.seq (.seq (.reg k_istrconv_formatBits_r1 false) (.cond (.tmp 28) (.reg k_istrconv_formatBits_r2 false) .skip)) (.seq (.reg k_istrconv_formatBits_r3 false) (.seq (.reg k_istrconv_formatBits_r4 false) (.seq (.seq (.reg k_istrconv_formatBits_r5 false) (.cond (.tmp 30) (.reg k_istrconv_formatBits_r6 false) .skip)) (.seq (.seq (.reg k_istrconv_formatBits_r7 false) (.cond (.tmp 34) (.seq (.reg k_istrconv_formatBits_r8 false) (.seq (.reg k_istrconv_formatBits_r9 false) (.seq (.reg k_istrconv_formatBits_r10 false) (.seq (.block 0 (.loop k_istrconv_formatBits_r15)) (.seq (.reg k_istrconv_formatBits_r16 false) (.reg k_istrconv_formatBits_r17 false)))))) (.seq (.reg k_istrconv_formatBits_r18 false) (.seq (.block 2 (.loop k_istrconv_formatBits_r24)) (.seq (.reg k_istrconv_formatBits_r25 false) (.reg k_istrconv_formatBits_r26 false)))))) (.seq (.seq (.reg k_istrconv_formatBits_r27 false) (.cond (.tmp 89) (.seq (.reg k_istrconv_formatBits_r28 false) (.reg k_istrconv_formatBits_r29 false)) .skip)) (.seq (.seq (.reg k_istrconv_formatBits_r30 false) (.cond (.tmp 94) (.seq (.reg k_istrconv_formatBits_r31 false) .ret) .skip)) (.seq (.reg k_istrconv_formatBits_r32 false) .ret))))))))), res := [.tmp 10, .tmp 11] }
theorem k_istrconv_formatBits_ok : cfun Tryd.prog Tryd.f110 = k_istrconv_formatBits := by kernel_rfl

def k_istrconv_log10Pow2_r0 : List AOper := [
  ⟨some 2, .move (.const (.int .i64 0)), none, []⟩]
def k_istrconv_log10Pow2_r1 : List AOper := [
  ⟨some 3, .move (.tmp 0), none, []⟩,
 ⟨some 4, .bin .plain .mul (.tmp 3) (.const (.int .i64 78913)), none, []⟩,
 ⟨some 5, .bin .plain .shr (.tmp 4) (.const (.int .u64 18)), none, []⟩,
 ⟨some 2, .move (.tmp 5), none, []⟩]
def k_istrconv_log10Pow2 : AFun := { params := 1, ntmps := 6, body := (.seq (.reg k_istrconv_log10Pow2_r0 false) (.seq (.reg k_istrconv_log10Pow2_r1 false) .ret)), res := [.tmp 2] }
theorem k_istrconv_log10Pow2_ok : cfun Tryd.prog Tryd.f111 = k_istrconv_log10Pow2 := by kernel_rfl

def k_istrconv_bool2_int_r0 : List AOper := [
  ⟨some 2, .move (.const (.int .i64 0)), none, []⟩]
def k_istrconv_bool2_int_r1 : List AOper := [
  ⟨some 3, .move (.tmp 0), none, []⟩]
def k_istrconv_bool2_int_r2 : List AOper := [
  ⟨some 2, .move (.const (.int .i64 1)), none, []⟩]
def k_istrconv_bool2_int_r3 : List AOper := [
  ⟨some 2, .move (.const (.int .i64 0)), none, []⟩]
def k_istrconv_bool2_int : AFun := { params := 1, ntmps := 4, body := (.seq (.reg k_istrconv_bool2_int_r0 false) (.seq (.seq (.reg k_istrconv_bool2_int_r1 false) (.cond (.tmp 3) (.seq (.reg k_istrconv_bool2_int_r2 false) .ret) .skip)) (.seq (.reg k_istrconv_bool2_int_r3 false) .ret))), res := [.tmp 2] }
theorem k_istrconv_bool2_int_ok : cfun Tryd.prog Tryd.f112 = k_istrconv_bool2_int := by kernel_rfl

def k_istrconv_isPowerOfTwo_r0 : List AOper := [
  ⟨some 2, .move (.const (.bool false)), none, []⟩]
def k_istrconv_isPowerOfTwo_r1 : List AOper := [
  ⟨some 3, .move (.tmp 0), none, []⟩,
 ⟨some 4, .move (.tmp 0), none, []⟩,
 ⟨some 5, .bin .plain .sub (.tmp 4) (.const (.int .i64 1)), none, []⟩,
 ⟨some 6, .bin .plain .and (.tmp 3) (.tmp 5), none, []⟩,
 ⟨some 7, .bin .plain .eql (.tmp 6) (.const (.int .i64 0)), none, []⟩,
 ⟨some 2, .move (.tmp 7), none, []⟩]
def k_istrconv_isPowerOfTwo : AFun := { params := 1, ntmps := 8, body := (.seq (.reg k_istrconv_isPowerOfTwo_r0 false) (.seq (.reg k_istrconv_isPowerOfTwo_r1 false) .ret)), res := [.tmp 2] }
theorem k_istrconv_isPowerOfTwo_ok : cfun Tryd.prog Tryd.f113 = k_istrconv_isPowerOfTwo := by kernel_rfl

def k_bits_TrailingZeros_r0 : List AOper := [
  ⟨some 2, .move (.const (.int .i64 0)), none, []⟩]
def k_bits_TrailingZeros_r1 : List AOper := [
  ⟨some 3, .move (.tmp 0), none, []⟩,
 ⟨some 4, .toInt .u32 (.tmp 3), none, []⟩,
 ⟨some 5, .call (.const (.fn (.func 115) [] [])) [.tmp 4], none, []⟩,
 ⟨some 2, .move (.tmp 5), none, []⟩]
def k_bits_TrailingZeros_r2 : List AOper := [
  ⟨some 6, .move (.tmp 0), none, []⟩,
 ⟨some 7, .call (.const (.fn (.func 116) [] [])) [.tmp 6], none, []⟩,
 ⟨some 2, .move (.tmp 7), none, []⟩]
def k_bits_TrailingZeros : AFun := { params := 1, ntmps := 8, body := (.seq (.reg k_bits_TrailingZeros_r0 false) (.seq (.cond (.const (.bool false)) (.seq (.reg k_bits_TrailingZeros_r1 false) .ret) .skip) (.seq (.reg k_bits_TrailingZeros_r2 false) .ret))), res := [.tmp 2] }
theorem k_bits_TrailingZeros_ok : cfun Tryd.prog Tryd.f114 = k_bits_TrailingZeros := by kernel_rfl

def k_bits_TrailingZeros32_r0 : List AOper := [
  ⟨some 2, .move (.const (.int .i64 0)), none, []⟩]
def k_bits_TrailingZeros32_r1 : List AOper := [
  ⟨some 3, .move (.tmp 0), none, []⟩,
 ⟨some 4, .bin .plain .eql (.tmp 3) (.const (.int .u32 0)), none, []⟩]
def k_bits_TrailingZeros32_r2 : List AOper := [
  ⟨some 2, .move (.const (.int .i64 32)), none, []⟩]
def k_bits_TrailingZeros32_r3 : List AOper := [
  ⟨some 5, .move (.tmp 0), none, []⟩,
 ⟨some 6, .move (.tmp 0), none, []⟩,
 ⟨some 7, .neg (.tmp 6), none, []⟩,
 ⟨some 8, .bin .plain .and (.tmp 5) (.tmp 7), none, []⟩,
 ⟨some 9, .bin .plain .mul (.tmp 8) (.const (.int .u32 125613361)), none, []⟩,
 ⟨some 10, .bin .plain .shr (.tmp 9) (.const (.int .u64 27)), none, []⟩,
 ⟨some 11, .indexArrB 32 (.const (.any)) (.tmp 10), none, []⟩,
 ⟨some 12, .load none (.tmp 11), none, []⟩,
 ⟨some 13, .toInt .i64 (.tmp 12), none, []⟩,
 ⟨some 2, .move (.tmp 13), none, []⟩]
def k_bits_TrailingZeros32 : AFun := { params := 1, ntmps := 14, body := (.seq (.reg k_bits_TrailingZeros32_r0 false) (.seq (.seq (.reg k_bits_TrailingZeros32_r1 false) (.cond (.tmp 4) (.seq (.reg k_bits_TrailingZeros32_r2 false) .ret) .skip)) (.seq (.reg k_bits_TrailingZeros32_r3 false) .ret))), res := [.tmp 2] }
theorem k_bits_TrailingZeros32_ok : cfun Tryd.prog Tryd.f115 = k_bits_TrailingZeros32 := by kernel_rfl

def k_bits_TrailingZeros64_r0 : List AOper := [
  ⟨some 2, .move (.const (.int .i64 0)), none, []⟩]
def k_bits_TrailingZeros64_r1 : List AOper := [
  ⟨some 3, .move (.tmp 0), none, []⟩,
 ⟨some 4, .bin .plain .eql (.tmp 3) (.const (.int .u64 0)), none, []⟩]
def k_bits_TrailingZeros64_r2 : List AOper := [
  ⟨some 2, .move (.const (.int .i64 64)), none, []⟩]
def k_bits_TrailingZeros64_r3 : List AOper := [
  ⟨some 5, .move (.tmp 0), none, []⟩,
 ⟨some 6, .move (.tmp 0), none, []⟩,
 ⟨some 7, .neg (.tmp 6), none, []⟩,
 ⟨some 8, .bin .plain .and (.tmp 5) (.tmp 7), none, []⟩,
 ⟨some 9, .bin .plain .mul (.tmp 8) (.const (.int .u64 285870213051353865)), none, []⟩,
 ⟨some 10, .bin .plain .shr (.tmp 9) (.const (.int .u64 58)), none, []⟩,
 ⟨some 11, .indexArrB 64 (.const (.any)) (.tmp 10), none, []⟩,
 ⟨some 12, .load none (.tmp 11), none, []⟩,
 ⟨some 13, .toInt .i64 (.tmp 12), none, []⟩,
 ⟨some 2, .move (.tmp 13), none, []⟩]
def k_bits_TrailingZeros64 : AFun := { params := 1, ntmps := 14, body := (.seq (.reg k_bits_TrailingZeros64_r0 false) (.seq (.seq (.reg k_bits_TrailingZeros64_r1 false) (.cond (.tmp 4) (.seq (.reg k_bits_TrailingZeros64_r2 false) .ret) .skip)) (.seq (.reg k_bits_TrailingZeros64_r3 false) .ret))), res := [.tmp 2] }
theorem k_bits_TrailingZeros64_ok : cfun Tryd.prog Tryd.f116 = k_bits_TrailingZeros64 := by kernel_rfl

def k_curve_byGrid_at_r0 : List AOper := [
  ⟨some 6, .move (.const (.int .i64 0)), none, []⟩]
def k_curve_byGrid_at_r1 : List AOper := [
  ⟨some 7, .move (.tmp 0), none, []⟩,
 ⟨some 8, .move (.tmp 1), none, []⟩,
 ⟨some 9, .indexAddr 1 (.tmp 7) (.tmp 8), none, []⟩,
 ⟨some 10, .load none (.tmp 9), none, []⟩,
 ⟨some 11, .move (.tmp 2), none, []⟩,
 ⟨some 12, .indexAddr 1 (.tmp 10) (.tmp 11), none, []⟩,
 ⟨some 13, .load none (.tmp 12), none, []⟩,
 ⟨some 6, .move (.tmp 13), none, []⟩]
def k_curve_byGrid_at : AFun := { params := 3, ntmps := 14, body := (.seq (.reg k_curve_byGrid_at_r0 false) (.seq (.reg k_curve_byGrid_at_r1 false) .ret)), res := [.tmp 6] }
theorem k_curve_byGrid_at_ok : cfun Tryd.prog Tryd.f133 = k_curve_byGrid_at := by kernel_rfl

def k_curve_byPlate_at_r0 : List AOper := [
  ⟨some 6, .move (.const (.int .i64 0)), none, []⟩]
def k_curve_byPlate_at_r1 : List AOper := [
  ⟨some 7, .move (.tmp 0), none, []⟩,
 ⟨some 8, .move (.tmp 2), none, []⟩,
 ⟨some 9, .indexAddr 1 (.tmp 7) (.tmp 8), none, []⟩,
 ⟨some 10, .load none (.tmp 9), none, []⟩,
 ⟨some 11, .move (.tmp 1), none, []⟩,
 ⟨some 12, .indexAddr 1 (.tmp 10) (.tmp 11), none, []⟩,
 ⟨some 13, .load none (.tmp 12), none, []⟩,
 ⟨some 6, .move (.tmp 13), none, []⟩]
def k_curve_byPlate_at : AFun := { params := 3, ntmps := 14, body := (.seq (.reg k_curve_byPlate_at_r0 false) (.seq (.reg k_curve_byPlate_at_r1 false) .ret)), res := [.tmp 6] }
theorem k_curve_byPlate_at_ok : cfun Tryd.prog Tryd.f134 = k_curve_byPlate_at := by kernel_rfl


abbrev n_law02_CurveKnown : Nat := 4
theorem e_law02_CurveKnown : EntryOK Tryd.prog n_law02_CurveKnown k_law02_CurveKnown := ⟨Tryd.f4, Tryd.func4, k_law02_CurveKnown_ok, by kernel_rfl⟩
abbrev n_curve_Narrow : Nat := 11
theorem e_curve_Narrow : EntryOK Tryd.prog n_curve_Narrow k_curve_Narrow := ⟨Tryd.f11, Tryd.func11, k_curve_Narrow_ok, by kernel_rfl⟩
abbrev n_law02_laws : Nat := 13
theorem e_law02_laws : EntryOK Tryd.prog n_law02_laws k_law02_laws := ⟨Tryd.f13, Tryd.func13, k_law02_laws_ok, by kernel_rfl⟩
abbrev n_curve_Slope : Nat := 16
theorem e_curve_Slope : EntryOK Tryd.prog n_curve_Slope k_curve_Slope := ⟨Tryd.f16, Tryd.func16, k_curve_Slope_ok, by kernel_rfl⟩
abbrev n_curve_Yield : Nat := 17
theorem e_curve_Yield : EntryOK Tryd.prog n_curve_Yield k_curve_Yield := ⟨Tryd.f17, Tryd.func17, k_curve_Yield_ok, by kernel_rfl⟩
abbrev n_curve_Gain : Nat := 18
theorem e_curve_Gain : EntryOK Tryd.prog n_curve_Gain k_curve_Gain := ⟨Tryd.f18, Tryd.func18, k_curve_Gain_ok, by kernel_rfl⟩
abbrev n_law02_is : Nat := 19
theorem e_law02_is : EntryOK Tryd.prog n_law02_is k_law02_is := ⟨Tryd.f19, Tryd.func19, k_law02_is_ok, by kernel_rfl⟩
abbrev n_curve_Text : Nat := 20
theorem e_curve_Text : EntryOK Tryd.prog n_curve_Text k_curve_Text := ⟨Tryd.f20, Tryd.func20, k_curve_Text_ok, by kernel_rfl⟩
abbrev n_curve_Inside : Nat := 21
theorem e_curve_Inside : EntryOK Tryd.prog n_curve_Inside k_curve_Inside := ⟨Tryd.f21, Tryd.func21, k_curve_Inside_ok, by kernel_rfl⟩
abbrev n_curve_checkReads : Nat := 36
theorem e_curve_checkReads : EntryOK Tryd.prog n_curve_checkReads k_curve_checkReads := ⟨Tryd.f36, Tryd.func36, k_curve_checkReads_ok, by kernel_rfl⟩
abbrev n_curve_narrow : Nat := 37
theorem e_curve_narrow : EntryOK Tryd.prog n_curve_narrow k_curve_narrow := ⟨Tryd.f37, Tryd.func37, k_curve_narrow_ok, by kernel_rfl⟩
abbrev n_curve_Drive : Nat := 43
theorem e_curve_Drive : EntryOK Tryd.prog n_curve_Drive k_curve_Drive := ⟨Tryd.f43, Tryd.func43, k_curve_Drive_ok, by kernel_rfl⟩
abbrev n_law02_wide : Nat := 44
theorem e_law02_wide : EntryOK Tryd.prog n_law02_wide k_law02_wide := ⟨Tryd.f44, Tryd.func44, k_law02_wide_ok, by kernel_rfl⟩
abbrev n_curve_Of : Nat := 45
theorem e_curve_Of : EntryOK Tryd.prog n_curve_Of k_curve_Of := ⟨Tryd.f45, Tryd.func45, k_curve_Of_ok, by kernel_rfl⟩
abbrev n_kit_SameLists : Nat := 46
theorem e_kit_SameLists : EntryOK Tryd.prog n_kit_SameLists k_kit_SameLists := ⟨Tryd.f46, Tryd.func46, k_kit_SameLists_ok, by kernel_rfl⟩
abbrev n_curve_isCell : Nat := 52
theorem e_curve_isCell : EntryOK Tryd.prog n_curve_isCell k_curve_isCell := ⟨Tryd.f52, Tryd.func52, k_curve_isCell_ok, by kernel_rfl⟩
abbrev n_curve_slope : Nat := 53
theorem e_curve_slope : EntryOK Tryd.prog n_curve_slope k_curve_slope := ⟨Tryd.f53, Tryd.func53, k_curve_slope_ok, by kernel_rfl⟩
abbrev n_curve_yield : Nat := 54
theorem e_curve_yield : EntryOK Tryd.prog n_curve_yield k_curve_yield := ⟨Tryd.f54, Tryd.func54, k_curve_yield_ok, by kernel_rfl⟩
abbrev n_curve_hull : Nat := 55
theorem e_curve_hull : EntryOK Tryd.prog n_curve_hull k_curve_hull := ⟨Tryd.f55, Tryd.func55, k_curve_hull_ok, by kernel_rfl⟩
abbrev n_curve_appendRow : Nat := 56
theorem e_curve_appendRow : EntryOK Tryd.prog n_curve_appendRow k_curve_appendRow := ⟨Tryd.f56, Tryd.func56, k_curve_appendRow_ok, by kernel_rfl⟩
abbrev n_slices_Concat_int_int : Nat := 57
theorem e_slices_Concat_int_int : EntryOK Tryd.prog n_slices_Concat_int_int k_slices_Concat_int_int := ⟨Tryd.f57, Tryd.func57, k_slices_Concat_int_int_ok, by kernel_rfl⟩
abbrev n_curve_insideAt : Nat := 58
theorem e_curve_insideAt : EntryOK Tryd.prog n_curve_insideAt k_curve_insideAt := ⟨Tryd.f58, Tryd.func58, k_curve_insideAt_ok, by kernel_rfl⟩
abbrev n_curve_narrow_1 : Nat := 66
theorem e_curve_narrow_1 : EntryOK Tryd.prog n_curve_narrow_1 k_curve_narrow_1 := ⟨Tryd.f66, Tryd.func66, k_curve_narrow_1_ok, by kernel_rfl⟩
abbrev n_curve_narrow_2 : Nat := 67
theorem e_curve_narrow_2 : EntryOK Tryd.prog n_curve_narrow_2 k_curve_narrow_2 := ⟨Tryd.f67, Tryd.func67, k_curve_narrow_2_ok, by kernel_rfl⟩
abbrev n_curve_narrow_3 : Nat := 68
theorem e_curve_narrow_3 : EntryOK Tryd.prog n_curve_narrow_3 k_curve_narrow_3 := ⟨Tryd.f68, Tryd.func68, k_curve_narrow_3_ok, by kernel_rfl⟩
abbrev n_curve_kept : Nat := 69
theorem e_curve_kept : EntryOK Tryd.prog n_curve_kept k_curve_kept := ⟨Tryd.f69, Tryd.func69, k_curve_kept_ok, by kernel_rfl⟩
abbrev n_curve_linesOf : Nat := 78
theorem e_curve_linesOf : EntryOK Tryd.prog n_curve_linesOf k_curve_linesOf := ⟨Tryd.f78, Tryd.func78, k_curve_linesOf_ok, by kernel_rfl⟩
abbrev n_kit_Same : Nat := 79
theorem e_kit_Same : EntryOK Tryd.prog n_kit_Same k_kit_Same := ⟨Tryd.f79, Tryd.func79, k_kit_Same_ok, by kernel_rfl⟩
abbrev n_curve_steepness_curve_byGrid : Nat := 83
theorem e_curve_steepness_curve_byGrid : EntryOK Tryd.prog n_curve_steepness_curve_byGrid k_curve_steepness_curve_byGrid := ⟨Tryd.f83, Tryd.func83, k_curve_steepness_curve_byGrid_ok, by kernel_rfl⟩
abbrev n_curve_steepness_curve_byPlate : Nat := 84
theorem e_curve_steepness_curve_byPlate : EntryOK Tryd.prog n_curve_steepness_curve_byPlate k_curve_steepness_curve_byPlate := ⟨Tryd.f84, Tryd.func84, k_curve_steepness_curve_byPlate_ok, by kernel_rfl⟩
abbrev n_strconv_AppendInt : Nat := 85
theorem e_strconv_AppendInt : EntryOK Tryd.prog n_strconv_AppendInt k_strconv_AppendInt := ⟨Tryd.f85, Tryd.func85, k_strconv_AppendInt_ok, by kernel_rfl⟩
abbrev n_slices_Grow_int_int : Nat := 86
theorem e_slices_Grow_int_int : EntryOK Tryd.prog n_slices_Grow_int_int k_slices_Grow_int_int := ⟨Tryd.f86, Tryd.func86, k_slices_Grow_int_int_ok, by kernel_rfl⟩
abbrev n_curve_fraction_less : Nat := 87
theorem e_curve_fraction_less : EntryOK Tryd.prog n_curve_fraction_less k_curve_fraction_less := ⟨Tryd.f87, Tryd.func87, k_curve_fraction_less_ok, by kernel_rfl⟩
abbrev n_curve_kept_1 : Nat := 95
theorem e_curve_kept_1 : EntryOK Tryd.prog n_curve_kept_1 k_curve_kept_1 := ⟨Tryd.f95, Tryd.func95, k_curve_kept_1_ok, by kernel_rfl⟩
abbrev n_curve_kept_2 : Nat := 96
theorem e_curve_kept_2 : EntryOK Tryd.prog n_curve_kept_2 k_curve_kept_2 := ⟨Tryd.f96, Tryd.func96, k_curve_kept_2_ok, by kernel_rfl⟩
abbrev n_curve_copied : Nat := 98
theorem e_curve_copied : EntryOK Tryd.prog n_curve_copied k_curve_copied := ⟨Tryd.f98, Tryd.func98, k_curve_copied_ok, by kernel_rfl⟩
abbrev n_istrconv_AppendInt : Nat := 100
theorem e_istrconv_AppendInt : EntryOK Tryd.prog n_istrconv_AppendInt k_istrconv_AppendInt := ⟨Tryd.f100, Tryd.func100, k_istrconv_AppendInt_ok, by kernel_rfl⟩
abbrev n_bits_Mul64 : Nat := 101
theorem e_bits_Mul64 : EntryOK Tryd.prog n_bits_Mul64 k_bits_Mul64 := ⟨Tryd.f101, Tryd.func101, k_bits_Mul64_ok, by kernel_rfl⟩
abbrev n_istrconv_AppendUint : Nat := 104
theorem e_istrconv_AppendUint : EntryOK Tryd.prog n_istrconv_AppendUint k_istrconv_AppendUint := ⟨Tryd.f104, Tryd.func104, k_istrconv_AppendUint_ok, by kernel_rfl⟩
abbrev n_istrconv_small : Nat := 107
theorem e_istrconv_small : EntryOK Tryd.prog n_istrconv_small k_istrconv_small := ⟨Tryd.f107, Tryd.func107, k_istrconv_small_ok, by kernel_rfl⟩
abbrev n_istrconv_numDigits : Nat := 108
theorem e_istrconv_numDigits : EntryOK Tryd.prog n_istrconv_numDigits k_istrconv_numDigits := ⟨Tryd.f108, Tryd.func108, k_istrconv_numDigits_ok, by kernel_rfl⟩
abbrev n_istrconv_formatBase10 : Nat := 109
theorem e_istrconv_formatBase10 : EntryOK Tryd.prog n_istrconv_formatBase10 k_istrconv_formatBase10 := ⟨Tryd.f109, Tryd.func109, k_istrconv_formatBase10_ok, by kernel_rfl⟩
abbrev n_istrconv_formatBits : Nat := 110
theorem e_istrconv_formatBits : EntryOK Tryd.prog n_istrconv_formatBits k_istrconv_formatBits := ⟨Tryd.f110, Tryd.func110, k_istrconv_formatBits_ok, by kernel_rfl⟩
abbrev n_istrconv_log10Pow2 : Nat := 111
theorem e_istrconv_log10Pow2 : EntryOK Tryd.prog n_istrconv_log10Pow2 k_istrconv_log10Pow2 := ⟨Tryd.f111, Tryd.func111, k_istrconv_log10Pow2_ok, by kernel_rfl⟩
abbrev n_istrconv_bool2_int : Nat := 112
theorem e_istrconv_bool2_int : EntryOK Tryd.prog n_istrconv_bool2_int k_istrconv_bool2_int := ⟨Tryd.f112, Tryd.func112, k_istrconv_bool2_int_ok, by kernel_rfl⟩
abbrev n_istrconv_isPowerOfTwo : Nat := 113
theorem e_istrconv_isPowerOfTwo : EntryOK Tryd.prog n_istrconv_isPowerOfTwo k_istrconv_isPowerOfTwo := ⟨Tryd.f113, Tryd.func113, k_istrconv_isPowerOfTwo_ok, by kernel_rfl⟩
abbrev n_bits_TrailingZeros : Nat := 114
theorem e_bits_TrailingZeros : EntryOK Tryd.prog n_bits_TrailingZeros k_bits_TrailingZeros := ⟨Tryd.f114, Tryd.func114, k_bits_TrailingZeros_ok, by kernel_rfl⟩
abbrev n_bits_TrailingZeros32 : Nat := 115
theorem e_bits_TrailingZeros32 : EntryOK Tryd.prog n_bits_TrailingZeros32 k_bits_TrailingZeros32 := ⟨Tryd.f115, Tryd.func115, k_bits_TrailingZeros32_ok, by kernel_rfl⟩
abbrev n_bits_TrailingZeros64 : Nat := 116
theorem e_bits_TrailingZeros64 : EntryOK Tryd.prog n_bits_TrailingZeros64 k_bits_TrailingZeros64 := ⟨Tryd.f116, Tryd.func116, k_bits_TrailingZeros64_ok, by kernel_rfl⟩
abbrev n_curve_byGrid_at : Nat := 133
theorem e_curve_byGrid_at : EntryOK Tryd.prog n_curve_byGrid_at k_curve_byGrid_at := ⟨Tryd.f133, Tryd.func133, k_curve_byGrid_at_ok, by kernel_rfl⟩
abbrev n_curve_byPlate_at : Nat := 134
theorem e_curve_byPlate_at : EntryOK Tryd.prog n_curve_byPlate_at k_curve_byPlate_at := ⟨Tryd.f134, Tryd.func134, k_curve_byPlate_at_ok, by kernel_rfl⟩

attribute [go_sem] k_law02_CurveKnown_r0 k_law02_CurveKnown_r1 k_law02_CurveKnown_r2 k_law02_CurveKnown_r3 k_law02_CurveKnown_r4 k_law02_CurveKnown_r5 k_law02_CurveKnown_r6 k_law02_CurveKnown_r7 k_law02_CurveKnown_r8 k_law02_CurveKnown_r9 k_law02_CurveKnown_r10 k_law02_CurveKnown_r11
attribute [go_sem] k_law02_CurveKnown_r12 k_law02_CurveKnown_r13 k_law02_CurveKnown_r14 k_law02_CurveKnown_r15 k_law02_CurveKnown_r16 k_curve_Narrow_r0 k_curve_Narrow_r1 k_curve_Narrow_r2 k_curve_Narrow_r3 k_curve_Narrow_r4 k_curve_Narrow_r5 k_curve_Narrow_r6
attribute [go_sem] k_curve_Narrow_r7 k_curve_Narrow_r8 k_curve_Narrow_r9 k_curve_Narrow_r10 k_curve_Narrow_r11 k_curve_Narrow_r12 k_curve_Narrow_r14 k_law02_laws_r0 k_law02_laws_r1 k_law02_laws_r2 k_law02_laws_r3 k_law02_laws_r4
attribute [go_sem] k_law02_laws_r5 k_law02_laws_r6 k_law02_laws_r7 k_law02_laws_r8 k_law02_laws_r9 k_law02_laws_r10 k_law02_laws_r11 k_law02_laws_r12 k_law02_laws_r13 k_law02_laws_r14 k_law02_laws_r15 k_law02_laws_r16
attribute [go_sem] k_law02_laws_r17 k_law02_laws_r18 k_curve_Slope_r0 k_curve_Slope_r1 k_curve_Slope_r2 k_curve_Slope_r3 k_curve_Slope_r4 k_curve_Slope_r5 k_curve_Slope_r6 k_curve_Slope_r7 k_curve_Slope_r8 k_curve_Yield_r0
attribute [go_sem] k_curve_Yield_r1 k_curve_Yield_r2 k_curve_Yield_r3 k_curve_Yield_r4 k_curve_Yield_r5 k_curve_Yield_r6 k_curve_Yield_r7 k_curve_Yield_r8 k_curve_Gain_r0 k_curve_Gain_r1 k_curve_Gain_r2 k_curve_Gain_r3
attribute [go_sem] k_curve_Gain_r4 k_curve_Gain_r5 k_curve_Gain_r6s k_curve_Gain_r7s k_curve_Gain_r8 k_curve_Gain_r9 k_curve_Gain_r10s k_law02_is_r0 k_law02_is_r1 k_curve_Text_r0 k_curve_Text_r1 k_curve_Text_r2
attribute [go_sem] k_curve_Text_r3 k_curve_Text_r4 k_curve_Text_r5 k_curve_Text_r6 k_curve_Text_r7 k_curve_Text_r8 k_curve_Text_r9 k_curve_Text_r10 k_curve_Text_r11 k_curve_Text_r12 k_curve_Text_r14 k_curve_Inside_r0
attribute [go_sem] k_curve_Inside_r1 k_curve_Inside_r2 k_curve_Inside_r3 k_curve_Inside_r4 k_curve_Inside_r5 k_curve_Inside_r6 k_curve_Inside_r7 k_curve_Inside_r8 k_curve_Inside_r9 k_curve_Inside_r10 k_curve_Inside_r11 k_curve_Inside_r13
attribute [go_sem] k_curve_Inside_r15 k_curve_checkReads_r0 k_curve_checkReads_r1 k_curve_checkReads_r2 k_curve_checkReads_r3 k_curve_checkReads_r4 k_curve_checkReads_r5 k_curve_checkReads_r6 k_curve_checkReads_r7 k_curve_checkReads_r8 k_curve_checkReads_r9 k_curve_checkReads_r10
attribute [go_sem] k_curve_checkReads_r12 k_curve_narrow_r0 k_curve_narrow_r1s k_curve_narrow_r2 k_curve_narrow_r3 k_curve_narrow_r4 k_curve_narrow_r5 k_curve_narrow_r6 k_curve_narrow_r7 k_curve_narrow_r8s k_curve_narrow_r9 k_curve_narrow_r10s
attribute [go_sem] k_curve_narrow_r11s k_curve_narrow_r12 k_curve_narrow_r13 k_curve_narrow_r15 k_curve_Drive_r0 k_curve_Drive_r1 k_curve_Drive_r2 k_curve_Drive_r3 k_curve_Drive_r4 k_law02_wide_r0 k_law02_wide_r1 k_law02_wide_r2
attribute [go_sem] k_law02_wide_r3 k_curve_Of_r0 k_curve_Of_r1 k_curve_Of_r2 k_curve_Of_r3 k_curve_Of_r4 k_curve_Of_r5 k_curve_Of_r6 k_curve_Of_r7 k_curve_Of_r8 k_curve_Of_r9 k_curve_Of_r10
attribute [go_sem] k_curve_Of_r11 k_curve_Of_r12 k_curve_Of_r13 k_curve_Of_r14 k_curve_Of_r15s k_curve_Of_r16 k_curve_Of_r18 k_curve_Of_r20 k_kit_SameLists_r0 k_kit_SameLists_r1 k_kit_SameLists_r2 k_kit_SameLists_r3
attribute [go_sem] k_kit_SameLists_r4 k_kit_SameLists_r5s k_kit_SameLists_r6 k_kit_SameLists_r7 k_kit_SameLists_r9 k_curve_isCell_r0 k_curve_isCell_r1 k_curve_slope_r0 k_curve_slope_r1 k_curve_yield_r0 k_curve_yield_r1 k_curve_hull_r0
attribute [go_sem] k_curve_hull_r1 k_curve_appendRow_r0 k_curve_appendRow_r1 k_curve_appendRow_r2 k_curve_appendRow_r3 k_curve_appendRow_r4 k_curve_appendRow_r5 k_curve_appendRow_r6 k_curve_appendRow_r7 k_curve_appendRow_r9 k_slices_Concat_int_int_r0 k_slices_Concat_int_int_r1
attribute [go_sem] k_slices_Concat_int_int_r2 k_slices_Concat_int_int_r3 k_slices_Concat_int_int_r4 k_slices_Concat_int_int_r5 k_slices_Concat_int_int_r6 k_slices_Concat_int_int_r7 k_slices_Concat_int_int_r8 k_slices_Concat_int_int_r10 k_slices_Concat_int_int_r11 k_slices_Concat_int_int_r12 k_slices_Concat_int_int_r13 k_slices_Concat_int_int_r14
attribute [go_sem] k_slices_Concat_int_int_r15 k_slices_Concat_int_int_r17 k_curve_insideAt_r0 k_curve_insideAt_r1s k_curve_insideAt_r2s k_curve_insideAt_r3s k_curve_narrow_1_r0 k_curve_narrow_1_r1 k_curve_narrow_1_r2s k_curve_narrow_2_r0 k_curve_narrow_2_r1s k_curve_narrow_3_r0
attribute [go_sem] k_curve_narrow_3_r1s k_curve_kept_r0 k_curve_kept_r1 k_curve_kept_r2 k_curve_kept_r3 k_curve_kept_r4 k_curve_kept_r5 k_curve_kept_r6 k_curve_linesOf_r0 k_curve_linesOf_r1 k_curve_linesOf_r2 k_curve_linesOf_r3
attribute [go_sem] k_curve_linesOf_r4s k_curve_linesOf_r5s k_curve_linesOf_r6 k_curve_linesOf_r8 k_kit_Same_r0 k_kit_Same_r1 k_kit_Same_r2 k_kit_Same_r3 k_kit_Same_r4 k_kit_Same_r5s k_kit_Same_r6 k_kit_Same_r7
attribute [go_sem] k_kit_Same_r9 k_curve_steepness_curve_byGrid_r0 k_curve_steepness_curve_byGrid_r1 k_curve_steepness_curve_byGrid_r2 k_curve_steepness_curve_byGrid_r3 k_curve_steepness_curve_byGrid_r4 k_curve_steepness_curve_byGrid_r5 k_curve_steepness_curve_byGrid_r6 k_curve_steepness_curve_byGrid_r7 k_curve_steepness_curve_byGrid_r8s k_curve_steepness_curve_byGrid_r9s k_curve_steepness_curve_byGrid_r10
attribute [go_sem] k_curve_steepness_curve_byGrid_r12s k_curve_steepness_curve_byGrid_r13s k_curve_steepness_curve_byPlate_r0 k_curve_steepness_curve_byPlate_r1 k_curve_steepness_curve_byPlate_r2 k_curve_steepness_curve_byPlate_r3 k_curve_steepness_curve_byPlate_r4 k_curve_steepness_curve_byPlate_r5 k_curve_steepness_curve_byPlate_r6 k_curve_steepness_curve_byPlate_r7 k_curve_steepness_curve_byPlate_r8s k_curve_steepness_curve_byPlate_r9s
attribute [go_sem] k_curve_steepness_curve_byPlate_r10 k_curve_steepness_curve_byPlate_r12s k_curve_steepness_curve_byPlate_r13s k_strconv_AppendInt_r0 k_strconv_AppendInt_r1 k_slices_Grow_int_int_r0 k_slices_Grow_int_int_r1 k_slices_Grow_int_int_r2 k_slices_Grow_int_int_r3 k_slices_Grow_int_int_r4 k_slices_Grow_int_int_r5 k_slices_Grow_int_int_r6
attribute [go_sem] k_curve_fraction_less_r0 k_curve_fraction_less_r1 k_curve_fraction_less_r2 k_curve_fraction_less_r3 k_curve_kept_1_r0 k_curve_kept_1_r1 k_curve_kept_2_r0 k_curve_kept_2_r1 k_curve_copied_r0 k_curve_copied_r1 k_istrconv_AppendInt_r0 k_istrconv_AppendInt_r1
attribute [go_sem] k_istrconv_AppendInt_r2 k_istrconv_AppendInt_r3 k_istrconv_AppendInt_r4 k_istrconv_AppendInt_r5 k_bits_Mul64_r0 k_bits_Mul64_r1 k_bits_Mul64_r2 k_bits_Mul64_r3 k_bits_Mul64_r4 k_bits_Mul64_r5 k_bits_Mul64_r6 k_bits_Mul64_r7
attribute [go_sem] k_bits_Mul64_r8 k_bits_Mul64_r9 k_bits_Mul64_r10 k_bits_Mul64_r11 k_istrconv_AppendUint_r0 k_istrconv_AppendUint_r1 k_istrconv_AppendUint_r2 k_istrconv_AppendUint_r3 k_istrconv_AppendUint_r4 k_istrconv_AppendUint_r5 k_istrconv_AppendUint_r6 k_istrconv_AppendUint_r7
attribute [go_sem] k_istrconv_AppendUint_r8 k_istrconv_AppendUint_r9 k_istrconv_small_r0 k_istrconv_small_r1 k_istrconv_small_r2 k_istrconv_small_r3 k_istrconv_numDigits_r0 k_istrconv_numDigits_r1 k_istrconv_numDigits_r2 k_istrconv_formatBase10_r0 k_istrconv_formatBase10_r1 k_istrconv_formatBase10_r2
attribute [go_sem] k_istrconv_formatBase10_r3 k_istrconv_formatBase10_r4 k_istrconv_formatBase10_r5 k_istrconv_formatBase10_r6 k_istrconv_formatBase10_r7s k_istrconv_formatBase10_r8s k_istrconv_formatBase10_r9s k_istrconv_formatBase10_r10s k_istrconv_formatBase10_r11 k_istrconv_formatBase10_r13 k_istrconv_formatBase10_r14 k_istrconv_formatBase10_r15
attribute [go_sem] k_istrconv_formatBase10_r16 k_istrconv_formatBase10_r17 k_istrconv_formatBase10_r18s k_istrconv_formatBase10_r19s k_istrconv_formatBase10_r20 k_istrconv_formatBase10_r21 k_istrconv_formatBase10_r22 k_istrconv_formatBase10_r23 k_istrconv_formatBase10_r24s k_istrconv_formatBase10_r25 k_istrconv_formatBase10_r26 k_istrconv_formatBase10_r27
attribute [go_sem] k_istrconv_formatBits_r0 k_istrconv_formatBits_r1 k_istrconv_formatBits_r2 k_istrconv_formatBits_r3 k_istrconv_formatBits_r4 k_istrconv_formatBits_r5 k_istrconv_formatBits_r6 k_istrconv_formatBits_r7 k_istrconv_formatBits_r8 k_istrconv_formatBits_r9 k_istrconv_formatBits_r10 k_istrconv_formatBits_r11
attribute [go_sem] k_istrconv_formatBits_r12 k_istrconv_formatBits_r13 k_istrconv_formatBits_r14 k_istrconv_formatBits_r16 k_istrconv_formatBits_r17 k_istrconv_formatBits_r18 k_istrconv_formatBits_r19 k_istrconv_formatBits_r20 k_istrconv_formatBits_r21 k_istrconv_formatBits_r22 k_istrconv_formatBits_r23 k_istrconv_formatBits_r25
attribute [go_sem] k_istrconv_formatBits_r26 k_istrconv_formatBits_r27 k_istrconv_formatBits_r28 k_istrconv_formatBits_r29 k_istrconv_formatBits_r30 k_istrconv_formatBits_r31 k_istrconv_formatBits_r32 k_istrconv_log10Pow2_r0 k_istrconv_log10Pow2_r1 k_istrconv_bool2_int_r0 k_istrconv_bool2_int_r1 k_istrconv_bool2_int_r2
attribute [go_sem] k_istrconv_bool2_int_r3 k_istrconv_isPowerOfTwo_r0 k_istrconv_isPowerOfTwo_r1 k_bits_TrailingZeros_r0 k_bits_TrailingZeros_r1 k_bits_TrailingZeros_r2 k_bits_TrailingZeros32_r0 k_bits_TrailingZeros32_r1 k_bits_TrailingZeros32_r2 k_bits_TrailingZeros32_r3 k_bits_TrailingZeros64_r0 k_bits_TrailingZeros64_r1
attribute [go_sem] k_bits_TrailingZeros64_r2 k_bits_TrailingZeros64_r3 k_curve_byGrid_at_r0 k_curve_byGrid_at_r1 k_curve_byPlate_at_r0 k_curve_byPlate_at_r1 k_istrconv_formatBase10_r19_sg k_istrconv_formatBase10_r8_sg k_kit_Same_r5_sg k_curve_narrow_r8_sg k_curve_Gain_r6_sg k_curve_narrow_r1_sg
attribute [go_sem] k_curve_steepness_curve_byGrid_r9_sg k_curve_steepness_curve_byGrid_r12_sg k_curve_Gain_r7_sg k_curve_narrow_1_r2_sg k_istrconv_formatBase10_r9_sg k_curve_insideAt_r2_sg k_istrconv_formatBase10_r10_sg k_curve_linesOf_r5_sg k_curve_steepness_curve_byPlate_r12_sg k_istrconv_formatBase10_r7_sg k_istrconv_formatBase10_r24_sg k_curve_insideAt_r3_sg
attribute [go_sem] k_curve_narrow_2_r1_sg k_curve_insideAt_r1_sg k_curve_Gain_r10_sg k_curve_steepness_curve_byPlate_r13_sg k_istrconv_formatBase10_r18_sg k_curve_steepness_curve_byPlate_r9_sg k_curve_steepness_curve_byPlate_r8_sg k_curve_steepness_curve_byGrid_r13_sg k_curve_narrow_r11_sg k_curve_Of_r15_sg k_curve_linesOf_r4_sg k_curve_steepness_curve_byGrid_r8_sg
attribute [go_sem] k_curve_narrow_3_r1_sg k_curve_narrow_r10_sg k_kit_SameLists_r5_sg k_istrconv_formatBase10_r19_st k_istrconv_formatBase10_r8_st k_kit_Same_r5_st k_curve_narrow_r8_st k_curve_Gain_r6_st k_curve_narrow_r1_st k_curve_steepness_curve_byGrid_r9_st k_curve_steepness_curve_byGrid_r12_st k_curve_Gain_r7_st
attribute [go_sem] k_curve_narrow_1_r2_st k_istrconv_formatBase10_r9_st k_curve_insideAt_r2_st k_istrconv_formatBase10_r10_st k_curve_linesOf_r5_st k_curve_steepness_curve_byPlate_r12_st k_istrconv_formatBase10_r7_st k_istrconv_formatBase10_r24_st k_curve_insideAt_r3_st k_curve_narrow_2_r1_st k_curve_insideAt_r1_st k_curve_Gain_r10_st
attribute [go_sem] k_curve_steepness_curve_byPlate_r13_st k_istrconv_formatBase10_r18_st k_curve_steepness_curve_byPlate_r9_st k_curve_steepness_curve_byPlate_r8_st k_curve_steepness_curve_byGrid_r13_st k_curve_narrow_r11_st k_curve_Of_r15_st k_curve_linesOf_r4_st k_curve_steepness_curve_byGrid_r8_st k_curve_narrow_3_r1_st k_curve_narrow_r10_st k_kit_SameLists_r5_st
attribute [go_sem] k_law02_CurveKnown k_curve_Narrow k_law02_laws k_curve_Slope k_curve_Yield k_curve_Gain k_law02_is k_curve_Text k_curve_Inside k_curve_checkReads k_curve_narrow k_curve_Drive
attribute [go_sem] k_law02_wide k_curve_Of k_kit_SameLists k_curve_isCell k_curve_slope k_curve_yield k_curve_hull k_curve_appendRow k_slices_Concat_int_int k_curve_insideAt k_curve_narrow_1 k_curve_narrow_2
attribute [go_sem] k_curve_narrow_3 k_curve_kept k_curve_linesOf k_kit_Same k_curve_steepness_curve_byGrid k_curve_steepness_curve_byPlate k_strconv_AppendInt k_slices_Grow_int_int k_curve_fraction_less k_curve_kept_1 k_curve_kept_2 k_curve_copied
attribute [go_sem] k_istrconv_AppendInt k_bits_Mul64 k_istrconv_AppendUint k_istrconv_small k_istrconv_numDigits k_istrconv_formatBase10 k_istrconv_formatBits k_istrconv_log10Pow2 k_istrconv_bool2_int k_istrconv_isPowerOfTwo k_bits_TrailingZeros k_bits_TrailingZeros32
attribute [go_sem] k_bits_TrailingZeros64 k_curve_byGrid_at k_curve_byPlate_at
def tabLK : List (Nat × AFun) := [(4, k_law02_CurveKnown), (6, k_law02_awake), (11, k_curve_Narrow), (13, k_law02_laws), (14, k_law02_family), (15, k_curve_At), (16, k_curve_Slope), (17, k_curve_Yield), (18, k_curve_Gain), (19, k_law02_is), (20, k_curve_Text), (21, k_curve_Inside), (23, k_curve_Current), (25, k_law02_law), (26, k_curve_Check), (35, k_curve_CheckLaw), (36, k_curve_checkReads), (37, k_curve_narrow), (42, k_law02_alone), (43, k_curve_Drive), (44, k_law02_wide), (45, k_curve_Of), (46, k_kit_SameLists), (47, k_curve_rightGrid), (48, k_curve_rightPlate), (49, k_curve_spotOf), (50, k_curve_value), (51, k_curve_roundUp), (52, k_curve_isCell), (53, k_curve_slope), (54, k_curve_yield), (55, k_curve_hull), (56, k_curve_appendRow), (57, k_slices_Concat_int_int), (58, k_curve_insideAt), (60, k_curve_checkVolts), (61, k_curve_current), (62, k_curve_checkLines), (63, k_curve_hasForm), (64, k_curve_checkPlace), (66, k_curve_narrow_1), (67, k_curve_narrow_2), (68, k_curve_narrow_3), (69, k_curve_kept), (77, k_curve_drive), (78, k_curve_linesOf), (79, k_kit_Same), (80, k_curve_within), (81, k_sort_SearchInts), (82, k_curve_spot_weights), (83, k_curve_steepness_curve_byGrid), (84, k_curve_steepness_curve_byPlate), (85, k_strconv_AppendInt), (86, k_slices_Grow_int_int), (87, k_curve_fraction_less), (88, k_curve_rootDown), (89, k_curve_rootUp), (90, k_curve_checkAscending), (94, k_sort_Search), (95, k_curve_kept_1), (96, k_curve_kept_2), (97, k_curve_bounded), (98, k_curve_copied), (99, k_sort_SearchInts_1), (100, k_istrconv_AppendInt), (101, k_bits_Mul64), (102, k_bits_Len), (104, k_istrconv_AppendUint), (105, k_bits_Len32), (106, k_bits_Len64), (107, k_istrconv_small), (108, k_istrconv_numDigits), (109, k_istrconv_formatBase10), (110, k_istrconv_formatBits), (111, k_istrconv_log10Pow2), (112, k_istrconv_bool2_int), (113, k_istrconv_isPowerOfTwo), (114, k_bits_TrailingZeros), (115, k_bits_TrailingZeros32), (116, k_bits_TrailingZeros64), (133, k_curve_byGrid_at), (134, k_curve_byPlate_at)]
def tabK (g : Nat) : Option AFun := tabGet tabLK g
set_option maxRecDepth 100000 in
theorem tabK_all : ∀ p ∈ tabLK, EntryOK Tryd.prog p.1 p.2 := AllOK.get (l := tabLK) (⟨e_law02_CurveKnown, ⟨e_law02_awake, ⟨e_curve_Narrow, ⟨e_law02_laws, ⟨e_law02_family, ⟨e_curve_At, ⟨e_curve_Slope, ⟨e_curve_Yield, ⟨e_curve_Gain, ⟨e_law02_is, ⟨e_curve_Text, ⟨e_curve_Inside, ⟨e_curve_Current, ⟨e_law02_law, ⟨e_curve_Check, ⟨e_curve_CheckLaw, ⟨e_curve_checkReads, ⟨e_curve_narrow, ⟨e_law02_alone, ⟨e_curve_Drive, ⟨e_law02_wide, ⟨e_curve_Of, ⟨e_kit_SameLists, ⟨e_curve_rightGrid, ⟨e_curve_rightPlate, ⟨e_curve_spotOf, ⟨e_curve_value, ⟨e_curve_roundUp, ⟨e_curve_isCell, ⟨e_curve_slope, ⟨e_curve_yield, ⟨e_curve_hull, ⟨e_curve_appendRow, ⟨e_slices_Concat_int_int, ⟨e_curve_insideAt, ⟨e_curve_checkVolts, ⟨e_curve_current, ⟨e_curve_checkLines, ⟨e_curve_hasForm, ⟨e_curve_checkPlace, ⟨e_curve_narrow_1, ⟨e_curve_narrow_2, ⟨e_curve_narrow_3, ⟨e_curve_kept, ⟨e_curve_drive, ⟨e_curve_linesOf, ⟨e_kit_Same, ⟨e_curve_within, ⟨e_sort_SearchInts, ⟨e_curve_spot_weights, ⟨e_curve_steepness_curve_byGrid, ⟨e_curve_steepness_curve_byPlate, ⟨e_strconv_AppendInt, ⟨e_slices_Grow_int_int, ⟨e_curve_fraction_less, ⟨e_curve_rootDown, ⟨e_curve_rootUp, ⟨e_curve_checkAscending, ⟨e_sort_Search, ⟨e_curve_kept_1, ⟨e_curve_kept_2, ⟨e_curve_bounded, ⟨e_curve_copied, ⟨e_sort_SearchInts_1, ⟨e_istrconv_AppendInt, ⟨e_bits_Mul64, ⟨e_bits_Len, ⟨e_istrconv_AppendUint, ⟨e_bits_Len32, ⟨e_bits_Len64, ⟨e_istrconv_small, ⟨e_istrconv_numDigits, ⟨e_istrconv_formatBase10, ⟨e_istrconv_formatBits, ⟨e_istrconv_log10Pow2, ⟨e_istrconv_bool2_int, ⟨e_istrconv_isPowerOfTwo, ⟨e_bits_TrailingZeros, ⟨e_bits_TrailingZeros32, ⟨e_bits_TrailingZeros64, ⟨e_curve_byGrid_at, ⟨e_curve_byPlate_at, trivial⟩⟩⟩⟩⟩⟩⟩⟩⟩⟩⟩⟩⟩⟩⟩⟩⟩⟩⟩⟩⟩⟩⟩⟩⟩⟩⟩⟩⟩⟩⟩⟩⟩⟩⟩⟩⟩⟩⟩⟩⟩⟩⟩⟩⟩⟩⟩⟩⟩⟩⟩⟩⟩⟩⟩⟩⟩⟩⟩⟩⟩⟩⟩⟩⟩⟩⟩⟩⟩⟩⟩⟩⟩⟩⟩⟩⟩⟩⟩⟩⟩⟩)
theorem tabK_ok (g : Nat) (af : AFun) (h : tabK g = some af) : EntryOK Tryd.prog g af := by
  have h2 := tabK_all _ (tabGet_mem _ _ _ h)
  exact h2
end Go.Proofs

