/- A part of the proof. -/
import Derived.Test.YtcnpapgcojagpaaPA
set_option linter.unusedSimpArgs false
set_option linter.unusedVariables false
namespace Go.Proofs
open Go Go.Sx

def k_ref02_CheckLaw_r0 : List AOper := [
  ⟨some 1, .box (.tmp 0), none, []⟩,
 ⟨some 2, .move (.const (.int .i64 0)), none, []⟩]
def k_ref02_CheckLaw_r1 : List AOper := [
  ⟨some 8, .fieldAddr 0 (.tmp 1), none, []⟩,
 ⟨some 9, .load (some (2)) (.tmp 8), none, []⟩,
 ⟨some 10, .fieldAddr 2 (.tmp 1), none, []⟩,
 ⟨some 11, .load (some (2)) (.tmp 10), none, []⟩,
 ⟨some 12, .fieldAddr 4 (.tmp 1), none, []⟩,
 ⟨some 13, .load (some (2)) (.tmp 12), none, []⟩,
 ⟨some 14, .fieldAddr 6 (.tmp 1), none, []⟩,
 ⟨some 15, .load (some (2)) (.tmp 14), none, []⟩,
 ⟨some 16, .fieldAddr 8 (.tmp 1), none, []⟩,
 ⟨some 17, .load (some (2)) (.tmp 16), none, []⟩,
 ⟨some 18, .buildSlice 2 [.tmp 9, .tmp 11, .tmp 13, .tmp 15, .tmp 17], none, []⟩,
 ⟨some 3, .move (.tmp 18), none, []⟩]
def k_ref02_CheckLaw_r2 : List AOper := [
  ⟨some 19, .buildSlice 1 [.const (.int .i64 0), .const (.int .i64 1), .const (.int .i64 (-1000000)), .const (.int .i64 0), .const (.int .i64 0)], none, []⟩,
 ⟨some 4, .move (.tmp 19), none, []⟩]
def k_ref02_CheckLaw_r3 : List AOper := [
  ⟨some 20, .buildSlice 1 [.const (.int .i64 1000000), .const (.int .i64 1000000), .const (.int .i64 1000000), .const (.int .i64 1000000), .const (.int .i64 1000000)], none, []⟩,
 ⟨some 5, .move (.tmp 20), none, []⟩]
def k_ref02_CheckLaw_r4 : List AOper := [
  ⟨some 6, .move (.const (.int .i64 0)), none, []⟩]
def k_ref02_CheckLaw_r5 : List AOper := [
  ⟨some 21, .move (.tmp 6), none, []⟩,
 ⟨some 22, .move (.tmp 3), none, []⟩,
 ⟨some 23, .len false (.tmp 22), none, []⟩,
 ⟨some 24, .bin .plain .lss (.tmp 21) (.tmp 23), none, []⟩]
def k_ref02_CheckLaw_r6 : List AOper := [
  ⟨some 27, .move (.tmp 3), none, []⟩,
 ⟨some 28, .move (.tmp 6), none, [0]⟩,
 ⟨some 29, .indexAddr 2 (.tmp 27) (.tmp 28), none, []⟩,
 ⟨some 30, .load (some (2)) (.tmp 29), none, []⟩,
 ⟨some 31, .move (.tmp 4), none, [0, 1, 2, 3]⟩,
 ⟨some 32, .move (.tmp 6), none, [0, 1, 2, 3, 4]⟩,
 ⟨some 33, .indexAddr 1 (.tmp 31) (.tmp 32), none, [0, 1, 2, 3]⟩,
 ⟨some 34, .load none (.tmp 33), none, [0, 1, 2, 3]⟩,
 ⟨some 35, .move (.tmp 5), none, [0, 1, 2, 3, 4, 5, 6, 7]⟩,
 ⟨some 36, .move (.tmp 6), none, [0, 1, 2, 3, 4, 5, 6, 7, 8]⟩,
 ⟨some 37, .indexAddr 1 (.tmp 35) (.tmp 36), none, [0, 1, 2, 3, 4, 5, 6, 7]⟩,
 ⟨some 38, .load none (.tmp 37), none, [0, 1, 2, 3, 4, 5, 6, 7]⟩,
 ⟨some 39, .call (.const (.fn (.func 60) [] [])) [.tmp 30, .tmp 34, .tmp 38], none, []⟩,
 ⟨some 7, .move (.tmp 39), none, []⟩]
def k_ref02_CheckLaw_r6s : List (List AOper) := [
  [
  ⟨some 27, .move (.tmp 3), none, []⟩,
 ⟨some 28, .move (.tmp 6), none, [0]⟩,
 ⟨some 29, .indexAddr 2 (.tmp 27) (.tmp 28), none, []⟩,
 ⟨some 30, .load (some (2)) (.tmp 29), none, []⟩,
 ⟨some 31, .move (.tmp 4), none, [0, 1, 2, 3]⟩,
 ⟨some 32, .move (.tmp 6), none, [0, 1, 2, 3, 4]⟩,
 ⟨some 33, .indexAddr 1 (.tmp 31) (.tmp 32), none, [0, 1, 2, 3]⟩,
 ⟨some 34, .load none (.tmp 33), none, [0, 1, 2, 3]⟩,
 ⟨some 35, .move (.tmp 5), none, [0, 1, 2, 3, 4, 5, 6, 7]⟩,
 ⟨some 36, .move (.tmp 6), none, [0, 1, 2, 3, 4, 5, 6, 7, 8]⟩,
 ⟨some 37, .indexAddr 1 (.tmp 35) (.tmp 36), none, [0, 1, 2, 3, 4, 5, 6, 7]⟩,
 ⟨some 38, .load none (.tmp 37), none, [0, 1, 2, 3, 4, 5, 6, 7]⟩], 
  [
  ⟨some 39, .call (.const (.fn (.func 60) [] [])) [.tmp 30, .tmp 34, .tmp 38], none, []⟩], 
  [
  ⟨some 7, .move (.tmp 39), none, []⟩]]
theorem k_ref02_CheckLaw_r6_sg : segs k_ref02_CheckLaw_r6 = k_ref02_CheckLaw_r6s := by kernel_rfl
theorem k_ref02_CheckLaw_r6_st : statOK k_ref02_CheckLaw_r6 = true := by kernel_rfl
def k_ref02_CheckLaw_r7 : List AOper := [
  ⟨some 40, .move (.tmp 7), none, []⟩,
 ⟨some 41, .bin .plain .neq (.tmp 40) (.const (.int .i64 0)), none, []⟩]
def k_ref02_CheckLaw_r8 : List AOper := [
  ⟨some 42, .move (.tmp 7), none, []⟩,
 ⟨some 2, .move (.tmp 42), none, []⟩]
def k_ref02_CheckLaw_r9 : List AOper := [
  ⟨some 25, .move (.tmp 6), none, []⟩,
 ⟨some 26, .bin .plain .add (.tmp 25) (.const (.int .i64 1)), none, []⟩,
 ⟨some 6, .move (.tmp 26), none, []⟩]
def k_ref02_CheckLaw_r10 : ACode := (.seq (.seq (.reg k_ref02_CheckLaw_r5 false) (.cond (.tmp 24) .skip (.exit 0))) (.seq (.block 1 (.seq (.reg k_ref02_CheckLaw_r6 true) (.seq (.reg k_ref02_CheckLaw_r7 false) (.cond (.tmp 41) (.seq (.reg k_ref02_CheckLaw_r8 false) .ret) .skip)))) (.reg k_ref02_CheckLaw_r9 false)))
def k_ref02_CheckLaw_r11 : List AOper := [
  ⟨some 2, .move (.const (.int .i64 0)), none, []⟩]
def k_ref02_CheckLaw : AFun := { params := 1, ntmps := 43, body := (.seq (.reg k_ref02_CheckLaw_r0 false) (.seq (.reg k_ref02_CheckLaw_r1 false) (.seq (.reg k_ref02_CheckLaw_r2 false) (.seq (.reg k_ref02_CheckLaw_r3 false) (.seq (.seq (.reg k_ref02_CheckLaw_r4 false) (.block 0 (.loop k_ref02_CheckLaw_r10))) (.seq (.reg k_ref02_CheckLaw_r11 false) .ret)))))), res := [.tmp 2] }
theorem k_ref02_CheckLaw_ok : cfun Try.prog Try.f21 = k_ref02_CheckLaw := by kernel_rfl

def k_kit_FamilyOf_r0 : List AOper := [
  ⟨some 2, .box (.const (.agg [.nilsl, .nilsl, .nilsl, .nilsl])), none, []⟩]
def k_kit_FamilyOf_r1 : List AOper := [
  ⟨some 14, .move (.tmp 0), none, []⟩,
 ⟨some 15, .call (.const (.fn (.func 48) [] [])) [.tmp 14, .const (.int .i64 (-9000)), .const (.int .i64 3000), .const (.int .i64 5)], none, []⟩,
 ⟨some 16, .move (.tmp 0), none, []⟩,
 ⟨some 17, .call (.const (.fn (.func 48) [] [])) [.tmp 16, .const (.int .i64 0), .const (.int .i64 300000), .const (.int .i64 5)], none, []⟩,
 ⟨some 3, .move (.tmp 15), none, []⟩,
 ⟨some 4, .move (.tmp 17), none, []⟩]
def k_kit_FamilyOf_r2 : List AOper := [
  ⟨some 18, .move (.tmp 0), none, []⟩,
 ⟨some 19, .call (.const (.fn (.func 36) [] [])) [.tmp 18, .const (.int .i64 2)], none, []⟩]
def k_kit_FamilyOf_r3 : List AOper := [
  ⟨some 21, .move (.tmp 0), none, []⟩,
 ⟨some 22, .call (.const (.fn (.func 13) [] [])) [.tmp 21], none, []⟩,
 ⟨some 23, .move (.tmp 3), none, []⟩,
 ⟨some 24, .move (.tmp 4), none, []⟩,
 ⟨some 25, .call (.const (.fn (.func 63) [] [])) [.tmp 22, .tmp 23, .tmp 24], none, []⟩,
 ⟨some 20, .move (.tmp 25), none, []⟩,
 ⟨some 26, .extract (.tmp 20) 0, none, []⟩,
 ⟨some 27, .extract (.tmp 20) 1, none, []⟩,
 ⟨some 5, .box (.const (.agg [.nilsl, .nilsl, .nilsl, .nilsl])), none, []⟩,
 ⟨none, .store 4 (.tmp 5) (.tmp 26), none, []⟩,
 ⟨some 6, .move (.tmp 27), none, []⟩]
def k_kit_FamilyOf_r4 : List AOper := [
  ⟨some 28, .load (some (4)) (.tmp 5), none, []⟩,
 ⟨none, .store 4 (.tmp 2) (.tmp 28), none, []⟩]
def k_kit_FamilyOf_r5 : List AOper := [
  ⟨some 29, .move (.tmp 3), none, []⟩,
 ⟨some 30, .move (.tmp 4), none, []⟩,
 ⟨some 31, .build [.nilsl, .nilsl, .nilsl, .nilsl] [(0, 1, .tmp 29), (1, 1, .tmp 30)], none, []⟩,
 ⟨some 7, .box (.const (.agg [.nilsl, .nilsl, .nilsl, .nilsl])), none, []⟩,
 ⟨none, .store 4 (.tmp 7) (.tmp 31), none, []⟩]
def k_kit_FamilyOf_r6 : List AOper := [
  ⟨some 8, .move (.const (.int .i64 0)), none, []⟩]
def k_kit_FamilyOf_r7 : List AOper := [
  ⟨some 32, .move (.tmp 8), none, []⟩,
 ⟨some 33, .move (.tmp 3), none, []⟩,
 ⟨some 34, .len false (.tmp 33), none, []⟩,
 ⟨some 35, .bin .plain .lss (.tmp 32) (.tmp 34), none, []⟩]
def k_kit_FamilyOf_r8 : List AOper := [
  ⟨some 9, .move (.const (.nilsl)), none, []⟩,
 ⟨some 10, .move (.const (.nilsl)), none, []⟩]
def k_kit_FamilyOf_r9 : List AOper := [
  ⟨some 11, .move (.const (.int .i64 0)), none, []⟩]
def k_kit_FamilyOf_r10 : List AOper := [
  ⟨some 38, .move (.tmp 11), none, []⟩,
 ⟨some 39, .move (.tmp 4), none, []⟩,
 ⟨some 40, .len false (.tmp 39), none, []⟩,
 ⟨some 41, .bin .plain .lss (.tmp 38) (.tmp 40), none, []⟩]
def k_kit_FamilyOf_r11 : List AOper := [
  ⟨some 44, .move (.tmp 0), none, []⟩,
 ⟨some 45, .call (.const (.fn (.func 15) [] [])) [.tmp 44, .const (.int .i64 60)], none, []⟩,
 ⟨some 46, .move (.tmp 0), none, []⟩,
 ⟨some 47, .call (.const (.fn (.func 15) [] [])) [.tmp 46, .const (.int .i64 30)], none, []⟩,
 ⟨some 12, .move (.tmp 45), none, []⟩,
 ⟨some 13, .move (.tmp 47), none, []⟩]
def k_kit_FamilyOf_r12 : List AOper := [
  ⟨some 48, .move (.tmp 8), none, []⟩,
 ⟨some 49, .bin .plain .gtr (.tmp 48) (.const (.int .i64 0)), none, []⟩]
def k_kit_FamilyOf_r13 : List AOper := [
  ⟨some 50, .move (.tmp 12), none, []⟩,
 ⟨some 51, .fieldAddr 2 (.tmp 7), none, [0]⟩,
 ⟨some 52, .load none (.tmp 51), none, [0]⟩,
 ⟨some 53, .move (.tmp 8), none, [0, 1, 2]⟩,
 ⟨some 54, .bin .plain .sub (.tmp 53) (.const (.int .i64 1)), none, [0, 1, 2]⟩,
 ⟨some 55, .indexAddr 1 (.tmp 52) (.tmp 54), none, [0]⟩,
 ⟨some 56, .load none (.tmp 55), none, [0]⟩,
 ⟨some 57, .move (.tmp 11), none, [0, 1, 2, 3, 4, 5, 6]⟩,
 ⟨some 58, .indexAddr 1 (.tmp 56) (.tmp 57), none, [0]⟩,
 ⟨some 59, .load none (.tmp 58), none, [0]⟩,
 ⟨some 60, .move (.tmp 0), none, [0, 1, 2, 3, 4, 5, 6, 7, 8, 9]⟩,
 ⟨some 61, .call (.const (.fn (.func 15) [] [])) [.tmp 60, .const (.int .i64 20)], none, [0, 1, 2, 3, 4, 5, 6, 7, 8, 9]⟩,
 ⟨some 62, .bin .plain .add (.tmp 59) (.tmp 61), none, [0]⟩,
 ⟨some 63, .minmax true [.tmp 50, .tmp 62], none, []⟩,
 ⟨some 12, .move (.tmp 63), none, []⟩]
def k_kit_FamilyOf_r13s : List (List AOper) := [
  [
  ⟨some 50, .move (.tmp 12), none, []⟩,
 ⟨some 51, .fieldAddr 2 (.tmp 7), none, [0]⟩,
 ⟨some 52, .load none (.tmp 51), none, [0]⟩,
 ⟨some 53, .move (.tmp 8), none, [0, 1, 2]⟩,
 ⟨some 54, .bin .plain .sub (.tmp 53) (.const (.int .i64 1)), none, [0, 1, 2]⟩,
 ⟨some 55, .indexAddr 1 (.tmp 52) (.tmp 54), none, [0]⟩,
 ⟨some 56, .load none (.tmp 55), none, [0]⟩,
 ⟨some 57, .move (.tmp 11), none, [0, 1, 2, 3, 4, 5, 6]⟩,
 ⟨some 58, .indexAddr 1 (.tmp 56) (.tmp 57), none, [0]⟩,
 ⟨some 59, .load none (.tmp 58), none, [0]⟩,
 ⟨some 60, .move (.tmp 0), none, [0, 1, 2, 3, 4, 5, 6, 7, 8, 9]⟩,
 ⟨some 61, .call (.const (.fn (.func 15) [] [])) [.tmp 60, .const (.int .i64 20)], none, [0, 1, 2, 3, 4, 5, 6, 7, 8, 9]⟩,
 ⟨some 62, .bin .plain .add (.tmp 59) (.tmp 61), none, [0]⟩], 
  [
  ⟨some 63, .minmax true [.tmp 50, .tmp 62], none, []⟩], 
  [
  ⟨some 12, .move (.tmp 63), none, []⟩]]
theorem k_kit_FamilyOf_r13_sg : segs k_kit_FamilyOf_r13 = k_kit_FamilyOf_r13s := by kernel_rfl
theorem k_kit_FamilyOf_r13_st : statOK k_kit_FamilyOf_r13 = true := by kernel_rfl
def k_kit_FamilyOf_r14 : List AOper := [
  ⟨some 64, .move (.tmp 12), none, []⟩,
 ⟨some 65, .move (.tmp 13), none, []⟩,
 ⟨some 66, .bin .plain .add (.tmp 64) (.tmp 65), none, []⟩,
 ⟨some 67, .fieldAddr 3 (.tmp 7), none, []⟩,
 ⟨some 68, .load none (.tmp 67), none, []⟩,
 ⟨some 69, .move (.tmp 8), none, []⟩,
 ⟨some 70, .bin .plain .sub (.tmp 69) (.const (.int .i64 1)), none, []⟩,
 ⟨some 71, .indexAddr 1 (.tmp 68) (.tmp 70), none, []⟩,
 ⟨some 72, .load none (.tmp 71), none, []⟩,
 ⟨some 73, .move (.tmp 11), none, []⟩,
 ⟨some 74, .indexAddr 1 (.tmp 72) (.tmp 73), none, []⟩,
 ⟨some 75, .load none (.tmp 74), none, []⟩,
 ⟨some 76, .minmax true [.tmp 66, .tmp 75], none, []⟩,
 ⟨some 77, .move (.tmp 12), none, []⟩,
 ⟨some 78, .bin .plain .sub (.tmp 76) (.tmp 77), none, []⟩,
 ⟨some 13, .move (.tmp 78), none, []⟩]
def k_kit_FamilyOf_r15 : List AOper := [
  ⟨some 79, .move (.tmp 11), none, []⟩,
 ⟨some 80, .bin .plain .gtr (.tmp 79) (.const (.int .i64 0)), none, []⟩]
def k_kit_FamilyOf_r16 : List AOper := [
  ⟨some 81, .move (.tmp 12), none, []⟩,
 ⟨some 82, .move (.tmp 9), none, []⟩,
 ⟨some 83, .move (.tmp 11), none, []⟩,
 ⟨some 84, .bin .plain .sub (.tmp 83) (.const (.int .i64 1)), none, []⟩,
 ⟨some 85, .indexAddr 1 (.tmp 82) (.tmp 84), none, []⟩,
 ⟨some 86, .load none (.tmp 85), none, []⟩,
 ⟨some 87, .minmax true [.tmp 81, .tmp 86], none, []⟩,
 ⟨some 12, .move (.tmp 87), none, []⟩]
def k_kit_FamilyOf_r17 : List AOper := [
  ⟨some 88, .move (.tmp 12), none, []⟩,
 ⟨some 89, .move (.tmp 13), none, []⟩,
 ⟨some 90, .bin .plain .add (.tmp 88) (.tmp 89), none, []⟩,
 ⟨some 91, .move (.tmp 10), none, []⟩,
 ⟨some 92, .move (.tmp 11), none, []⟩,
 ⟨some 93, .bin .plain .sub (.tmp 92) (.const (.int .i64 1)), none, []⟩,
 ⟨some 94, .indexAddr 1 (.tmp 91) (.tmp 93), none, []⟩,
 ⟨some 95, .load none (.tmp 94), none, []⟩,
 ⟨some 96, .minmax true [.tmp 90, .tmp 95], none, []⟩,
 ⟨some 97, .move (.tmp 12), none, []⟩,
 ⟨some 98, .bin .plain .sub (.tmp 96) (.tmp 97), none, []⟩,
 ⟨some 13, .move (.tmp 98), none, []⟩]
def k_kit_FamilyOf_r18 : List AOper := [
  ⟨some 99, .move (.tmp 8), none, []⟩,
 ⟨some 100, .bin .plain .gtr (.tmp 99) (.const (.int .i64 0)), none, []⟩]
def k_kit_FamilyOf_r19 : List AOper := [
  ⟨some 101, .move (.tmp 12), none, []⟩,
 ⟨some 102, .move (.tmp 13), none, []⟩,
 ⟨some 103, .bin .plain .add (.tmp 101) (.tmp 102), none, []⟩,
 ⟨some 104, .fieldAddr 3 (.tmp 7), none, []⟩,
 ⟨some 105, .load none (.tmp 104), none, []⟩,
 ⟨some 106, .move (.tmp 8), none, []⟩,
 ⟨some 107, .bin .plain .sub (.tmp 106) (.const (.int .i64 1)), none, []⟩,
 ⟨some 108, .indexAddr 1 (.tmp 105) (.tmp 107), none, []⟩,
 ⟨some 109, .load none (.tmp 108), none, []⟩,
 ⟨some 110, .move (.tmp 11), none, []⟩,
 ⟨some 111, .indexAddr 1 (.tmp 109) (.tmp 110), none, []⟩,
 ⟨some 112, .load none (.tmp 111), none, []⟩,
 ⟨some 113, .minmax true [.tmp 103, .tmp 112], none, []⟩,
 ⟨some 114, .move (.tmp 12), none, []⟩,
 ⟨some 115, .bin .plain .sub (.tmp 113) (.tmp 114), none, []⟩,
 ⟨some 13, .move (.tmp 115), none, []⟩]
def k_kit_FamilyOf_r20 : List AOper := [
  ⟨some 116, .move (.tmp 9), none, []⟩,
 ⟨some 117, .move (.tmp 12), none, []⟩,
 ⟨some 118, .buildSlice 1 [.tmp 117], none, []⟩,
 ⟨some 119, .append 1 8 false (.tmp 116) (.tmp 118), none, []⟩,
 ⟨some 120, .move (.tmp 10), none, []⟩,
 ⟨some 121, .move (.tmp 12), none, []⟩,
 ⟨some 122, .move (.tmp 13), none, []⟩,
 ⟨some 123, .minmax true [.const (.int .i64 0), .tmp 122], none, []⟩,
 ⟨some 124, .bin .plain .add (.tmp 121) (.tmp 123), none, []⟩,
 ⟨some 125, .buildSlice 1 [.tmp 124], none, []⟩,
 ⟨some 126, .append 1 8 false (.tmp 120) (.tmp 125), none, []⟩,
 ⟨some 9, .move (.tmp 119), none, []⟩,
 ⟨some 10, .move (.tmp 126), none, []⟩]
def k_kit_FamilyOf_r21 : List AOper := [
  ⟨some 42, .move (.tmp 11), none, []⟩,
 ⟨some 43, .bin .plain .add (.tmp 42) (.const (.int .i64 1)), none, []⟩,
 ⟨some 11, .move (.tmp 43), none, []⟩]
def k_kit_FamilyOf_r22 : ACode := (.seq (.seq (.reg k_kit_FamilyOf_r10 false) (.cond (.tmp 41) .skip (.exit 2))) (.seq (.block 3 (.seq (.reg k_kit_FamilyOf_r11 false) (.seq (.seq (.reg k_kit_FamilyOf_r12 false) (.cond (.tmp 49) (.seq (.reg k_kit_FamilyOf_r13 true) (.reg k_kit_FamilyOf_r14 false)) .skip)) (.seq (.seq (.reg k_kit_FamilyOf_r15 false) (.cond (.tmp 80) (.seq (.reg k_kit_FamilyOf_r16 false) (.reg k_kit_FamilyOf_r17 false)) .skip)) (.seq (.seq (.reg k_kit_FamilyOf_r18 false) (.cond (.tmp 100) (.reg k_kit_FamilyOf_r19 false) .skip)) (.reg k_kit_FamilyOf_r20 false)))))) (.reg k_kit_FamilyOf_r21 false)))
def k_kit_FamilyOf_r23 : List AOper := [
  ⟨some 127, .fieldAddr 2 (.tmp 7), none, []⟩,
 ⟨some 128, .load none (.tmp 127), none, []⟩,
 ⟨some 129, .move (.tmp 9), none, [0, 1]⟩,
 ⟨some 130, .buildSlice 1 [.tmp 129], none, [0, 1]⟩,
 ⟨some 131, .append 1 24 false (.tmp 128) (.tmp 130), none, []⟩,
 ⟨some 132, .fieldAddr 3 (.tmp 7), none, [0, 1, 2, 3, 4]⟩,
 ⟨some 133, .load none (.tmp 132), none, [0, 1, 2, 3, 4]⟩,
 ⟨some 134, .move (.tmp 10), none, [0, 1, 2, 3, 4, 5, 6]⟩,
 ⟨some 135, .buildSlice 1 [.tmp 134], none, [0, 1, 2, 3, 4, 5, 6]⟩,
 ⟨some 136, .append 1 24 false (.tmp 133) (.tmp 135), none, []⟩,
 ⟨some 137, .fieldAddr 2 (.tmp 7), none, [7, 8, 9]⟩,
 ⟨none, .store 1 (.tmp 137) (.tmp 131), none, []⟩,
 ⟨some 138, .fieldAddr 3 (.tmp 7), none, []⟩,
 ⟨none, .store 1 (.tmp 138) (.tmp 136), none, []⟩]
def k_kit_FamilyOf_r23s : List (List AOper) := [
  [
  ⟨some 127, .fieldAddr 2 (.tmp 7), none, []⟩,
 ⟨some 128, .load none (.tmp 127), none, []⟩,
 ⟨some 129, .move (.tmp 9), none, [0, 1]⟩,
 ⟨some 130, .buildSlice 1 [.tmp 129], none, [0, 1]⟩,
 ⟨some 131, .append 1 24 false (.tmp 128) (.tmp 130), none, []⟩,
 ⟨some 132, .fieldAddr 3 (.tmp 7), none, [0, 1, 2, 3, 4]⟩,
 ⟨some 133, .load none (.tmp 132), none, [0, 1, 2, 3, 4]⟩,
 ⟨some 134, .move (.tmp 10), none, [0, 1, 2, 3, 4, 5, 6]⟩,
 ⟨some 135, .buildSlice 1 [.tmp 134], none, [0, 1, 2, 3, 4, 5, 6]⟩,
 ⟨some 136, .append 1 24 false (.tmp 133) (.tmp 135), none, []⟩,
 ⟨some 137, .fieldAddr 2 (.tmp 7), none, [7, 8, 9]⟩], 
  [
  ⟨none, .store 1 (.tmp 137) (.tmp 131), none, []⟩], 
  [
  ⟨some 138, .fieldAddr 3 (.tmp 7), none, []⟩], 
  [
  ⟨none, .store 1 (.tmp 138) (.tmp 136), none, []⟩]]
theorem k_kit_FamilyOf_r23_sg : segs k_kit_FamilyOf_r23 = k_kit_FamilyOf_r23s := by kernel_rfl
theorem k_kit_FamilyOf_r23_st : statOK k_kit_FamilyOf_r23 = true := by kernel_rfl
def k_kit_FamilyOf_r24 : List AOper := [
  ⟨some 36, .move (.tmp 8), none, []⟩,
 ⟨some 37, .bin .plain .add (.tmp 36) (.const (.int .i64 1)), none, []⟩,
 ⟨some 8, .move (.tmp 37), none, []⟩]
def k_kit_FamilyOf_r25 : ACode := (.seq (.seq (.reg k_kit_FamilyOf_r7 false) (.cond (.tmp 35) .skip (.exit 0))) (.seq (.block 1 (.seq (.reg k_kit_FamilyOf_r8 false) (.seq (.seq (.reg k_kit_FamilyOf_r9 false) (.block 2 (.loop k_kit_FamilyOf_r22))) (.reg k_kit_FamilyOf_r23 true)))) (.reg k_kit_FamilyOf_r24 false)))
def k_kit_FamilyOf_r26 : List AOper := [
  ⟨some 139, .load (some (4)) (.tmp 7), none, []⟩,
 ⟨none, .store 4 (.tmp 2) (.tmp 139), none, []⟩]
def k_kit_FamilyOf : AFun := { params := 1, ntmps := 140, body := (.seq (.reg k_kit_FamilyOf_r0 false) (.seq (.reg k_kit_FamilyOf_r1 false) (.seq (.seq (.reg k_kit_FamilyOf_r2 false) (.cond (.tmp 19) (.seq (.reg k_kit_FamilyOf_r3 false) (.seq (.reg k_kit_FamilyOf_r4 false) .ret)) .skip)) (.seq (.reg k_kit_FamilyOf_r5 false) (.seq (.seq (.reg k_kit_FamilyOf_r6 false) (.block 0 (.loop k_kit_FamilyOf_r25))) (.seq (.reg k_kit_FamilyOf_r26 false) .ret)))))), res := [.cell 2 (some ((some (4))))] }
theorem k_kit_FamilyOf_ok : cfun Try.prog Try.f25 = k_kit_FamilyOf := by kernel_rfl

def k_ref02_Check_r0 : List AOper := [
  ⟨some 1, .box (.tmp 0), none, []⟩,
 ⟨some 2, .move (.const (.int .i64 0)), none, []⟩]
def k_ref02_Check_r1 : List AOper := [
  ⟨some 7, .fieldAddr 0 (.tmp 1), none, []⟩,
 ⟨some 8, .load none (.tmp 7), none, []⟩,
 ⟨some 9, .fieldAddr 1 (.tmp 1), none, []⟩,
 ⟨some 10, .load none (.tmp 9), none, []⟩,
 ⟨some 11, .call (.const (.fn (.func 72) [] [])) [.tmp 8, .tmp 10], none, []⟩,
 ⟨some 3, .move (.tmp 11), none, []⟩]
def k_ref02_Check_r2 : List AOper := [
  ⟨some 12, .move (.tmp 3), none, []⟩,
 ⟨some 13, .bin .plain .neq (.tmp 12) (.const (.int .i64 0)), none, []⟩]
def k_ref02_Check_r3 : List AOper := [
  ⟨some 14, .move (.tmp 3), none, []⟩,
 ⟨some 2, .move (.tmp 14), none, []⟩]
def k_ref02_Check_r4 : List AOper := [
  ⟨some 15, .load (some (4)) (.tmp 1), none, []⟩,
 ⟨some 16, .fieldAddr 2 (.tmp 1), none, []⟩,
 ⟨some 17, .load none (.tmp 16), none, []⟩,
 ⟨some 18, .call (.const (.fn (.func 73) [] [])) [.tmp 15, .tmp 17], none, []⟩,
 ⟨some 19, .not (.tmp 18), none, []⟩,
 ⟨some 20, .move (.tmp 19), none, []⟩,
 ⟨some 21, .load (some (4)) (.tmp 1), (some (20, false)), []⟩,
 ⟨some 22, .fieldAddr 3 (.tmp 1), (some (20, false)), []⟩,
 ⟨some 23, .load none (.tmp 22), (some (20, false)), []⟩,
 ⟨some 24, .call (.const (.fn (.func 73) [] [])) [.tmp 21, .tmp 23], (some (20, false)), []⟩,
 ⟨some 25, .not (.tmp 24), (some (20, false)), []⟩,
 ⟨some 26, .pick (.tmp 20) (.const (.bool true)) (.tmp 25), none, []⟩]
def k_ref02_Check_r5 : List AOper := [
  ⟨some 2, .move (.const (.int .i64 3)), none, []⟩]
def k_ref02_Check_r6 : List AOper := [
  ⟨some 4, .move (.const (.int .i64 0)), none, []⟩]
def k_ref02_Check_r7 : List AOper := [
  ⟨some 27, .move (.tmp 4), none, []⟩,
 ⟨some 28, .fieldAddr 0 (.tmp 1), none, []⟩,
 ⟨some 29, .load none (.tmp 28), none, []⟩,
 ⟨some 30, .len false (.tmp 29), none, []⟩,
 ⟨some 31, .bin .plain .lss (.tmp 27) (.tmp 30), none, []⟩]
def k_ref02_Check_r8 : List AOper := [
  ⟨some 5, .move (.const (.int .i64 0)), none, []⟩]
def k_ref02_Check_r9 : List AOper := [
  ⟨some 34, .move (.tmp 5), none, []⟩,
 ⟨some 35, .fieldAddr 1 (.tmp 1), none, []⟩,
 ⟨some 36, .load none (.tmp 35), none, []⟩,
 ⟨some 37, .len false (.tmp 36), none, []⟩,
 ⟨some 38, .bin .plain .lss (.tmp 34) (.tmp 37), none, []⟩]
def k_ref02_Check_r10 : List AOper := [
  ⟨some 41, .load (some (4)) (.tmp 1), none, []⟩,
 ⟨some 42, .move (.tmp 4), none, []⟩,
 ⟨some 43, .move (.tmp 5), none, []⟩,
 ⟨some 44, .call (.const (.fn (.func 74) [] [])) [.tmp 41, .tmp 42, .tmp 43], none, []⟩,
 ⟨some 6, .move (.tmp 44), none, []⟩]
def k_ref02_Check_r11 : List AOper := [
  ⟨some 45, .move (.tmp 6), none, []⟩,
 ⟨some 46, .bin .plain .neq (.tmp 45) (.const (.int .i64 0)), none, []⟩]
def k_ref02_Check_r12 : List AOper := [
  ⟨some 47, .move (.tmp 6), none, []⟩,
 ⟨some 2, .move (.tmp 47), none, []⟩]
def k_ref02_Check_r13 : List AOper := [
  ⟨some 39, .move (.tmp 5), none, []⟩,
 ⟨some 40, .bin .plain .add (.tmp 39) (.const (.int .i64 1)), none, []⟩,
 ⟨some 5, .move (.tmp 40), none, []⟩]
def k_ref02_Check_r14 : ACode := (.seq (.seq (.reg k_ref02_Check_r9 false) (.cond (.tmp 38) .skip (.exit 2))) (.seq (.block 3 (.seq (.reg k_ref02_Check_r10 false) (.seq (.reg k_ref02_Check_r11 false) (.cond (.tmp 46) (.seq (.reg k_ref02_Check_r12 false) .ret) .skip)))) (.reg k_ref02_Check_r13 false)))
def k_ref02_Check_r15 : List AOper := [
  ⟨some 32, .move (.tmp 4), none, []⟩,
 ⟨some 33, .bin .plain .add (.tmp 32) (.const (.int .i64 1)), none, []⟩,
 ⟨some 4, .move (.tmp 33), none, []⟩]
def k_ref02_Check_r16 : ACode := (.seq (.seq (.reg k_ref02_Check_r7 false) (.cond (.tmp 31) .skip (.exit 0))) (.seq (.block 1 (.seq (.reg k_ref02_Check_r8 false) (.block 2 (.loop k_ref02_Check_r14)))) (.reg k_ref02_Check_r15 false)))
def k_ref02_Check_r17 : List AOper := [
  ⟨some 2, .move (.const (.int .i64 0)), none, []⟩]
def k_ref02_Check : AFun := { params := 1, ntmps := 48, body := (.seq (.reg k_ref02_Check_r0 false) (.seq (.seq (.reg k_ref02_Check_r1 false) (.seq (.reg k_ref02_Check_r2 false) (.cond (.tmp 13) (.seq (.reg k_ref02_Check_r3 false) .ret) .skip))) (.seq (.seq (.reg k_ref02_Check_r4 false) (.cond (.tmp 26) (.seq (.reg k_ref02_Check_r5 false) .ret) .skip)) (.seq (.seq (.reg k_ref02_Check_r6 false) (.block 0 (.loop k_ref02_Check_r16))) (.seq (.reg k_ref02_Check_r17 false) .ret))))), res := [.tmp 2] }
theorem k_ref02_Check_ok : cfun Try.prog Try.f28 = k_ref02_Check := by kernel_rfl

def k_curve_Same_r0 : List AOper := [
  ⟨some 2, .box (.tmp 0), none, []⟩,
 ⟨some 3, .box (.tmp 1), none, []⟩,
 ⟨some 4, .move (.const (.bool false)), none, []⟩]
def k_curve_Same_r1 : List AOper := [
  ⟨some 5, .fieldAddr 0 (.tmp 2), none, []⟩,
 ⟨some 6, .load none (.tmp 5), none, []⟩,
 ⟨some 7, .fieldAddr 0 (.tmp 3), none, []⟩,
 ⟨some 8, .load none (.tmp 7), none, []⟩,
 ⟨some 9, .call (.const (.fn (.func 75) [] [])) [.tmp 6, .tmp 8], none, []⟩,
 ⟨some 10, .move (.tmp 9), none, []⟩,
 ⟨some 11, .fieldAddr 1 (.tmp 2), (some (10, true)), []⟩,
 ⟨some 12, .load none (.tmp 11), (some (10, true)), []⟩,
 ⟨some 13, .fieldAddr 1 (.tmp 3), (some (10, true)), []⟩,
 ⟨some 14, .load none (.tmp 13), (some (10, true)), []⟩,
 ⟨some 15, .call (.const (.fn (.func 75) [] [])) [.tmp 12, .tmp 14], (some (10, true)), []⟩,
 ⟨some 16, .pick (.tmp 10) (.tmp 15) (.const (.bool false)), none, []⟩,
 ⟨some 17, .move (.tmp 16), none, []⟩,
 ⟨some 18, .fieldAddr 2 (.tmp 2), (some (17, true)), []⟩,
 ⟨some 19, .load none (.tmp 18), (some (17, true)), []⟩,
 ⟨some 20, .fieldAddr 2 (.tmp 3), (some (17, true)), []⟩,
 ⟨some 21, .load none (.tmp 20), (some (17, true)), []⟩,
 ⟨some 22, .call (.const (.fn (.func 76) [] [])) [.tmp 19, .tmp 21], (some (17, true)), []⟩,
 ⟨some 23, .pick (.tmp 17) (.tmp 22) (.const (.bool false)), none, []⟩,
 ⟨some 24, .move (.tmp 23), none, []⟩,
 ⟨some 25, .fieldAddr 3 (.tmp 2), (some (24, true)), []⟩,
 ⟨some 26, .load none (.tmp 25), (some (24, true)), []⟩,
 ⟨some 27, .fieldAddr 3 (.tmp 3), (some (24, true)), []⟩,
 ⟨some 28, .load none (.tmp 27), (some (24, true)), []⟩,
 ⟨some 29, .call (.const (.fn (.func 76) [] [])) [.tmp 26, .tmp 28], (some (24, true)), []⟩,
 ⟨some 30, .pick (.tmp 24) (.tmp 29) (.const (.bool false)), none, []⟩,
 ⟨some 4, .move (.tmp 30), none, []⟩]
def k_curve_Same : AFun := { params := 2, ntmps := 31, body := (.seq (.reg k_curve_Same_r0 false) (.seq (.reg k_curve_Same_r1 false) .ret)), res := [.tmp 4] }
theorem k_curve_Same_ok : cfun Try.prog Try.f29 = k_curve_Same := by kernel_rfl

def k_kit_Lines_r0 : List AOper := [
  ⟨some 8, .move (.const (.nilsl)), none, []⟩]
def k_kit_Lines_r1 : List AOper := [
  ⟨some 9, .move (.const (.nilsl)), none, []⟩]
def k_kit_Lines_r2 : List AOper := [
  ⟨some 13, .move (.tmp 0), none, []⟩,
 ⟨some 14, .move (.tmp 3), none, []⟩,
 ⟨some 15, .call (.const (.fn (.func 14) [] [])) [.tmp 13, .const (.int .i64 1), .tmp 14], none, []⟩,
 ⟨some 10, .move (.tmp 15), none, []⟩]
def k_kit_Lines_r3 : List AOper := [
  ⟨some 16, .move (.tmp 10), none, []⟩,
 ⟨some 17, .bin .plain .gtr (.tmp 16) (.const (.int .i64 0)), none, []⟩]
def k_kit_Lines_r4 : List AOper := [
  ⟨some 20, .move (.tmp 0), none, []⟩,
 ⟨some 21, .move (.tmp 1), none, []⟩,
 ⟨some 22, .move (.tmp 2), none, []⟩,
 ⟨some 23, .call (.const (.fn (.func 14) [] [])) [.tmp 20, .tmp 21, .tmp 22], none, []⟩,
 ⟨some 11, .move (.tmp 23), none, []⟩]
def k_kit_Lines_r5 : List AOper := [
  ⟨some 12, .move (.const (.int .i64 0)), none, []⟩]
def k_kit_Lines_r6 : List AOper := [
  ⟨some 24, .move (.tmp 12), none, []⟩,
 ⟨some 25, .move (.tmp 9), none, []⟩,
 ⟨some 26, .len false (.tmp 25), none, []⟩,
 ⟨some 27, .bin .plain .lss (.tmp 24) (.tmp 26), none, []⟩,
 ⟨some 28, .move (.tmp 27), none, []⟩,
 ⟨some 29, .move (.tmp 9), (some (28, true)), []⟩,
 ⟨some 30, .move (.tmp 12), (some (28, true)), []⟩,
 ⟨some 31, .indexAddr 1 (.tmp 29) (.tmp 30), (some (28, true)), []⟩,
 ⟨some 32, .load none (.tmp 31), (some (28, true)), []⟩,
 ⟨some 33, .move (.tmp 11), (some (28, true)), []⟩,
 ⟨some 34, .bin .plain .lss (.tmp 32) (.tmp 33), (some (28, true)), []⟩,
 ⟨some 35, .pick (.tmp 28) (.tmp 34) (.const (.bool false)), none, []⟩]
def k_kit_Lines_r7 : List AOper := [
  ⟨some 36, .move (.tmp 12), none, []⟩,
 ⟨some 37, .bin .plain .add (.tmp 36) (.const (.int .i64 1)), none, []⟩,
 ⟨some 12, .move (.tmp 37), none, []⟩]
def k_kit_Lines_r8 : ACode := (.seq (.seq (.reg k_kit_Lines_r6 false) (.cond (.tmp 35) .skip (.exit 2))) (.block 3 (.reg k_kit_Lines_r7 false)))
def k_kit_Lines_r9 : List AOper := [
  ⟨some 38, .move (.tmp 12), none, []⟩,
 ⟨some 39, .move (.tmp 9), none, []⟩,
 ⟨some 40, .len false (.tmp 39), none, []⟩,
 ⟨some 41, .bin .plain .eql (.tmp 38) (.tmp 40), none, []⟩,
 ⟨some 42, .move (.tmp 41), none, []⟩,
 ⟨some 43, .move (.tmp 9), (some (42, false)), []⟩,
 ⟨some 44, .move (.tmp 12), (some (42, false)), []⟩,
 ⟨some 45, .indexAddr 1 (.tmp 43) (.tmp 44), (some (42, false)), []⟩,
 ⟨some 46, .load none (.tmp 45), (some (42, false)), []⟩,
 ⟨some 47, .move (.tmp 11), (some (42, false)), []⟩,
 ⟨some 48, .bin .plain .neq (.tmp 46) (.tmp 47), (some (42, false)), []⟩,
 ⟨some 49, .pick (.tmp 42) (.const (.bool true)) (.tmp 48), none, []⟩]
def k_kit_Lines_r10 : List AOper := [
  ⟨some 50, .move (.tmp 9), none, []⟩,
 ⟨some 51, .move (.tmp 12), none, [0]⟩,
 ⟨some 52, .slice false 1 (.tmp 50) none (some (.tmp 51)), none, []⟩,
 ⟨some 53, .call (.const (.fn (.func 62) [] [])) [.tmp 52], none, []⟩,
 ⟨some 54, .move (.tmp 11), none, [0, 1, 2, 3]⟩,
 ⟨some 55, .buildSlice 1 [.tmp 54], none, [0, 1, 2, 3]⟩,
 ⟨some 56, .append 1 8 false (.tmp 53) (.tmp 55), none, []⟩,
 ⟨some 57, .move (.tmp 9), none, [0, 1, 2, 3, 4, 5, 6]⟩,
 ⟨some 58, .move (.tmp 12), none, [0, 1, 2, 3, 4, 5, 6, 7]⟩,
 ⟨some 59, .slice false 1 (.tmp 57) (some (.tmp 58)) none, none, [0, 1, 2, 3, 4, 5, 6]⟩,
 ⟨some 60, .append 1 8 false (.tmp 56) (.tmp 59), none, []⟩,
 ⟨some 9, .move (.tmp 60), none, []⟩]
def k_kit_Lines_r10s : List (List AOper) := [
  [
  ⟨some 50, .move (.tmp 9), none, []⟩,
 ⟨some 51, .move (.tmp 12), none, [0]⟩,
 ⟨some 52, .slice false 1 (.tmp 50) none (some (.tmp 51)), none, []⟩,
 ⟨some 53, .call (.const (.fn (.func 62) [] [])) [.tmp 52], none, []⟩,
 ⟨some 54, .move (.tmp 11), none, [0, 1, 2, 3]⟩,
 ⟨some 55, .buildSlice 1 [.tmp 54], none, [0, 1, 2, 3]⟩,
 ⟨some 56, .append 1 8 false (.tmp 53) (.tmp 55), none, []⟩,
 ⟨some 57, .move (.tmp 9), none, [0, 1, 2, 3, 4, 5, 6]⟩,
 ⟨some 58, .move (.tmp 12), none, [0, 1, 2, 3, 4, 5, 6, 7]⟩,
 ⟨some 59, .slice false 1 (.tmp 57) (some (.tmp 58)) none, none, [0, 1, 2, 3, 4, 5, 6]⟩], 
  [
  ⟨some 60, .append 1 8 false (.tmp 56) (.tmp 59), none, []⟩], 
  [
  ⟨some 9, .move (.tmp 60), none, []⟩]]
theorem k_kit_Lines_r10_sg : segs k_kit_Lines_r10 = k_kit_Lines_r10s := by kernel_rfl
theorem k_kit_Lines_r10_st : statOK k_kit_Lines_r10 = true := by kernel_rfl
def k_kit_Lines_r11 : List AOper := [
  ⟨some 18, .move (.tmp 10), none, []⟩,
 ⟨some 19, .bin .plain .sub (.tmp 18) (.const (.int .i64 1)), none, []⟩,
 ⟨some 10, .move (.tmp 19), none, []⟩]
def k_kit_Lines_r12 : ACode := (.seq (.seq (.reg k_kit_Lines_r3 false) (.cond (.tmp 17) .skip (.exit 0))) (.seq (.block 1 (.seq (.reg k_kit_Lines_r4 false) (.seq (.reg k_kit_Lines_r5 false) (.seq (.block 2 (.loop k_kit_Lines_r8)) (.seq (.reg k_kit_Lines_r9 false) (.cond (.tmp 49) (.reg k_kit_Lines_r10 true) .skip)))))) (.reg k_kit_Lines_r11 false)))
def k_kit_Lines_r13 : List AOper := [
  ⟨some 61, .move (.tmp 9), none, []⟩,
 ⟨some 8, .move (.tmp 61), none, []⟩]
def k_kit_Lines : AFun := { params := 4, ntmps := 62, body := (.seq (.reg k_kit_Lines_r0 false) (.seq (.reg k_kit_Lines_r1 false) (.seq (.seq (.reg k_kit_Lines_r2 false) (.block 0 (.loop k_kit_Lines_r12))) (.seq (.reg k_kit_Lines_r13 false) .ret)))), res := [.tmp 8] }
theorem k_kit_Lines_ok : cfun Try.prog Try.f48 = k_kit_Lines := by kernel_rfl

def k_ref02_right_r0 : List AOper := [
  ⟨some 4, .move (.const (.bool false)), none, []⟩]
def k_ref02_right_r1 : List AOper := [
  ⟨some 5, .move (.tmp 0), none, []⟩,
 ⟨some 6, .bin .plain .geq (.tmp 5) (.const (.int .i64 (-1000000))), none, []⟩,
 ⟨some 7, .move (.tmp 6), none, []⟩,
 ⟨some 8, .move (.tmp 0), (some (7, true)), []⟩,
 ⟨some 9, .bin .plain .leq (.tmp 8) (.const (.int .i64 1000000)), (some (7, true)), []⟩,
 ⟨some 10, .pick (.tmp 7) (.tmp 9) (.const (.bool false)), none, []⟩,
 ⟨some 11, .move (.tmp 10), none, []⟩,
 ⟨some 12, .move (.tmp 1), (some (11, true)), []⟩,
 ⟨some 13, .bin .plain .geq (.tmp 12) (.const (.int .i64 0)), (some (11, true)), []⟩,
 ⟨some 14, .pick (.tmp 11) (.tmp 13) (.const (.bool false)), none, []⟩,
 ⟨some 15, .move (.tmp 14), none, []⟩,
 ⟨some 16, .move (.tmp 1), (some (15, true)), []⟩,
 ⟨some 17, .bin .plain .leq (.tmp 16) (.const (.int .i64 1000000)), (some (15, true)), []⟩,
 ⟨some 18, .pick (.tmp 15) (.tmp 17) (.const (.bool false)), none, []⟩,
 ⟨some 4, .move (.tmp 18), none, []⟩]
def k_ref02_right : AFun := { params := 2, ntmps := 19, body := (.seq (.reg k_ref02_right_r0 false) (.seq (.reg k_ref02_right_r1 false) .ret)), res := [.tmp 4] }
theorem k_ref02_right_ok : cfun Try.prog Try.f56 = k_ref02_right := by kernel_rfl

def k_ref02_drive_r0 : List AOper := [
  ⟨some 3, .box (.tmp 0), none, []⟩,
 ⟨some 6, .box (.const (.agg [.int .i64 0, .int .i64 0])), none, []⟩]
def k_ref02_drive_r1 : List AOper := [
  ⟨some 7, .move (.tmp 1), none, []⟩,
 ⟨some 8, .fieldAddr 4 (.tmp 3), none, [0]⟩,
 ⟨some 9, .fieldAddr 0 (.tmp 8), none, [0]⟩,
 ⟨some 10, .load none (.tmp 9), none, [0]⟩,
 ⟨some 11, .bin .plain .add (.tmp 7) (.tmp 10), none, []⟩,
 ⟨some 12, .move (.tmp 2), none, [0, 1, 2, 3, 4]⟩,
 ⟨some 13, .bin .plain .mul (.const (.int .i64 1000)) (.tmp 12), none, [0, 1, 2, 3, 4]⟩,
 ⟨some 14, .fieldAddr 2 (.tmp 3), none, [0, 1, 2, 3, 4, 5, 6]⟩,
 ⟨some 15, .fieldAddr 1 (.tmp 14), none, [0, 1, 2, 3, 4, 5, 6]⟩,
 ⟨some 16, .load none (.tmp 15), none, [0, 1, 2, 3, 4, 5, 6]⟩,
 ⟨some 17, .call (.const (.fn (.func 87) [] [])) [.tmp 13, .tmp 16], none, [0, 1, 2, 3, 4]⟩,
 ⟨some 18, .bin .plain .add (.tmp 11) (.tmp 17), none, []⟩,
 ⟨some 19, .call (.const (.fn (.func 104) [] [])) [.tmp 18], none, []⟩,
 ⟨some 20, .move (.tmp 1), none, [0, 1, 2, 3, 4, 5, 6, 7, 8, 9, 10, 11, 12]⟩,
 ⟨some 21, .fieldAddr 4 (.tmp 3), none, [0, 1, 2, 3, 4, 5, 6, 7, 8, 9, 10, 11, 12, 13]⟩,
 ⟨some 22, .fieldAddr 1 (.tmp 21), none, [0, 1, 2, 3, 4, 5, 6, 7, 8, 9, 10, 11, 12, 13]⟩,
 ⟨some 23, .load none (.tmp 22), none, [0, 1, 2, 3, 4, 5, 6, 7, 8, 9, 10, 11, 12, 13]⟩,
 ⟨some 24, .bin .plain .add (.tmp 20) (.tmp 23), none, [0, 1, 2, 3, 4, 5, 6, 7, 8, 9, 10, 11, 12]⟩,
 ⟨some 25, .move (.tmp 2), none, [0, 1, 2, 3, 4, 5, 6, 7, 8, 9, 10, 11, 12, 13, 14, 15, 16, 17]⟩,
 ⟨some 26, .bin .plain .mul (.const (.int .i64 1000)) (.tmp 25), none, [0, 1, 2, 3, 4, 5, 6, 7, 8, 9, 10, 11, 12, 13, 14, 15, 16, 17]⟩,
 ⟨some 27, .fieldAddr 2 (.tmp 3), none, [0, 1, 2, 3, 4, 5, 6, 7, 8, 9, 10, 11, 12, 13, 14, 15, 16, 17, 18, 19]⟩,
 ⟨some 28, .fieldAddr 0 (.tmp 27), none, [0, 1, 2, 3, 4, 5, 6, 7, 8, 9, 10, 11, 12, 13, 14, 15, 16, 17, 18, 19]⟩,
 ⟨some 29, .load none (.tmp 28), none, [0, 1, 2, 3, 4, 5, 6, 7, 8, 9, 10, 11, 12, 13, 14, 15, 16, 17, 18, 19]⟩,
 ⟨some 30, .call (.const (.fn (.func 89) [] [])) [.tmp 26, .tmp 29], none, [13, 14, 15, 16, 17]⟩,
 ⟨some 31, .bin .plain .add (.tmp 24) (.tmp 30), none, []⟩,
 ⟨some 32, .call (.const (.fn (.func 104) [] [])) [.tmp 31], none, []⟩,
 ⟨some 33, .build [.int .i64 0, .int .i64 0] [(0, 1, .tmp 19), (1, 1, .tmp 32)], none, []⟩,
 ⟨none, .store 2 (.tmp 6) (.tmp 33), none, []⟩]
def k_ref02_drive_r1s : List (List AOper) := [
  [
  ⟨some 7, .move (.tmp 1), none, []⟩,
 ⟨some 8, .fieldAddr 4 (.tmp 3), none, [0]⟩,
 ⟨some 9, .fieldAddr 0 (.tmp 8), none, [0]⟩,
 ⟨some 10, .load none (.tmp 9), none, [0]⟩,
 ⟨some 11, .bin .plain .add (.tmp 7) (.tmp 10), none, []⟩,
 ⟨some 12, .move (.tmp 2), none, [0, 1, 2, 3, 4]⟩,
 ⟨some 13, .bin .plain .mul (.const (.int .i64 1000)) (.tmp 12), none, [0, 1, 2, 3, 4]⟩,
 ⟨some 14, .fieldAddr 2 (.tmp 3), none, [0, 1, 2, 3, 4, 5, 6]⟩,
 ⟨some 15, .fieldAddr 1 (.tmp 14), none, [0, 1, 2, 3, 4, 5, 6]⟩,
 ⟨some 16, .load none (.tmp 15), none, [0, 1, 2, 3, 4, 5, 6]⟩,
 ⟨some 17, .call (.const (.fn (.func 87) [] [])) [.tmp 13, .tmp 16], none, [0, 1, 2, 3, 4]⟩,
 ⟨some 18, .bin .plain .add (.tmp 11) (.tmp 17), none, []⟩,
 ⟨some 19, .call (.const (.fn (.func 104) [] [])) [.tmp 18], none, []⟩,
 ⟨some 20, .move (.tmp 1), none, [0, 1, 2, 3, 4, 5, 6, 7, 8, 9, 10, 11, 12]⟩,
 ⟨some 21, .fieldAddr 4 (.tmp 3), none, [0, 1, 2, 3, 4, 5, 6, 7, 8, 9, 10, 11, 12, 13]⟩,
 ⟨some 22, .fieldAddr 1 (.tmp 21), none, [0, 1, 2, 3, 4, 5, 6, 7, 8, 9, 10, 11, 12, 13]⟩,
 ⟨some 23, .load none (.tmp 22), none, [0, 1, 2, 3, 4, 5, 6, 7, 8, 9, 10, 11, 12, 13]⟩,
 ⟨some 24, .bin .plain .add (.tmp 20) (.tmp 23), none, [0, 1, 2, 3, 4, 5, 6, 7, 8, 9, 10, 11, 12]⟩,
 ⟨some 25, .move (.tmp 2), none, [0, 1, 2, 3, 4, 5, 6, 7, 8, 9, 10, 11, 12, 13, 14, 15, 16, 17]⟩,
 ⟨some 26, .bin .plain .mul (.const (.int .i64 1000)) (.tmp 25), none, [0, 1, 2, 3, 4, 5, 6, 7, 8, 9, 10, 11, 12, 13, 14, 15, 16, 17]⟩,
 ⟨some 27, .fieldAddr 2 (.tmp 3), none, [0, 1, 2, 3, 4, 5, 6, 7, 8, 9, 10, 11, 12, 13, 14, 15, 16, 17, 18, 19]⟩,
 ⟨some 28, .fieldAddr 0 (.tmp 27), none, [0, 1, 2, 3, 4, 5, 6, 7, 8, 9, 10, 11, 12, 13, 14, 15, 16, 17, 18, 19]⟩,
 ⟨some 29, .load none (.tmp 28), none, [0, 1, 2, 3, 4, 5, 6, 7, 8, 9, 10, 11, 12, 13, 14, 15, 16, 17, 18, 19]⟩,
 ⟨some 30, .call (.const (.fn (.func 89) [] [])) [.tmp 26, .tmp 29], none, [13, 14, 15, 16, 17]⟩], 
  [
  ⟨some 31, .bin .plain .add (.tmp 24) (.tmp 30), none, []⟩], 
  [
  ⟨some 32, .call (.const (.fn (.func 104) [] [])) [.tmp 31], none, []⟩], 
  [
  ⟨some 33, .build [.int .i64 0, .int .i64 0] [(0, 1, .tmp 19), (1, 1, .tmp 32)], none, []⟩], 
  [
  ⟨none, .store 2 (.tmp 6) (.tmp 33), none, []⟩]]
theorem k_ref02_drive_r1_sg : segs k_ref02_drive_r1 = k_ref02_drive_r1s := by kernel_rfl
theorem k_ref02_drive_r1_st : statOK k_ref02_drive_r1 = true := by kernel_rfl
def k_ref02_drive : AFun := { params := 3, ntmps := 34, body := (.seq (.reg k_ref02_drive_r0 false) (.seq (.reg k_ref02_drive_r1 true) .ret)), res := [.cell 6 (some ((some (2))))] }
theorem k_ref02_drive_ok : cfun Try.prog Try.f57 = k_ref02_drive := by kernel_rfl

def k_ref02_current_r0 : List AOper := [
  ⟨some 3, .box (.tmp 0), none, []⟩,
 ⟨some 6, .box (.const (.agg [.int .i64 0, .int .i64 0])), none, []⟩]
def k_ref02_current_r1 : List AOper := [
  ⟨some 10, .load (some (10)) (.tmp 3), none, []⟩,
 ⟨some 11, .move (.tmp 1), none, []⟩,
 ⟨some 12, .move (.tmp 2), none, []⟩,
 ⟨some 13, .call (.const (.fn (.func 57) [] [])) [.tmp 10, .tmp 11, .tmp 12], none, []⟩,
 ⟨some 7, .box (.const (.agg [.int .i64 0, .int .i64 0])), none, []⟩,
 ⟨none, .store 2 (.tmp 7) (.tmp 13), none, []⟩]
def k_ref02_current_r2 : List AOper := [
  ⟨some 14, .fieldAddr 0 (.tmp 3), none, []⟩,
 ⟨some 15, .fieldAddr 0 (.tmp 14), none, []⟩,
 ⟨some 16, .load none (.tmp 15), none, []⟩,
 ⟨some 17, .fieldAddr 0 (.tmp 7), none, [0, 1, 2]⟩,
 ⟨some 18, .load none (.tmp 17), none, [0, 1, 2]⟩,
 ⟨some 19, .fieldAddr 0 (.tmp 7), none, [0, 1, 2, 3, 4]⟩,
 ⟨some 20, .load none (.tmp 19), none, [0, 1, 2, 3, 4]⟩,
 ⟨some 21, .bin .plain .mul (.tmp 18) (.tmp 20), none, [0, 1, 2]⟩,
 ⟨some 22, .fieldAddr 0 (.tmp 7), none, [0, 1, 2, 3, 4, 5, 6, 7]⟩,
 ⟨some 23, .load none (.tmp 22), none, [0, 1, 2, 3, 4, 5, 6, 7]⟩,
 ⟨some 24, .bin .plain .mul (.tmp 21) (.tmp 23), none, [0, 1, 2]⟩,
 ⟨some 25, .call (.const (.fn (.func 107) [] [])) [.tmp 24], none, [0, 1, 2]⟩,
 ⟨some 26, .bin .plain .mul (.tmp 16) (.tmp 25), none, []⟩,
 ⟨some 27, .call (.const (.fn (.func 87) [] [])) [.tmp 26, .const (.int .i64 1000000)], none, []⟩,
 ⟨some 8, .move (.tmp 27), none, []⟩]
def k_ref02_current_r2s : List (List AOper) := [
  [
  ⟨some 14, .fieldAddr 0 (.tmp 3), none, []⟩,
 ⟨some 15, .fieldAddr 0 (.tmp 14), none, []⟩,
 ⟨some 16, .load none (.tmp 15), none, []⟩,
 ⟨some 17, .fieldAddr 0 (.tmp 7), none, [0, 1, 2]⟩,
 ⟨some 18, .load none (.tmp 17), none, [0, 1, 2]⟩,
 ⟨some 19, .fieldAddr 0 (.tmp 7), none, [0, 1, 2, 3, 4]⟩,
 ⟨some 20, .load none (.tmp 19), none, [0, 1, 2, 3, 4]⟩,
 ⟨some 21, .bin .plain .mul (.tmp 18) (.tmp 20), none, [0, 1, 2]⟩,
 ⟨some 22, .fieldAddr 0 (.tmp 7), none, [0, 1, 2, 3, 4, 5, 6, 7]⟩,
 ⟨some 23, .load none (.tmp 22), none, [0, 1, 2, 3, 4, 5, 6, 7]⟩,
 ⟨some 24, .bin .plain .mul (.tmp 21) (.tmp 23), none, [0, 1, 2]⟩,
 ⟨some 25, .call (.const (.fn (.func 107) [] [])) [.tmp 24], none, [0, 1, 2]⟩], 
  [
  ⟨some 26, .bin .plain .mul (.tmp 16) (.tmp 25), none, []⟩], 
  [
  ⟨some 27, .call (.const (.fn (.func 87) [] [])) [.tmp 26, .const (.int .i64 1000000)], none, []⟩], 
  [
  ⟨some 8, .move (.tmp 27), none, []⟩]]
theorem k_ref02_current_r2_sg : segs k_ref02_current_r2 = k_ref02_current_r2s := by kernel_rfl
theorem k_ref02_current_r2_st : statOK k_ref02_current_r2 = true := by kernel_rfl
def k_ref02_current_r3 : List AOper := [
  ⟨some 28, .fieldAddr 0 (.tmp 3), none, []⟩,
 ⟨some 29, .fieldAddr 1 (.tmp 28), none, []⟩,
 ⟨some 30, .load none (.tmp 29), none, []⟩,
 ⟨some 31, .fieldAddr 1 (.tmp 7), none, [0, 1, 2]⟩,
 ⟨some 32, .load none (.tmp 31), none, [0, 1, 2]⟩,
 ⟨some 33, .fieldAddr 1 (.tmp 7), none, [0, 1, 2, 3, 4]⟩,
 ⟨some 34, .load none (.tmp 33), none, [0, 1, 2, 3, 4]⟩,
 ⟨some 35, .bin .plain .mul (.tmp 32) (.tmp 34), none, [0, 1, 2]⟩,
 ⟨some 36, .fieldAddr 1 (.tmp 7), none, [0, 1, 2, 3, 4, 5, 6, 7]⟩,
 ⟨some 37, .load none (.tmp 36), none, [0, 1, 2, 3, 4, 5, 6, 7]⟩,
 ⟨some 38, .bin .plain .mul (.tmp 35) (.tmp 37), none, [0, 1, 2]⟩,
 ⟨some 39, .call (.const (.fn (.func 108) [] [])) [.tmp 38], none, [0, 1, 2]⟩,
 ⟨some 40, .bin .plain .mul (.tmp 30) (.tmp 39), none, []⟩,
 ⟨some 41, .call (.const (.fn (.func 89) [] [])) [.tmp 40, .const (.int .i64 1000000)], none, []⟩,
 ⟨some 9, .move (.tmp 41), none, []⟩]
def k_ref02_current_r3s : List (List AOper) := [
  [
  ⟨some 28, .fieldAddr 0 (.tmp 3), none, []⟩,
 ⟨some 29, .fieldAddr 1 (.tmp 28), none, []⟩,
 ⟨some 30, .load none (.tmp 29), none, []⟩,
 ⟨some 31, .fieldAddr 1 (.tmp 7), none, [0, 1, 2]⟩,
 ⟨some 32, .load none (.tmp 31), none, [0, 1, 2]⟩,
 ⟨some 33, .fieldAddr 1 (.tmp 7), none, [0, 1, 2, 3, 4]⟩,
 ⟨some 34, .load none (.tmp 33), none, [0, 1, 2, 3, 4]⟩,
 ⟨some 35, .bin .plain .mul (.tmp 32) (.tmp 34), none, [0, 1, 2]⟩,
 ⟨some 36, .fieldAddr 1 (.tmp 7), none, [0, 1, 2, 3, 4, 5, 6, 7]⟩,
 ⟨some 37, .load none (.tmp 36), none, [0, 1, 2, 3, 4, 5, 6, 7]⟩,
 ⟨some 38, .bin .plain .mul (.tmp 35) (.tmp 37), none, [0, 1, 2]⟩,
 ⟨some 39, .call (.const (.fn (.func 108) [] [])) [.tmp 38], none, [0, 1, 2]⟩], 
  [
  ⟨some 40, .bin .plain .mul (.tmp 30) (.tmp 39), none, []⟩], 
  [
  ⟨some 41, .call (.const (.fn (.func 89) [] [])) [.tmp 40, .const (.int .i64 1000000)], none, []⟩], 
  [
  ⟨some 9, .move (.tmp 41), none, []⟩]]
theorem k_ref02_current_r3_sg : segs k_ref02_current_r3 = k_ref02_current_r3s := by kernel_rfl
theorem k_ref02_current_r3_st : statOK k_ref02_current_r3 = true := by kernel_rfl
def k_ref02_current_r4 : List AOper := [
  ⟨some 42, .move (.tmp 8), none, []⟩,
 ⟨some 43, .fieldAddr 6 (.tmp 3), none, [0]⟩,
 ⟨some 44, .fieldAddr 0 (.tmp 43), none, [0]⟩,
 ⟨some 45, .load none (.tmp 44), none, [0]⟩,
 ⟨some 46, .minmax false [.tmp 42, .tmp 45], none, []⟩,
 ⟨some 47, .move (.tmp 9), none, [0, 1, 2, 3, 4]⟩,
 ⟨some 48, .fieldAddr 6 (.tmp 3), none, [0, 1, 2, 3, 4, 5]⟩,
 ⟨some 49, .fieldAddr 1 (.tmp 48), none, [0, 1, 2, 3, 4, 5]⟩,
 ⟨some 50, .load none (.tmp 49), none, [0, 1, 2, 3, 4, 5]⟩,
 ⟨some 51, .minmax false [.tmp 47, .tmp 50], none, [0, 1, 2, 3, 4]⟩,
 ⟨some 8, .move (.tmp 46), none, [5, 6, 7, 8, 9]⟩,
 ⟨some 9, .move (.tmp 51), none, []⟩]
def k_ref02_current_r4s : List (List AOper) := [
  [
  ⟨some 42, .move (.tmp 8), none, []⟩,
 ⟨some 43, .fieldAddr 6 (.tmp 3), none, [0]⟩,
 ⟨some 44, .fieldAddr 0 (.tmp 43), none, [0]⟩,
 ⟨some 45, .load none (.tmp 44), none, [0]⟩,
 ⟨some 46, .minmax false [.tmp 42, .tmp 45], none, []⟩,
 ⟨some 47, .move (.tmp 9), none, [0, 1, 2, 3, 4]⟩,
 ⟨some 48, .fieldAddr 6 (.tmp 3), none, [0, 1, 2, 3, 4, 5]⟩,
 ⟨some 49, .fieldAddr 1 (.tmp 48), none, [0, 1, 2, 3, 4, 5]⟩,
 ⟨some 50, .load none (.tmp 49), none, [0, 1, 2, 3, 4, 5]⟩,
 ⟨some 51, .minmax false [.tmp 47, .tmp 50], none, [0, 1, 2, 3, 4]⟩,
 ⟨some 8, .move (.tmp 46), none, [5, 6, 7, 8, 9]⟩], 
  [
  ⟨some 9, .move (.tmp 51), none, []⟩]]
theorem k_ref02_current_r4_sg : segs k_ref02_current_r4 = k_ref02_current_r4s := by kernel_rfl
theorem k_ref02_current_r4_st : statOK k_ref02_current_r4 = true := by kernel_rfl
def k_ref02_current_r5 : List AOper := [
  ⟨some 52, .fieldAddr 8 (.tmp 3), none, []⟩,
 ⟨some 53, .fieldAddr 0 (.tmp 52), none, []⟩,
 ⟨some 54, .load none (.tmp 53), none, []⟩,
 ⟨some 55, .move (.tmp 8), none, [0, 1, 2]⟩,
 ⟨some 56, .bin .plain .mul (.tmp 54) (.tmp 55), none, []⟩,
 ⟨some 57, .call (.const (.fn (.func 87) [] [])) [.tmp 56, .const (.int .i64 1000000)], none, []⟩,
 ⟨some 58, .fieldAddr 8 (.tmp 3), none, [0, 1, 2, 3, 4, 5]⟩,
 ⟨some 59, .fieldAddr 1 (.tmp 58), none, [0, 1, 2, 3, 4, 5]⟩,
 ⟨some 60, .load none (.tmp 59), none, [0, 1, 2, 3, 4, 5]⟩,
 ⟨some 61, .move (.tmp 9), none, [0, 1, 2, 3, 4, 5, 6, 7, 8]⟩,
 ⟨some 62, .bin .plain .mul (.tmp 60) (.tmp 61), none, [0, 1, 2, 3, 4, 5]⟩,
 ⟨some 63, .call (.const (.fn (.func 89) [] [])) [.tmp 62, .const (.int .i64 1000000)], none, []⟩,
 ⟨some 64, .build [.int .i64 0, .int .i64 0] [(0, 1, .tmp 57), (1, 1, .tmp 63)], none, []⟩,
 ⟨none, .store 2 (.tmp 6) (.tmp 64), none, []⟩]
def k_ref02_current_r5s : List (List AOper) := [
  [
  ⟨some 52, .fieldAddr 8 (.tmp 3), none, []⟩,
 ⟨some 53, .fieldAddr 0 (.tmp 52), none, []⟩,
 ⟨some 54, .load none (.tmp 53), none, []⟩,
 ⟨some 55, .move (.tmp 8), none, [0, 1, 2]⟩,
 ⟨some 56, .bin .plain .mul (.tmp 54) (.tmp 55), none, []⟩,
 ⟨some 57, .call (.const (.fn (.func 87) [] [])) [.tmp 56, .const (.int .i64 1000000)], none, []⟩,
 ⟨some 58, .fieldAddr 8 (.tmp 3), none, [0, 1, 2, 3, 4, 5]⟩,
 ⟨some 59, .fieldAddr 1 (.tmp 58), none, [0, 1, 2, 3, 4, 5]⟩,
 ⟨some 60, .load none (.tmp 59), none, [0, 1, 2, 3, 4, 5]⟩,
 ⟨some 61, .move (.tmp 9), none, [0, 1, 2, 3, 4, 5, 6, 7, 8]⟩,
 ⟨some 62, .bin .plain .mul (.tmp 60) (.tmp 61), none, [0, 1, 2, 3, 4, 5]⟩], 
  [
  ⟨some 63, .call (.const (.fn (.func 89) [] [])) [.tmp 62, .const (.int .i64 1000000)], none, []⟩], 
  [
  ⟨some 64, .build [.int .i64 0, .int .i64 0] [(0, 1, .tmp 57), (1, 1, .tmp 63)], none, []⟩], 
  [
  ⟨none, .store 2 (.tmp 6) (.tmp 64), none, []⟩]]
theorem k_ref02_current_r5_sg : segs k_ref02_current_r5 = k_ref02_current_r5s := by kernel_rfl
theorem k_ref02_current_r5_st : statOK k_ref02_current_r5 = true := by kernel_rfl
def k_ref02_current : AFun := { params := 3, ntmps := 65, body := (.seq (.reg k_ref02_current_r0 false) (.seq (.reg k_ref02_current_r1 false) (.seq (.reg k_ref02_current_r2 true) (.seq (.reg k_ref02_current_r3 true) (.seq (.reg k_ref02_current_r4 true) (.seq (.reg k_ref02_current_r5 true) .ret)))))), res := [.cell 6 (some ((some (2))))] }
theorem k_ref02_current_ok : cfun Try.prog Try.f59 = k_ref02_current := by kernel_rfl

def k_ref02_checkRange_r0 : List AOper := [
  ⟨some 3, .box (.tmp 0), none, []⟩,
 ⟨some 6, .move (.const (.int .i64 0)), none, []⟩]
def k_ref02_checkRange_r1 : List AOper := [
  ⟨some 7, .fieldAddr 0 (.tmp 3), none, []⟩,
 ⟨some 8, .load none (.tmp 7), none, []⟩,
 ⟨some 9, .fieldAddr 1 (.tmp 3), none, []⟩,
 ⟨some 10, .load none (.tmp 9), none, []⟩,
 ⟨some 11, .bin .plain .gtr (.tmp 8) (.tmp 10), none, []⟩]
def k_ref02_checkRange_r2 : List AOper := [
  ⟨some 6, .move (.const (.int .i64 11)), none, []⟩]
def k_ref02_checkRange_r3 : List AOper := [
  ⟨some 12, .fieldAddr 0 (.tmp 3), none, []⟩,
 ⟨some 13, .load none (.tmp 12), none, []⟩,
 ⟨some 14, .move (.tmp 1), none, []⟩,
 ⟨some 15, .bin .plain .lss (.tmp 13) (.tmp 14), none, []⟩,
 ⟨some 16, .move (.tmp 15), none, []⟩,
 ⟨some 17, .fieldAddr 1 (.tmp 3), (some (16, false)), []⟩,
 ⟨some 18, .load none (.tmp 17), (some (16, false)), []⟩,
 ⟨some 19, .move (.tmp 2), (some (16, false)), []⟩,
 ⟨some 20, .bin .plain .gtr (.tmp 18) (.tmp 19), (some (16, false)), []⟩,
 ⟨some 21, .pick (.tmp 16) (.const (.bool true)) (.tmp 20), none, []⟩]
def k_ref02_checkRange_r4 : List AOper := [
  ⟨some 6, .move (.const (.int .i64 2)), none, []⟩]
def k_ref02_checkRange_r5 : List AOper := [
  ⟨some 6, .move (.const (.int .i64 0)), none, []⟩]
def k_ref02_checkRange : AFun := { params := 3, ntmps := 22, body := (.seq (.reg k_ref02_checkRange_r0 false) (.seq (.seq (.reg k_ref02_checkRange_r1 false) (.cond (.tmp 11) (.seq (.reg k_ref02_checkRange_r2 false) .ret) .skip)) (.seq (.seq (.reg k_ref02_checkRange_r3 false) (.cond (.tmp 21) (.seq (.reg k_ref02_checkRange_r4 false) .ret) .skip)) (.seq (.reg k_ref02_checkRange_r5 false) .ret)))), res := [.tmp 6] }
theorem k_ref02_checkRange_ok : cfun Try.prog Try.f60 = k_ref02_checkRange := by kernel_rfl

def k_kit_Own_r0 : List AOper := [
  ⟨some 2, .move (.const (.nilsl)), none, []⟩]
def k_kit_Own_r1 : List AOper := [
  ⟨some 3, .buildSlice 1 [], none, []⟩,
 ⟨some 4, .move (.tmp 0), none, []⟩,
 ⟨some 5, .append 1 8 false (.tmp 3) (.tmp 4), none, []⟩,
 ⟨some 2, .move (.tmp 5), none, []⟩]
def k_kit_Own : AFun := { params := 1, ntmps := 6, body := (.seq (.reg k_kit_Own_r0 false) (.seq (.reg k_kit_Own_r1 false) .ret)), res := [.tmp 2] }
theorem k_kit_Own_ok : cfun Try.prog Try.f62 = k_kit_Own := by kernel_rfl

def k_ref02_Of_r0 : List AOper := [
  ⟨some 3, .box (.tmp 0), none, []⟩,
 ⟨some 6, .box (.const (.agg [.nilsl, .nilsl, .nilsl, .nilsl])), none, []⟩,
 ⟨some 7, .move (.const (.int .i64 0)), none, []⟩]
def k_ref02_Of_r1 : List AOper := [
  ⟨some 16, .load (some (10)) (.tmp 3), none, []⟩,
 ⟨some 17, .call (.const (.fn (.func 21) [] [])) [.tmp 16], none, []⟩,
 ⟨some 8, .move (.tmp 17), none, []⟩]
def k_ref02_Of_r2 : List AOper := [
  ⟨some 18, .move (.tmp 8), none, []⟩,
 ⟨some 19, .bin .plain .neq (.tmp 18) (.const (.int .i64 0)), none, []⟩]
def k_ref02_Of_r3 : List AOper := [
  ⟨some 20, .build [.nilsl, .nilsl, .nilsl, .nilsl] [], none, []⟩,
 ⟨some 21, .move (.tmp 8), none, []⟩,
 ⟨none, .store 4 (.tmp 6) (.tmp 20), none, []⟩,
 ⟨some 7, .move (.tmp 21), none, []⟩]
def k_ref02_Of_r4 : List AOper := [
  ⟨some 22, .move (.tmp 1), none, []⟩,
 ⟨some 23, .move (.tmp 2), none, []⟩,
 ⟨some 24, .call (.const (.fn (.func 72) [] [])) [.tmp 22, .tmp 23], none, []⟩,
 ⟨some 9, .move (.tmp 24), none, []⟩]
def k_ref02_Of_r5 : List AOper := [
  ⟨some 25, .move (.tmp 9), none, []⟩,
 ⟨some 26, .bin .plain .neq (.tmp 25) (.const (.int .i64 0)), none, []⟩]
def k_ref02_Of_r6 : List AOper := [
  ⟨some 27, .build [.nilsl, .nilsl, .nilsl, .nilsl] [], none, []⟩,
 ⟨some 28, .move (.tmp 9), none, []⟩,
 ⟨none, .store 4 (.tmp 6) (.tmp 27), none, []⟩,
 ⟨some 7, .move (.tmp 28), none, []⟩]
def k_ref02_Of_r7 : List AOper := [
  ⟨some 29, .move (.tmp 1), none, []⟩,
 ⟨some 30, .call (.const (.fn (.func 67) [] [])) [.tmp 29], none, []⟩,
 ⟨some 31, .move (.tmp 2), none, []⟩,
 ⟨some 32, .call (.const (.fn (.func 67) [] [])) [.tmp 31], none, []⟩,
 ⟨some 33, .build [.nilsl, .nilsl, .nilsl, .nilsl] [(0, 1, .tmp 30), (1, 1, .tmp 32)], none, []⟩,
 ⟨some 10, .box (.const (.agg [.nilsl, .nilsl, .nilsl, .nilsl])), none, []⟩,
 ⟨none, .store 4 (.tmp 10) (.tmp 33), none, []⟩]
def k_ref02_Of_r8 : List AOper := [
  ⟨some 11, .move (.const (.int .i64 0)), none, []⟩]
def k_ref02_Of_r9 : List AOper := [
  ⟨some 34, .move (.tmp 11), none, []⟩,
 ⟨some 35, .move (.tmp 1), none, []⟩,
 ⟨some 36, .len false (.tmp 35), none, []⟩,
 ⟨some 37, .bin .plain .lss (.tmp 34) (.tmp 36), none, []⟩]
def k_ref02_Of_r10 : List AOper := [
  ⟨some 12, .move (.const (.nilsl)), none, []⟩,
 ⟨some 13, .move (.const (.nilsl)), none, []⟩]
def k_ref02_Of_r11 : List AOper := [
  ⟨some 14, .move (.const (.int .i64 0)), none, []⟩]
def k_ref02_Of_r12 : List AOper := [
  ⟨some 40, .move (.tmp 14), none, []⟩,
 ⟨some 41, .move (.tmp 2), none, []⟩,
 ⟨some 42, .len false (.tmp 41), none, []⟩,
 ⟨some 43, .bin .plain .lss (.tmp 40) (.tmp 42), none, []⟩]
def k_ref02_Of_r13 : List AOper := [
  ⟨some 46, .load (some (10)) (.tmp 3), none, []⟩,
 ⟨some 47, .move (.tmp 1), none, [0]⟩,
 ⟨some 48, .move (.tmp 11), none, [0, 1]⟩,
 ⟨some 49, .indexAddr 1 (.tmp 47) (.tmp 48), none, [0]⟩,
 ⟨some 50, .load none (.tmp 49), none, [0]⟩,
 ⟨some 51, .move (.tmp 2), none, [0, 1, 2, 3, 4]⟩,
 ⟨some 52, .move (.tmp 14), none, [0, 1, 2, 3, 4, 5]⟩,
 ⟨some 53, .indexAddr 1 (.tmp 51) (.tmp 52), none, [0, 1, 2, 3, 4]⟩,
 ⟨some 54, .load none (.tmp 53), none, [0, 1, 2, 3, 4]⟩,
 ⟨some 55, .call (.const (.fn (.func 59) [] [])) [.tmp 46, .tmp 50, .tmp 54], none, []⟩,
 ⟨some 15, .box (.const (.agg [.int .i64 0, .int .i64 0])), none, [0, 1, 2, 3, 4, 5, 6, 7, 8, 9]⟩,
 ⟨none, .store 2 (.tmp 15) (.tmp 55), none, []⟩]
def k_ref02_Of_r13s : List (List AOper) := [
  [
  ⟨some 46, .load (some (10)) (.tmp 3), none, []⟩,
 ⟨some 47, .move (.tmp 1), none, [0]⟩,
 ⟨some 48, .move (.tmp 11), none, [0, 1]⟩,
 ⟨some 49, .indexAddr 1 (.tmp 47) (.tmp 48), none, [0]⟩,
 ⟨some 50, .load none (.tmp 49), none, [0]⟩,
 ⟨some 51, .move (.tmp 2), none, [0, 1, 2, 3, 4]⟩,
 ⟨some 52, .move (.tmp 14), none, [0, 1, 2, 3, 4, 5]⟩,
 ⟨some 53, .indexAddr 1 (.tmp 51) (.tmp 52), none, [0, 1, 2, 3, 4]⟩,
 ⟨some 54, .load none (.tmp 53), none, [0, 1, 2, 3, 4]⟩,
 ⟨some 55, .call (.const (.fn (.func 59) [] [])) [.tmp 46, .tmp 50, .tmp 54], none, []⟩,
 ⟨some 15, .box (.const (.agg [.int .i64 0, .int .i64 0])), none, [0, 1, 2, 3, 4, 5, 6, 7, 8, 9]⟩], 
  [
  ⟨none, .store 2 (.tmp 15) (.tmp 55), none, []⟩]]
theorem k_ref02_Of_r13_sg : segs k_ref02_Of_r13 = k_ref02_Of_r13s := by kernel_rfl
theorem k_ref02_Of_r13_st : statOK k_ref02_Of_r13 = true := by kernel_rfl
def k_ref02_Of_r14 : List AOper := [
  ⟨some 56, .move (.tmp 12), none, []⟩,
 ⟨some 57, .fieldAddr 0 (.tmp 15), none, [0]⟩,
 ⟨some 58, .load none (.tmp 57), none, [0]⟩,
 ⟨some 59, .buildSlice 1 [.tmp 58], none, [0]⟩,
 ⟨some 60, .append 1 8 false (.tmp 56) (.tmp 59), none, []⟩,
 ⟨some 61, .move (.tmp 13), none, [0, 1, 2, 3, 4]⟩,
 ⟨some 62, .fieldAddr 1 (.tmp 15), none, [0, 1, 2, 3, 4, 5]⟩,
 ⟨some 63, .load none (.tmp 62), none, [0, 1, 2, 3, 4, 5]⟩,
 ⟨some 64, .buildSlice 1 [.tmp 63], none, [0, 1, 2, 3, 4, 5]⟩,
 ⟨some 65, .append 1 8 false (.tmp 61) (.tmp 64), none, []⟩,
 ⟨some 12, .move (.tmp 60), none, []⟩,
 ⟨some 13, .move (.tmp 65), none, []⟩]
def k_ref02_Of_r14s : List (List AOper) := [
  [
  ⟨some 56, .move (.tmp 12), none, []⟩,
 ⟨some 57, .fieldAddr 0 (.tmp 15), none, [0]⟩,
 ⟨some 58, .load none (.tmp 57), none, [0]⟩,
 ⟨some 59, .buildSlice 1 [.tmp 58], none, [0]⟩,
 ⟨some 60, .append 1 8 false (.tmp 56) (.tmp 59), none, []⟩,
 ⟨some 61, .move (.tmp 13), none, [0, 1, 2, 3, 4]⟩,
 ⟨some 62, .fieldAddr 1 (.tmp 15), none, [0, 1, 2, 3, 4, 5]⟩,
 ⟨some 63, .load none (.tmp 62), none, [0, 1, 2, 3, 4, 5]⟩,
 ⟨some 64, .buildSlice 1 [.tmp 63], none, [0, 1, 2, 3, 4, 5]⟩], 
  [
  ⟨some 65, .append 1 8 false (.tmp 61) (.tmp 64), none, []⟩], 
  [
  ⟨some 12, .move (.tmp 60), none, []⟩], 
  [
  ⟨some 13, .move (.tmp 65), none, []⟩]]
theorem k_ref02_Of_r14_sg : segs k_ref02_Of_r14 = k_ref02_Of_r14s := by kernel_rfl
theorem k_ref02_Of_r14_st : statOK k_ref02_Of_r14 = true := by kernel_rfl
def k_ref02_Of_r15 : List AOper := [
  ⟨some 44, .move (.tmp 14), none, []⟩,
 ⟨some 45, .bin .plain .add (.tmp 44) (.const (.int .i64 1)), none, []⟩,
 ⟨some 14, .move (.tmp 45), none, []⟩]
def k_ref02_Of_r16 : ACode := (.seq (.seq (.reg k_ref02_Of_r12 false) (.cond (.tmp 43) .skip (.exit 2))) (.seq (.block 3 (.seq (.reg k_ref02_Of_r13 true) (.reg k_ref02_Of_r14 true))) (.reg k_ref02_Of_r15 false)))
def k_ref02_Of_r17 : List AOper := [
  ⟨some 66, .fieldAddr 2 (.tmp 10), none, []⟩,
 ⟨some 67, .load none (.tmp 66), none, []⟩,
 ⟨some 68, .move (.tmp 12), none, [0, 1]⟩,
 ⟨some 69, .buildSlice 1 [.tmp 68], none, [0, 1]⟩,
 ⟨some 70, .append 1 24 false (.tmp 67) (.tmp 69), none, []⟩,
 ⟨some 71, .fieldAddr 3 (.tmp 10), none, [0, 1, 2, 3, 4]⟩,
 ⟨some 72, .load none (.tmp 71), none, [0, 1, 2, 3, 4]⟩,
 ⟨some 73, .move (.tmp 13), none, [0, 1, 2, 3, 4, 5, 6]⟩,
 ⟨some 74, .buildSlice 1 [.tmp 73], none, [0, 1, 2, 3, 4, 5, 6]⟩,
 ⟨some 75, .append 1 24 false (.tmp 72) (.tmp 74), none, []⟩,
 ⟨some 76, .fieldAddr 2 (.tmp 10), none, [7, 8, 9]⟩,
 ⟨none, .store 1 (.tmp 76) (.tmp 70), none, []⟩,
 ⟨some 77, .fieldAddr 3 (.tmp 10), none, []⟩,
 ⟨none, .store 1 (.tmp 77) (.tmp 75), none, []⟩]
def k_ref02_Of_r17s : List (List AOper) := [
  [
  ⟨some 66, .fieldAddr 2 (.tmp 10), none, []⟩,
 ⟨some 67, .load none (.tmp 66), none, []⟩,
 ⟨some 68, .move (.tmp 12), none, [0, 1]⟩,
 ⟨some 69, .buildSlice 1 [.tmp 68], none, [0, 1]⟩,
 ⟨some 70, .append 1 24 false (.tmp 67) (.tmp 69), none, []⟩,
 ⟨some 71, .fieldAddr 3 (.tmp 10), none, [0, 1, 2, 3, 4]⟩,
 ⟨some 72, .load none (.tmp 71), none, [0, 1, 2, 3, 4]⟩,
 ⟨some 73, .move (.tmp 13), none, [0, 1, 2, 3, 4, 5, 6]⟩,
 ⟨some 74, .buildSlice 1 [.tmp 73], none, [0, 1, 2, 3, 4, 5, 6]⟩,
 ⟨some 75, .append 1 24 false (.tmp 72) (.tmp 74), none, []⟩,
 ⟨some 76, .fieldAddr 2 (.tmp 10), none, [7, 8, 9]⟩], 
  [
  ⟨none, .store 1 (.tmp 76) (.tmp 70), none, []⟩], 
  [
  ⟨some 77, .fieldAddr 3 (.tmp 10), none, []⟩], 
  [
  ⟨none, .store 1 (.tmp 77) (.tmp 75), none, []⟩]]
theorem k_ref02_Of_r17_sg : segs k_ref02_Of_r17 = k_ref02_Of_r17s := by kernel_rfl
theorem k_ref02_Of_r17_st : statOK k_ref02_Of_r17 = true := by kernel_rfl
def k_ref02_Of_r18 : List AOper := [
  ⟨some 38, .move (.tmp 11), none, []⟩,
 ⟨some 39, .bin .plain .add (.tmp 38) (.const (.int .i64 1)), none, []⟩,
 ⟨some 11, .move (.tmp 39), none, []⟩]
def k_ref02_Of_r19 : ACode := (.seq (.seq (.reg k_ref02_Of_r9 false) (.cond (.tmp 37) .skip (.exit 0))) (.seq (.block 1 (.seq (.reg k_ref02_Of_r10 false) (.seq (.seq (.reg k_ref02_Of_r11 false) (.block 2 (.loop k_ref02_Of_r16))) (.reg k_ref02_Of_r17 true)))) (.reg k_ref02_Of_r18 false)))
def k_ref02_Of_r20 : List AOper := [
  ⟨some 78, .load (some (4)) (.tmp 10), none, []⟩,
 ⟨none, .store 4 (.tmp 6) (.tmp 78), none, []⟩,
 ⟨some 7, .move (.const (.int .i64 0)), none, []⟩]
def k_ref02_Of : AFun := { params := 3, ntmps := 79, body := (.seq (.reg k_ref02_Of_r0 false) (.seq (.seq (.reg k_ref02_Of_r1 false) (.seq (.reg k_ref02_Of_r2 false) (.cond (.tmp 19) (.seq (.reg k_ref02_Of_r3 false) .ret) .skip))) (.seq (.seq (.reg k_ref02_Of_r4 false) (.seq (.reg k_ref02_Of_r5 false) (.cond (.tmp 26) (.seq (.reg k_ref02_Of_r6 false) .ret) .skip))) (.seq (.reg k_ref02_Of_r7 false) (.seq (.seq (.reg k_ref02_Of_r8 false) (.block 0 (.loop k_ref02_Of_r19))) (.seq (.reg k_ref02_Of_r20 false) .ret)))))), res := [.cell 6 (some ((some (4)))), .tmp 7] }
theorem k_ref02_Of_ok : cfun Try.prog Try.f63 = k_ref02_Of := by kernel_rfl

def k_ref02_ints_r0 : List AOper := [
  ⟨some 2, .move (.const (.nilsl)), none, []⟩]
def k_ref02_ints_r1 : List AOper := [
  ⟨some 3, .move (.tmp 0), none, []⟩,
 ⟨some 4, .append 1 8 false (.const (.nilsl)) (.tmp 3), none, []⟩,
 ⟨some 2, .move (.tmp 4), none, []⟩]
def k_ref02_ints : AFun := { params := 1, ntmps := 5, body := (.seq (.reg k_ref02_ints_r0 false) (.seq (.reg k_ref02_ints_r1 false) .ret)), res := [.tmp 2] }
theorem k_ref02_ints_ok : cfun Try.prog Try.f67 = k_ref02_ints := by kernel_rfl

def k_ref02_checkLines_r0 : List AOper := [
  ⟨some 4, .move (.const (.int .i64 0)), none, []⟩]
def k_ref02_checkLines_r1 : List AOper := [
  ⟨some 7, .move (.tmp 0), none, []⟩,
 ⟨some 8, .len false (.tmp 7), none, []⟩,
 ⟨some 9, .bin .plain .eql (.tmp 8) (.const (.int .i64 0)), none, []⟩,
 ⟨some 10, .move (.tmp 9), none, []⟩,
 ⟨some 11, .move (.tmp 1), (some (10, false)), []⟩,
 ⟨some 12, .len false (.tmp 11), (some (10, false)), []⟩,
 ⟨some 13, .bin .plain .eql (.tmp 12) (.const (.int .i64 0)), (some (10, false)), []⟩,
 ⟨some 14, .pick (.tmp 10) (.const (.bool true)) (.tmp 13), none, []⟩]
def k_ref02_checkLines_r2 : List AOper := [
  ⟨some 4, .move (.const (.int .i64 6)), none, []⟩]
def k_ref02_checkLines_r3 : List AOper := [
  ⟨some 15, .move (.tmp 0), none, []⟩,
 ⟨some 16, .len false (.tmp 15), none, []⟩,
 ⟨some 17, .bin .plain .gtr (.tmp 16) (.const (.int .i64 40)), none, []⟩,
 ⟨some 18, .move (.tmp 17), none, []⟩,
 ⟨some 19, .move (.tmp 1), (some (18, false)), []⟩,
 ⟨some 20, .len false (.tmp 19), (some (18, false)), []⟩,
 ⟨some 21, .bin .plain .gtr (.tmp 20) (.const (.int .i64 40)), (some (18, false)), []⟩,
 ⟨some 22, .pick (.tmp 18) (.const (.bool true)) (.tmp 21), none, []⟩]
def k_ref02_checkLines_r4 : List AOper := [
  ⟨some 4, .move (.const (.int .i64 8)), none, []⟩]
def k_ref02_checkLines_r5 : List AOper := [
  ⟨some 5, .move (.const (.int .i64 0)), none, []⟩]
def k_ref02_checkLines_r6 : List AOper := [
  ⟨some 23, .move (.tmp 5), none, []⟩,
 ⟨some 24, .move (.tmp 0), none, []⟩,
 ⟨some 25, .len false (.tmp 24), none, []⟩,
 ⟨some 26, .bin .plain .lss (.tmp 23) (.tmp 25), none, []⟩]
def k_ref02_checkLines_r7 : List AOper := [
  ⟨some 29, .move (.tmp 0), none, []⟩,
 ⟨some 30, .move (.tmp 5), none, []⟩,
 ⟨some 31, .indexAddr 1 (.tmp 29) (.tmp 30), none, []⟩,
 ⟨some 32, .load none (.tmp 31), none, []⟩,
 ⟨some 33, .call (.const (.fn (.func 56) [] [])) [.tmp 32, .const (.int .i64 0)], none, []⟩,
 ⟨some 34, .not (.tmp 33), none, []⟩]
def k_ref02_checkLines_r8 : List AOper := [
  ⟨some 4, .move (.const (.int .i64 2)), none, []⟩]
def k_ref02_checkLines_r9 : List AOper := [
  ⟨some 35, .move (.tmp 5), none, []⟩,
 ⟨some 36, .bin .plain .gtr (.tmp 35) (.const (.int .i64 0)), none, []⟩,
 ⟨some 37, .move (.tmp 36), none, []⟩,
 ⟨some 38, .move (.tmp 0), (some (37, true)), []⟩,
 ⟨some 39, .move (.tmp 5), (some (37, true)), [3]⟩,
 ⟨some 40, .indexAddr 1 (.tmp 38) (.tmp 39), (some (37, true)), []⟩,
 ⟨some 41, .load none (.tmp 40), (some (37, true)), []⟩,
 ⟨some 42, .move (.tmp 0), (some (37, true)), [3, 4, 5, 6]⟩,
 ⟨some 43, .move (.tmp 5), (some (37, true)), [3, 4, 5, 6, 7]⟩,
 ⟨some 44, .bin .plain .sub (.tmp 43) (.const (.int .i64 1)), (some (37, true)), [3, 4, 5, 6, 7]⟩,
 ⟨some 45, .indexAddr 1 (.tmp 42) (.tmp 44), (some (37, true)), [3, 4, 5, 6]⟩,
 ⟨some 46, .load none (.tmp 45), (some (37, true)), [3, 4, 5, 6]⟩,
 ⟨some 47, .bin .plain .leq (.tmp 41) (.tmp 46), (some (37, true)), []⟩,
 ⟨some 48, .pick (.tmp 37) (.tmp 47) (.const (.bool false)), none, []⟩]
def k_ref02_checkLines_r9s : List (List AOper) := [
  [
  ⟨some 35, .move (.tmp 5), none, []⟩], 
  [
  ⟨some 36, .bin .plain .gtr (.tmp 35) (.const (.int .i64 0)), none, []⟩], 
  [
  ⟨some 37, .move (.tmp 36), none, []⟩], 
  [
  ⟨some 38, .move (.tmp 0), (some (37, true)), []⟩,
 ⟨some 39, .move (.tmp 5), (some (37, true)), [3]⟩,
 ⟨some 40, .indexAddr 1 (.tmp 38) (.tmp 39), (some (37, true)), []⟩,
 ⟨some 41, .load none (.tmp 40), (some (37, true)), []⟩,
 ⟨some 42, .move (.tmp 0), (some (37, true)), [3, 4, 5, 6]⟩,
 ⟨some 43, .move (.tmp 5), (some (37, true)), [3, 4, 5, 6, 7]⟩,
 ⟨some 44, .bin .plain .sub (.tmp 43) (.const (.int .i64 1)), (some (37, true)), [3, 4, 5, 6, 7]⟩,
 ⟨some 45, .indexAddr 1 (.tmp 42) (.tmp 44), (some (37, true)), [3, 4, 5, 6]⟩,
 ⟨some 46, .load none (.tmp 45), (some (37, true)), [3, 4, 5, 6]⟩], 
  [
  ⟨some 47, .bin .plain .leq (.tmp 41) (.tmp 46), (some (37, true)), []⟩], 
  [
  ⟨some 48, .pick (.tmp 37) (.tmp 47) (.const (.bool false)), none, []⟩]]
theorem k_ref02_checkLines_r9_sg : segs k_ref02_checkLines_r9 = k_ref02_checkLines_r9s := by kernel_rfl
theorem k_ref02_checkLines_r9_st : statOK k_ref02_checkLines_r9 = true := by kernel_rfl
def k_ref02_checkLines_r10 : List AOper := [
  ⟨some 4, .move (.const (.int .i64 11)), none, []⟩]
def k_ref02_checkLines_r11 : List AOper := [
  ⟨some 27, .move (.tmp 5), none, []⟩,
 ⟨some 28, .bin .plain .add (.tmp 27) (.const (.int .i64 1)), none, []⟩,
 ⟨some 5, .move (.tmp 28), none, []⟩]
def k_ref02_checkLines_r12 : ACode := (.seq (.seq (.reg k_ref02_checkLines_r6 false) (.cond (.tmp 26) .skip (.exit 0))) (.seq (.block 1 (.seq (.seq (.reg k_ref02_checkLines_r7 false) (.cond (.tmp 34) (.seq (.reg k_ref02_checkLines_r8 false) .ret) .skip)) (.seq (.reg k_ref02_checkLines_r9 true) (.cond (.tmp 48) (.seq (.reg k_ref02_checkLines_r10 false) .ret) .skip)))) (.reg k_ref02_checkLines_r11 false)))
def k_ref02_checkLines_r13 : List AOper := [
  ⟨some 6, .move (.const (.int .i64 0)), none, []⟩]
def k_ref02_checkLines_r14 : List AOper := [
  ⟨some 49, .move (.tmp 6), none, []⟩,
 ⟨some 50, .move (.tmp 1), none, []⟩,
 ⟨some 51, .len false (.tmp 50), none, []⟩,
 ⟨some 52, .bin .plain .lss (.tmp 49) (.tmp 51), none, []⟩]
def k_ref02_checkLines_r15 : List AOper := [
  ⟨some 55, .move (.tmp 1), none, []⟩,
 ⟨some 56, .move (.tmp 6), none, []⟩,
 ⟨some 57, .indexAddr 1 (.tmp 55) (.tmp 56), none, []⟩,
 ⟨some 58, .load none (.tmp 57), none, []⟩,
 ⟨some 59, .call (.const (.fn (.func 56) [] [])) [.const (.int .i64 0), .tmp 58], none, []⟩,
 ⟨some 60, .not (.tmp 59), none, []⟩]
def k_ref02_checkLines_r16 : List AOper := [
  ⟨some 4, .move (.const (.int .i64 2)), none, []⟩]
def k_ref02_checkLines_r17 : List AOper := [
  ⟨some 61, .move (.tmp 6), none, []⟩,
 ⟨some 62, .bin .plain .gtr (.tmp 61) (.const (.int .i64 0)), none, []⟩,
 ⟨some 63, .move (.tmp 62), none, []⟩,
 ⟨some 64, .move (.tmp 1), (some (63, true)), []⟩,
 ⟨some 65, .move (.tmp 6), (some (63, true)), [3]⟩,
 ⟨some 66, .indexAddr 1 (.tmp 64) (.tmp 65), (some (63, true)), []⟩,
 ⟨some 67, .load none (.tmp 66), (some (63, true)), []⟩,
 ⟨some 68, .move (.tmp 1), (some (63, true)), [3, 4, 5, 6]⟩,
 ⟨some 69, .move (.tmp 6), (some (63, true)), [3, 4, 5, 6, 7]⟩,
 ⟨some 70, .bin .plain .sub (.tmp 69) (.const (.int .i64 1)), (some (63, true)), [3, 4, 5, 6, 7]⟩,
 ⟨some 71, .indexAddr 1 (.tmp 68) (.tmp 70), (some (63, true)), [3, 4, 5, 6]⟩,
 ⟨some 72, .load none (.tmp 71), (some (63, true)), [3, 4, 5, 6]⟩,
 ⟨some 73, .bin .plain .leq (.tmp 67) (.tmp 72), (some (63, true)), []⟩,
 ⟨some 74, .pick (.tmp 63) (.tmp 73) (.const (.bool false)), none, []⟩]
def k_ref02_checkLines_r17s : List (List AOper) := [
  [
  ⟨some 61, .move (.tmp 6), none, []⟩], 
  [
  ⟨some 62, .bin .plain .gtr (.tmp 61) (.const (.int .i64 0)), none, []⟩], 
  [
  ⟨some 63, .move (.tmp 62), none, []⟩], 
  [
  ⟨some 64, .move (.tmp 1), (some (63, true)), []⟩,
 ⟨some 65, .move (.tmp 6), (some (63, true)), [3]⟩,
 ⟨some 66, .indexAddr 1 (.tmp 64) (.tmp 65), (some (63, true)), []⟩,
 ⟨some 67, .load none (.tmp 66), (some (63, true)), []⟩,
 ⟨some 68, .move (.tmp 1), (some (63, true)), [3, 4, 5, 6]⟩,
 ⟨some 69, .move (.tmp 6), (some (63, true)), [3, 4, 5, 6, 7]⟩,
 ⟨some 70, .bin .plain .sub (.tmp 69) (.const (.int .i64 1)), (some (63, true)), [3, 4, 5, 6, 7]⟩,
 ⟨some 71, .indexAddr 1 (.tmp 68) (.tmp 70), (some (63, true)), [3, 4, 5, 6]⟩,
 ⟨some 72, .load none (.tmp 71), (some (63, true)), [3, 4, 5, 6]⟩], 
  [
  ⟨some 73, .bin .plain .leq (.tmp 67) (.tmp 72), (some (63, true)), []⟩], 
  [
  ⟨some 74, .pick (.tmp 63) (.tmp 73) (.const (.bool false)), none, []⟩]]
theorem k_ref02_checkLines_r17_sg : segs k_ref02_checkLines_r17 = k_ref02_checkLines_r17s := by kernel_rfl
theorem k_ref02_checkLines_r17_st : statOK k_ref02_checkLines_r17 = true := by kernel_rfl
def k_ref02_checkLines_r18 : List AOper := [
  ⟨some 4, .move (.const (.int .i64 11)), none, []⟩]
def k_ref02_checkLines_r19 : List AOper := [
  ⟨some 53, .move (.tmp 6), none, []⟩,
 ⟨some 54, .bin .plain .add (.tmp 53) (.const (.int .i64 1)), none, []⟩,
 ⟨some 6, .move (.tmp 54), none, []⟩]
def k_ref02_checkLines_r20 : ACode := (.seq (.seq (.reg k_ref02_checkLines_r14 false) (.cond (.tmp 52) .skip (.exit 2))) (.seq (.block 3 (.seq (.seq (.reg k_ref02_checkLines_r15 false) (.cond (.tmp 60) (.seq (.reg k_ref02_checkLines_r16 false) .ret) .skip)) (.seq (.reg k_ref02_checkLines_r17 true) (.cond (.tmp 74) (.seq (.reg k_ref02_checkLines_r18 false) .ret) .skip)))) (.reg k_ref02_checkLines_r19 false)))
def k_ref02_checkLines_r21 : List AOper := [
  ⟨some 4, .move (.const (.int .i64 0)), none, []⟩]
def k_ref02_checkLines : AFun := { params := 2, ntmps := 75, body := (.seq (.reg k_ref02_checkLines_r0 false) (.seq (.seq (.reg k_ref02_checkLines_r1 false) (.cond (.tmp 14) (.seq (.reg k_ref02_checkLines_r2 false) .ret) .skip)) (.seq (.seq (.reg k_ref02_checkLines_r3 false) (.cond (.tmp 22) (.seq (.reg k_ref02_checkLines_r4 false) .ret) .skip)) (.seq (.seq (.reg k_ref02_checkLines_r5 false) (.block 0 (.loop k_ref02_checkLines_r12))) (.seq (.seq (.reg k_ref02_checkLines_r13 false) (.block 2 (.loop k_ref02_checkLines_r20))) (.seq (.reg k_ref02_checkLines_r21 false) .ret)))))), res := [.tmp 4] }
theorem k_ref02_checkLines_ok : cfun Try.prog Try.f72 = k_ref02_checkLines := by kernel_rfl

def k_ref02_formed_r0 : List AOper := [
  ⟨some 2, .box (.tmp 0), none, []⟩,
 ⟨some 4, .move (.const (.bool false)), none, []⟩]
def k_ref02_formed_r1 : List AOper := [
  ⟨some 6, .move (.tmp 1), none, []⟩,
 ⟨some 7, .len false (.tmp 6), none, []⟩,
 ⟨some 8, .fieldAddr 0 (.tmp 2), none, []⟩,
 ⟨some 9, .load none (.tmp 8), none, []⟩,
 ⟨some 10, .len false (.tmp 9), none, []⟩,
 ⟨some 11, .bin .plain .neq (.tmp 7) (.tmp 10), none, []⟩]
def k_ref02_formed_r2 : List AOper := [
  ⟨some 4, .move (.const (.bool false)), none, []⟩]
def k_ref02_formed_r3 : List AOper := [
  ⟨some 5, .move (.const (.int .i64 0)), none, []⟩]
def k_ref02_formed_r4 : List AOper := [
  ⟨some 12, .move (.tmp 5), none, []⟩,
 ⟨some 13, .move (.tmp 1), none, []⟩,
 ⟨some 14, .len false (.tmp 13), none, []⟩,
 ⟨some 15, .bin .plain .lss (.tmp 12) (.tmp 14), none, []⟩]
def k_ref02_formed_r5 : List AOper := [
  ⟨some 18, .move (.tmp 1), none, []⟩,
 ⟨some 19, .move (.tmp 5), none, [0]⟩,
 ⟨some 20, .indexAddr 1 (.tmp 18) (.tmp 19), none, []⟩,
 ⟨some 21, .load none (.tmp 20), none, []⟩,
 ⟨some 22, .len false (.tmp 21), none, []⟩,
 ⟨some 23, .fieldAddr 1 (.tmp 2), none, [0, 1, 2, 3, 4]⟩,
 ⟨some 24, .load none (.tmp 23), none, [0, 1, 2, 3, 4]⟩,
 ⟨some 25, .len false (.tmp 24), none, [0, 1, 2, 3, 4]⟩,
 ⟨some 26, .bin .plain .neq (.tmp 22) (.tmp 25), none, []⟩]
def k_ref02_formed_r5s : List (List AOper) := [
  [
  ⟨some 18, .move (.tmp 1), none, []⟩,
 ⟨some 19, .move (.tmp 5), none, [0]⟩,
 ⟨some 20, .indexAddr 1 (.tmp 18) (.tmp 19), none, []⟩,
 ⟨some 21, .load none (.tmp 20), none, []⟩,
 ⟨some 22, .len false (.tmp 21), none, []⟩,
 ⟨some 23, .fieldAddr 1 (.tmp 2), none, [0, 1, 2, 3, 4]⟩,
 ⟨some 24, .load none (.tmp 23), none, [0, 1, 2, 3, 4]⟩,
 ⟨some 25, .len false (.tmp 24), none, [0, 1, 2, 3, 4]⟩], 
  [
  ⟨some 26, .bin .plain .neq (.tmp 22) (.tmp 25), none, []⟩]]
theorem k_ref02_formed_r5_sg : segs k_ref02_formed_r5 = k_ref02_formed_r5s := by kernel_rfl
theorem k_ref02_formed_r5_st : statOK k_ref02_formed_r5 = true := by kernel_rfl
def k_ref02_formed_r6 : List AOper := [
  ⟨some 4, .move (.const (.bool false)), none, []⟩]
def k_ref02_formed_r7 : List AOper := [
  ⟨some 16, .move (.tmp 5), none, []⟩,
 ⟨some 17, .bin .plain .add (.tmp 16) (.const (.int .i64 1)), none, []⟩,
 ⟨some 5, .move (.tmp 17), none, []⟩]
def k_ref02_formed_r8 : ACode := (.seq (.seq (.reg k_ref02_formed_r4 false) (.cond (.tmp 15) .skip (.exit 0))) (.seq (.block 1 (.seq (.reg k_ref02_formed_r5 true) (.cond (.tmp 26) (.seq (.reg k_ref02_formed_r6 false) .ret) .skip))) (.reg k_ref02_formed_r7 false)))
def k_ref02_formed_r9 : List AOper := [
  ⟨some 4, .move (.const (.bool true)), none, []⟩]
def k_ref02_formed : AFun := { params := 2, ntmps := 27, body := (.seq (.reg k_ref02_formed_r0 false) (.seq (.seq (.reg k_ref02_formed_r1 false) (.cond (.tmp 11) (.seq (.reg k_ref02_formed_r2 false) .ret) .skip)) (.seq (.seq (.reg k_ref02_formed_r3 false) (.block 0 (.loop k_ref02_formed_r8))) (.seq (.reg k_ref02_formed_r9 false) .ret)))), res := [.tmp 4] }
theorem k_ref02_formed_ok : cfun Try.prog Try.f73 = k_ref02_formed := by kernel_rfl

def k_ref02_checkPlace_r0 : List AOper := [
  ⟨some 3, .box (.tmp 0), none, []⟩,
 ⟨some 6, .move (.const (.int .i64 0)), none, []⟩]
def k_ref02_checkPlace_r1 : List AOper := [
  ⟨some 9, .fieldAddr 2 (.tmp 3), none, []⟩,
 ⟨some 10, .load none (.tmp 9), none, []⟩,
 ⟨some 11, .move (.tmp 1), none, [0, 1]⟩,
 ⟨some 12, .indexAddr 1 (.tmp 10) (.tmp 11), none, []⟩,
 ⟨some 13, .load none (.tmp 12), none, []⟩,
 ⟨some 14, .move (.tmp 2), none, [0, 1, 2, 3, 4]⟩,
 ⟨some 15, .indexAddr 1 (.tmp 13) (.tmp 14), none, []⟩,
 ⟨some 16, .load none (.tmp 15), none, []⟩,
 ⟨some 17, .fieldAddr 3 (.tmp 3), none, [0, 1, 2, 3, 4, 5, 6, 7]⟩,
 ⟨some 18, .load none (.tmp 17), none, [0, 1, 2, 3, 4, 5, 6, 7]⟩,
 ⟨some 19, .move (.tmp 1), none, [0, 1, 2, 3, 4, 5, 6, 7, 8, 9]⟩,
 ⟨some 20, .indexAddr 1 (.tmp 18) (.tmp 19), none, [0, 1, 2, 3, 4, 5, 6, 7]⟩,
 ⟨some 21, .load none (.tmp 20), none, [0, 1, 2, 3, 4, 5, 6, 7]⟩,
 ⟨some 22, .move (.tmp 2), none, [0, 1, 2, 3, 4, 5, 6, 7, 8, 9, 10, 11, 12]⟩,
 ⟨some 23, .indexAddr 1 (.tmp 21) (.tmp 22), none, [0, 1, 2, 3, 4, 5, 6, 7]⟩,
 ⟨some 24, .load none (.tmp 23), none, [0, 1, 2, 3, 4, 5, 6, 7]⟩,
 ⟨some 7, .move (.tmp 16), none, [8, 9, 10, 11, 12, 13, 14, 15]⟩,
 ⟨some 8, .move (.tmp 24), none, []⟩]
def k_ref02_checkPlace_r1s : List (List AOper) := [
  [
  ⟨some 9, .fieldAddr 2 (.tmp 3), none, []⟩,
 ⟨some 10, .load none (.tmp 9), none, []⟩,
 ⟨some 11, .move (.tmp 1), none, [0, 1]⟩,
 ⟨some 12, .indexAddr 1 (.tmp 10) (.tmp 11), none, []⟩,
 ⟨some 13, .load none (.tmp 12), none, []⟩,
 ⟨some 14, .move (.tmp 2), none, [0, 1, 2, 3, 4]⟩,
 ⟨some 15, .indexAddr 1 (.tmp 13) (.tmp 14), none, []⟩,
 ⟨some 16, .load none (.tmp 15), none, []⟩,
 ⟨some 17, .fieldAddr 3 (.tmp 3), none, [0, 1, 2, 3, 4, 5, 6, 7]⟩,
 ⟨some 18, .load none (.tmp 17), none, [0, 1, 2, 3, 4, 5, 6, 7]⟩,
 ⟨some 19, .move (.tmp 1), none, [0, 1, 2, 3, 4, 5, 6, 7, 8, 9]⟩,
 ⟨some 20, .indexAddr 1 (.tmp 18) (.tmp 19), none, [0, 1, 2, 3, 4, 5, 6, 7]⟩,
 ⟨some 21, .load none (.tmp 20), none, [0, 1, 2, 3, 4, 5, 6, 7]⟩,
 ⟨some 22, .move (.tmp 2), none, [0, 1, 2, 3, 4, 5, 6, 7, 8, 9, 10, 11, 12]⟩,
 ⟨some 23, .indexAddr 1 (.tmp 21) (.tmp 22), none, [0, 1, 2, 3, 4, 5, 6, 7]⟩,
 ⟨some 24, .load none (.tmp 23), none, [0, 1, 2, 3, 4, 5, 6, 7]⟩,
 ⟨some 7, .move (.tmp 16), none, [8, 9, 10, 11, 12, 13, 14, 15]⟩], 
  [
  ⟨some 8, .move (.tmp 24), none, []⟩]]
theorem k_ref02_checkPlace_r1_sg : segs k_ref02_checkPlace_r1 = k_ref02_checkPlace_r1s := by kernel_rfl
theorem k_ref02_checkPlace_r1_st : statOK k_ref02_checkPlace_r1 = true := by kernel_rfl
def k_ref02_checkPlace_r2 : List AOper := [
  ⟨some 25, .move (.tmp 7), none, []⟩,
 ⟨some 26, .bin .plain .lss (.tmp 25) (.const (.int .i64 0)), none, []⟩,
 ⟨some 27, .move (.tmp 26), none, []⟩,
 ⟨some 28, .move (.tmp 7), (some (27, false)), []⟩,
 ⟨some 29, .bin .plain .gtr (.tmp 28) (.const (.int .i64 1000000)), (some (27, false)), []⟩,
 ⟨some 30, .pick (.tmp 27) (.const (.bool true)) (.tmp 29), none, []⟩,
 ⟨some 31, .move (.tmp 30), none, []⟩,
 ⟨some 32, .move (.tmp 8), (some (31, false)), []⟩,
 ⟨some 33, .bin .plain .lss (.tmp 32) (.const (.int .i64 0)), (some (31, false)), []⟩,
 ⟨some 34, .pick (.tmp 31) (.const (.bool true)) (.tmp 33), none, []⟩,
 ⟨some 35, .move (.tmp 34), none, []⟩,
 ⟨some 36, .move (.tmp 8), (some (35, false)), []⟩,
 ⟨some 37, .bin .plain .gtr (.tmp 36) (.const (.int .i64 1000000)), (some (35, false)), []⟩,
 ⟨some 38, .pick (.tmp 35) (.const (.bool true)) (.tmp 37), none, []⟩]
def k_ref02_checkPlace_r3 : List AOper := [
  ⟨some 6, .move (.const (.int .i64 2)), none, []⟩]
def k_ref02_checkPlace_r4 : List AOper := [
  ⟨some 39, .move (.tmp 7), none, []⟩,
 ⟨some 40, .move (.tmp 8), none, []⟩,
 ⟨some 41, .bin .plain .gtr (.tmp 39) (.tmp 40), none, []⟩]
def k_ref02_checkPlace_r5 : List AOper := [
  ⟨some 6, .move (.const (.int .i64 12)), none, []⟩]
def k_ref02_checkPlace_r6 : List AOper := [
  ⟨some 42, .fieldAddr 2 (.tmp 3), none, []⟩,
 ⟨some 43, .load none (.tmp 42), none, []⟩,
 ⟨some 44, .move (.tmp 1), none, []⟩,
 ⟨some 45, .move (.tmp 2), none, []⟩,
 ⟨some 46, .call (.const (.fn (.func 112) [] [])) [.tmp 43, .tmp 44, .tmp 45], none, []⟩,
 ⟨some 47, .move (.tmp 46), none, []⟩,
 ⟨some 48, .fieldAddr 3 (.tmp 3), (some (47, false)), []⟩,
 ⟨some 49, .load none (.tmp 48), (some (47, false)), []⟩,
 ⟨some 50, .move (.tmp 1), (some (47, false)), []⟩,
 ⟨some 51, .move (.tmp 2), (some (47, false)), []⟩,
 ⟨some 52, .call (.const (.fn (.func 112) [] [])) [.tmp 49, .tmp 50, .tmp 51], (some (47, false)), []⟩,
 ⟨some 53, .pick (.tmp 47) (.const (.bool true)) (.tmp 52), none, []⟩]
def k_ref02_checkPlace_r7 : List AOper := [
  ⟨some 6, .move (.const (.int .i64 11)), none, []⟩]
def k_ref02_checkPlace_r8 : List AOper := [
  ⟨some 6, .move (.const (.int .i64 0)), none, []⟩]
def k_ref02_checkPlace : AFun := { params := 3, ntmps := 54, body := (.seq (.reg k_ref02_checkPlace_r0 false) (.seq (.reg k_ref02_checkPlace_r1 true) (.seq (.seq (.reg k_ref02_checkPlace_r2 false) (.cond (.tmp 38) (.seq (.reg k_ref02_checkPlace_r3 false) .ret) .skip)) (.seq (.seq (.reg k_ref02_checkPlace_r4 false) (.cond (.tmp 41) (.seq (.reg k_ref02_checkPlace_r5 false) .ret) .skip)) (.seq (.seq (.reg k_ref02_checkPlace_r6 false) (.cond (.tmp 53) (.seq (.reg k_ref02_checkPlace_r7 false) .ret) .skip)) (.seq (.reg k_ref02_checkPlace_r8 false) .ret)))))), res := [.tmp 6] }
theorem k_ref02_checkPlace_ok : cfun Try.prog Try.f74 = k_ref02_checkPlace := by kernel_rfl

def k_slices_Equal_int_int_r0 : List AOper := [
  ⟨some 4, .move (.const (.bool false)), none, []⟩]
def k_slices_Equal_int_int_r1 : List AOper := [
  ⟨some 6, .move (.tmp 0), none, []⟩,
 ⟨some 7, .len false (.tmp 6), none, []⟩,
 ⟨some 8, .move (.tmp 1), none, []⟩,
 ⟨some 9, .len false (.tmp 8), none, []⟩,
 ⟨some 10, .bin .plain .neq (.tmp 7) (.tmp 9), none, []⟩]
def k_slices_Equal_int_int_r2 : List AOper := [
  ⟨some 4, .move (.const (.bool false)), none, []⟩]
def k_slices_Equal_int_int_r3 : List AOper := [
  ⟨some 11, .move (.tmp 0), none, []⟩,
 ⟨some 12, .len false (.tmp 11), none, []⟩,
 ⟨some 13, .move (.const (.int .i64 0)), none, []⟩]
def k_slices_Equal_int_int_r4 : List AOper := [
  ⟨some 14, .bin .plain .lss (.tmp 13) (.tmp 12), none, []⟩]
def k_slices_Equal_int_int_r5 : List AOper := [
  ⟨some 15, .move (.tmp 13), none, []⟩,
 ⟨some 5, .move (.tmp 15), none, []⟩]
def k_slices_Equal_int_int_r6 : List AOper := [
  ⟨some 16, .move (.tmp 0), none, []⟩,
 ⟨some 17, .move (.tmp 5), none, [0]⟩,
 ⟨some 18, .indexAddr 1 (.tmp 16) (.tmp 17), none, []⟩,
 ⟨some 19, .load none (.tmp 18), none, []⟩,
 ⟨some 20, .move (.tmp 1), none, [0, 1, 2, 3]⟩,
 ⟨some 21, .move (.tmp 5), none, [0, 1, 2, 3, 4]⟩,
 ⟨some 22, .indexAddr 1 (.tmp 20) (.tmp 21), none, [0, 1, 2, 3]⟩,
 ⟨some 23, .load none (.tmp 22), none, [0, 1, 2, 3]⟩,
 ⟨some 24, .bin .plain .neq (.tmp 19) (.tmp 23), none, []⟩]
def k_slices_Equal_int_int_r6s : List (List AOper) := [
  [
  ⟨some 16, .move (.tmp 0), none, []⟩,
 ⟨some 17, .move (.tmp 5), none, [0]⟩,
 ⟨some 18, .indexAddr 1 (.tmp 16) (.tmp 17), none, []⟩,
 ⟨some 19, .load none (.tmp 18), none, []⟩,
 ⟨some 20, .move (.tmp 1), none, [0, 1, 2, 3]⟩,
 ⟨some 21, .move (.tmp 5), none, [0, 1, 2, 3, 4]⟩,
 ⟨some 22, .indexAddr 1 (.tmp 20) (.tmp 21), none, [0, 1, 2, 3]⟩,
 ⟨some 23, .load none (.tmp 22), none, [0, 1, 2, 3]⟩], 
  [
  ⟨some 24, .bin .plain .neq (.tmp 19) (.tmp 23), none, []⟩]]
theorem k_slices_Equal_int_int_r6_sg : segs k_slices_Equal_int_int_r6 = k_slices_Equal_int_int_r6s := by kernel_rfl
theorem k_slices_Equal_int_int_r6_st : statOK k_slices_Equal_int_int_r6 = true := by kernel_rfl
def k_slices_Equal_int_int_r7 : List AOper := [
  ⟨some 4, .move (.const (.bool false)), none, []⟩]
def k_slices_Equal_int_int_r8 : List AOper := [
  ⟨some 25, .bin .plain .add (.tmp 13) (.const (.int .i64 1)), none, []⟩,
 ⟨some 13, .move (.tmp 25), none, []⟩]
def k_slices_Equal_int_int_r9 : ACode := (.seq (.reg k_slices_Equal_int_int_r4 false) (.seq (.cond (.tmp 14) .skip (.exit 0)) (.seq (.block 1 (.seq (.reg k_slices_Equal_int_int_r5 false) (.seq (.reg k_slices_Equal_int_int_r6 true) (.cond (.tmp 24) (.seq (.reg k_slices_Equal_int_int_r7 false) .ret) .skip)))) (.reg k_slices_Equal_int_int_r8 false))))
def k_slices_Equal_int_int_r10 : List AOper := [
  ⟨some 4, .move (.const (.bool true)), none, []⟩]
def k_slices_Equal_int_int : AFun := { params := 2, ntmps := 26, body := (.seq (.reg k_slices_Equal_int_int_r0 false) (.seq (.seq (.reg k_slices_Equal_int_int_r1 false) (.cond (.tmp 10) (.seq (.reg k_slices_Equal_int_int_r2 false) .ret) .skip)) (.seq (.seq (.reg k_slices_Equal_int_int_r3 false) (.block 0 (.loop k_slices_Equal_int_int_r9))) (.seq (.reg k_slices_Equal_int_int_r10 false) .ret)))), res := [.tmp 4] }
theorem k_slices_Equal_int_int_ok : cfun Try.prog Try.f75 = k_slices_Equal_int_int := by kernel_rfl

def k_curve_sameTable_r0 : List AOper := [
  ⟨some 4, .move (.const (.bool false)), none, []⟩]
def k_curve_sameTable_r1 : List AOper := [
  ⟨some 5, .move (.tmp 0), none, []⟩,
 ⟨some 6, .move (.tmp 1), none, []⟩,
 ⟨some 7, .call (.const (.fn (.func 113) [] [])) [.tmp 5, .tmp 6, .const (.fn (.func 75) [] [])], none, []⟩,
 ⟨some 4, .move (.tmp 7), none, []⟩]
def k_curve_sameTable : AFun := { params := 2, ntmps := 8, body := (.seq (.reg k_curve_sameTable_r0 false) (.seq (.reg k_curve_sameTable_r1 false) .ret)), res := [.tmp 4] }
theorem k_curve_sameTable_ok : cfun Try.prog Try.f76 = k_curve_sameTable := by kernel_rfl

def k_ref02_down_r0 : List AOper := [
  ⟨some 4, .move (.const (.int .i64 0)), none, []⟩]
def k_ref02_down_r1 : List AOper := [
  ⟨some 6, .move (.tmp 0), none, []⟩,
 ⟨some 7, .move (.tmp 1), none, []⟩,
 ⟨some 8, .bin .plain .quo (.tmp 6) (.tmp 7), none, []⟩,
 ⟨some 5, .move (.tmp 8), none, []⟩]
def k_ref02_down_r2 : List AOper := [
  ⟨some 9, .move (.tmp 0), none, []⟩,
 ⟨some 10, .move (.tmp 1), none, []⟩,
 ⟨some 11, .bin .plain .rem (.tmp 9) (.tmp 10), none, []⟩,
 ⟨some 12, .bin .plain .lss (.tmp 11) (.const (.int .i64 0)), none, []⟩]
def k_ref02_down_r3 : List AOper := [
  ⟨some 13, .move (.tmp 5), none, []⟩,
 ⟨some 14, .bin .plain .sub (.tmp 13) (.const (.int .i64 1)), none, []⟩,
 ⟨some 5, .move (.tmp 14), none, []⟩]
def k_ref02_down_r4 : List AOper := [
  ⟨some 15, .move (.tmp 5), none, []⟩,
 ⟨some 4, .move (.tmp 15), none, []⟩]
def k_ref02_down : AFun := { params := 2, ntmps := 16, body := (.seq (.reg k_ref02_down_r0 false) (.seq (.reg k_ref02_down_r1 false) (.seq (.seq (.reg k_ref02_down_r2 false) (.cond (.tmp 12) (.reg k_ref02_down_r3 false) .skip)) (.seq (.reg k_ref02_down_r4 false) .ret)))), res := [.tmp 4] }
theorem k_ref02_down_ok : cfun Try.prog Try.f87 = k_ref02_down := by kernel_rfl

def k_ref02_up_r0 : List AOper := [
  ⟨some 4, .move (.const (.int .i64 0)), none, []⟩]
def k_ref02_up_r1 : List AOper := [
  ⟨some 5, .move (.tmp 0), none, []⟩,
 ⟨some 6, .neg (.tmp 5), none, []⟩,
 ⟨some 7, .move (.tmp 1), none, []⟩,
 ⟨some 8, .call (.const (.fn (.func 87) [] [])) [.tmp 6, .tmp 7], none, []⟩,
 ⟨some 9, .neg (.tmp 8), none, []⟩,
 ⟨some 4, .move (.tmp 9), none, []⟩]
def k_ref02_up : AFun := { params := 2, ntmps := 10, body := (.seq (.reg k_ref02_up_r0 false) (.seq (.reg k_ref02_up_r1 false) .ret)), res := [.tmp 4] }
theorem k_ref02_up_ok : cfun Try.prog Try.f89 = k_ref02_up := by kernel_rfl

def k_ref02_cut_r0 : List AOper := [
  ⟨some 2, .move (.const (.int .i64 0)), none, []⟩]
def k_ref02_cut_r1 : List AOper := [
  ⟨some 3, .move (.tmp 0), none, []⟩,
 ⟨some 4, .minmax false [.tmp 3, .const (.int .i64 1000000)], none, []⟩,
 ⟨some 5, .minmax true [.const (.int .i64 0), .tmp 4], none, []⟩,
 ⟨some 2, .move (.tmp 5), none, []⟩]
def k_ref02_cut : AFun := { params := 1, ntmps := 6, body := (.seq (.reg k_ref02_cut_r0 false) (.seq (.reg k_ref02_cut_r1 false) .ret)), res := [.tmp 2] }
theorem k_ref02_cut_ok : cfun Try.prog Try.f104 = k_ref02_cut := by kernel_rfl

def k_ref02_root_r0 : List AOper := [
  ⟨some 2, .move (.const (.int .i64 0)), none, []⟩]
def k_ref02_root_r1 : List AOper := [
  ⟨some 3, .move (.const (.int .i64 0)), none, []⟩,
 ⟨some 4, .move (.const (.int .i64 3000000000)), none, []⟩]
def k_ref02_root_r2 : List AOper := [
  ⟨some 6, .move (.tmp 3), none, []⟩,
 ⟨some 7, .move (.tmp 4), none, []⟩,
 ⟨some 8, .bin .plain .lss (.tmp 6) (.tmp 7), none, []⟩]
def k_ref02_root_r3 : List AOper := [
  ⟨some 9, .move (.tmp 3), none, []⟩,
 ⟨some 10, .move (.tmp 4), none, []⟩,
 ⟨some 11, .bin .plain .add (.tmp 9) (.tmp 10), none, []⟩,
 ⟨some 12, .bin .plain .add (.tmp 11) (.const (.int .i64 1)), none, []⟩,
 ⟨some 13, .bin .plain .quo (.tmp 12) (.const (.int .i64 2)), none, []⟩,
 ⟨some 5, .move (.tmp 13), none, []⟩]
def k_ref02_root_r4 : List AOper := [
  ⟨some 14, .move (.tmp 5), none, []⟩,
 ⟨some 15, .move (.tmp 0), none, []⟩,
 ⟨some 16, .move (.tmp 5), none, []⟩,
 ⟨some 17, .bin .plain .quo (.tmp 15) (.tmp 16), none, []⟩,
 ⟨some 18, .bin .plain .leq (.tmp 14) (.tmp 17), none, []⟩]
def k_ref02_root_r5 : List AOper := [
  ⟨some 19, .move (.tmp 5), none, []⟩,
 ⟨some 3, .move (.tmp 19), none, []⟩]
def k_ref02_root_r6 : List AOper := [
  ⟨some 20, .move (.tmp 5), none, []⟩,
 ⟨some 21, .bin .plain .sub (.tmp 20) (.const (.int .i64 1)), none, []⟩,
 ⟨some 4, .move (.tmp 21), none, []⟩]
def k_ref02_root_r7 : ACode := (.seq (.seq (.reg k_ref02_root_r2 false) (.cond (.tmp 8) .skip (.exit 0))) (.block 1 (.seq (.reg k_ref02_root_r3 false) (.seq (.reg k_ref02_root_r4 false) (.cond (.tmp 18) (.reg k_ref02_root_r5 false) (.reg k_ref02_root_r6 false))))))
def k_ref02_root_r8 : List AOper := [
  ⟨some 22, .move (.tmp 3), none, []⟩,
 ⟨some 2, .move (.tmp 22), none, []⟩]
def k_ref02_root : AFun := { params := 1, ntmps := 23, body := (.seq (.reg k_ref02_root_r0 false) (.seq (.reg k_ref02_root_r1 false) (.seq (.block 0 (.loop k_ref02_root_r7)) (.seq (.reg k_ref02_root_r8 false) .ret)))), res := [.tmp 2] }
theorem k_ref02_root_ok : cfun Try.prog Try.f107 = k_ref02_root := by kernel_rfl

def k_ref02_above_r0 : List AOper := [
  ⟨some 2, .move (.const (.int .i64 0)), none, []⟩]
def k_ref02_above_r1 : List AOper := [
  ⟨some 4, .move (.tmp 0), none, []⟩,
 ⟨some 5, .call (.const (.fn (.func 107) [] [])) [.tmp 4], none, []⟩,
 ⟨some 3, .move (.tmp 5), none, []⟩]
def k_ref02_above_r2 : List AOper := [
  ⟨some 6, .move (.tmp 3), none, []⟩,
 ⟨some 7, .move (.tmp 3), none, []⟩,
 ⟨some 8, .bin .plain .mul (.tmp 6) (.tmp 7), none, []⟩,
 ⟨some 9, .move (.tmp 0), none, []⟩,
 ⟨some 10, .bin .plain .lss (.tmp 8) (.tmp 9), none, []⟩]
def k_ref02_above_r3 : List AOper := [
  ⟨some 11, .move (.tmp 3), none, []⟩,
 ⟨some 12, .bin .plain .add (.tmp 11) (.const (.int .i64 1)), none, []⟩,
 ⟨some 2, .move (.tmp 12), none, []⟩]
def k_ref02_above_r4 : List AOper := [
  ⟨some 13, .move (.tmp 3), none, []⟩,
 ⟨some 2, .move (.tmp 13), none, []⟩]
def k_ref02_above : AFun := { params := 1, ntmps := 14, body := (.seq (.reg k_ref02_above_r0 false) (.seq (.reg k_ref02_above_r1 false) (.seq (.seq (.reg k_ref02_above_r2 false) (.cond (.tmp 10) (.seq (.reg k_ref02_above_r3 false) .ret) .skip)) (.seq (.reg k_ref02_above_r4 false) .ret)))), res := [.tmp 2] }
theorem k_ref02_above_ok : cfun Try.prog Try.f108 = k_ref02_above := by kernel_rfl

def k_ref02_falls_r0 : List AOper := [
  ⟨some 6, .move (.const (.bool false)), none, []⟩]
def k_ref02_falls_r1 : List AOper := [
  ⟨some 7, .move (.tmp 2), none, []⟩,
 ⟨some 8, .bin .plain .gtr (.tmp 7) (.const (.int .i64 0)), none, []⟩,
 ⟨some 9, .move (.tmp 8), none, []⟩,
 ⟨some 10, .move (.tmp 0), (some (9, true)), []⟩,
 ⟨some 11, .move (.tmp 1), (some (9, true)), [3]⟩,
 ⟨some 12, .indexAddr 1 (.tmp 10) (.tmp 11), (some (9, true)), []⟩,
 ⟨some 13, .load none (.tmp 12), (some (9, true)), []⟩,
 ⟨some 14, .move (.tmp 2), (some (9, true)), [3, 4, 5, 6]⟩,
 ⟨some 15, .indexAddr 1 (.tmp 13) (.tmp 14), (some (9, true)), []⟩,
 ⟨some 16, .load none (.tmp 15), (some (9, true)), []⟩,
 ⟨some 17, .move (.tmp 0), (some (9, true)), [3, 4, 5, 6, 7, 8, 9]⟩,
 ⟨some 18, .move (.tmp 1), (some (9, true)), [3, 4, 5, 6, 7, 8, 9, 10]⟩,
 ⟨some 19, .indexAddr 1 (.tmp 17) (.tmp 18), (some (9, true)), [3, 4, 5, 6, 7, 8, 9]⟩,
 ⟨some 20, .load none (.tmp 19), (some (9, true)), [3, 4, 5, 6, 7, 8, 9]⟩,
 ⟨some 21, .move (.tmp 2), (some (9, true)), [3, 4, 5, 6, 7, 8, 9, 10, 11, 12, 13]⟩,
 ⟨some 22, .bin .plain .sub (.tmp 21) (.const (.int .i64 1)), (some (9, true)), [3, 4, 5, 6, 7, 8, 9, 10, 11, 12, 13]⟩,
 ⟨some 23, .indexAddr 1 (.tmp 20) (.tmp 22), (some (9, true)), [3, 4, 5, 6, 7, 8, 9]⟩,
 ⟨some 24, .load none (.tmp 23), (some (9, true)), [3, 4, 5, 6, 7, 8, 9]⟩,
 ⟨some 25, .bin .plain .lss (.tmp 16) (.tmp 24), (some (9, true)), []⟩,
 ⟨some 26, .pick (.tmp 9) (.tmp 25) (.const (.bool false)), none, []⟩,
 ⟨some 27, .move (.tmp 26), none, []⟩,
 ⟨some 28, .move (.tmp 1), (some (27, false)), []⟩,
 ⟨some 29, .bin .plain .gtr (.tmp 28) (.const (.int .i64 0)), (some (27, false)), []⟩,
 ⟨some 30, .move (.tmp 29), (some (27, false)), []⟩,
 ⟨some 31, .move (.tmp 0), (some (30, true)), []⟩,
 ⟨some 32, .move (.tmp 1), (some (30, true)), [24]⟩,
 ⟨some 33, .indexAddr 1 (.tmp 31) (.tmp 32), (some (30, true)), []⟩,
 ⟨some 34, .load none (.tmp 33), (some (30, true)), []⟩,
 ⟨some 35, .move (.tmp 2), (some (30, true)), [24, 25, 26, 27]⟩,
 ⟨some 36, .indexAddr 1 (.tmp 34) (.tmp 35), (some (30, true)), []⟩,
 ⟨some 37, .load none (.tmp 36), (some (30, true)), []⟩,
 ⟨some 38, .move (.tmp 0), (some (30, true)), [24, 25, 26, 27, 28, 29, 30]⟩,
 ⟨some 39, .move (.tmp 1), (some (30, true)), [24, 25, 26, 27, 28, 29, 30, 31]⟩,
 ⟨some 40, .bin .plain .sub (.tmp 39) (.const (.int .i64 1)), (some (30, true)), [24, 25, 26, 27, 28, 29, 30, 31]⟩,
 ⟨some 41, .indexAddr 1 (.tmp 38) (.tmp 40), (some (30, true)), [24, 25, 26, 27, 28, 29, 30]⟩,
 ⟨some 42, .load none (.tmp 41), (some (30, true)), [24, 25, 26, 27, 28, 29, 30]⟩,
 ⟨some 43, .move (.tmp 2), (some (30, true)), [24, 25, 26, 27, 28, 29, 30, 31, 32, 33, 34, 35]⟩,
 ⟨some 44, .indexAddr 1 (.tmp 42) (.tmp 43), (some (30, true)), [24, 25, 26, 27, 28, 29, 30]⟩,
 ⟨some 45, .load none (.tmp 44), (some (30, true)), [24, 25, 26, 27, 28, 29, 30]⟩,
 ⟨some 46, .bin .plain .lss (.tmp 37) (.tmp 45), (some (30, true)), []⟩,
 ⟨some 47, .pick (.tmp 30) (.tmp 46) (.const (.bool false)), (some (27, false)), []⟩,
 ⟨some 48, .pick (.tmp 27) (.const (.bool true)) (.tmp 47), none, []⟩,
 ⟨some 6, .move (.tmp 48), none, []⟩]
def k_ref02_falls_r1s : List (List AOper) := [
  [
  ⟨some 7, .move (.tmp 2), none, []⟩], 
  [
  ⟨some 8, .bin .plain .gtr (.tmp 7) (.const (.int .i64 0)), none, []⟩], 
  [
  ⟨some 9, .move (.tmp 8), none, []⟩], 
  [
  ⟨some 10, .move (.tmp 0), (some (9, true)), []⟩,
 ⟨some 11, .move (.tmp 1), (some (9, true)), [3]⟩,
 ⟨some 12, .indexAddr 1 (.tmp 10) (.tmp 11), (some (9, true)), []⟩,
 ⟨some 13, .load none (.tmp 12), (some (9, true)), []⟩,
 ⟨some 14, .move (.tmp 2), (some (9, true)), [3, 4, 5, 6]⟩,
 ⟨some 15, .indexAddr 1 (.tmp 13) (.tmp 14), (some (9, true)), []⟩,
 ⟨some 16, .load none (.tmp 15), (some (9, true)), []⟩,
 ⟨some 17, .move (.tmp 0), (some (9, true)), [3, 4, 5, 6, 7, 8, 9]⟩,
 ⟨some 18, .move (.tmp 1), (some (9, true)), [3, 4, 5, 6, 7, 8, 9, 10]⟩,
 ⟨some 19, .indexAddr 1 (.tmp 17) (.tmp 18), (some (9, true)), [3, 4, 5, 6, 7, 8, 9]⟩,
 ⟨some 20, .load none (.tmp 19), (some (9, true)), [3, 4, 5, 6, 7, 8, 9]⟩,
 ⟨some 21, .move (.tmp 2), (some (9, true)), [3, 4, 5, 6, 7, 8, 9, 10, 11, 12, 13]⟩,
 ⟨some 22, .bin .plain .sub (.tmp 21) (.const (.int .i64 1)), (some (9, true)), [3, 4, 5, 6, 7, 8, 9, 10, 11, 12, 13]⟩,
 ⟨some 23, .indexAddr 1 (.tmp 20) (.tmp 22), (some (9, true)), [3, 4, 5, 6, 7, 8, 9]⟩,
 ⟨some 24, .load none (.tmp 23), (some (9, true)), [3, 4, 5, 6, 7, 8, 9]⟩], 
  [
  ⟨some 25, .bin .plain .lss (.tmp 16) (.tmp 24), (some (9, true)), []⟩], 
  [
  ⟨some 26, .pick (.tmp 9) (.tmp 25) (.const (.bool false)), none, []⟩], 
  [
  ⟨some 27, .move (.tmp 26), none, []⟩], 
  [
  ⟨some 28, .move (.tmp 1), (some (27, false)), []⟩], 
  [
  ⟨some 29, .bin .plain .gtr (.tmp 28) (.const (.int .i64 0)), (some (27, false)), []⟩], 
  [
  ⟨some 30, .move (.tmp 29), (some (27, false)), []⟩], 
  [
  ⟨some 31, .move (.tmp 0), (some (30, true)), []⟩,
 ⟨some 32, .move (.tmp 1), (some (30, true)), [24]⟩,
 ⟨some 33, .indexAddr 1 (.tmp 31) (.tmp 32), (some (30, true)), []⟩,
 ⟨some 34, .load none (.tmp 33), (some (30, true)), []⟩,
 ⟨some 35, .move (.tmp 2), (some (30, true)), [24, 25, 26, 27]⟩,
 ⟨some 36, .indexAddr 1 (.tmp 34) (.tmp 35), (some (30, true)), []⟩,
 ⟨some 37, .load none (.tmp 36), (some (30, true)), []⟩,
 ⟨some 38, .move (.tmp 0), (some (30, true)), [24, 25, 26, 27, 28, 29, 30]⟩,
 ⟨some 39, .move (.tmp 1), (some (30, true)), [24, 25, 26, 27, 28, 29, 30, 31]⟩,
 ⟨some 40, .bin .plain .sub (.tmp 39) (.const (.int .i64 1)), (some (30, true)), [24, 25, 26, 27, 28, 29, 30, 31]⟩,
 ⟨some 41, .indexAddr 1 (.tmp 38) (.tmp 40), (some (30, true)), [24, 25, 26, 27, 28, 29, 30]⟩,
 ⟨some 42, .load none (.tmp 41), (some (30, true)), [24, 25, 26, 27, 28, 29, 30]⟩,
 ⟨some 43, .move (.tmp 2), (some (30, true)), [24, 25, 26, 27, 28, 29, 30, 31, 32, 33, 34, 35]⟩,
 ⟨some 44, .indexAddr 1 (.tmp 42) (.tmp 43), (some (30, true)), [24, 25, 26, 27, 28, 29, 30]⟩,
 ⟨some 45, .load none (.tmp 44), (some (30, true)), [24, 25, 26, 27, 28, 29, 30]⟩], 
  [
  ⟨some 46, .bin .plain .lss (.tmp 37) (.tmp 45), (some (30, true)), []⟩], 
  [
  ⟨some 47, .pick (.tmp 30) (.tmp 46) (.const (.bool false)), (some (27, false)), []⟩], 
  [
  ⟨some 48, .pick (.tmp 27) (.const (.bool true)) (.tmp 47), none, []⟩], 
  [
  ⟨some 6, .move (.tmp 48), none, []⟩]]
theorem k_ref02_falls_r1_sg : segs k_ref02_falls_r1 = k_ref02_falls_r1s := by kernel_rfl
theorem k_ref02_falls_r1_st : statOK k_ref02_falls_r1 = true := by kernel_rfl
def k_ref02_falls : AFun := { params := 3, ntmps := 49, body := (.seq (.reg k_ref02_falls_r0 false) (.seq (.reg k_ref02_falls_r1 true) .ret)), res := [.tmp 6] }
theorem k_ref02_falls_ok : cfun Try.prog Try.f112 = k_ref02_falls := by kernel_rfl

def k_slices_EqualFunc_int_int_int_int_r0 : List AOper := [
  ⟨some 6, .move (.const (.bool false)), none, []⟩]
def k_slices_EqualFunc_int_int_int_int_r1 : List AOper := [
  ⟨some 10, .move (.tmp 0), none, []⟩,
 ⟨some 11, .len false (.tmp 10), none, []⟩,
 ⟨some 12, .move (.tmp 1), none, []⟩,
 ⟨some 13, .len false (.tmp 12), none, []⟩,
 ⟨some 14, .bin .plain .neq (.tmp 11) (.tmp 13), none, []⟩]
def k_slices_EqualFunc_int_int_int_int_r2 : List AOper := [
  ⟨some 6, .move (.const (.bool false)), none, []⟩]
def k_slices_EqualFunc_int_int_int_int_r3 : List AOper := [
  ⟨some 15, .move (.tmp 0), none, []⟩,
 ⟨some 16, .len false (.tmp 15), none, []⟩,
 ⟨some 17, .move (.const (.int .i64 0)), none, []⟩]
def k_slices_EqualFunc_int_int_int_int_r4 : List AOper := [
  ⟨some 18, .bin .plain .lss (.tmp 17) (.tmp 16), none, []⟩]
def k_slices_EqualFunc_int_int_int_int_r5 : List AOper := [
  ⟨some 19, .move (.tmp 17), none, []⟩,
 ⟨some 20, .indexAddr 1 (.tmp 15) (.tmp 17), none, []⟩,
 ⟨some 21, .load none (.tmp 20), none, []⟩,
 ⟨some 7, .move (.tmp 19), none, []⟩,
 ⟨some 8, .move (.tmp 21), none, []⟩]
def k_slices_EqualFunc_int_int_int_int_r6 : List AOper := [
  ⟨some 22, .move (.tmp 1), none, []⟩,
 ⟨some 23, .move (.tmp 7), none, []⟩,
 ⟨some 24, .indexAddr 1 (.tmp 22) (.tmp 23), none, []⟩,
 ⟨some 25, .load none (.tmp 24), none, []⟩,
 ⟨some 9, .move (.tmp 25), none, []⟩]
def k_slices_EqualFunc_int_int_int_int_r7 : List AOper := [
  ⟨some 26, .move (.tmp 2), none, []⟩,
 ⟨some 27, .move (.tmp 8), none, []⟩,
 ⟨some 28, .move (.tmp 9), none, []⟩,
 ⟨some 29, .call (.tmp 26) [.tmp 27, .tmp 28], none, []⟩,
 ⟨some 30, .not (.tmp 29), none, []⟩]
def k_slices_EqualFunc_int_int_int_int_r8 : List AOper := [
  ⟨some 6, .move (.const (.bool false)), none, []⟩]
def k_slices_EqualFunc_int_int_int_int_r9 : List AOper := [
  ⟨some 31, .bin .plain .add (.tmp 17) (.const (.int .i64 1)), none, []⟩,
 ⟨some 17, .move (.tmp 31), none, []⟩]
def k_slices_EqualFunc_int_int_int_int_r10 : ACode := (.seq (.reg k_slices_EqualFunc_int_int_int_int_r4 false) (.seq (.cond (.tmp 18) .skip (.exit 0)) (.seq (.block 1 (.seq (.reg k_slices_EqualFunc_int_int_int_int_r5 false) (.seq (.reg k_slices_EqualFunc_int_int_int_int_r6 false) (.seq (.reg k_slices_EqualFunc_int_int_int_int_r7 false) (.cond (.tmp 30) (.seq (.reg k_slices_EqualFunc_int_int_int_int_r8 false) .ret) .skip))))) (.reg k_slices_EqualFunc_int_int_int_int_r9 false))))
def k_slices_EqualFunc_int_int_int_int_r11 : List AOper := [
  ⟨some 6, .move (.const (.bool true)), none, []⟩]
def k_slices_EqualFunc_int_int_int_int : AFun := { params := 3, ntmps := 32, body := (.seq (.reg k_slices_EqualFunc_int_int_int_int_r0 false) (.seq (.seq (.reg k_slices_EqualFunc_int_int_int_int_r1 false) (.cond (.tmp 14) (.seq (.reg k_slices_EqualFunc_int_int_int_int_r2 false) .ret) .skip)) (.seq (.seq (.reg k_slices_EqualFunc_int_int_int_int_r3 false) (.block 0 (.loop k_slices_EqualFunc_int_int_int_int_r10))) (.seq (.reg k_slices_EqualFunc_int_int_int_int_r11 false) .ret)))), res := [.tmp 6] }
theorem k_slices_EqualFunc_int_int_int_int_ok : cfun Try.prog Try.f113 = k_slices_EqualFunc_int_int_int_int := by kernel_rfl


abbrev n_ref02_CheckLaw : Nat := 21
theorem e_ref02_CheckLaw : EntryOK Try.prog n_ref02_CheckLaw k_ref02_CheckLaw := ⟨Try.f21, Try.func21, k_ref02_CheckLaw_ok, by kernel_rfl⟩
abbrev n_kit_FamilyOf : Nat := 25
theorem e_kit_FamilyOf : EntryOK Try.prog n_kit_FamilyOf k_kit_FamilyOf := ⟨Try.f25, Try.func25, k_kit_FamilyOf_ok, by kernel_rfl⟩
abbrev n_ref02_Check : Nat := 28
theorem e_ref02_Check : EntryOK Try.prog n_ref02_Check k_ref02_Check := ⟨Try.f28, Try.func28, k_ref02_Check_ok, by kernel_rfl⟩
abbrev n_curve_Same : Nat := 29
theorem e_curve_Same : EntryOK Try.prog n_curve_Same k_curve_Same := ⟨Try.f29, Try.func29, k_curve_Same_ok, by kernel_rfl⟩
abbrev n_kit_Lines : Nat := 48
theorem e_kit_Lines : EntryOK Try.prog n_kit_Lines k_kit_Lines := ⟨Try.f48, Try.func48, k_kit_Lines_ok, by kernel_rfl⟩
abbrev n_ref02_right : Nat := 56
theorem e_ref02_right : EntryOK Try.prog n_ref02_right k_ref02_right := ⟨Try.f56, Try.func56, k_ref02_right_ok, by kernel_rfl⟩
abbrev n_ref02_drive : Nat := 57
theorem e_ref02_drive : EntryOK Try.prog n_ref02_drive k_ref02_drive := ⟨Try.f57, Try.func57, k_ref02_drive_ok, by kernel_rfl⟩
abbrev n_ref02_current : Nat := 59
theorem e_ref02_current : EntryOK Try.prog n_ref02_current k_ref02_current := ⟨Try.f59, Try.func59, k_ref02_current_ok, by kernel_rfl⟩
abbrev n_ref02_checkRange : Nat := 60
theorem e_ref02_checkRange : EntryOK Try.prog n_ref02_checkRange k_ref02_checkRange := ⟨Try.f60, Try.func60, k_ref02_checkRange_ok, by kernel_rfl⟩
abbrev n_kit_Own : Nat := 62
theorem e_kit_Own : EntryOK Try.prog n_kit_Own k_kit_Own := ⟨Try.f62, Try.func62, k_kit_Own_ok, by kernel_rfl⟩
abbrev n_ref02_Of : Nat := 63
theorem e_ref02_Of : EntryOK Try.prog n_ref02_Of k_ref02_Of := ⟨Try.f63, Try.func63, k_ref02_Of_ok, by kernel_rfl⟩
abbrev n_ref02_ints : Nat := 67
theorem e_ref02_ints : EntryOK Try.prog n_ref02_ints k_ref02_ints := ⟨Try.f67, Try.func67, k_ref02_ints_ok, by kernel_rfl⟩
abbrev n_ref02_checkLines : Nat := 72
theorem e_ref02_checkLines : EntryOK Try.prog n_ref02_checkLines k_ref02_checkLines := ⟨Try.f72, Try.func72, k_ref02_checkLines_ok, by kernel_rfl⟩
abbrev n_ref02_formed : Nat := 73
theorem e_ref02_formed : EntryOK Try.prog n_ref02_formed k_ref02_formed := ⟨Try.f73, Try.func73, k_ref02_formed_ok, by kernel_rfl⟩
abbrev n_ref02_checkPlace : Nat := 74
theorem e_ref02_checkPlace : EntryOK Try.prog n_ref02_checkPlace k_ref02_checkPlace := ⟨Try.f74, Try.func74, k_ref02_checkPlace_ok, by kernel_rfl⟩
abbrev n_slices_Equal_int_int : Nat := 75
theorem e_slices_Equal_int_int : EntryOK Try.prog n_slices_Equal_int_int k_slices_Equal_int_int := ⟨Try.f75, Try.func75, k_slices_Equal_int_int_ok, by kernel_rfl⟩
abbrev n_curve_sameTable : Nat := 76
theorem e_curve_sameTable : EntryOK Try.prog n_curve_sameTable k_curve_sameTable := ⟨Try.f76, Try.func76, k_curve_sameTable_ok, by kernel_rfl⟩
abbrev n_ref02_down : Nat := 87
theorem e_ref02_down : EntryOK Try.prog n_ref02_down k_ref02_down := ⟨Try.f87, Try.func87, k_ref02_down_ok, by kernel_rfl⟩
abbrev n_ref02_up : Nat := 89
theorem e_ref02_up : EntryOK Try.prog n_ref02_up k_ref02_up := ⟨Try.f89, Try.func89, k_ref02_up_ok, by kernel_rfl⟩
abbrev n_ref02_cut : Nat := 104
theorem e_ref02_cut : EntryOK Try.prog n_ref02_cut k_ref02_cut := ⟨Try.f104, Try.func104, k_ref02_cut_ok, by kernel_rfl⟩
abbrev n_ref02_root : Nat := 107
theorem e_ref02_root : EntryOK Try.prog n_ref02_root k_ref02_root := ⟨Try.f107, Try.func107, k_ref02_root_ok, by kernel_rfl⟩
abbrev n_ref02_above : Nat := 108
theorem e_ref02_above : EntryOK Try.prog n_ref02_above k_ref02_above := ⟨Try.f108, Try.func108, k_ref02_above_ok, by kernel_rfl⟩
abbrev n_ref02_falls : Nat := 112
theorem e_ref02_falls : EntryOK Try.prog n_ref02_falls k_ref02_falls := ⟨Try.f112, Try.func112, k_ref02_falls_ok, by kernel_rfl⟩
abbrev n_slices_EqualFunc_int_int_int_int : Nat := 113
theorem e_slices_EqualFunc_int_int_int_int : EntryOK Try.prog n_slices_EqualFunc_int_int_int_int k_slices_EqualFunc_int_int_int_int := ⟨Try.f113, Try.func113, k_slices_EqualFunc_int_int_int_int_ok, by kernel_rfl⟩

attribute [go_sem] k_ref02_CheckLaw_r0 k_ref02_CheckLaw_r1 k_ref02_CheckLaw_r2 k_ref02_CheckLaw_r3 k_ref02_CheckLaw_r4 k_ref02_CheckLaw_r5 k_ref02_CheckLaw_r6s k_ref02_CheckLaw_r7 k_ref02_CheckLaw_r8 k_ref02_CheckLaw_r9 k_ref02_CheckLaw_r11 k_kit_FamilyOf_r0
attribute [go_sem] k_kit_FamilyOf_r1 k_kit_FamilyOf_r2 k_kit_FamilyOf_r3 k_kit_FamilyOf_r4 k_kit_FamilyOf_r5 k_kit_FamilyOf_r6 k_kit_FamilyOf_r7 k_kit_FamilyOf_r8 k_kit_FamilyOf_r9 k_kit_FamilyOf_r10 k_kit_FamilyOf_r11 k_kit_FamilyOf_r12
attribute [go_sem] k_kit_FamilyOf_r13s k_kit_FamilyOf_r14 k_kit_FamilyOf_r15 k_kit_FamilyOf_r16 k_kit_FamilyOf_r17 k_kit_FamilyOf_r18 k_kit_FamilyOf_r19 k_kit_FamilyOf_r20 k_kit_FamilyOf_r21 k_kit_FamilyOf_r23s k_kit_FamilyOf_r24 k_kit_FamilyOf_r26
attribute [go_sem] k_ref02_Check_r0 k_ref02_Check_r1 k_ref02_Check_r2 k_ref02_Check_r3 k_ref02_Check_r4 k_ref02_Check_r5 k_ref02_Check_r6 k_ref02_Check_r7 k_ref02_Check_r8 k_ref02_Check_r9 k_ref02_Check_r10 k_ref02_Check_r11
attribute [go_sem] k_ref02_Check_r12 k_ref02_Check_r13 k_ref02_Check_r15 k_ref02_Check_r17 k_curve_Same_r0 k_curve_Same_r1
attribute [go_sem] k_kit_Lines_r0 k_kit_Lines_r1 k_kit_Lines_r2 k_kit_Lines_r3 k_kit_Lines_r4 k_kit_Lines_r5 k_kit_Lines_r6 k_kit_Lines_r7 k_kit_Lines_r9 k_kit_Lines_r10s
attribute [go_sem] k_kit_Lines_r11 k_kit_Lines_r13 k_ref02_right_r0 k_ref02_right_r1 k_ref02_drive_r0 k_ref02_drive_r1s k_ref02_current_r0 k_ref02_current_r1 k_ref02_current_r2s k_ref02_current_r3s k_ref02_current_r4s k_ref02_current_r4_sg k_ref02_current_r4_st k_ref02_current_r5s
attribute [go_sem] k_ref02_checkRange_r0 k_ref02_checkRange_r1 k_ref02_checkRange_r2 k_ref02_checkRange_r3 k_ref02_checkRange_r4 k_ref02_checkRange_r5 k_kit_Own_r0 k_kit_Own_r1 k_ref02_Of_r0 k_ref02_Of_r1 k_ref02_Of_r2 k_ref02_Of_r3
attribute [go_sem] k_ref02_Of_r4 k_ref02_Of_r5 k_ref02_Of_r6 k_ref02_Of_r7 k_ref02_Of_r8 k_ref02_Of_r9 k_ref02_Of_r10 k_ref02_Of_r11 k_ref02_Of_r12 k_ref02_Of_r13s k_ref02_Of_r14s k_ref02_Of_r15
attribute [go_sem] k_ref02_Of_r17s k_ref02_Of_r18 k_ref02_Of_r20 k_ref02_ints_r0 k_ref02_ints_r1 k_ref02_checkLines_r0 k_ref02_checkLines_r1 k_ref02_checkLines_r2 k_ref02_checkLines_r3 k_ref02_checkLines_r4 k_ref02_checkLines_r5 k_ref02_checkLines_r6
attribute [go_sem] k_ref02_checkLines_r7 k_ref02_checkLines_r8 k_ref02_checkLines_r9s k_ref02_checkLines_r10 k_ref02_checkLines_r11 k_ref02_checkLines_r13 k_ref02_checkLines_r14 k_ref02_checkLines_r15 k_ref02_checkLines_r16 k_ref02_checkLines_r17s k_ref02_checkLines_r18 k_ref02_checkLines_r19
attribute [go_sem] k_ref02_checkLines_r21 k_ref02_formed_r0 k_ref02_formed_r1 k_ref02_formed_r2 k_ref02_formed_r3 k_ref02_formed_r4 k_ref02_formed_r5s k_ref02_formed_r6 k_ref02_formed_r7 k_ref02_formed_r9 k_ref02_checkPlace_r0 k_ref02_checkPlace_r1s
attribute [go_sem] k_ref02_checkPlace_r2 k_ref02_checkPlace_r3 k_ref02_checkPlace_r4 k_ref02_checkPlace_r5 k_ref02_checkPlace_r6 k_ref02_checkPlace_r7 k_ref02_checkPlace_r8 k_slices_Equal_int_int_r0 k_slices_Equal_int_int_r1 k_slices_Equal_int_int_r2 k_slices_Equal_int_int_r3 k_slices_Equal_int_int_r4
attribute [go_sem] k_slices_Equal_int_int_r5 k_slices_Equal_int_int_r6s k_slices_Equal_int_int_r7 k_slices_Equal_int_int_r8 k_slices_Equal_int_int_r10 k_curve_sameTable_r0 k_curve_sameTable_r1
attribute [go_sem] k_ref02_down_r0 k_ref02_down_r1 k_ref02_down_r2 k_ref02_down_r3 k_ref02_down_r4
attribute [go_sem] k_ref02_up_r0 k_ref02_up_r1 k_ref02_cut_r0 k_ref02_cut_r1 k_ref02_root_r0 k_ref02_root_r1
attribute [go_sem] k_ref02_root_r2 k_ref02_root_r3 k_ref02_root_r4 k_ref02_root_r5 k_ref02_root_r6 k_ref02_root_r8 k_ref02_above_r0 k_ref02_above_r1 k_ref02_above_r2 k_ref02_above_r3 k_ref02_above_r4 k_ref02_falls_r0
attribute [go_sem] k_ref02_falls_r1s k_slices_EqualFunc_int_int_int_int_r0 k_slices_EqualFunc_int_int_int_int_r1 k_slices_EqualFunc_int_int_int_int_r2 k_slices_EqualFunc_int_int_int_int_r3 k_slices_EqualFunc_int_int_int_int_r4 k_slices_EqualFunc_int_int_int_int_r5 k_slices_EqualFunc_int_int_int_int_r6 k_slices_EqualFunc_int_int_int_int_r7 k_slices_EqualFunc_int_int_int_int_r8 k_slices_EqualFunc_int_int_int_int_r9 k_slices_EqualFunc_int_int_int_int_r11
attribute [go_sem] k_ref02_CheckLaw_r6_sg k_kit_FamilyOf_r13_sg k_kit_FamilyOf_r23_sg k_ref02_falls_r1_sg k_ref02_current_r5_sg k_ref02_Of_r13_sg k_ref02_Of_r14_sg k_ref02_checkLines_r9_sg
attribute [go_sem] k_ref02_Of_r17_sg k_ref02_checkLines_r17_sg k_ref02_formed_r5_sg k_ref02_current_r2_sg k_slices_Equal_int_int_r6_sg k_kit_Lines_r10_sg k_ref02_checkPlace_r1_sg k_ref02_drive_r1_sg k_ref02_current_r3_sg
attribute [go_sem] k_ref02_CheckLaw_r6_st k_kit_FamilyOf_r13_st k_kit_FamilyOf_r23_st k_ref02_falls_r1_st k_ref02_current_r5_st k_ref02_Of_r13_st k_ref02_Of_r14_st k_ref02_checkLines_r9_st
attribute [go_sem] k_ref02_Of_r17_st k_ref02_checkLines_r17_st k_ref02_formed_r5_st k_ref02_current_r2_st k_slices_Equal_int_int_r6_st k_kit_Lines_r10_st k_ref02_checkPlace_r1_st k_ref02_drive_r1_st k_ref02_current_r3_st
attribute [go_sem] k_ref02_CheckLaw k_kit_FamilyOf k_ref02_Check k_curve_Same k_kit_Lines k_ref02_right k_ref02_drive k_ref02_current k_ref02_checkRange k_kit_Own k_ref02_Of
attribute [go_sem] k_ref02_ints k_ref02_checkLines k_ref02_formed k_ref02_checkPlace k_slices_Equal_int_int k_curve_sameTable k_ref02_down k_ref02_up k_ref02_cut k_ref02_root
attribute [go_sem] k_ref02_above k_ref02_falls k_slices_EqualFunc_int_int_int_int
end Go.Proofs

