/- A part of the proof. -/
import Derived.Test.YtmpocglkfgfpbaaPD
set_option linter.unusedSimpArgs false
set_option linter.unusedVariables false
namespace Go.Proofs
open Go Go.Sx

def k_kit_OvenOf_r0 : List AOper := [
  ⟨some 6, .box (.const (.agg [.int .i64 0, .nilsl])), none, []⟩]
def k_kit_OvenOf_r1 : List AOper := [
  ⟨some 9, .move (.tmp 0), none, []⟩,
 ⟨some 10, .call (.const (.fn (.func 44) [] [])) [.tmp 9, .const (.int .i64 300), .const (.int .i64 1200)], none, []⟩,
 ⟨some 11, .build [.int .i64 0, .nilsl] [(0, 1, .tmp 10)], none, []⟩,
 ⟨some 7, .box (.const (.agg [.int .i64 0, .nilsl])), none, []⟩,
 ⟨none, .store 2 (.tmp 7) (.tmp 11), none, []⟩]
def k_kit_OvenOf_r2 : List AOper := [
  ⟨some 12, .move (.tmp 0), none, []⟩,
 ⟨some 13, .move (.tmp 1), none, []⟩,
 ⟨some 14, .bin .plain .add (.tmp 13) (.const (.int .i64 1)), none, []⟩,
 ⟨some 15, .call (.const (.fn (.func 26) [] [])) [.tmp 12, .tmp 14], none, []⟩,
 ⟨some 8, .move (.tmp 15), none, []⟩]
def k_kit_OvenOf_r3 : List AOper := [
  ⟨some 16, .move (.tmp 8), none, []⟩,
 ⟨some 17, .bin .plain .gtr (.tmp 16) (.const (.int .i64 0)), none, []⟩]
def k_kit_OvenOf_r4 : List AOper := [
  ⟨some 20, .fieldAddr 1 (.tmp 7), none, []⟩,
 ⟨some 21, .load none (.tmp 20), none, []⟩,
 ⟨some 22, .move (.tmp 0), none, [0, 1]⟩,
 ⟨some 23, .move (.tmp 2), none, [0, 1, 2]⟩,
 ⟨some 24, .call (.const (.fn (.func 44) [] [])) [.tmp 22, .const (.int .i64 1), .tmp 23], none, [0, 1]⟩,
 ⟨some 25, .move (.tmp 0), none, [0, 1, 2, 3, 4]⟩,
 ⟨some 26, .call (.const (.fn (.func 44) [] [])) [.tmp 25, .const (.int .i64 300), .const (.int .i64 1200)], none, [0, 1]⟩,
 ⟨some 27, .move (.tmp 0), none, [0, 1, 2, 3, 4, 5, 6]⟩,
 ⟨some 28, .call (.const (.fn (.func 26) [] [])) [.tmp 27, .const (.int .i64 2001)], none, [0, 1]⟩,
 ⟨some 29, .fieldAddr 0 (.tmp 7), none, [0, 1, 2, 3, 4, 5, 6, 7, 8]⟩,
 ⟨some 30, .load none (.tmp 29), none, [0, 1, 2, 3, 4, 5, 6, 7, 8]⟩,
 ⟨some 31, .buildSlice 1 [.tmp 26, .tmp 28, .tmp 30], none, [0, 1]⟩,
 ⟨some 32, .move (.tmp 0), none, [0, 1, 2, 3, 4, 5, 6, 7, 8, 9, 10, 11]⟩,
 ⟨some 33, .call (.const (.fn (.func 26) [] [])) [.tmp 32, .const (.int .i64 3)], none, [0, 1, 9, 10, 11]⟩,
 ⟨some 34, .indexAddr 1 (.tmp 31) (.tmp 33), none, [0, 1]⟩,
 ⟨some 35, .load none (.tmp 34), none, [0, 1]⟩,
 ⟨some 36, .build [.int .i64 0, .int .i64 0] [(0, 1, .tmp 24), (1, 1, .tmp 35)], none, [0, 1]⟩,
 ⟨some 37, .buildSlice 2 [.tmp 36], none, [0, 1]⟩,
 ⟨some 38, .append 2 16 true (.tmp 21) (.tmp 37), none, []⟩,
 ⟨some 39, .fieldAddr 1 (.tmp 7), none, []⟩,
 ⟨none, .store 1 (.tmp 39) (.tmp 38), none, []⟩]
def k_kit_OvenOf_r4s : List (List AOper) := [
  [
  ⟨some 20, .fieldAddr 1 (.tmp 7), none, []⟩,
 ⟨some 21, .load none (.tmp 20), none, []⟩,
 ⟨some 22, .move (.tmp 0), none, [0, 1]⟩,
 ⟨some 23, .move (.tmp 2), none, [0, 1, 2]⟩,
 ⟨some 24, .call (.const (.fn (.func 44) [] [])) [.tmp 22, .const (.int .i64 1), .tmp 23], none, [0, 1]⟩,
 ⟨some 25, .move (.tmp 0), none, [0, 1, 2, 3, 4]⟩,
 ⟨some 26, .call (.const (.fn (.func 44) [] [])) [.tmp 25, .const (.int .i64 300), .const (.int .i64 1200)], none, [0, 1]⟩,
 ⟨some 27, .move (.tmp 0), none, [0, 1, 2, 3, 4, 5, 6]⟩,
 ⟨some 28, .call (.const (.fn (.func 26) [] [])) [.tmp 27, .const (.int .i64 2001)], none, [0, 1]⟩,
 ⟨some 29, .fieldAddr 0 (.tmp 7), none, [0, 1, 2, 3, 4, 5, 6, 7, 8]⟩,
 ⟨some 30, .load none (.tmp 29), none, [0, 1, 2, 3, 4, 5, 6, 7, 8]⟩,
 ⟨some 31, .buildSlice 1 [.tmp 26, .tmp 28, .tmp 30], none, [0, 1]⟩,
 ⟨some 32, .move (.tmp 0), none, [0, 1, 2, 3, 4, 5, 6, 7, 8, 9, 10, 11]⟩,
 ⟨some 33, .call (.const (.fn (.func 26) [] [])) [.tmp 32, .const (.int .i64 3)], none, [0, 1, 9, 10, 11]⟩,
 ⟨some 34, .indexAddr 1 (.tmp 31) (.tmp 33), none, [0, 1]⟩,
 ⟨some 35, .load none (.tmp 34), none, [0, 1]⟩,
 ⟨some 36, .build [.int .i64 0, .int .i64 0] [(0, 1, .tmp 24), (1, 1, .tmp 35)], none, [0, 1]⟩,
 ⟨some 37, .buildSlice 2 [.tmp 36], none, [0, 1]⟩], 
  [
  ⟨some 38, .append 2 16 true (.tmp 21) (.tmp 37), none, []⟩], 
  [
  ⟨some 39, .fieldAddr 1 (.tmp 7), none, []⟩], 
  [
  ⟨none, .store 1 (.tmp 39) (.tmp 38), none, []⟩]]
theorem k_kit_OvenOf_r4_sg : segs k_kit_OvenOf_r4 = k_kit_OvenOf_r4s := by kernel_rfl
theorem k_kit_OvenOf_r4_st : statOK k_kit_OvenOf_r4 = true := by kernel_rfl
def k_kit_OvenOf_r5 : List AOper := [
  ⟨some 18, .move (.tmp 8), none, []⟩,
 ⟨some 19, .bin .plain .sub (.tmp 18) (.const (.int .i64 1)), none, []⟩,
 ⟨some 8, .move (.tmp 19), none, []⟩]
def k_kit_OvenOf_r6 : ACode := (.seq (.seq (.reg k_kit_OvenOf_r3 false) (.cond (.tmp 17) .skip (.exit 0))) (.seq (.block 1 (.reg k_kit_OvenOf_r4 true)) (.reg k_kit_OvenOf_r5 false)))
def k_kit_OvenOf_r7 : List AOper := [
  ⟨some 40, .load (some (2)) (.tmp 7), none, []⟩,
 ⟨none, .store 2 (.tmp 6) (.tmp 40), none, []⟩]
def k_kit_OvenOf : AFun := { params := 3, ntmps := 41, body := (.seq (.reg k_kit_OvenOf_r0 false) (.seq (.reg k_kit_OvenOf_r1 false) (.seq (.seq (.reg k_kit_OvenOf_r2 false) (.block 0 (.loop k_kit_OvenOf_r6))) (.seq (.reg k_kit_OvenOf_r7 false) .ret)))), res := [.cell 6 (some ((some (2))))] }
theorem k_kit_OvenOf_ok : cfun Try.prog Try.f23 = k_kit_OvenOf := by kernel_rfl

def k_ref05_CheckOven_r0 : List AOper := [
  ⟨some 1, .box (.tmp 0), none, []⟩,
 ⟨some 2, .move (.const (.int .i64 0)), none, []⟩]
def k_ref05_CheckOven_r1 : List AOper := [
  ⟨some 4, .fieldAddr 0 (.tmp 1), none, []⟩,
 ⟨some 5, .load none (.tmp 4), none, []⟩,
 ⟨some 6, .call (.const (.fn (.func 88) [] [])) [.tmp 5, .const (.int .i64 0), .const (.int .i64 2000)], none, []⟩]
def k_ref05_CheckOven_r2 : List AOper := [
  ⟨some 2, .move (.const (.int .i64 2)), none, []⟩]
def k_ref05_CheckOven_r3 : List AOper := [
  ⟨some 7, .fieldAddr 1 (.tmp 1), none, []⟩,
 ⟨some 8, .load none (.tmp 7), none, []⟩,
 ⟨some 9, .len false (.tmp 8), none, []⟩,
 ⟨some 10, .bin .plain .gtr (.tmp 9) (.const (.int .i64 20)), none, []⟩]
def k_ref05_CheckOven_r4 : List AOper := [
  ⟨some 2, .move (.const (.int .i64 8)), none, []⟩]
def k_ref05_CheckOven_r5 : List AOper := [
  ⟨some 3, .move (.const (.int .i64 0)), none, []⟩]
def k_ref05_CheckOven_r6 : List AOper := [
  ⟨some 11, .move (.tmp 3), none, []⟩,
 ⟨some 12, .fieldAddr 1 (.tmp 1), none, []⟩,
 ⟨some 13, .load none (.tmp 12), none, []⟩,
 ⟨some 14, .len false (.tmp 13), none, []⟩,
 ⟨some 15, .bin .plain .lss (.tmp 11) (.tmp 14), none, []⟩]
def k_ref05_CheckOven_r7 : List AOper := [
  ⟨some 18, .fieldAddr 1 (.tmp 1), none, []⟩,
 ⟨some 19, .load none (.tmp 18), none, []⟩,
 ⟨some 20, .move (.tmp 3), none, []⟩,
 ⟨some 21, .indexAddr 2 (.tmp 19) (.tmp 20), none, []⟩,
 ⟨some 22, .fieldAddr 0 (.tmp 21), none, []⟩,
 ⟨some 23, .load none (.tmp 22), none, []⟩,
 ⟨some 24, .call (.const (.fn (.func 88) [] [])) [.tmp 23, .const (.int .i64 1), .const (.int .i64 2000)], none, []⟩,
 ⟨some 25, .move (.tmp 24), none, []⟩,
 ⟨some 26, .fieldAddr 1 (.tmp 1), (some (25, false)), []⟩,
 ⟨some 27, .load none (.tmp 26), (some (25, false)), []⟩,
 ⟨some 28, .move (.tmp 3), (some (25, false)), []⟩,
 ⟨some 29, .indexAddr 2 (.tmp 27) (.tmp 28), (some (25, false)), []⟩,
 ⟨some 30, .fieldAddr 1 (.tmp 29), (some (25, false)), []⟩,
 ⟨some 31, .load none (.tmp 30), (some (25, false)), []⟩,
 ⟨some 32, .call (.const (.fn (.func 88) [] [])) [.tmp 31, .const (.int .i64 0), .const (.int .i64 2000)], (some (25, false)), []⟩,
 ⟨some 33, .pick (.tmp 25) (.const (.bool true)) (.tmp 32), none, []⟩]
def k_ref05_CheckOven_r8 : List AOper := [
  ⟨some 2, .move (.const (.int .i64 2)), none, []⟩]
def k_ref05_CheckOven_r9 : List AOper := [
  ⟨some 16, .move (.tmp 3), none, []⟩,
 ⟨some 17, .bin .plain .add (.tmp 16) (.const (.int .i64 1)), none, []⟩,
 ⟨some 3, .move (.tmp 17), none, []⟩]
def k_ref05_CheckOven_r10 : ACode := (.seq (.seq (.reg k_ref05_CheckOven_r6 false) (.cond (.tmp 15) .skip (.exit 0))) (.seq (.block 1 (.seq (.reg k_ref05_CheckOven_r7 false) (.cond (.tmp 33) (.seq (.reg k_ref05_CheckOven_r8 false) .ret) .skip))) (.reg k_ref05_CheckOven_r9 false)))
def k_ref05_CheckOven_r11 : List AOper := [
  ⟨some 2, .move (.const (.int .i64 0)), none, []⟩]
def k_ref05_CheckOven : AFun := { params := 1, ntmps := 34, body := (.seq (.reg k_ref05_CheckOven_r0 false) (.seq (.seq (.reg k_ref05_CheckOven_r1 false) (.cond (.tmp 6) (.seq (.reg k_ref05_CheckOven_r2 false) .ret) .skip)) (.seq (.seq (.reg k_ref05_CheckOven_r3 false) (.cond (.tmp 10) (.seq (.reg k_ref05_CheckOven_r4 false) .ret) .skip)) (.seq (.seq (.reg k_ref05_CheckOven_r5 false) (.block 0 (.loop k_ref05_CheckOven_r10))) (.seq (.reg k_ref05_CheckOven_r11 false) .ret))))), res := [.tmp 2] }
theorem k_ref05_CheckOven_ok : cfun Try.prog Try.f33 = k_ref05_CheckOven := by kernel_rfl

def k_kit_LeftOf_r0 : List AOper := [
  ⟨some 5, .box (.tmp 1), none, []⟩,
 ⟨some 7, .box (.tmp 3), none, []⟩,
 ⟨some 8, .move (.const (.int .i64 0)), none, []⟩]
def k_kit_LeftOf_r1 : List AOper := [
  ⟨some 13, .load (some (2)) (.tmp 5), none, []⟩,
 ⟨some 14, .move (.tmp 2), none, []⟩,
 ⟨some 15, .load (some (2)) (.tmp 7), none, []⟩,
 ⟨some 16, .call (.const (.fn (.func 52) [] [])) [.tmp 13, .tmp 14, .tmp 15], none, []⟩,
 ⟨some 12, .move (.tmp 16), none, []⟩,
 ⟨some 17, .extract (.tmp 12) 0, none, []⟩,
 ⟨some 18, .extract (.tmp 12) 1, none, []⟩,
 ⟨some 9, .move (.tmp 17), none, []⟩,
 ⟨some 10, .move (.tmp 18), none, []⟩]
def k_kit_LeftOf_r2 : List AOper := [
  ⟨some 19, .move (.tmp 9), none, []⟩,
 ⟨some 20, .len false (.tmp 19), none, []⟩,
 ⟨some 21, .bin .plain .eql (.tmp 20) (.const (.int .i64 0)), none, []⟩]
def k_kit_LeftOf_r3 : List AOper := [
  ⟨some 22, .move (.tmp 0), none, []⟩,
 ⟨some 23, .call (.const (.fn (.func 26) [] [])) [.tmp 22, .const (.int .i64 9)], none, []⟩,
 ⟨some 8, .move (.tmp 23), none, []⟩]
def k_kit_LeftOf_r4 : List AOper := [
  ⟨some 24, .move (.tmp 9), none, []⟩,
 ⟨some 25, .move (.tmp 9), none, []⟩,
 ⟨some 26, .len false (.tmp 25), none, []⟩,
 ⟨some 27, .bin .plain .sub (.tmp 26) (.const (.int .i64 1)), none, []⟩,
 ⟨some 28, .indexAddr 2 (.tmp 24) (.tmp 27), none, []⟩,
 ⟨some 29, .load (some (2)) (.tmp 28), none, []⟩,
 ⟨some 11, .box (.const (.agg [.int .i64 0, .int .i64 0])), none, []⟩,
 ⟨none, .store 2 (.tmp 11) (.tmp 29), none, []⟩]
def k_kit_LeftOf_r5 : List AOper := [
  ⟨some 30, .fieldAddr 0 (.tmp 11), none, []⟩,
 ⟨some 31, .load none (.tmp 30), none, []⟩,
 ⟨some 32, .fieldAddr 1 (.tmp 11), none, [0, 1]⟩,
 ⟨some 33, .load none (.tmp 32), none, [0, 1]⟩,
 ⟨some 34, .move (.tmp 0), none, [0, 1, 2, 3]⟩,
 ⟨some 35, .load (some (2)) (.tmp 11), none, [0, 1, 2, 3, 4]⟩,
 ⟨some 36, .call (.const (.fn (.func 75) [] [])) [.tmp 34, .tmp 35], none, [0, 1, 2, 3]⟩,
 ⟨some 37, .fieldAddr 0 (.tmp 11), none, [0, 1, 2, 3, 4, 5, 6]⟩,
 ⟨some 38, .load none (.tmp 37), none, [0, 1, 2, 3, 4, 5, 6]⟩,
 ⟨some 39, .bin .plain .sub (.tmp 38) (.const (.int .i64 1)), none, [0, 1, 2, 3, 4, 5, 6]⟩,
 ⟨some 40, .minmax true [.const (.int .i64 0), .tmp 39], none, [0, 1, 2, 3, 4, 5, 6]⟩,
 ⟨some 41, .buildSlice 1 [.tmp 31, .tmp 33, .tmp 36, .tmp 40, .const (.int .i64 1099511627776)], none, []⟩,
 ⟨some 42, .move (.tmp 0), none, [0, 1, 2, 3, 4, 5, 6, 7, 8, 9, 10, 11]⟩,
 ⟨some 43, .call (.const (.fn (.func 26) [] [])) [.tmp 42, .const (.int .i64 5)], none, [0, 1, 2, 3, 7, 8, 9, 10, 11]⟩,
 ⟨some 44, .indexAddr 1 (.tmp 41) (.tmp 43), none, []⟩,
 ⟨some 45, .load none (.tmp 44), none, []⟩,
 ⟨some 8, .move (.tmp 45), none, []⟩]
def k_kit_LeftOf_r5s : List (List AOper) := [
  [
  ⟨some 30, .fieldAddr 0 (.tmp 11), none, []⟩,
 ⟨some 31, .load none (.tmp 30), none, []⟩,
 ⟨some 32, .fieldAddr 1 (.tmp 11), none, [0, 1]⟩,
 ⟨some 33, .load none (.tmp 32), none, [0, 1]⟩,
 ⟨some 34, .move (.tmp 0), none, [0, 1, 2, 3]⟩,
 ⟨some 35, .load (some (2)) (.tmp 11), none, [0, 1, 2, 3, 4]⟩,
 ⟨some 36, .call (.const (.fn (.func 75) [] [])) [.tmp 34, .tmp 35], none, [0, 1, 2, 3]⟩,
 ⟨some 37, .fieldAddr 0 (.tmp 11), none, [0, 1, 2, 3, 4, 5, 6]⟩,
 ⟨some 38, .load none (.tmp 37), none, [0, 1, 2, 3, 4, 5, 6]⟩,
 ⟨some 39, .bin .plain .sub (.tmp 38) (.const (.int .i64 1)), none, [0, 1, 2, 3, 4, 5, 6]⟩,
 ⟨some 40, .minmax true [.const (.int .i64 0), .tmp 39], none, [0, 1, 2, 3, 4, 5, 6]⟩,
 ⟨some 41, .buildSlice 1 [.tmp 31, .tmp 33, .tmp 36, .tmp 40, .const (.int .i64 1099511627776)], none, []⟩,
 ⟨some 42, .move (.tmp 0), none, [0, 1, 2, 3, 4, 5, 6, 7, 8, 9, 10, 11]⟩,
 ⟨some 43, .call (.const (.fn (.func 26) [] [])) [.tmp 42, .const (.int .i64 5)], none, [0, 1, 2, 3, 7, 8, 9, 10, 11]⟩], 
  [
  ⟨some 44, .indexAddr 1 (.tmp 41) (.tmp 43), none, []⟩], 
  [
  ⟨some 45, .load none (.tmp 44), none, []⟩], 
  [
  ⟨some 8, .move (.tmp 45), none, []⟩]]
theorem k_kit_LeftOf_r5_sg : segs k_kit_LeftOf_r5 = k_kit_LeftOf_r5s := by kernel_rfl
theorem k_kit_LeftOf_r5_st : statOK k_kit_LeftOf_r5 = true := by kernel_rfl
def k_kit_LeftOf : AFun := { params := 4, ntmps := 46, body := (.seq (.reg k_kit_LeftOf_r0 false) (.seq (.reg k_kit_LeftOf_r1 false) (.seq (.seq (.reg k_kit_LeftOf_r2 false) (.cond (.tmp 21) (.seq (.reg k_kit_LeftOf_r3 false) .ret) .skip)) (.seq (.reg k_kit_LeftOf_r4 false) (.seq (.reg k_kit_LeftOf_r5 true) .ret))))), res := [.tmp 8] }
theorem k_kit_LeftOf_ok : cfun Try.prog Try.f50 = k_kit_LeftOf := by kernel_rfl

def k_ref05_Strain_r0 : List AOper := [
  ⟨some 3, .box (.tmp 0), none, []⟩,
 ⟨some 5, .box (.tmp 2), none, []⟩,
 ⟨some 6, .move (.const (.nilsl)), none, []⟩,
 ⟨some 7, .move (.const (.int .i64 0)), none, []⟩]
def k_ref05_Strain_r1 : List AOper := [
  ⟨some 13, .load (some (2)) (.tmp 3), none, []⟩,
 ⟨some 14, .move (.tmp 1), none, []⟩,
 ⟨some 15, .load (some (2)) (.tmp 5), none, []⟩,
 ⟨some 16, .call (.const (.fn (.func 102) [] [])) [.tmp 13, .tmp 14, .tmp 15], none, []⟩,
 ⟨some 8, .move (.tmp 16), none, []⟩]
def k_ref05_Strain_r2 : List AOper := [
  ⟨some 17, .move (.tmp 8), none, []⟩,
 ⟨some 18, .bin .plain .neq (.tmp 17) (.const (.int .i64 0)), none, []⟩]
def k_ref05_Strain_r3 : List AOper := [
  ⟨some 19, .move (.tmp 8), none, []⟩,
 ⟨some 6, .move (.const (.nilsl)), none, []⟩,
 ⟨some 7, .move (.tmp 19), none, []⟩]
def k_ref05_Strain_r4 : List AOper := [
  ⟨some 20, .load (some (2)) (.tmp 3), none, []⟩,
 ⟨some 21, .move (.tmp 1), none, []⟩,
 ⟨some 22, .load (some (2)) (.tmp 5), none, []⟩,
 ⟨some 23, .call (.const (.fn (.func 103) [] [])) [.tmp 20, .tmp 21, .tmp 22], none, []⟩,
 ⟨some 9, .move (.tmp 23), none, []⟩]
def k_ref05_Strain_r5 : List AOper := [
  ⟨some 10, .move (.const (.nilsl)), none, []⟩]
def k_ref05_Strain_r6 : List AOper := [
  ⟨some 11, .move (.const (.int .i64 0)), none, []⟩]
def k_ref05_Strain_r7 : List AOper := [
  ⟨some 12, .move (.const (.int .i64 0)), none, []⟩]
def k_ref05_Strain_r8 : List AOper := [
  ⟨some 24, .move (.tmp 12), none, []⟩,
 ⟨some 25, .fieldAddr 1 (.tmp 5), none, []⟩,
 ⟨some 26, .load none (.tmp 25), none, []⟩,
 ⟨some 27, .len false (.tmp 26), none, []⟩,
 ⟨some 28, .bin .plain .lss (.tmp 24) (.tmp 27), none, []⟩]
def k_ref05_Strain_r9 : List AOper := [
  ⟨some 31, .move (.tmp 11), none, []⟩,
 ⟨some 32, .fieldAddr 1 (.tmp 5), none, []⟩,
 ⟨some 33, .load none (.tmp 32), none, []⟩,
 ⟨some 34, .move (.tmp 12), none, []⟩,
 ⟨some 35, .indexAddr 2 (.tmp 33) (.tmp 34), none, []⟩,
 ⟨some 36, .fieldAddr 0 (.tmp 35), none, []⟩,
 ⟨some 37, .load none (.tmp 36), none, []⟩,
 ⟨some 38, .bin .plain .add (.tmp 31) (.tmp 37), none, []⟩,
 ⟨some 11, .move (.tmp 38), none, []⟩]
def k_ref05_Strain_r10 : List AOper := [
  ⟨some 39, .move (.tmp 10), none, []⟩,
 ⟨some 40, .move (.tmp 9), none, []⟩,
 ⟨some 41, .move (.tmp 11), none, []⟩,
 ⟨some 42, .indexAddr 2 (.tmp 40) (.tmp 41), none, []⟩,
 ⟨some 43, .load (some (2)) (.tmp 42), none, []⟩,
 ⟨some 44, .buildSlice 2 [.tmp 43], none, []⟩,
 ⟨some 45, .append 2 16 true (.tmp 39) (.tmp 44), none, []⟩,
 ⟨some 10, .move (.tmp 45), none, []⟩]
def k_ref05_Strain_r11 : List AOper := [
  ⟨some 29, .move (.tmp 12), none, []⟩,
 ⟨some 30, .bin .plain .add (.tmp 29) (.const (.int .i64 1)), none, []⟩,
 ⟨some 12, .move (.tmp 30), none, []⟩]
def k_ref05_Strain_r12 : ACode := (.seq (.seq (.reg k_ref05_Strain_r8 false) (.cond (.tmp 28) .skip (.exit 0))) (.seq (.block 1 (.seq (.reg k_ref05_Strain_r9 false) (.reg k_ref05_Strain_r10 false))) (.reg k_ref05_Strain_r11 false)))
def k_ref05_Strain_r13 : List AOper := [
  ⟨some 46, .move (.tmp 10), none, []⟩,
 ⟨some 6, .move (.tmp 46), none, []⟩,
 ⟨some 7, .move (.const (.int .i64 0)), none, []⟩]
def k_ref05_Strain : AFun := { params := 3, ntmps := 47, body := (.seq (.reg k_ref05_Strain_r0 false) (.seq (.seq (.reg k_ref05_Strain_r1 false) (.seq (.reg k_ref05_Strain_r2 false) (.cond (.tmp 18) (.seq (.reg k_ref05_Strain_r3 false) .ret) .skip))) (.seq (.reg k_ref05_Strain_r4 false) (.seq (.reg k_ref05_Strain_r5 false) (.seq (.reg k_ref05_Strain_r6 false) (.seq (.seq (.reg k_ref05_Strain_r7 false) (.block 0 (.loop k_ref05_Strain_r12))) (.seq (.reg k_ref05_Strain_r13 false) .ret))))))), res := [.tmp 6, .tmp 7] }
theorem k_ref05_Strain_ok : cfun Try.prog Try.f52 = k_ref05_Strain := by kernel_rfl

def k_glass_Judge_r0 : List AOper := [
  ⟨some 4, .box (.tmp 0), none, []⟩,
 ⟨some 6, .box (.tmp 2), none, []⟩,
 ⟨some 8, .move (.const (.int .i64 0)), none, []⟩,
 ⟨some 9, .move (.const (.int .i64 0)), none, []⟩,
 ⟨some 10, .move (.const (.int .i64 0)), none, []⟩]
def k_glass_Judge_r1 : List AOper := [
  ⟨some 13, .load (some (2)) (.tmp 4), none, []⟩,
 ⟨some 14, .move (.tmp 1), none, []⟩,
 ⟨some 15, .build [.int .i64 0, .nilsl, .int .i64 0] [(0, 2, .tmp 13), (2, 1, .tmp 14)], none, []⟩,
 ⟨some 11, .box (.const (.agg [.int .i64 0, .nilsl, .int .i64 0])), none, []⟩,
 ⟨none, .store 3 (.tmp 11) (.tmp 15), none, []⟩]
def k_glass_Judge_r2 : List AOper := [
  ⟨some 16, .load (some (3)) (.tmp 11), none, []⟩,
 ⟨some 17, .load (some (2)) (.tmp 6), none, []⟩,
 ⟨some 18, .call (.const (.fn (.func 100) [] [])) [.tmp 16, .tmp 17], none, []⟩,
 ⟨some 12, .move (.tmp 18), none, []⟩]
def k_glass_Judge_r3 : List AOper := [
  ⟨some 19, .move (.tmp 12), none, []⟩,
 ⟨some 20, .bin .plain .neq (.tmp 19) (.const (.int .i64 0)), none, []⟩]
def k_glass_Judge_r4 : List AOper := [
  ⟨some 21, .move (.tmp 12), none, []⟩,
 ⟨some 8, .move (.const (.int .i64 0)), none, []⟩,
 ⟨some 9, .move (.const (.int .i64 0)), none, []⟩,
 ⟨some 10, .move (.tmp 21), none, []⟩]
def k_glass_Judge_r5 : List AOper := [
  ⟨some 22, .move (.tmp 3), none, []⟩,
 ⟨some 23, .call (.const (.fn (.func 104) [] [])) [.tmp 22], none, []⟩,
 ⟨some 24, .not (.tmp 23), none, []⟩]
def k_glass_Judge_r6 : List AOper := [
  ⟨some 8, .move (.const (.int .i64 0)), none, []⟩,
 ⟨some 9, .move (.const (.int .i64 0)), none, []⟩,
 ⟨some 10, .move (.const (.int .i64 2)), none, []⟩]
def k_glass_Judge_r7 : List AOper := [
  ⟨some 26, .load (some (3)) (.tmp 11), none, []⟩,
 ⟨some 27, .load (some (2)) (.tmp 6), none, []⟩,
 ⟨some 28, .move (.tmp 3), none, []⟩,
 ⟨some 29, .call (.const (.fn (.func 106) [] [])) [.tmp 26, .tmp 27, .tmp 28], none, []⟩,
 ⟨some 30, .call (.const (.fn (.func 105) [] [])) [.tmp 29], none, []⟩,
 ⟨some 25, .move (.tmp 30), none, []⟩,
 ⟨some 31, .extract (.tmp 25) 0, none, []⟩,
 ⟨some 32, .extract (.tmp 25) 1, none, []⟩,
 ⟨some 8, .move (.tmp 31), none, []⟩,
 ⟨some 9, .move (.tmp 32), none, []⟩]
def k_glass_Judge_r8 : List AOper := [
  ⟨some 33, .move (.tmp 8), none, []⟩,
 ⟨some 34, .move (.tmp 9), none, []⟩,
 ⟨some 8, .move (.tmp 33), none, []⟩,
 ⟨some 9, .move (.tmp 34), none, []⟩,
 ⟨some 10, .move (.const (.int .i64 0)), none, []⟩]
def k_glass_Judge : AFun := { params := 4, ntmps := 35, body := (.seq (.reg k_glass_Judge_r0 false) (.seq (.reg k_glass_Judge_r1 false) (.seq (.seq (.reg k_glass_Judge_r2 false) (.seq (.reg k_glass_Judge_r3 false) (.cond (.tmp 20) (.seq (.reg k_glass_Judge_r4 false) .ret) .skip))) (.seq (.seq (.reg k_glass_Judge_r5 false) (.cond (.tmp 24) (.seq (.reg k_glass_Judge_r6 false) .ret) .skip)) (.seq (.reg k_glass_Judge_r7 false) (.seq (.reg k_glass_Judge_r8 false) .ret)))))), res := [.tmp 8, .tmp 9, .tmp 10] }
theorem k_glass_Judge_ok : cfun Try.prog Try.f53 = k_glass_Judge := by kernel_rfl

def k_ref05_Relaxes_r0 : List AOper := [
  ⟨some 3, .box (.tmp 0), none, []⟩,
 ⟨some 6, .box (.const (.agg [.int .i64 0, .int .i64 0])), none, []⟩]
def k_ref05_Relaxes_r1 : List AOper := [
  ⟨some 7, .move (.tmp 1), none, []⟩,
 ⟨some 8, .fieldAddr 3 (.tmp 3), none, [0]⟩,
 ⟨some 9, .fieldAddr 0 (.tmp 8), none, [0]⟩,
 ⟨some 10, .load none (.tmp 9), none, [0]⟩,
 ⟨some 11, .bin .plain .mul (.tmp 7) (.tmp 10), none, []⟩,
 ⟨some 12, .call (.const (.fn (.func 127) [] [])) [.tmp 11, .const (.int .i64 1000000)], none, []⟩,
 ⟨some 13, .move (.tmp 2), none, [0, 1, 2, 3, 4, 5]⟩,
 ⟨some 14, .fieldAddr 3 (.tmp 3), none, [0, 1, 2, 3, 4, 5, 6]⟩,
 ⟨some 15, .fieldAddr 1 (.tmp 14), none, [0, 1, 2, 3, 4, 5, 6]⟩,
 ⟨some 16, .load none (.tmp 15), none, [0, 1, 2, 3, 4, 5, 6]⟩,
 ⟨some 17, .bin .plain .mul (.tmp 13) (.tmp 16), none, [0, 1, 2, 3, 4, 5]⟩,
 ⟨some 18, .call (.const (.fn (.func 128) [] [])) [.tmp 17, .const (.int .i64 1000000)], none, []⟩,
 ⟨some 19, .build [.int .i64 0, .int .i64 0] [(0, 1, .tmp 12), (1, 1, .tmp 18)], none, []⟩,
 ⟨none, .store 2 (.tmp 6) (.tmp 19), none, []⟩]
def k_ref05_Relaxes_r1s : List (List AOper) := [
  [
  ⟨some 7, .move (.tmp 1), none, []⟩,
 ⟨some 8, .fieldAddr 3 (.tmp 3), none, [0]⟩,
 ⟨some 9, .fieldAddr 0 (.tmp 8), none, [0]⟩,
 ⟨some 10, .load none (.tmp 9), none, [0]⟩,
 ⟨some 11, .bin .plain .mul (.tmp 7) (.tmp 10), none, []⟩,
 ⟨some 12, .call (.const (.fn (.func 127) [] [])) [.tmp 11, .const (.int .i64 1000000)], none, []⟩,
 ⟨some 13, .move (.tmp 2), none, [0, 1, 2, 3, 4, 5]⟩,
 ⟨some 14, .fieldAddr 3 (.tmp 3), none, [0, 1, 2, 3, 4, 5, 6]⟩,
 ⟨some 15, .fieldAddr 1 (.tmp 14), none, [0, 1, 2, 3, 4, 5, 6]⟩,
 ⟨some 16, .load none (.tmp 15), none, [0, 1, 2, 3, 4, 5, 6]⟩,
 ⟨some 17, .bin .plain .mul (.tmp 13) (.tmp 16), none, [0, 1, 2, 3, 4, 5]⟩], 
  [
  ⟨some 18, .call (.const (.fn (.func 128) [] [])) [.tmp 17, .const (.int .i64 1000000)], none, []⟩], 
  [
  ⟨some 19, .build [.int .i64 0, .int .i64 0] [(0, 1, .tmp 12), (1, 1, .tmp 18)], none, []⟩], 
  [
  ⟨none, .store 2 (.tmp 6) (.tmp 19), none, []⟩]]
theorem k_ref05_Relaxes_r1_sg : segs k_ref05_Relaxes_r1 = k_ref05_Relaxes_r1s := by kernel_rfl
theorem k_ref05_Relaxes_r1_st : statOK k_ref05_Relaxes_r1 = true := by kernel_rfl
def k_ref05_Relaxes : AFun := { params := 3, ntmps := 20, body := (.seq (.reg k_ref05_Relaxes_r0 false) (.seq (.reg k_ref05_Relaxes_r1 true) .ret)), res := [.cell 6 (some ((some (2))))] }
theorem k_ref05_Relaxes_ok : cfun Try.prog Try.f77 = k_ref05_Relaxes := by kernel_rfl

def k_ref05_checkWall_r0 : List AOper := [
  ⟨some 3, .box (.tmp 0), none, []⟩,
 ⟨some 5, .box (.tmp 2), none, []⟩,
 ⟨some 6, .move (.const (.int .i64 0)), none, []⟩]
def k_ref05_checkWall_r1 : List AOper := [
  ⟨some 8, .load (some (2)) (.tmp 3), none, []⟩,
 ⟨some 9, .call (.const (.fn (.func 31) [] [])) [.tmp 8], none, []⟩,
 ⟨some 7, .move (.tmp 9), none, []⟩]
def k_ref05_checkWall_r2 : List AOper := [
  ⟨some 10, .move (.tmp 7), none, []⟩,
 ⟨some 11, .bin .plain .neq (.tmp 10) (.const (.int .i64 0)), none, []⟩]
def k_ref05_checkWall_r3 : List AOper := [
  ⟨some 12, .move (.tmp 7), none, []⟩,
 ⟨some 6, .move (.tmp 12), none, []⟩]
def k_ref05_checkWall_r4 : List AOper := [
  ⟨some 13, .move (.tmp 1), none, []⟩,
 ⟨some 14, .call (.const (.fn (.func 88) [] [])) [.tmp 13, .const (.int .i64 1), .const (.int .i64 1000)], none, []⟩]
def k_ref05_checkWall_r5 : List AOper := [
  ⟨some 6, .move (.const (.int .i64 2)), none, []⟩]
def k_ref05_checkWall_r6 : List AOper := [
  ⟨some 15, .load (some (2)) (.tmp 5), none, []⟩,
 ⟨some 16, .call (.const (.fn (.func 33) [] [])) [.tmp 15], none, []⟩,
 ⟨some 6, .move (.tmp 16), none, []⟩]
def k_ref05_checkWall : AFun := { params := 3, ntmps := 17, body := (.seq (.reg k_ref05_checkWall_r0 false) (.seq (.seq (.reg k_ref05_checkWall_r1 false) (.seq (.reg k_ref05_checkWall_r2 false) (.cond (.tmp 11) (.seq (.reg k_ref05_checkWall_r3 false) .ret) .skip))) (.seq (.seq (.reg k_ref05_checkWall_r4 false) (.cond (.tmp 14) (.seq (.reg k_ref05_checkWall_r5 false) .ret) .skip)) (.seq (.reg k_ref05_checkWall_r6 false) .ret)))), res := [.tmp 6] }
theorem k_ref05_checkWall_ok : cfun Try.prog Try.f102 = k_ref05_checkWall := by kernel_rfl

def k_ref05_strains_r0 : List AOper := [
  ⟨some 3, .box (.tmp 0), none, []⟩,
 ⟨some 5, .box (.tmp 2), none, []⟩,
 ⟨some 6, .move (.const (.nilsl)), none, []⟩]
def k_ref05_strains_r1 : List AOper := [
  ⟨some 11, .load (some (2)) (.tmp 5), none, []⟩,
 ⟨some 12, .call (.const (.fn (.func 121) [] [])) [.tmp 11], none, []⟩,
 ⟨some 7, .move (.tmp 12), none, []⟩]
def k_ref05_strains_r2 : List AOper := [
  ⟨some 13, .build [.int .i64 0, .int .i64 0] [], none, []⟩,
 ⟨some 14, .buildSlice 2 [.tmp 13], none, []⟩,
 ⟨some 8, .move (.tmp 14), none, []⟩]
def k_ref05_strains_r3 : List AOper := [
  ⟨some 9, .move (.const (.int .i64 1)), none, []⟩]
def k_ref05_strains_r4 : List AOper := [
  ⟨some 15, .move (.tmp 9), none, []⟩,
 ⟨some 16, .move (.tmp 7), none, []⟩,
 ⟨some 17, .len false (.tmp 16), none, []⟩,
 ⟨some 18, .bin .plain .lss (.tmp 15) (.tmp 17), none, []⟩]
def k_ref05_strains_r5 : List AOper := [
  ⟨some 21, .move (.tmp 7), none, []⟩,
 ⟨some 22, .move (.tmp 9), none, [0]⟩,
 ⟨some 23, .indexAddr 1 (.tmp 21) (.tmp 22), none, []⟩,
 ⟨some 24, .load none (.tmp 23), none, []⟩,
 ⟨some 25, .move (.tmp 7), none, [0, 1, 2, 3]⟩,
 ⟨some 26, .move (.tmp 9), none, [0, 1, 2, 3, 4]⟩,
 ⟨some 27, .bin .plain .sub (.tmp 26) (.const (.int .i64 1)), none, [0, 1, 2, 3, 4]⟩,
 ⟨some 28, .indexAddr 1 (.tmp 25) (.tmp 27), none, [0, 1, 2, 3]⟩,
 ⟨some 29, .load none (.tmp 28), none, [0, 1, 2, 3]⟩,
 ⟨some 30, .bin .plain .sub (.tmp 24) (.tmp 29), none, []⟩,
 ⟨some 31, .move (.tmp 7), none, [0, 1, 2, 3, 4, 5, 6, 7, 8, 9]⟩,
 ⟨some 32, .move (.tmp 9), none, [0, 1, 2, 3, 4, 5, 6, 7, 8, 9, 10]⟩,
 ⟨some 33, .bin .plain .sub (.tmp 32) (.const (.int .i64 1)), none, [0, 1, 2, 3, 4, 5, 6, 7, 8, 9, 10]⟩,
 ⟨some 34, .indexAddr 1 (.tmp 31) (.tmp 33), none, [0, 1, 2, 3, 4, 5, 6, 7, 8, 9]⟩,
 ⟨some 35, .load none (.tmp 34), none, [0, 1, 2, 3, 4, 5, 6, 7, 8, 9]⟩,
 ⟨some 36, .move (.tmp 7), none, [0, 1, 2, 3, 4, 5, 6, 7, 8, 9, 10, 11, 12, 13, 14]⟩,
 ⟨some 37, .move (.tmp 9), none, [0, 1, 2, 3, 4, 5, 6, 7, 8, 9, 10, 11, 12, 13, 14, 15]⟩,
 ⟨some 38, .indexAddr 1 (.tmp 36) (.tmp 37), none, [0, 1, 2, 3, 4, 5, 6, 7, 8, 9, 10, 11, 12, 13, 14]⟩,
 ⟨some 39, .load none (.tmp 38), none, [0, 1, 2, 3, 4, 5, 6, 7, 8, 9, 10, 11, 12, 13, 14]⟩,
 ⟨some 40, .bin .plain .sub (.tmp 35) (.tmp 39), none, [0, 1, 2, 3, 4, 5, 6, 7, 8, 9]⟩,
 ⟨some 41, .minmax true [.tmp 30, .tmp 40], none, []⟩,
 ⟨some 10, .move (.tmp 41), none, []⟩]
def k_ref05_strains_r5s : List (List AOper) := [
  [
  ⟨some 21, .move (.tmp 7), none, []⟩,
 ⟨some 22, .move (.tmp 9), none, [0]⟩,
 ⟨some 23, .indexAddr 1 (.tmp 21) (.tmp 22), none, []⟩,
 ⟨some 24, .load none (.tmp 23), none, []⟩,
 ⟨some 25, .move (.tmp 7), none, [0, 1, 2, 3]⟩,
 ⟨some 26, .move (.tmp 9), none, [0, 1, 2, 3, 4]⟩,
 ⟨some 27, .bin .plain .sub (.tmp 26) (.const (.int .i64 1)), none, [0, 1, 2, 3, 4]⟩,
 ⟨some 28, .indexAddr 1 (.tmp 25) (.tmp 27), none, [0, 1, 2, 3]⟩,
 ⟨some 29, .load none (.tmp 28), none, [0, 1, 2, 3]⟩,
 ⟨some 30, .bin .plain .sub (.tmp 24) (.tmp 29), none, []⟩,
 ⟨some 31, .move (.tmp 7), none, [0, 1, 2, 3, 4, 5, 6, 7, 8, 9]⟩,
 ⟨some 32, .move (.tmp 9), none, [0, 1, 2, 3, 4, 5, 6, 7, 8, 9, 10]⟩,
 ⟨some 33, .bin .plain .sub (.tmp 32) (.const (.int .i64 1)), none, [0, 1, 2, 3, 4, 5, 6, 7, 8, 9, 10]⟩,
 ⟨some 34, .indexAddr 1 (.tmp 31) (.tmp 33), none, [0, 1, 2, 3, 4, 5, 6, 7, 8, 9]⟩,
 ⟨some 35, .load none (.tmp 34), none, [0, 1, 2, 3, 4, 5, 6, 7, 8, 9]⟩,
 ⟨some 36, .move (.tmp 7), none, [0, 1, 2, 3, 4, 5, 6, 7, 8, 9, 10, 11, 12, 13, 14]⟩,
 ⟨some 37, .move (.tmp 9), none, [0, 1, 2, 3, 4, 5, 6, 7, 8, 9, 10, 11, 12, 13, 14, 15]⟩,
 ⟨some 38, .indexAddr 1 (.tmp 36) (.tmp 37), none, [0, 1, 2, 3, 4, 5, 6, 7, 8, 9, 10, 11, 12, 13, 14]⟩,
 ⟨some 39, .load none (.tmp 38), none, [0, 1, 2, 3, 4, 5, 6, 7, 8, 9, 10, 11, 12, 13, 14]⟩,
 ⟨some 40, .bin .plain .sub (.tmp 35) (.tmp 39), none, [0, 1, 2, 3, 4, 5, 6, 7, 8, 9]⟩], 
  [
  ⟨some 41, .minmax true [.tmp 30, .tmp 40], none, []⟩], 
  [
  ⟨some 10, .move (.tmp 41), none, []⟩]]
theorem k_ref05_strains_r5_sg : segs k_ref05_strains_r5 = k_ref05_strains_r5s := by kernel_rfl
theorem k_ref05_strains_r5_st : statOK k_ref05_strains_r5 = true := by kernel_rfl
def k_ref05_strains_r6 : List AOper := [
  ⟨some 42, .move (.tmp 8), none, []⟩,
 ⟨some 43, .load (some (2)) (.tmp 3), none, [0]⟩,
 ⟨some 44, .move (.tmp 7), none, [0, 1]⟩,
 ⟨some 45, .move (.tmp 9), none, [0, 1, 2]⟩,
 ⟨some 46, .indexAddr 1 (.tmp 44) (.tmp 45), none, [0, 1]⟩,
 ⟨some 47, .load none (.tmp 46), none, [0, 1]⟩,
 ⟨some 48, .call (.const (.fn (.func 76) [] [])) [.tmp 43, .tmp 47], none, [0]⟩,
 ⟨some 49, .move (.tmp 8), none, [0, 1, 2, 3, 4, 5, 6]⟩,
 ⟨some 50, .move (.tmp 9), none, [0, 1, 2, 3, 4, 5, 6, 7]⟩,
 ⟨some 51, .bin .plain .sub (.tmp 50) (.const (.int .i64 1)), none, [0, 1, 2, 3, 4, 5, 6, 7]⟩,
 ⟨some 52, .indexAddr 2 (.tmp 49) (.tmp 51), none, [0, 1, 2, 3, 4, 5, 6]⟩,
 ⟨some 53, .load (some (2)) (.tmp 52), none, [0, 1, 2, 3, 4, 5, 6]⟩,
 ⟨some 54, .move (.tmp 1), none, [0, 1, 2, 3, 4, 5, 6, 7, 8, 9, 10, 11]⟩,
 ⟨some 55, .move (.tmp 10), none, [0, 1, 2, 3, 4, 5, 6, 7, 8, 9, 10, 11, 12]⟩,
 ⟨some 56, .call (.const (.fn (.func 139) [] [])) [.tmp 48, .tmp 53, .tmp 54, .tmp 55], none, [0]⟩,
 ⟨some 57, .buildSlice 2 [.tmp 56], none, [0]⟩,
 ⟨some 58, .append 2 16 true (.tmp 42) (.tmp 57), none, []⟩,
 ⟨some 8, .move (.tmp 58), none, []⟩]
def k_ref05_strains_r6s : List (List AOper) := [
  [
  ⟨some 42, .move (.tmp 8), none, []⟩,
 ⟨some 43, .load (some (2)) (.tmp 3), none, [0]⟩,
 ⟨some 44, .move (.tmp 7), none, [0, 1]⟩,
 ⟨some 45, .move (.tmp 9), none, [0, 1, 2]⟩,
 ⟨some 46, .indexAddr 1 (.tmp 44) (.tmp 45), none, [0, 1]⟩,
 ⟨some 47, .load none (.tmp 46), none, [0, 1]⟩,
 ⟨some 48, .call (.const (.fn (.func 76) [] [])) [.tmp 43, .tmp 47], none, [0]⟩,
 ⟨some 49, .move (.tmp 8), none, [0, 1, 2, 3, 4, 5, 6]⟩,
 ⟨some 50, .move (.tmp 9), none, [0, 1, 2, 3, 4, 5, 6, 7]⟩,
 ⟨some 51, .bin .plain .sub (.tmp 50) (.const (.int .i64 1)), none, [0, 1, 2, 3, 4, 5, 6, 7]⟩,
 ⟨some 52, .indexAddr 2 (.tmp 49) (.tmp 51), none, [0, 1, 2, 3, 4, 5, 6]⟩,
 ⟨some 53, .load (some (2)) (.tmp 52), none, [0, 1, 2, 3, 4, 5, 6]⟩,
 ⟨some 54, .move (.tmp 1), none, [0, 1, 2, 3, 4, 5, 6, 7, 8, 9, 10, 11]⟩,
 ⟨some 55, .move (.tmp 10), none, [0, 1, 2, 3, 4, 5, 6, 7, 8, 9, 10, 11, 12]⟩,
 ⟨some 56, .call (.const (.fn (.func 139) [] [])) [.tmp 48, .tmp 53, .tmp 54, .tmp 55], none, [0]⟩,
 ⟨some 57, .buildSlice 2 [.tmp 56], none, [0]⟩], 
  [
  ⟨some 58, .append 2 16 true (.tmp 42) (.tmp 57), none, []⟩], 
  [
  ⟨some 8, .move (.tmp 58), none, []⟩]]
theorem k_ref05_strains_r6_sg : segs k_ref05_strains_r6 = k_ref05_strains_r6s := by kernel_rfl
theorem k_ref05_strains_r6_st : statOK k_ref05_strains_r6 = true := by kernel_rfl
def k_ref05_strains_r7 : List AOper := [
  ⟨some 19, .move (.tmp 9), none, []⟩,
 ⟨some 20, .bin .plain .add (.tmp 19) (.const (.int .i64 1)), none, []⟩,
 ⟨some 9, .move (.tmp 20), none, []⟩]
def k_ref05_strains_r8 : ACode := (.seq (.seq (.reg k_ref05_strains_r4 false) (.cond (.tmp 18) .skip (.exit 0))) (.seq (.block 1 (.seq (.reg k_ref05_strains_r5 true) (.reg k_ref05_strains_r6 true))) (.reg k_ref05_strains_r7 false)))
def k_ref05_strains_r9 : List AOper := [
  ⟨some 59, .move (.tmp 8), none, []⟩,
 ⟨some 6, .move (.tmp 59), none, []⟩]
def k_ref05_strains : AFun := { params := 3, ntmps := 60, body := (.seq (.reg k_ref05_strains_r0 false) (.seq (.reg k_ref05_strains_r1 false) (.seq (.reg k_ref05_strains_r2 false) (.seq (.seq (.reg k_ref05_strains_r3 false) (.block 0 (.loop k_ref05_strains_r8))) (.seq (.reg k_ref05_strains_r9 false) .ret))))), res := [.tmp 6] }
theorem k_ref05_strains_ok : cfun Try.prog Try.f103 = k_ref05_strains := by kernel_rfl

def k_glass_isStrain_r0 : List AOper := [
  ⟨some 2, .move (.const (.bool false)), none, []⟩]
def k_glass_isStrain_r1 : List AOper := [
  ⟨some 3, .move (.tmp 0), none, []⟩,
 ⟨some 4, .call (.const (.fn (.func 85) [] [])) [.tmp 3, .const (.int .i64 0), .const (.int .i64 1099511627776)], none, []⟩,
 ⟨some 2, .move (.tmp 4), none, []⟩]
def k_glass_isStrain : AFun := { params := 1, ntmps := 5, body := (.seq (.reg k_glass_isStrain_r0 false) (.seq (.reg k_glass_isStrain_r1 false) .ret)), res := [.tmp 2] }
theorem k_glass_isStrain_ok : cfun Try.prog Try.f104 = k_glass_isStrain := by kernel_rfl

def k_glass_judge_glass_strained_r0 : List AOper := [
  ⟨some 2, .box (.const (.int .i64 0)), none, []⟩,
 ⟨some 3, .box (.const (.int .i64 0)), none, []⟩]
def k_glass_judge_glass_strained_r1 : List AOper := [
  ⟨none, .store 1 (.tmp 2) (.const (.int .i64 1)), none, []⟩]
def k_glass_judge_glass_strained_r2 : List AOper := [
  ⟨some 6, .move (.tmp 0), none, []⟩]
def k_glass_judge_glass_strained_r3 : List AOper := [
  ⟨some 4, .move (.tmp 7), none, []⟩]
def k_glass_judge_glass_strained_r4 : List AOper := [
  ⟨some 5, .box (.const (.agg [.int .i64 0, .int .i64 0, .int .i64 0])), none, []⟩,
 ⟨none, .store 3 (.tmp 5) (.tmp 8), none, []⟩]
def k_glass_judge_glass_strained_r5 : List AOper := [
  ⟨some 9, .load (some (3)) (.tmp 5), none, []⟩,
 ⟨some 10, .makeIface 136 (.tmp 9), none, []⟩,
 ⟨some 11, .callM [(121, 167), (136, 169)] (.tmp 10) [], none, []⟩]
def k_glass_judge_glass_strained_r6 : List AOper := [
  ⟨some 12, .move (.tmp 4), none, []⟩,
 ⟨none, .store 1 (.tmp 2) (.const (.int .i64 2)), none, []⟩,
 ⟨none, .store 1 (.tmp 3) (.tmp 12), none, []⟩]
def k_glass_judge_glass_strained_r7 : List AOper := [
  ⟨some 13, .load none (.tmp 2), none, []⟩,
 ⟨some 14, .bin .plain .eql (.tmp 13) (.const (.int .i64 1)), none, []⟩,
 ⟨some 15, .move (.tmp 14), none, []⟩,
 ⟨some 16, .load (some (3)) (.tmp 5), (some (15, true)), []⟩,
 ⟨some 17, .makeIface 136 (.tmp 16), (some (15, true)), []⟩,
 ⟨some 18, .callM [(121, 168), (136, 170)] (.tmp 17) [], (some (15, true)), []⟩,
 ⟨some 19, .not (.tmp 18), (some (15, true)), []⟩,
 ⟨some 20, .pick (.tmp 15) (.tmp 19) (.const (.bool false)), none, []⟩]
def k_glass_judge_glass_strained_r8 : List AOper := [
  ⟨some 21, .move (.tmp 4), none, []⟩,
 ⟨none, .store 1 (.tmp 2) (.const (.int .i64 3)), none, []⟩,
 ⟨none, .store 1 (.tmp 3) (.tmp 21), none, []⟩]
def k_glass_judge_glass_strained_r9 : ACode := (.seq (.reg k_glass_judge_glass_strained_r3 false) (.reg k_glass_judge_glass_strained_r4 false))
def k_glass_judge_glass_strained_r10 : ACode := (.block 1 (.seq (.seq (.reg k_glass_judge_glass_strained_r5 false) (.cond (.tmp 11) (.seq (.reg k_glass_judge_glass_strained_r6 false) .ret) .skip)) (.seq (.reg k_glass_judge_glass_strained_r7 false) (.cond (.tmp 20) (.reg k_glass_judge_glass_strained_r8 false) .skip))))
def k_glass_judge_glass_strained_r11 : List AOper := [
  ⟨some 22, .load none (.tmp 2), none, []⟩,
 ⟨some 23, .load none (.tmp 3), none, [0]⟩,
 ⟨none, .store 1 (.tmp 2) (.tmp 22), none, [1]⟩,
 ⟨none, .store 1 (.tmp 3) (.tmp 23), none, []⟩]
def k_glass_judge_glass_strained_r11s : List (List AOper) := [
  [
  ⟨some 22, .load none (.tmp 2), none, []⟩,
 ⟨some 23, .load none (.tmp 3), none, [0]⟩,
 ⟨none, .store 1 (.tmp 2) (.tmp 22), none, [1]⟩], 
  [
  ⟨none, .store 1 (.tmp 3) (.tmp 23), none, []⟩]]
theorem k_glass_judge_glass_strained_r11_sg : segs k_glass_judge_glass_strained_r11 = k_glass_judge_glass_strained_r11s := by kernel_rfl
theorem k_glass_judge_glass_strained_r11_st : statOK k_glass_judge_glass_strained_r11 = true := by kernel_rfl
def k_glass_judge_glass_strained : AFun := { params := 1, ntmps := 24, body := (.seq (.reg k_glass_judge_glass_strained_r0 false) (.seq (.reg k_glass_judge_glass_strained_r1 false) (.seq (.seq (.reg k_glass_judge_glass_strained_r2 false) (.block 0 (.rng (.tmp 6) [7, 8] k_glass_judge_glass_strained_r9 k_glass_judge_glass_strained_r10))) (.seq (.reg k_glass_judge_glass_strained_r11 true) .ret)))), res := [.cell 2 (some (none)), .cell 3 (some (none))] }
theorem k_glass_judge_glass_strained_ok : cfun Try.prog Try.f105 = k_glass_judge_glass_strained := by kernel_rfl

def k_glass_wall_limited_r0 : List AOper := [
  ⟨some 3, .box (.tmp 0), none, []⟩,
 ⟨some 4, .box (.tmp 1), none, []⟩,
 ⟨some 5, .box (.tmp 2), none, []⟩,
 ⟨some 6, .move (.const (.nilfn)), none, []⟩]
def k_glass_wall_limited_r1 : List AOper := [
  ⟨some 7, .makeFunc (.func 140) [] [.tmp 4, .tmp 3, .tmp 5], none, []⟩,
 ⟨some 6, .move (.tmp 7), none, []⟩]
def k_glass_wall_limited : AFun := { params := 3, ntmps := 8, body := (.seq (.reg k_glass_wall_limited_r0 false) (.seq (.reg k_glass_wall_limited_r1 false) .ret)), res := [.tmp 6] }
theorem k_glass_wall_limited_ok : cfun Try.prog Try.f106 = k_glass_wall_limited := by kernel_rfl

def k_glass_ticksOf_r0 : List AOper := [
  ⟨some 1, .box (.tmp 0), none, []⟩,
 ⟨some 2, .move (.const (.int .i64 0)), none, []⟩]
def k_glass_ticksOf_r1 : List AOper := [
  ⟨some 3, .move (.const (.int .i64 0)), none, []⟩]
def k_glass_ticksOf_r2 : List AOper := [
  ⟨some 6, .fieldAddr 1 (.tmp 1), none, []⟩,
 ⟨some 7, .load none (.tmp 6), none, []⟩,
 ⟨some 8, .len false (.tmp 7), none, []⟩,
 ⟨some 9, .move (.const (.int .i64 0)), none, []⟩]
def k_glass_ticksOf_r3 : List AOper := [
  ⟨some 10, .bin .plain .lss (.tmp 9) (.tmp 8), none, []⟩]
def k_glass_ticksOf_r4 : List AOper := [
  ⟨some 11, .indexAddr 2 (.tmp 7) (.tmp 9), none, []⟩,
 ⟨some 12, .load (some (2)) (.tmp 11), none, []⟩,
 ⟨some 5, .box (.const (.agg [.int .i64 0, .int .i64 0])), none, []⟩,
 ⟨none, .store 2 (.tmp 5) (.tmp 12), none, []⟩]
def k_glass_ticksOf_r5 : List AOper := [
  ⟨some 13, .move (.tmp 3), none, []⟩,
 ⟨some 14, .fieldAddr 0 (.tmp 5), none, []⟩,
 ⟨some 15, .load none (.tmp 14), none, []⟩,
 ⟨some 16, .bin .plain .add (.tmp 13) (.tmp 15), none, []⟩,
 ⟨some 3, .move (.tmp 16), none, []⟩]
def k_glass_ticksOf_r6 : List AOper := [
  ⟨some 17, .bin .plain .add (.tmp 9) (.const (.int .i64 1)), none, []⟩,
 ⟨some 9, .move (.tmp 17), none, []⟩]
def k_glass_ticksOf_r7 : ACode := (.seq (.reg k_glass_ticksOf_r3 false) (.seq (.cond (.tmp 10) .skip (.exit 0)) (.seq (.block 1 (.seq (.reg k_glass_ticksOf_r4 false) (.reg k_glass_ticksOf_r5 false))) (.reg k_glass_ticksOf_r6 false))))
def k_glass_ticksOf_r8 : List AOper := [
  ⟨some 18, .move (.tmp 3), none, []⟩,
 ⟨some 2, .move (.tmp 18), none, []⟩]
def k_glass_ticksOf : AFun := { params := 1, ntmps := 19, body := (.seq (.reg k_glass_ticksOf_r0 false) (.seq (.reg k_glass_ticksOf_r1 false) (.seq (.seq (.reg k_glass_ticksOf_r2 false) (.block 0 (.loop k_glass_ticksOf_r7))) (.seq (.reg k_glass_ticksOf_r8 false) .ret)))), res := [.tmp 2] }
theorem k_glass_ticksOf_ok : cfun Try.prog Try.f118 = k_glass_ticksOf := by kernel_rfl

def k_ref05_Heats_r0 : List AOper := [
  ⟨some 1, .box (.tmp 0), none, []⟩,
 ⟨some 2, .move (.const (.nilsl)), none, []⟩]
def k_ref05_Heats_r1 : List AOper := [
  ⟨some 8, .fieldAddr 0 (.tmp 1), none, []⟩,
 ⟨some 9, .load none (.tmp 8), none, []⟩,
 ⟨some 10, .buildSlice 1 [.tmp 9], none, []⟩,
 ⟨some 3, .move (.tmp 10), none, []⟩]
def k_ref05_Heats_r2 : List AOper := [
  ⟨some 4, .move (.const (.int .i64 0)), none, []⟩]
def k_ref05_Heats_r3 : List AOper := [
  ⟨some 11, .move (.tmp 4), none, []⟩,
 ⟨some 12, .fieldAddr 1 (.tmp 1), none, []⟩,
 ⟨some 13, .load none (.tmp 12), none, []⟩,
 ⟨some 14, .len false (.tmp 13), none, []⟩,
 ⟨some 15, .bin .plain .lss (.tmp 11) (.tmp 14), none, []⟩]
def k_ref05_Heats_r4 : List AOper := [
  ⟨some 18, .move (.tmp 3), none, []⟩,
 ⟨some 19, .move (.tmp 3), none, [0]⟩,
 ⟨some 20, .len false (.tmp 19), none, [0]⟩,
 ⟨some 21, .bin .plain .sub (.tmp 20) (.const (.int .i64 1)), none, [0]⟩,
 ⟨some 22, .indexAddr 1 (.tmp 18) (.tmp 21), none, []⟩,
 ⟨some 23, .load none (.tmp 22), none, []⟩,
 ⟨some 24, .fieldAddr 1 (.tmp 1), none, [0, 1, 2, 3, 4, 5]⟩,
 ⟨some 25, .load none (.tmp 24), none, [0, 1, 2, 3, 4, 5]⟩,
 ⟨some 26, .move (.tmp 4), none, [0, 1, 2, 3, 4, 5, 6, 7]⟩,
 ⟨some 27, .indexAddr 2 (.tmp 25) (.tmp 26), none, [0, 1, 2, 3, 4, 5]⟩,
 ⟨some 28, .load (some (2)) (.tmp 27), none, [0, 1, 2, 3, 4, 5]⟩,
 ⟨some 6, .box (.const (.agg [.int .i64 0, .int .i64 0])), none, [0, 1, 2, 3, 4, 5, 6, 7, 8, 9, 10]⟩,
 ⟨some 5, .move (.tmp 23), none, [6, 7, 8, 9, 10]⟩,
 ⟨none, .store 2 (.tmp 6) (.tmp 28), none, []⟩]
def k_ref05_Heats_r4s : List (List AOper) := [
  [
  ⟨some 18, .move (.tmp 3), none, []⟩,
 ⟨some 19, .move (.tmp 3), none, [0]⟩,
 ⟨some 20, .len false (.tmp 19), none, [0]⟩,
 ⟨some 21, .bin .plain .sub (.tmp 20) (.const (.int .i64 1)), none, [0]⟩,
 ⟨some 22, .indexAddr 1 (.tmp 18) (.tmp 21), none, []⟩,
 ⟨some 23, .load none (.tmp 22), none, []⟩,
 ⟨some 24, .fieldAddr 1 (.tmp 1), none, [0, 1, 2, 3, 4, 5]⟩,
 ⟨some 25, .load none (.tmp 24), none, [0, 1, 2, 3, 4, 5]⟩,
 ⟨some 26, .move (.tmp 4), none, [0, 1, 2, 3, 4, 5, 6, 7]⟩,
 ⟨some 27, .indexAddr 2 (.tmp 25) (.tmp 26), none, [0, 1, 2, 3, 4, 5]⟩,
 ⟨some 28, .load (some (2)) (.tmp 27), none, [0, 1, 2, 3, 4, 5]⟩,
 ⟨some 6, .box (.const (.agg [.int .i64 0, .int .i64 0])), none, [0, 1, 2, 3, 4, 5, 6, 7, 8, 9, 10]⟩,
 ⟨some 5, .move (.tmp 23), none, [6, 7, 8, 9, 10]⟩], 
  [
  ⟨none, .store 2 (.tmp 6) (.tmp 28), none, []⟩]]
theorem k_ref05_Heats_r4_sg : segs k_ref05_Heats_r4 = k_ref05_Heats_r4s := by kernel_rfl
theorem k_ref05_Heats_r4_st : statOK k_ref05_Heats_r4 = true := by kernel_rfl
def k_ref05_Heats_r5 : List AOper := [
  ⟨some 7, .move (.const (.int .i64 1)), none, []⟩]
def k_ref05_Heats_r6 : List AOper := [
  ⟨some 29, .move (.tmp 7), none, []⟩,
 ⟨some 30, .fieldAddr 0 (.tmp 6), none, []⟩,
 ⟨some 31, .load none (.tmp 30), none, []⟩,
 ⟨some 32, .bin .plain .leq (.tmp 29) (.tmp 31), none, []⟩]
def k_ref05_Heats_r7 : List AOper := [
  ⟨some 35, .move (.tmp 3), none, []⟩,
 ⟨some 36, .move (.tmp 5), none, []⟩,
 ⟨some 37, .fieldAddr 1 (.tmp 6), none, []⟩,
 ⟨some 38, .load none (.tmp 37), none, []⟩,
 ⟨some 39, .move (.tmp 5), none, []⟩,
 ⟨some 40, .bin .plain .sub (.tmp 38) (.tmp 39), none, []⟩,
 ⟨some 41, .move (.tmp 7), none, []⟩,
 ⟨some 42, .bin .plain .mul (.tmp 40) (.tmp 41), none, []⟩,
 ⟨some 43, .fieldAddr 0 (.tmp 6), none, []⟩,
 ⟨some 44, .load none (.tmp 43), none, []⟩,
 ⟨some 45, .call (.const (.fn (.func 127) [] [])) [.tmp 42, .tmp 44], none, []⟩,
 ⟨some 46, .bin .plain .add (.tmp 36) (.tmp 45), none, []⟩,
 ⟨some 47, .buildSlice 1 [.tmp 46], none, []⟩,
 ⟨some 48, .append 1 8 false (.tmp 35) (.tmp 47), none, []⟩,
 ⟨some 3, .move (.tmp 48), none, []⟩]
def k_ref05_Heats_r8 : List AOper := [
  ⟨some 33, .move (.tmp 7), none, []⟩,
 ⟨some 34, .bin .plain .add (.tmp 33) (.const (.int .i64 1)), none, []⟩,
 ⟨some 7, .move (.tmp 34), none, []⟩]
def k_ref05_Heats_r9 : ACode := (.seq (.seq (.reg k_ref05_Heats_r6 false) (.cond (.tmp 32) .skip (.exit 2))) (.seq (.block 3 (.reg k_ref05_Heats_r7 false)) (.reg k_ref05_Heats_r8 false)))
def k_ref05_Heats_r10 : List AOper := [
  ⟨some 16, .move (.tmp 4), none, []⟩,
 ⟨some 17, .bin .plain .add (.tmp 16) (.const (.int .i64 1)), none, []⟩,
 ⟨some 4, .move (.tmp 17), none, []⟩]
def k_ref05_Heats_r11 : ACode := (.seq (.seq (.reg k_ref05_Heats_r3 false) (.cond (.tmp 15) .skip (.exit 0))) (.seq (.block 1 (.seq (.reg k_ref05_Heats_r4 true) (.seq (.reg k_ref05_Heats_r5 false) (.block 2 (.loop k_ref05_Heats_r9))))) (.reg k_ref05_Heats_r10 false)))
def k_ref05_Heats_r12 : List AOper := [
  ⟨some 49, .move (.tmp 3), none, []⟩,
 ⟨some 2, .move (.tmp 49), none, []⟩]
def k_ref05_Heats : AFun := { params := 1, ntmps := 50, body := (.seq (.reg k_ref05_Heats_r0 false) (.seq (.reg k_ref05_Heats_r1 false) (.seq (.seq (.reg k_ref05_Heats_r2 false) (.block 0 (.loop k_ref05_Heats_r11))) (.seq (.reg k_ref05_Heats_r12 false) .ret)))), res := [.tmp 2] }
theorem k_ref05_Heats_ok : cfun Try.prog Try.f121 = k_ref05_Heats := by kernel_rfl

def k_ref05_Adds_r0 : List AOper := [
  ⟨some 3, .box (.tmp 0), none, []⟩,
 ⟨some 6, .box (.const (.agg [.int .i64 0, .int .i64 0])), none, []⟩]
def k_ref05_Adds_r1 : List AOper := [
  ⟨some 7, .move (.tmp 2), none, []⟩,
 ⟨some 8, .move (.tmp 1), none, [0]⟩,
 ⟨some 9, .bin .plain .mul (.tmp 7) (.tmp 8), none, []⟩,
 ⟨some 10, .fieldAddr 1 (.tmp 3), none, [0, 1, 2]⟩,
 ⟨some 11, .fieldAddr 0 (.tmp 10), none, [0, 1, 2]⟩,
 ⟨some 12, .load none (.tmp 11), none, [0, 1, 2]⟩,
 ⟨some 13, .bin .plain .mul (.tmp 9) (.tmp 12), none, []⟩,
 ⟨some 14, .call (.const (.fn (.func 127) [] [])) [.tmp 13, .const (.int .i64 100)], none, []⟩,
 ⟨some 15, .move (.tmp 2), none, [0, 1, 2, 3, 4, 5, 6, 7]⟩,
 ⟨some 16, .move (.tmp 1), none, [0, 1, 2, 3, 4, 5, 6, 7, 8]⟩,
 ⟨some 17, .bin .plain .mul (.tmp 15) (.tmp 16), none, [0, 1, 2, 3, 4, 5, 6, 7]⟩,
 ⟨some 18, .fieldAddr 1 (.tmp 3), none, [0, 1, 2, 3, 4, 5, 6, 7, 8, 9, 10]⟩,
 ⟨some 19, .fieldAddr 1 (.tmp 18), none, [0, 1, 2, 3, 4, 5, 6, 7, 8, 9, 10]⟩,
 ⟨some 20, .load none (.tmp 19), none, [0, 1, 2, 3, 4, 5, 6, 7, 8, 9, 10]⟩,
 ⟨some 21, .bin .plain .mul (.tmp 17) (.tmp 20), none, [0, 1, 2, 3, 4, 5, 6, 7]⟩,
 ⟨some 22, .call (.const (.fn (.func 128) [] [])) [.tmp 21, .const (.int .i64 100)], none, []⟩,
 ⟨some 23, .build [.int .i64 0, .int .i64 0] [(0, 1, .tmp 14), (1, 1, .tmp 22)], none, []⟩,
 ⟨none, .store 2 (.tmp 6) (.tmp 23), none, []⟩]
def k_ref05_Adds_r1s : List (List AOper) := [
  [
  ⟨some 7, .move (.tmp 2), none, []⟩,
 ⟨some 8, .move (.tmp 1), none, [0]⟩,
 ⟨some 9, .bin .plain .mul (.tmp 7) (.tmp 8), none, []⟩,
 ⟨some 10, .fieldAddr 1 (.tmp 3), none, [0, 1, 2]⟩,
 ⟨some 11, .fieldAddr 0 (.tmp 10), none, [0, 1, 2]⟩,
 ⟨some 12, .load none (.tmp 11), none, [0, 1, 2]⟩,
 ⟨some 13, .bin .plain .mul (.tmp 9) (.tmp 12), none, []⟩,
 ⟨some 14, .call (.const (.fn (.func 127) [] [])) [.tmp 13, .const (.int .i64 100)], none, []⟩,
 ⟨some 15, .move (.tmp 2), none, [0, 1, 2, 3, 4, 5, 6, 7]⟩,
 ⟨some 16, .move (.tmp 1), none, [0, 1, 2, 3, 4, 5, 6, 7, 8]⟩,
 ⟨some 17, .bin .plain .mul (.tmp 15) (.tmp 16), none, [0, 1, 2, 3, 4, 5, 6, 7]⟩,
 ⟨some 18, .fieldAddr 1 (.tmp 3), none, [0, 1, 2, 3, 4, 5, 6, 7, 8, 9, 10]⟩,
 ⟨some 19, .fieldAddr 1 (.tmp 18), none, [0, 1, 2, 3, 4, 5, 6, 7, 8, 9, 10]⟩,
 ⟨some 20, .load none (.tmp 19), none, [0, 1, 2, 3, 4, 5, 6, 7, 8, 9, 10]⟩,
 ⟨some 21, .bin .plain .mul (.tmp 17) (.tmp 20), none, [0, 1, 2, 3, 4, 5, 6, 7]⟩], 
  [
  ⟨some 22, .call (.const (.fn (.func 128) [] [])) [.tmp 21, .const (.int .i64 100)], none, []⟩], 
  [
  ⟨some 23, .build [.int .i64 0, .int .i64 0] [(0, 1, .tmp 14), (1, 1, .tmp 22)], none, []⟩], 
  [
  ⟨none, .store 2 (.tmp 6) (.tmp 23), none, []⟩]]
theorem k_ref05_Adds_r1_sg : segs k_ref05_Adds_r1 = k_ref05_Adds_r1s := by kernel_rfl
theorem k_ref05_Adds_r1_st : statOK k_ref05_Adds_r1 = true := by kernel_rfl
def k_ref05_Adds : AFun := { params := 3, ntmps := 24, body := (.seq (.reg k_ref05_Adds_r0 false) (.seq (.reg k_ref05_Adds_r1 true) .ret)), res := [.cell 6 (some ((some (2))))] }
theorem k_ref05_Adds_ok : cfun Try.prog Try.f122 = k_ref05_Adds := by kernel_rfl

def k_ref05_Down_r0 : List AOper := [
  ⟨some 4, .move (.const (.int .i64 0)), none, []⟩]
def k_ref05_Down_r1 : List AOper := [
  ⟨some 6, .move (.tmp 0), none, []⟩,
 ⟨some 7, .move (.tmp 1), none, []⟩,
 ⟨some 8, .bin .plain .quo (.tmp 6) (.tmp 7), none, []⟩,
 ⟨some 5, .move (.tmp 8), none, []⟩]
def k_ref05_Down_r2 : List AOper := [
  ⟨some 9, .move (.tmp 0), none, []⟩,
 ⟨some 10, .move (.tmp 1), none, []⟩,
 ⟨some 11, .bin .plain .rem (.tmp 9) (.tmp 10), none, []⟩,
 ⟨some 12, .bin .plain .lss (.tmp 11) (.const (.int .i64 0)), none, []⟩]
def k_ref05_Down_r3 : List AOper := [
  ⟨some 13, .move (.tmp 5), none, []⟩,
 ⟨some 14, .bin .plain .sub (.tmp 13) (.const (.int .i64 1)), none, []⟩,
 ⟨some 5, .move (.tmp 14), none, []⟩]
def k_ref05_Down_r4 : List AOper := [
  ⟨some 15, .move (.tmp 5), none, []⟩,
 ⟨some 4, .move (.tmp 15), none, []⟩]
def k_ref05_Down : AFun := { params := 2, ntmps := 16, body := (.seq (.reg k_ref05_Down_r0 false) (.seq (.reg k_ref05_Down_r1 false) (.seq (.seq (.reg k_ref05_Down_r2 false) (.cond (.tmp 12) (.reg k_ref05_Down_r3 false) .skip)) (.seq (.reg k_ref05_Down_r4 false) .ret)))), res := [.tmp 4] }
theorem k_ref05_Down_ok : cfun Try.prog Try.f127 = k_ref05_Down := by kernel_rfl

def k_ref05_Up_r0 : List AOper := [
  ⟨some 4, .move (.const (.int .i64 0)), none, []⟩]
def k_ref05_Up_r1 : List AOper := [
  ⟨some 5, .move (.tmp 0), none, []⟩,
 ⟨some 6, .neg (.tmp 5), none, []⟩,
 ⟨some 7, .move (.tmp 1), none, []⟩,
 ⟨some 8, .call (.const (.fn (.func 127) [] [])) [.tmp 6, .tmp 7], none, []⟩,
 ⟨some 9, .neg (.tmp 8), none, []⟩,
 ⟨some 4, .move (.tmp 9), none, []⟩]
def k_ref05_Up : AFun := { params := 2, ntmps := 10, body := (.seq (.reg k_ref05_Up_r0 false) (.seq (.reg k_ref05_Up_r1 false) .ret)), res := [.tmp 4] }
theorem k_ref05_Up_ok : cfun Try.prog Try.f128 = k_ref05_Up := by kernel_rfl

def k_ref05_tick_r0 : List AOper := [
  ⟨some 4, .box (.tmp 0), none, []⟩,
 ⟨some 5, .box (.tmp 1), none, []⟩,
 ⟨some 8, .box (.const (.agg [.int .i64 0, .int .i64 0])), none, []⟩]
def k_ref05_tick_r1 : List AOper := [
  ⟨some 12, .load (some (5)) (.tmp 4), none, []⟩,
 ⟨some 13, .move (.tmp 2), none, []⟩,
 ⟨some 14, .move (.tmp 3), none, []⟩,
 ⟨some 15, .call (.const (.fn (.func 122) [] [])) [.tmp 12, .tmp 13, .tmp 14], none, []⟩,
 ⟨some 9, .box (.const (.agg [.int .i64 0, .int .i64 0])), none, []⟩,
 ⟨none, .store 2 (.tmp 9) (.tmp 15), none, []⟩]
def k_ref05_tick_r2 : List AOper := [
  ⟨some 16, .fieldAddr 0 (.tmp 5), none, []⟩,
 ⟨some 17, .load none (.tmp 16), none, []⟩,
 ⟨some 18, .load (some (5)) (.tmp 4), none, [0, 1]⟩,
 ⟨some 19, .fieldAddr 0 (.tmp 5), none, [0, 1, 2]⟩,
 ⟨some 20, .load none (.tmp 19), none, [0, 1, 2]⟩,
 ⟨some 21, .fieldAddr 0 (.tmp 5), none, [0, 1, 2, 3, 4]⟩,
 ⟨some 22, .load none (.tmp 21), none, [0, 1, 2, 3, 4]⟩,
 ⟨some 23, .call (.const (.fn (.func 77) [] [])) [.tmp 18, .tmp 20, .tmp 22], none, [0, 1]⟩,
 ⟨some 24, .field none 1 (.tmp 23), none, [0, 1]⟩,
 ⟨some 25, .bin .plain .sub (.tmp 17) (.tmp 24), none, []⟩,
 ⟨some 26, .fieldAddr 0 (.tmp 9), none, [0, 1, 2, 3, 4, 5, 6, 7, 8, 9]⟩,
 ⟨some 27, .load none (.tmp 26), none, [0, 1, 2, 3, 4, 5, 6, 7, 8, 9]⟩,
 ⟨some 28, .bin .plain .add (.tmp 25) (.tmp 27), none, []⟩,
 ⟨some 10, .move (.tmp 28), none, []⟩]
def k_ref05_tick_r2s : List (List AOper) := [
  [
  ⟨some 16, .fieldAddr 0 (.tmp 5), none, []⟩,
 ⟨some 17, .load none (.tmp 16), none, []⟩,
 ⟨some 18, .load (some (5)) (.tmp 4), none, [0, 1]⟩,
 ⟨some 19, .fieldAddr 0 (.tmp 5), none, [0, 1, 2]⟩,
 ⟨some 20, .load none (.tmp 19), none, [0, 1, 2]⟩,
 ⟨some 21, .fieldAddr 0 (.tmp 5), none, [0, 1, 2, 3, 4]⟩,
 ⟨some 22, .load none (.tmp 21), none, [0, 1, 2, 3, 4]⟩,
 ⟨some 23, .call (.const (.fn (.func 77) [] [])) [.tmp 18, .tmp 20, .tmp 22], none, [0, 1]⟩,
 ⟨some 24, .field none 1 (.tmp 23), none, [0, 1]⟩,
 ⟨some 25, .bin .plain .sub (.tmp 17) (.tmp 24), none, []⟩,
 ⟨some 26, .fieldAddr 0 (.tmp 9), none, [0, 1, 2, 3, 4, 5, 6, 7, 8, 9]⟩,
 ⟨some 27, .load none (.tmp 26), none, [0, 1, 2, 3, 4, 5, 6, 7, 8, 9]⟩], 
  [
  ⟨some 28, .bin .plain .add (.tmp 25) (.tmp 27), none, []⟩], 
  [
  ⟨some 10, .move (.tmp 28), none, []⟩]]
theorem k_ref05_tick_r2_sg : segs k_ref05_tick_r2 = k_ref05_tick_r2s := by kernel_rfl
theorem k_ref05_tick_r2_st : statOK k_ref05_tick_r2 = true := by kernel_rfl
def k_ref05_tick_r3 : List AOper := [
  ⟨some 29, .fieldAddr 1 (.tmp 5), none, []⟩,
 ⟨some 30, .load none (.tmp 29), none, []⟩,
 ⟨some 31, .load (some (5)) (.tmp 4), none, [0, 1]⟩,
 ⟨some 32, .fieldAddr 1 (.tmp 5), none, [0, 1, 2]⟩,
 ⟨some 33, .load none (.tmp 32), none, [0, 1, 2]⟩,
 ⟨some 34, .fieldAddr 1 (.tmp 5), none, [0, 1, 2, 3, 4]⟩,
 ⟨some 35, .load none (.tmp 34), none, [0, 1, 2, 3, 4]⟩,
 ⟨some 36, .call (.const (.fn (.func 77) [] [])) [.tmp 31, .tmp 33, .tmp 35], none, [0, 1]⟩,
 ⟨some 37, .field none 0 (.tmp 36), none, [0, 1]⟩,
 ⟨some 38, .bin .plain .sub (.tmp 30) (.tmp 37), none, []⟩,
 ⟨some 39, .fieldAddr 1 (.tmp 9), none, [0, 1, 2, 3, 4, 5, 6, 7, 8, 9]⟩,
 ⟨some 40, .load none (.tmp 39), none, [0, 1, 2, 3, 4, 5, 6, 7, 8, 9]⟩,
 ⟨some 41, .bin .plain .add (.tmp 38) (.tmp 40), none, []⟩,
 ⟨some 11, .move (.tmp 41), none, []⟩]
def k_ref05_tick_r3s : List (List AOper) := [
  [
  ⟨some 29, .fieldAddr 1 (.tmp 5), none, []⟩,
 ⟨some 30, .load none (.tmp 29), none, []⟩,
 ⟨some 31, .load (some (5)) (.tmp 4), none, [0, 1]⟩,
 ⟨some 32, .fieldAddr 1 (.tmp 5), none, [0, 1, 2]⟩,
 ⟨some 33, .load none (.tmp 32), none, [0, 1, 2]⟩,
 ⟨some 34, .fieldAddr 1 (.tmp 5), none, [0, 1, 2, 3, 4]⟩,
 ⟨some 35, .load none (.tmp 34), none, [0, 1, 2, 3, 4]⟩,
 ⟨some 36, .call (.const (.fn (.func 77) [] [])) [.tmp 31, .tmp 33, .tmp 35], none, [0, 1]⟩,
 ⟨some 37, .field none 0 (.tmp 36), none, [0, 1]⟩,
 ⟨some 38, .bin .plain .sub (.tmp 30) (.tmp 37), none, []⟩,
 ⟨some 39, .fieldAddr 1 (.tmp 9), none, [0, 1, 2, 3, 4, 5, 6, 7, 8, 9]⟩,
 ⟨some 40, .load none (.tmp 39), none, [0, 1, 2, 3, 4, 5, 6, 7, 8, 9]⟩], 
  [
  ⟨some 41, .bin .plain .add (.tmp 38) (.tmp 40), none, []⟩], 
  [
  ⟨some 11, .move (.tmp 41), none, []⟩]]
theorem k_ref05_tick_r3_sg : segs k_ref05_tick_r3 = k_ref05_tick_r3s := by kernel_rfl
theorem k_ref05_tick_r3_st : statOK k_ref05_tick_r3 = true := by kernel_rfl
def k_ref05_tick_r4 : List AOper := [
  ⟨some 42, .move (.tmp 10), none, []⟩,
 ⟨some 43, .minmax false [.tmp 42, .const (.int .i64 1099511627776)], none, []⟩,
 ⟨some 44, .move (.tmp 11), none, []⟩,
 ⟨some 45, .minmax false [.tmp 44, .const (.int .i64 1099511627776)], none, []⟩,
 ⟨some 46, .build [.int .i64 0, .int .i64 0] [(0, 1, .tmp 43), (1, 1, .tmp 45)], none, []⟩,
 ⟨none, .store 2 (.tmp 8) (.tmp 46), none, []⟩]
def k_ref05_tick : AFun := { params := 4, ntmps := 47, body := (.seq (.reg k_ref05_tick_r0 false) (.seq (.reg k_ref05_tick_r1 false) (.seq (.reg k_ref05_tick_r2 true) (.seq (.reg k_ref05_tick_r3 true) (.seq (.reg k_ref05_tick_r4 false) .ret))))), res := [.cell 8 (some ((some (2))))] }
theorem k_ref05_tick_ok : cfun Try.prog Try.f139 = k_ref05_tick := by kernel_rfl

def k_glass_wall_limited_1_r0 : List AOper := [
  ⟨some 4, .box (.tmp 0), none, []⟩]
def k_glass_wall_limited_1_r1 : List AOper := [
  ⟨some 10, .load (some (2)) (.tmp 1), none, []⟩,
 ⟨some 11, .call (.const (.fn (.func 118) [] [])) [.tmp 10], none, []⟩,
 ⟨some 5, .box (.const (.int .i64 0)), none, []⟩,
 ⟨some 6, .box (.const (.int .i64 0)), none, []⟩,
 ⟨none, .store 1 (.tmp 5) (.const (.int .i64 0)), none, []⟩,
 ⟨none, .store 1 (.tmp 6) (.tmp 11), none, []⟩]
def k_glass_wall_limited_1_r2 : List AOper := [
  ⟨some 12, .load (some (3)) (.tmp 2), none, []⟩,
 ⟨some 13, .load (some (2)) (.tmp 1), none, []⟩,
 ⟨some 14, .call (.const (.fn (.func 101) [] [])) [.tmp 12, .tmp 13], none, []⟩]
def k_glass_wall_limited_1_r3 : List AOper := [
  ⟨some 8, .box (.const (.agg [.int .i64 0, .int .i64 0])), none, []⟩,
 ⟨none, .store 2 (.tmp 8) (.tmp 16), none, []⟩]
def k_glass_wall_limited_1_r4 : List AOper := [
  ⟨some 17, .load none (.tmp 5), none, []⟩,
 ⟨some 18, .bin .plain .add (.tmp 17) (.const (.int .i64 1)), none, []⟩,
 ⟨none, .store 1 (.tmp 5) (.tmp 18), none, []⟩]
def k_glass_wall_limited_1_r5 : List AOper := [
  ⟨some 19, .load (some (2)) (.tmp 8), none, []⟩,
 ⟨some 20, .fieldAddr 0 (.tmp 2), none, []⟩,
 ⟨some 21, .fieldAddr 0 (.tmp 20), none, []⟩,
 ⟨some 22, .load none (.tmp 21), none, []⟩,
 ⟨some 23, .build [.int .i64 0, .int .i64 0, .int .i64 0] [(0, 2, .tmp 19), (2, 1, .tmp 22)], none, []⟩,
 ⟨some 9, .box (.const (.agg [.int .i64 0, .int .i64 0, .int .i64 0])), none, []⟩,
 ⟨none, .store 3 (.tmp 9) (.tmp 23), none, []⟩]
def k_glass_wall_limited_1_r6 : List AOper := [
  ⟨some 24, .load none (.tmp 5), none, []⟩,
 ⟨some 25, .load none (.tmp 6), none, []⟩,
 ⟨some 26, .bin .plain .eql (.tmp 24) (.tmp 25), none, []⟩]
def k_glass_wall_limited_1_r7 : List AOper := [
  ⟨some 27, .fieldAddr 2 (.tmp 9), none, []⟩,
 ⟨some 28, .load none (.tmp 27), none, []⟩,
 ⟨some 29, .load none (.tmp 3), none, []⟩,
 ⟨some 30, .minmax false [.tmp 28, .tmp 29], none, []⟩,
 ⟨some 31, .fieldAddr 2 (.tmp 9), none, []⟩,
 ⟨none, .store 1 (.tmp 31) (.tmp 30), none, []⟩]
def k_glass_wall_limited_1_r8 : List AOper := [
  ⟨some 32, .load none (.tmp 4), none, []⟩,
 ⟨some 33, .load none (.tmp 5), none, []⟩,
 ⟨some 34, .load (some (3)) (.tmp 9), none, []⟩,
 ⟨some 35, .call (.tmp 32) [.tmp 33, .tmp 34], none, []⟩,
 ⟨some 36, .not (.tmp 35), none, []⟩]
def k_glass_wall_limited_1_r9 : ACode := (.reg k_glass_wall_limited_1_r3 false)
def k_glass_wall_limited_1_r10 : ACode := (.block 1 (.seq (.reg k_glass_wall_limited_1_r4 false) (.seq (.reg k_glass_wall_limited_1_r5 false) (.seq (.seq (.reg k_glass_wall_limited_1_r6 false) (.cond (.tmp 26) (.reg k_glass_wall_limited_1_r7 false) .skip)) (.seq (.reg k_glass_wall_limited_1_r8 false) (.cond (.tmp 36) .ret .skip))))))
def k_glass_wall_limited_1 : AFun := { params := 4, ntmps := 37, body := (.seq (.reg k_glass_wall_limited_1_r0 false) (.seq (.reg k_glass_wall_limited_1_r1 false) (.seq (.reg k_glass_wall_limited_1_r2 false) (.block 0 (.rng (.tmp 14) [15, 16] k_glass_wall_limited_1_r9 k_glass_wall_limited_1_r10))))), res := [] }
theorem k_glass_wall_limited_1_ok : cfun Try.prog Try.f140 = k_glass_wall_limited_1 := by kernel_rfl


abbrev n_kit_OvenOf : Nat := 23
theorem e_kit_OvenOf : EntryOK Try.prog n_kit_OvenOf k_kit_OvenOf := ⟨Try.f23, Try.func23, k_kit_OvenOf_ok, by kernel_rfl⟩
abbrev n_ref05_CheckOven : Nat := 33
theorem e_ref05_CheckOven : EntryOK Try.prog n_ref05_CheckOven k_ref05_CheckOven := ⟨Try.f33, Try.func33, k_ref05_CheckOven_ok, by kernel_rfl⟩
abbrev n_kit_LeftOf : Nat := 50
theorem e_kit_LeftOf : EntryOK Try.prog n_kit_LeftOf k_kit_LeftOf := ⟨Try.f50, Try.func50, k_kit_LeftOf_ok, by kernel_rfl⟩
abbrev n_ref05_Strain : Nat := 52
theorem e_ref05_Strain : EntryOK Try.prog n_ref05_Strain k_ref05_Strain := ⟨Try.f52, Try.func52, k_ref05_Strain_ok, by kernel_rfl⟩
abbrev n_glass_Judge : Nat := 53
theorem e_glass_Judge : EntryOK Try.prog n_glass_Judge k_glass_Judge := ⟨Try.f53, Try.func53, k_glass_Judge_ok, by kernel_rfl⟩
abbrev n_ref05_Relaxes : Nat := 77
theorem e_ref05_Relaxes : EntryOK Try.prog n_ref05_Relaxes k_ref05_Relaxes := ⟨Try.f77, Try.func77, k_ref05_Relaxes_ok, by kernel_rfl⟩
abbrev n_ref05_checkWall : Nat := 102
theorem e_ref05_checkWall : EntryOK Try.prog n_ref05_checkWall k_ref05_checkWall := ⟨Try.f102, Try.func102, k_ref05_checkWall_ok, by kernel_rfl⟩
abbrev n_ref05_strains : Nat := 103
theorem e_ref05_strains : EntryOK Try.prog n_ref05_strains k_ref05_strains := ⟨Try.f103, Try.func103, k_ref05_strains_ok, by kernel_rfl⟩
abbrev n_glass_isStrain : Nat := 104
theorem e_glass_isStrain : EntryOK Try.prog n_glass_isStrain k_glass_isStrain := ⟨Try.f104, Try.func104, k_glass_isStrain_ok, by kernel_rfl⟩
abbrev n_glass_judge_glass_strained : Nat := 105
theorem e_glass_judge_glass_strained : EntryOK Try.prog n_glass_judge_glass_strained k_glass_judge_glass_strained := ⟨Try.f105, Try.func105, k_glass_judge_glass_strained_ok, by kernel_rfl⟩
abbrev n_glass_wall_limited : Nat := 106
theorem e_glass_wall_limited : EntryOK Try.prog n_glass_wall_limited k_glass_wall_limited := ⟨Try.f106, Try.func106, k_glass_wall_limited_ok, by kernel_rfl⟩
abbrev n_glass_ticksOf : Nat := 118
theorem e_glass_ticksOf : EntryOK Try.prog n_glass_ticksOf k_glass_ticksOf := ⟨Try.f118, Try.func118, k_glass_ticksOf_ok, by kernel_rfl⟩
abbrev n_ref05_Heats : Nat := 121
theorem e_ref05_Heats : EntryOK Try.prog n_ref05_Heats k_ref05_Heats := ⟨Try.f121, Try.func121, k_ref05_Heats_ok, by kernel_rfl⟩
abbrev n_ref05_Adds : Nat := 122
theorem e_ref05_Adds : EntryOK Try.prog n_ref05_Adds k_ref05_Adds := ⟨Try.f122, Try.func122, k_ref05_Adds_ok, by kernel_rfl⟩
abbrev n_ref05_Down : Nat := 127
theorem e_ref05_Down : EntryOK Try.prog n_ref05_Down k_ref05_Down := ⟨Try.f127, Try.func127, k_ref05_Down_ok, by kernel_rfl⟩
abbrev n_ref05_Up : Nat := 128
theorem e_ref05_Up : EntryOK Try.prog n_ref05_Up k_ref05_Up := ⟨Try.f128, Try.func128, k_ref05_Up_ok, by kernel_rfl⟩
abbrev n_ref05_tick : Nat := 139
theorem e_ref05_tick : EntryOK Try.prog n_ref05_tick k_ref05_tick := ⟨Try.f139, Try.func139, k_ref05_tick_ok, by kernel_rfl⟩
abbrev n_glass_wall_limited_1 : Nat := 140
theorem e_glass_wall_limited_1 : EntryOK Try.prog n_glass_wall_limited_1 k_glass_wall_limited_1 := ⟨Try.f140, Try.func140, k_glass_wall_limited_1_ok, by kernel_rfl⟩

attribute [go_sem] k_kit_OvenOf_r0 k_kit_OvenOf_r1 k_kit_OvenOf_r2 k_kit_OvenOf_r3 k_kit_OvenOf_r4s k_kit_OvenOf_r5
attribute [go_sem] k_kit_OvenOf_r7 k_ref05_CheckOven_r0 k_ref05_CheckOven_r1 k_ref05_CheckOven_r2 k_ref05_CheckOven_r3 k_ref05_CheckOven_r4 k_ref05_CheckOven_r5 k_ref05_CheckOven_r6 k_ref05_CheckOven_r7 k_ref05_CheckOven_r8 k_ref05_CheckOven_r9 k_ref05_CheckOven_r11
attribute [go_sem] k_kit_LeftOf_r0 k_kit_LeftOf_r1 k_kit_LeftOf_r2 k_kit_LeftOf_r3 k_kit_LeftOf_r4 k_kit_LeftOf_r5s k_ref05_Strain_r0 k_ref05_Strain_r1 k_ref05_Strain_r2 k_ref05_Strain_r3 k_ref05_Strain_r4 k_ref05_Strain_r5
attribute [go_sem] k_ref05_Strain_r6 k_ref05_Strain_r7 k_ref05_Strain_r8 k_ref05_Strain_r9 k_ref05_Strain_r10 k_ref05_Strain_r11 k_ref05_Strain_r13 k_glass_Judge_r0 k_glass_Judge_r1 k_glass_Judge_r2 k_glass_Judge_r3 k_glass_Judge_r4
attribute [go_sem] k_glass_Judge_r5 k_glass_Judge_r6 k_glass_Judge_r7 k_glass_Judge_r8 k_ref05_Relaxes_r0 k_ref05_Relaxes_r1s k_ref05_checkWall_r0 k_ref05_checkWall_r1 k_ref05_checkWall_r2 k_ref05_checkWall_r3 k_ref05_checkWall_r4 k_ref05_checkWall_r5
attribute [go_sem] k_ref05_checkWall_r6 k_ref05_strains_r0 k_ref05_strains_r1 k_ref05_strains_r2 k_ref05_strains_r3 k_ref05_strains_r4 k_ref05_strains_r5s k_ref05_strains_r6s k_ref05_strains_r7 k_ref05_strains_r9 k_glass_isStrain_r0 k_glass_isStrain_r1
attribute [go_sem] k_glass_judge_glass_strained_r0 k_glass_judge_glass_strained_r1 k_glass_judge_glass_strained_r2 k_glass_judge_glass_strained_r3 k_glass_judge_glass_strained_r4 k_glass_judge_glass_strained_r5 k_glass_judge_glass_strained_r6 k_glass_judge_glass_strained_r7 k_glass_judge_glass_strained_r8 k_glass_judge_glass_strained_r11s k_glass_wall_limited_r0 k_glass_wall_limited_r1
attribute [go_sem] k_glass_ticksOf_r0 k_glass_ticksOf_r1 k_glass_ticksOf_r2 k_glass_ticksOf_r3 k_glass_ticksOf_r4 k_glass_ticksOf_r5 k_glass_ticksOf_r6 k_glass_ticksOf_r8 k_ref05_Heats_r0 k_ref05_Heats_r1 k_ref05_Heats_r2 k_ref05_Heats_r3
attribute [go_sem] k_ref05_Heats_r4s k_ref05_Heats_r5 k_ref05_Heats_r6 k_ref05_Heats_r7 k_ref05_Heats_r8 k_ref05_Heats_r10 k_ref05_Heats_r12 k_ref05_Adds_r0 k_ref05_Adds_r1s k_ref05_Down_r0 k_ref05_Down_r1 k_ref05_Down_r2
attribute [go_sem] k_ref05_Down_r3 k_ref05_Down_r4 k_ref05_Up_r0 k_ref05_Up_r1 k_ref05_tick_r0 k_ref05_tick_r1 k_ref05_tick_r2s k_ref05_tick_r3s k_ref05_tick_r4 k_glass_wall_limited_1_r0 k_glass_wall_limited_1_r1 k_glass_wall_limited_1_r2
attribute [go_sem] k_glass_wall_limited_1_r3 k_glass_wall_limited_1_r4 k_glass_wall_limited_1_r5 k_glass_wall_limited_1_r6 k_glass_wall_limited_1_r7 k_glass_wall_limited_1_r8 k_ref05_tick_r2_sg k_ref05_strains_r6_sg k_ref05_Heats_r4_sg k_kit_OvenOf_r4_sg k_ref05_Adds_r1_sg
attribute [go_sem] k_glass_judge_glass_strained_r11_sg k_kit_LeftOf_r5_sg k_ref05_Relaxes_r1_sg k_ref05_tick_r3_sg k_ref05_strains_r5_sg k_ref05_tick_r2_st k_ref05_strains_r6_st k_ref05_Heats_r4_st k_kit_OvenOf_r4_st k_ref05_Adds_r1_st
attribute [go_sem] k_glass_judge_glass_strained_r11_st k_kit_LeftOf_r5_st k_ref05_Relaxes_r1_st k_ref05_tick_r3_st k_ref05_strains_r5_st k_kit_OvenOf k_ref05_CheckOven k_kit_LeftOf k_ref05_Strain k_glass_Judge
attribute [go_sem] k_ref05_Relaxes k_ref05_checkWall k_ref05_strains k_glass_isStrain k_glass_judge_glass_strained k_glass_wall_limited k_glass_ticksOf k_ref05_Heats k_ref05_Adds k_ref05_Down k_ref05_Up k_ref05_tick
attribute [go_sem] k_glass_wall_limited_1
end Go.Proofs

