/- A part of the proof. -/
import Derived.Test.YtmpocglkfgfpbaaPA
import Derived.IntWalk
set_option linter.unusedSimpArgs false
set_option linter.unusedVariables false
namespace Go.Proofs
open Go Go.Sx

def k_kit_NewDice_r0 : List AOper := [
  ⟨some 2, .move (.const (.nilptr)), none, []⟩]
def k_kit_NewDice_r1 : List AOper := [
  ⟨some 5, .move (.tmp 0), none, []⟩,
 ⟨some 6, .len false (.tmp 5), none, []⟩,
 ⟨some 7, .toInt .u64 (.tmp 6), none, []⟩,
 ⟨some 8, .bin .plain .add (.tmp 7) (.const (.int .u64 1374496523)), none, []⟩,
 ⟨some 9, .build [.int .u64 0] [(0, 1, .tmp 8)], none, []⟩,
 ⟨some 10, .box (.tmp 9), none, []⟩,
 ⟨some 3, .move (.tmp 10), none, []⟩]
def k_kit_NewDice_r2 : List AOper := [
  ⟨some 4, .move (.const (.int .i64 0)), none, []⟩]
def k_kit_NewDice_r3 : List AOper := [
  ⟨some 11, .move (.tmp 4), none, []⟩,
 ⟨some 12, .move (.tmp 0), none, []⟩,
 ⟨some 13, .len false (.tmp 12), none, []⟩,
 ⟨some 14, .bin .plain .lss (.tmp 11) (.tmp 13), none, []⟩]
def k_kit_NewDice_r4 : List AOper := [
  ⟨some 17, .move (.tmp 3), none, []⟩,
 ⟨some 18, .move (.tmp 3), none, [0]⟩,
 ⟨some 19, .nilCheck (.tmp 18), none, [0]⟩,
 ⟨some 20, .fieldAddr 0 (.tmp 19), none, [0]⟩,
 ⟨some 21, .load none (.tmp 20), none, [0]⟩,
 ⟨some 22, .move (.tmp 0), none, [0, 1, 2, 3, 4]⟩,
 ⟨some 23, .move (.tmp 4), none, [0, 1, 2, 3, 4, 5]⟩,
 ⟨some 24, .indexAddr 1 (.tmp 22) (.tmp 23), none, [0, 1, 2, 3, 4]⟩,
 ⟨some 25, .load none (.tmp 24), none, [0, 1, 2, 3, 4]⟩,
 ⟨some 26, .toInt .u64 (.tmp 25), none, [0, 1, 2, 3, 4]⟩,
 ⟨some 27, .bin .plain .xor (.tmp 21) (.tmp 26), none, [0]⟩,
 ⟨some 28, .nilCheck (.tmp 17), none, []⟩,
 ⟨some 29, .fieldAddr 0 (.tmp 28), none, []⟩,
 ⟨none, .store 1 (.tmp 29) (.tmp 27), none, []⟩]
def k_kit_NewDice_r4s : List (List AOper) := [
  [
  ⟨some 17, .move (.tmp 3), none, []⟩,
 ⟨some 18, .move (.tmp 3), none, [0]⟩,
 ⟨some 19, .nilCheck (.tmp 18), none, [0]⟩,
 ⟨some 20, .fieldAddr 0 (.tmp 19), none, [0]⟩,
 ⟨some 21, .load none (.tmp 20), none, [0]⟩,
 ⟨some 22, .move (.tmp 0), none, [0, 1, 2, 3, 4]⟩,
 ⟨some 23, .move (.tmp 4), none, [0, 1, 2, 3, 4, 5]⟩,
 ⟨some 24, .indexAddr 1 (.tmp 22) (.tmp 23), none, [0, 1, 2, 3, 4]⟩,
 ⟨some 25, .load none (.tmp 24), none, [0, 1, 2, 3, 4]⟩,
 ⟨some 26, .toInt .u64 (.tmp 25), none, [0, 1, 2, 3, 4]⟩,
 ⟨some 27, .bin .plain .xor (.tmp 21) (.tmp 26), none, [0]⟩], 
  [
  ⟨some 28, .nilCheck (.tmp 17), none, []⟩], 
  [
  ⟨some 29, .fieldAddr 0 (.tmp 28), none, []⟩], 
  [
  ⟨none, .store 1 (.tmp 29) (.tmp 27), none, []⟩]]
theorem k_kit_NewDice_r4_sg : segs k_kit_NewDice_r4 = k_kit_NewDice_r4s := by kernel_rfl
theorem k_kit_NewDice_r4_st : statOK k_kit_NewDice_r4 = true := by kernel_rfl
def k_kit_NewDice_r5 : List AOper := [
  ⟨some 30, .move (.tmp 3), none, []⟩,
 ⟨some 31, .call (.const (.fn (.func 82) [] [])) [.tmp 30], none, []⟩]
def k_kit_NewDice_r6 : List AOper := [
  ⟨some 15, .move (.tmp 4), none, []⟩,
 ⟨some 16, .bin .plain .add (.tmp 15) (.const (.int .i64 1)), none, []⟩,
 ⟨some 4, .move (.tmp 16), none, []⟩]
def k_kit_NewDice_r7 : ACode := (.seq (.seq (.reg k_kit_NewDice_r3 false) (.cond (.tmp 14) .skip (.exit 0))) (.seq (.block 1 (.seq (.reg k_kit_NewDice_r4 true) (.reg k_kit_NewDice_r5 false))) (.reg k_kit_NewDice_r6 false)))
def k_kit_NewDice_r8 : List AOper := [
  ⟨some 32, .move (.tmp 3), none, []⟩,
 ⟨some 2, .move (.tmp 32), none, []⟩]
def k_kit_NewDice : AFun := { params := 1, ntmps := 33, body := (.seq (.reg k_kit_NewDice_r0 false) (.seq (.reg k_kit_NewDice_r1 false) (.seq (.seq (.reg k_kit_NewDice_r2 false) (.block 0 (.loop k_kit_NewDice_r7))) (.seq (.reg k_kit_NewDice_r8 false) .ret)))), res := [.tmp 2] }
theorem k_kit_NewDice_ok : cfun Try.prog Try.f21 = k_kit_NewDice := by kernel_rfl

def k_kit_StuffOf_r0 : List AOper := [
  ⟨some 2, .box (.const (.agg [.int .i64 0, .nilsl])), none, []⟩]
def k_kit_StuffOf_r1 : List AOper := [
  ⟨some 8, .move (.tmp 0), none, []⟩,
 ⟨some 9, .call (.const (.fn (.func 44) [] [])) [.tmp 8, .const (.int .i64 1), .const (.int .i64 1000)], none, []⟩,
 ⟨some 10, .move (.tmp 0), none, []⟩,
 ⟨some 11, .call (.const (.fn (.func 44) [] [])) [.tmp 10, .const (.int .i64 1), .const (.int .i64 1000000)], none, []⟩,
 ⟨some 12, .move (.tmp 0), none, []⟩,
 ⟨some 13, .call (.const (.fn (.func 44) [] [])) [.tmp 12, .const (.int .i64 1), .const (.int .i64 1000000000)], none, []⟩,
 ⟨some 14, .buildSlice 1 [.tmp 9, .tmp 11, .tmp 13], none, []⟩,
 ⟨some 15, .move (.tmp 0), none, []⟩,
 ⟨some 16, .call (.const (.fn (.func 26) [] [])) [.tmp 15, .const (.int .i64 3)], none, []⟩,
 ⟨some 17, .indexAddr 1 (.tmp 14) (.tmp 16), none, []⟩,
 ⟨some 18, .load none (.tmp 17), none, []⟩,
 ⟨some 19, .build [.int .i64 0, .nilsl] [(0, 1, .tmp 18)], none, []⟩,
 ⟨some 3, .box (.const (.agg [.int .i64 0, .nilsl])), none, []⟩,
 ⟨none, .store 2 (.tmp 3) (.tmp 19), none, []⟩]
def k_kit_StuffOf_r2 : List AOper := [
  ⟨some 4, .move (.const (.int .i64 0)), none, []⟩]
def k_kit_StuffOf_r3 : List AOper := [
  ⟨some 20, .move (.tmp 0), none, []⟩,
 ⟨some 21, .call (.const (.fn (.func 44) [] [])) [.tmp 20, .const (.int .i64 1), .const (.int .i64 4)], none, []⟩,
 ⟨some 5, .move (.tmp 21), none, []⟩]
def k_kit_StuffOf_r4 : List AOper := [
  ⟨some 22, .move (.tmp 5), none, []⟩,
 ⟨some 23, .bin .plain .gtr (.tmp 22) (.const (.int .i64 0)), none, []⟩,
 ⟨some 24, .move (.tmp 23), none, []⟩,
 ⟨some 25, .move (.tmp 4), (some (24, true)), []⟩,
 ⟨some 26, .bin .plain .leq (.tmp 25) (.const (.int .i64 2000)), (some (24, true)), []⟩,
 ⟨some 27, .pick (.tmp 24) (.tmp 26) (.const (.bool false)), none, []⟩]
def k_kit_StuffOf_r5 : List AOper := [
  ⟨some 30, .move (.tmp 0), none, []⟩,
 ⟨some 31, .call (.const (.fn (.func 26) [] [])) [.tmp 30, .const (.int .i64 20000)], none, []⟩,
 ⟨some 6, .move (.tmp 31), none, []⟩]
def k_kit_StuffOf_r6 : List AOper := [
  ⟨some 32, .move (.tmp 4), none, []⟩,
 ⟨some 33, .move (.tmp 6), none, []⟩,
 ⟨some 34, .move (.tmp 6), none, []⟩,
 ⟨some 35, .move (.tmp 0), none, []⟩,
 ⟨some 36, .call (.const (.fn (.func 26) [] [])) [.tmp 35, .const (.int .i64 2000)], none, []⟩,
 ⟨some 37, .move (.tmp 0), none, []⟩,
 ⟨some 38, .call (.const (.fn (.func 26) [] [])) [.tmp 37, .const (.int .i64 2)], none, []⟩,
 ⟨some 39, .bin .plain .mul (.tmp 36) (.tmp 38), none, []⟩,
 ⟨some 40, .bin .plain .add (.tmp 34) (.tmp 39), none, []⟩,
 ⟨some 41, .build [.int .i64 0, .int .i64 0] [(0, 1, .tmp 33), (1, 1, .tmp 40)], none, []⟩,
 ⟨some 42, .build [.int .i64 0, .int .i64 0, .int .i64 0, .int .i64 0, .int .i64 0] [(0, 1, .tmp 32), (1, 2, .tmp 41)], none, []⟩,
 ⟨some 7, .box (.const (.agg [.int .i64 0, .int .i64 0, .int .i64 0, .int .i64 0, .int .i64 0])), none, []⟩,
 ⟨none, .store 5 (.tmp 7) (.tmp 42), none, []⟩]
def k_kit_StuffOf_r7 : List AOper := [
  ⟨some 43, .move (.tmp 0), none, []⟩,
 ⟨some 44, .call (.const (.fn (.func 25) [] [])) [.tmp 43, .const (.int .i64 2)], none, []⟩]
def k_kit_StuffOf_r8 : List AOper := [
  ⟨some 45, .move (.tmp 0), none, []⟩,
 ⟨some 46, .buildSlice 1 [.const (.int .i64 1000), .const (.int .i64 1000000)], none, []⟩,
 ⟨some 47, .move (.tmp 0), none, []⟩,
 ⟨some 48, .call (.const (.fn (.func 26) [] [])) [.tmp 47, .const (.int .i64 2)], none, []⟩,
 ⟨some 49, .indexAddr 1 (.tmp 46) (.tmp 48), none, []⟩,
 ⟨some 50, .load none (.tmp 49), none, []⟩,
 ⟨some 51, .call (.const (.fn (.func 83) [] [])) [.tmp 45, .tmp 50], none, []⟩,
 ⟨some 52, .fieldAddr 3 (.tmp 7), none, []⟩,
 ⟨none, .store 2 (.tmp 52) (.tmp 51), none, []⟩]
def k_kit_StuffOf_r9 : List AOper := [
  ⟨some 53, .fieldAddr 1 (.tmp 3), none, []⟩,
 ⟨some 54, .load none (.tmp 53), none, []⟩,
 ⟨some 55, .load (some (5)) (.tmp 7), none, []⟩,
 ⟨some 56, .buildSlice 5 [.tmp 55], none, []⟩,
 ⟨some 57, .append 5 40 true (.tmp 54) (.tmp 56), none, []⟩,
 ⟨some 58, .fieldAddr 1 (.tmp 3), none, []⟩,
 ⟨none, .store 1 (.tmp 58) (.tmp 57), none, []⟩]
def k_kit_StuffOf_r10 : List AOper := [
  ⟨some 59, .move (.tmp 4), none, []⟩,
 ⟨some 60, .move (.tmp 0), none, []⟩,
 ⟨some 61, .call (.const (.fn (.func 44) [] [])) [.tmp 60, .const (.int .i64 1), .const (.int .i64 900)], none, []⟩,
 ⟨some 62, .bin .plain .add (.tmp 59) (.tmp 61), none, []⟩,
 ⟨some 4, .move (.tmp 62), none, []⟩]
def k_kit_StuffOf_r11 : List AOper := [
  ⟨some 28, .move (.tmp 5), none, []⟩,
 ⟨some 29, .bin .plain .sub (.tmp 28) (.const (.int .i64 1)), none, []⟩,
 ⟨some 5, .move (.tmp 29), none, []⟩]
def k_kit_StuffOf_r12 : ACode := (.seq (.seq (.reg k_kit_StuffOf_r4 false) (.cond (.tmp 27) .skip (.exit 0))) (.seq (.block 1 (.seq (.reg k_kit_StuffOf_r5 false) (.seq (.reg k_kit_StuffOf_r6 false) (.seq (.seq (.reg k_kit_StuffOf_r7 false) (.cond (.tmp 44) (.reg k_kit_StuffOf_r8 false) .skip)) (.seq (.reg k_kit_StuffOf_r9 false) (.reg k_kit_StuffOf_r10 false)))))) (.reg k_kit_StuffOf_r11 false)))
def k_kit_StuffOf_r13 : List AOper := [
  ⟨some 63, .load (some (2)) (.tmp 3), none, []⟩,
 ⟨none, .store 2 (.tmp 2) (.tmp 63), none, []⟩]
def k_kit_StuffOf : AFun := { params := 1, ntmps := 64, body := (.seq (.reg k_kit_StuffOf_r0 false) (.seq (.reg k_kit_StuffOf_r1 false) (.seq (.reg k_kit_StuffOf_r2 false) (.seq (.seq (.reg k_kit_StuffOf_r3 false) (.block 0 (.loop k_kit_StuffOf_r12))) (.seq (.reg k_kit_StuffOf_r13 false) .ret))))), res := [.cell 2 (some ((some (2))))] }
theorem k_kit_StuffOf_ok : cfun Try.prog Try.f22 = k_kit_StuffOf := by kernel_rfl

def k_kit_Dice_One_r0 : List AOper := [
  ⟨some 4, .move (.const (.bool false)), none, []⟩]
def k_kit_Dice_One_r1 : List AOper := [
  ⟨some 5, .move (.tmp 0), none, []⟩,
 ⟨some 6, .move (.tmp 1), none, []⟩,
 ⟨some 7, .call (.const (.fn (.func 26) [] [])) [.tmp 5, .tmp 6], none, []⟩,
 ⟨some 8, .bin .plain .eql (.tmp 7) (.const (.int .i64 0)), none, []⟩,
 ⟨some 4, .move (.tmp 8), none, []⟩]
def k_kit_Dice_One : AFun := { params := 2, ntmps := 9, body := (.seq (.reg k_kit_Dice_One_r0 false) (.seq (.reg k_kit_Dice_One_r1 false) .ret)), res := [.tmp 4] }
theorem k_kit_Dice_One_ok : cfun Try.prog Try.f25 = k_kit_Dice_One := by kernel_rfl

def k_kit_Dice_Upto_r0 : List AOper := [
  ⟨some 4, .move (.const (.int .i64 0)), none, []⟩]
def k_kit_Dice_Upto_r1 : List AOper := [
  ⟨some 6, .move (.tmp 0), none, []⟩,
 ⟨some 7, .call (.const (.fn (.func 82) [] [])) [.tmp 6], none, []⟩,
 ⟨some 5, .move (.tmp 7), none, []⟩]
def k_kit_Dice_Upto_r2 : List AOper := [
  ⟨some 8, .move (.tmp 1), none, []⟩,
 ⟨some 9, .bin .plain .lss (.tmp 8) (.const (.int .i64 1)), none, []⟩]
def k_kit_Dice_Upto_r3 : List AOper := [
  ⟨some 4, .move (.const (.int .i64 0)), none, []⟩]
def k_kit_Dice_Upto_r4 : List AOper := [
  ⟨some 10, .move (.tmp 5), none, []⟩,
 ⟨some 11, .move (.tmp 1), none, []⟩,
 ⟨some 12, .toInt .u64 (.tmp 11), none, []⟩,
 ⟨some 13, .bin .plain .rem (.tmp 10) (.tmp 12), none, []⟩,
 ⟨some 14, .toInt .i64 (.tmp 13), none, []⟩,
 ⟨some 4, .move (.tmp 14), none, []⟩]
def k_kit_Dice_Upto : AFun := { params := 2, ntmps := 15, body := (.seq (.reg k_kit_Dice_Upto_r0 false) (.seq (.reg k_kit_Dice_Upto_r1 false) (.seq (.seq (.reg k_kit_Dice_Upto_r2 false) (.cond (.tmp 9) (.seq (.reg k_kit_Dice_Upto_r3 false) .ret) .skip)) (.seq (.reg k_kit_Dice_Upto_r4 false) .ret)))), res := [.tmp 4] }
theorem k_kit_Dice_Upto_ok : cfun Try.prog Try.f26 = k_kit_Dice_Upto := by kernel_rfl

def k_kit_OwnStuff_r0 : List AOper := [
  ⟨some 1, .box (.tmp 0), none, []⟩,
 ⟨some 2, .box (.const (.agg [.int .i64 0, .nilsl])), none, []⟩]
def k_kit_OwnStuff_r1 : List AOper := [
  ⟨some 3, .buildSlice 5 [], none, []⟩,
 ⟨some 4, .fieldAddr 1 (.tmp 1), none, []⟩,
 ⟨some 5, .load none (.tmp 4), none, []⟩,
 ⟨some 6, .append 5 40 true (.tmp 3) (.tmp 5), none, []⟩,
 ⟨some 7, .fieldAddr 1 (.tmp 1), none, []⟩,
 ⟨none, .store 1 (.tmp 7) (.tmp 6), none, []⟩]
def k_kit_OwnStuff_r2 : List AOper := [
  ⟨some 8, .load (some (2)) (.tmp 1), none, []⟩,
 ⟨none, .store 2 (.tmp 2) (.tmp 8), none, []⟩]
def k_kit_OwnStuff : AFun := { params := 1, ntmps := 9, body := (.seq (.reg k_kit_OwnStuff_r0 false) (.seq (.reg k_kit_OwnStuff_r1 false) (.seq (.reg k_kit_OwnStuff_r2 false) .ret))), res := [.cell 2 (some ((some (2))))] }
theorem k_kit_OwnStuff_ok : cfun Try.prog Try.f27 = k_kit_OwnStuff := by kernel_rfl

def k_kit_Dice_Between_r0 : List AOper := [
  ⟨some 6, .move (.const (.int .i64 0)), none, []⟩]
def k_kit_Dice_Between_r1 : List AOper := [
  ⟨some 7, .move (.tmp 1), none, []⟩,
 ⟨some 8, .move (.tmp 0), none, []⟩,
 ⟨some 9, .move (.tmp 2), none, []⟩,
 ⟨some 10, .move (.tmp 1), none, []⟩,
 ⟨some 11, .bin .plain .sub (.tmp 9) (.tmp 10), none, []⟩,
 ⟨some 12, .bin .plain .add (.tmp 11) (.const (.int .i64 1)), none, []⟩,
 ⟨some 13, .call (.const (.fn (.func 26) [] [])) [.tmp 8, .tmp 12], none, []⟩,
 ⟨some 14, .bin .plain .add (.tmp 7) (.tmp 13), none, []⟩,
 ⟨some 6, .move (.tmp 14), none, []⟩]
def k_kit_Dice_Between : AFun := { params := 3, ntmps := 15, body := (.seq (.reg k_kit_Dice_Between_r0 false) (.seq (.reg k_kit_Dice_Between_r1 false) .ret)), res := [.tmp 6] }
theorem k_kit_Dice_Between_ok : cfun Try.prog Try.f44 = k_kit_Dice_Between := by kernel_rfl

def k_kit_Dice_next_r0 : List AOper := [
  ⟨some 2, .move (.const (.int .u64 0)), none, []⟩]
def k_kit_Dice_next_r1 : List AOper := [
  ⟨some 4, .move (.tmp 0), none, []⟩,
 ⟨some 5, .move (.tmp 0), none, []⟩,
 ⟨some 6, .nilCheck (.tmp 5), none, []⟩,
 ⟨some 7, .fieldAddr 0 (.tmp 6), none, []⟩,
 ⟨some 8, .load none (.tmp 7), none, []⟩,
 ⟨some 9, .bin .plain .add (.tmp 8) (.const (.int .u64 11400714819323198485)), none, []⟩,
 ⟨some 10, .nilCheck (.tmp 4), none, []⟩,
 ⟨some 11, .fieldAddr 0 (.tmp 10), none, []⟩,
 ⟨none, .store 1 (.tmp 11) (.tmp 9), none, []⟩]
def k_kit_Dice_next_r2 : List AOper := [
  ⟨some 12, .move (.tmp 0), none, []⟩,
 ⟨some 13, .nilCheck (.tmp 12), none, []⟩,
 ⟨some 14, .fieldAddr 0 (.tmp 13), none, []⟩,
 ⟨some 15, .load none (.tmp 14), none, []⟩,
 ⟨some 3, .move (.tmp 15), none, []⟩]
def k_kit_Dice_next_r3 : List AOper := [
  ⟨some 16, .move (.tmp 3), none, []⟩,
 ⟨some 17, .move (.tmp 3), none, []⟩,
 ⟨some 18, .bin .plain .shr (.tmp 17) (.const (.int .u64 30)), none, []⟩,
 ⟨some 19, .bin .plain .xor (.tmp 16) (.tmp 18), none, []⟩,
 ⟨some 20, .bin .plain .mul (.tmp 19) (.const (.int .u64 13787848793156543929)), none, []⟩,
 ⟨some 3, .move (.tmp 20), none, []⟩]
def k_kit_Dice_next_r4 : List AOper := [
  ⟨some 21, .move (.tmp 3), none, []⟩,
 ⟨some 22, .move (.tmp 3), none, []⟩,
 ⟨some 23, .bin .plain .shr (.tmp 22) (.const (.int .u64 27)), none, []⟩,
 ⟨some 24, .bin .plain .xor (.tmp 21) (.tmp 23), none, []⟩,
 ⟨some 25, .bin .plain .mul (.tmp 24) (.const (.int .u64 10723151780598845931)), none, []⟩,
 ⟨some 3, .move (.tmp 25), none, []⟩]
def k_kit_Dice_next_r5 : List AOper := [
  ⟨some 26, .move (.tmp 3), none, []⟩,
 ⟨some 27, .move (.tmp 3), none, []⟩,
 ⟨some 28, .bin .plain .shr (.tmp 27) (.const (.int .u64 31)), none, []⟩,
 ⟨some 29, .bin .plain .xor (.tmp 26) (.tmp 28), none, []⟩,
 ⟨some 2, .move (.tmp 29), none, []⟩]
def k_kit_Dice_next : AFun := { params := 1, ntmps := 30, body := (.seq (.reg k_kit_Dice_next_r0 false) (.seq (.reg k_kit_Dice_next_r1 false) (.seq (.reg k_kit_Dice_next_r2 false) (.seq (.reg k_kit_Dice_next_r3 false) (.seq (.reg k_kit_Dice_next_r4 false) (.seq (.reg k_kit_Dice_next_r5 false) .ret)))))), res := [.tmp 2] }
theorem k_kit_Dice_next_ok : cfun Try.prog Try.f82 = k_kit_Dice_next := by kernel_rfl

def k_kit_rate_r0 : List AOper := [
  ⟨some 4, .box (.const (.agg [.int .i64 0, .int .i64 0])), none, []⟩]
def k_kit_rate_r1 : List AOper := [
  ⟨some 7, .move (.tmp 0), none, []⟩,
 ⟨some 8, .call (.const (.fn (.func 26) [] [])) [.tmp 7, .const (.int .i64 5)], none, []⟩]
def k_kit_rate_r2 : List AOper := [
  ⟨some 10, .bin .plain .eql (.tmp 8) (.const (.int .i64 0)), none, []⟩,
 ⟨some 9, .move (.tmp 10), none, []⟩]
def k_kit_rate_r3 : List AOper := [
  ⟨some 11, .build [.int .i64 0, .int .i64 0] [], none, []⟩,
 ⟨none, .store 2 (.tmp 4) (.tmp 11), none, []⟩]
def k_kit_rate_r4 : List AOper := [
  ⟨some 13, .bin .plain .eql (.tmp 8) (.const (.int .i64 1)), none, []⟩,
 ⟨some 12, .move (.tmp 13), none, []⟩]
def k_kit_rate_r5 : List AOper := [
  ⟨some 14, .move (.tmp 0), none, []⟩,
 ⟨some 15, .move (.tmp 1), none, []⟩,
 ⟨some 16, .call (.const (.fn (.func 44) [] [])) [.tmp 14, .const (.int .i64 0), .tmp 15], none, []⟩,
 ⟨some 5, .move (.tmp 16), none, []⟩]
def k_kit_rate_r6 : List AOper := [
  ⟨some 17, .move (.tmp 5), none, []⟩,
 ⟨some 18, .move (.tmp 5), none, []⟩,
 ⟨some 19, .build [.int .i64 0, .int .i64 0] [(0, 1, .tmp 17), (1, 1, .tmp 18)], none, []⟩,
 ⟨none, .store 2 (.tmp 4) (.tmp 19), none, []⟩]
def k_kit_rate_r7 : List AOper := [
  ⟨some 20, .move (.tmp 0), none, []⟩,
 ⟨some 21, .move (.tmp 1), none, []⟩,
 ⟨some 22, .call (.const (.fn (.func 44) [] [])) [.tmp 20, .const (.int .i64 0), .tmp 21], none, []⟩,
 ⟨some 6, .move (.tmp 22), none, []⟩]
def k_kit_rate_r8 : List AOper := [
  ⟨some 23, .move (.tmp 6), none, []⟩,
 ⟨some 24, .move (.tmp 1), none, []⟩,
 ⟨some 25, .move (.tmp 6), none, []⟩,
 ⟨some 26, .move (.tmp 0), none, []⟩,
 ⟨some 27, .move (.tmp 1), none, []⟩,
 ⟨some 28, .bin .plain .quo (.tmp 27) (.const (.int .i64 4)), none, []⟩,
 ⟨some 29, .bin .plain .add (.tmp 28) (.const (.int .i64 1)), none, []⟩,
 ⟨some 30, .call (.const (.fn (.func 26) [] [])) [.tmp 26, .tmp 29], none, []⟩,
 ⟨some 31, .bin .plain .add (.tmp 25) (.tmp 30), none, []⟩,
 ⟨some 32, .minmax false [.tmp 24, .tmp 31], none, []⟩,
 ⟨some 33, .build [.int .i64 0, .int .i64 0] [(0, 1, .tmp 23), (1, 1, .tmp 32)], none, []⟩,
 ⟨none, .store 2 (.tmp 4) (.tmp 33), none, []⟩]
def k_kit_rate : AFun := { params := 2, ntmps := 34, body := (.seq (.reg k_kit_rate_r0 false) (.seq (.seq (.reg k_kit_rate_r1 false) (.block 0 (.seq (.reg k_kit_rate_r2 false) (.cond (.tmp 9) (.seq (.reg k_kit_rate_r3 false) .ret) (.seq (.reg k_kit_rate_r4 false) (.cond (.tmp 12) (.seq (.reg k_kit_rate_r5 false) (.seq (.reg k_kit_rate_r6 false) .ret)) .skip)))))) (.seq (.reg k_kit_rate_r7 false) (.seq (.reg k_kit_rate_r8 false) .ret)))), res := [.cell 4 (some ((some (2))))] }
theorem k_kit_rate_ok : cfun Try.prog Try.f83 = k_kit_rate := by kernel_rfl

abbrev n_kit_NewDice : Nat := 21
theorem e_kit_NewDice : EntryOK Try.prog n_kit_NewDice k_kit_NewDice := ⟨Try.f21, Try.func21, k_kit_NewDice_ok, by kernel_rfl⟩
abbrev n_kit_StuffOf : Nat := 22
theorem e_kit_StuffOf : EntryOK Try.prog n_kit_StuffOf k_kit_StuffOf := ⟨Try.f22, Try.func22, k_kit_StuffOf_ok, by kernel_rfl⟩
abbrev n_kit_Dice_One : Nat := 25
theorem e_kit_Dice_One : EntryOK Try.prog n_kit_Dice_One k_kit_Dice_One := ⟨Try.f25, Try.func25, k_kit_Dice_One_ok, by kernel_rfl⟩
abbrev n_kit_Dice_Upto : Nat := 26
theorem e_kit_Dice_Upto : EntryOK Try.prog n_kit_Dice_Upto k_kit_Dice_Upto := ⟨Try.f26, Try.func26, k_kit_Dice_Upto_ok, by kernel_rfl⟩
abbrev n_kit_OwnStuff : Nat := 27
theorem e_kit_OwnStuff : EntryOK Try.prog n_kit_OwnStuff k_kit_OwnStuff := ⟨Try.f27, Try.func27, k_kit_OwnStuff_ok, by kernel_rfl⟩
abbrev n_kit_Dice_Between : Nat := 44
theorem e_kit_Dice_Between : EntryOK Try.prog n_kit_Dice_Between k_kit_Dice_Between := ⟨Try.f44, Try.func44, k_kit_Dice_Between_ok, by kernel_rfl⟩
abbrev n_kit_Dice_next : Nat := 82
theorem e_kit_Dice_next : EntryOK Try.prog n_kit_Dice_next k_kit_Dice_next := ⟨Try.f82, Try.func82, k_kit_Dice_next_ok, by kernel_rfl⟩
abbrev n_kit_rate : Nat := 83
theorem e_kit_rate : EntryOK Try.prog n_kit_rate k_kit_rate := ⟨Try.f83, Try.func83, k_kit_rate_ok, by kernel_rfl⟩
attribute [go_sem] k_kit_NewDice_r0 k_kit_NewDice_r1 k_kit_NewDice_r2 k_kit_NewDice_r3 k_kit_NewDice_r4s k_kit_NewDice_r5 k_kit_NewDice_r6 k_kit_NewDice_r8 k_kit_StuffOf_r0 k_kit_StuffOf_r1 k_kit_StuffOf_r2 k_kit_StuffOf_r3
attribute [go_sem] k_kit_StuffOf_r4 k_kit_StuffOf_r5 k_kit_StuffOf_r6 k_kit_StuffOf_r7 k_kit_StuffOf_r8 k_kit_StuffOf_r9 k_kit_StuffOf_r10 k_kit_StuffOf_r11 k_kit_StuffOf_r13 k_kit_Dice_One_r0 k_kit_Dice_One_r1 k_kit_Dice_Upto_r0
attribute [go_sem] k_kit_Dice_Upto_r1 k_kit_Dice_Upto_r2 k_kit_Dice_Upto_r3 k_kit_Dice_Upto_r4 k_kit_OwnStuff_r0 k_kit_OwnStuff_r1 k_kit_OwnStuff_r2
attribute [go_sem] k_kit_Dice_Between_r0 k_kit_Dice_Between_r1 k_kit_Dice_next_r0 k_kit_Dice_next_r1 k_kit_Dice_next_r2
attribute [go_sem] k_kit_Dice_next_r3 k_kit_Dice_next_r4 k_kit_Dice_next_r5 k_kit_rate_r0 k_kit_rate_r1 k_kit_rate_r2 k_kit_rate_r3 k_kit_rate_r4 k_kit_rate_r5 k_kit_rate_r6 k_kit_rate_r7 k_kit_rate_r8
attribute [go_sem] k_kit_NewDice_r4_sg k_kit_NewDice_r4_st
attribute [go_sem] k_kit_NewDice k_kit_StuffOf k_kit_Dice_One k_kit_Dice_Upto k_kit_OwnStuff k_kit_Dice_Between k_kit_Dice_next
attribute [go_sem] k_kit_rate
end Go.Proofs

namespace Go.Proofs
open Go Go.Sx

def Dr (w : Int) : Row := .cells false 1 [.agg [.int .u64 w]]
def dstep (w : Int) : Int := IntKind.u64.wrap (w + 11400714819323198485)
def dmix (w : Int) : Int :=
  let z := IntKind.u64.wrap (bitW .xor .u64 w (shrW .u64 w 30) * 13787848793156543929)
  let z := IntKind.u64.wrap (bitW .xor .u64 z (shrW .u64 z 27) * 10723151780598845931)
  bitW .xor .u64 z (shrW .u64 z 31)

theorem dr_bel (w : Int) (S : Nat → Prop) : (Dr w).bel S := by unfold Dr; rw [row_bel_cells]; simp only [go_sem]

theorem bitW_u64 (op : BinOp) (a b : Int) : 0 ≤ bitW op .u64 a b ∧ bitW op .u64 a b ≤ 18446744073709551615 := by
  have hw : ∀ n : Int, 0 ≤ IntKind.u64.wrap n ∧ IntKind.u64.wrap n ≤ 18446744073709551615 := fun n => by simp only [IntKind.wrap, IntKind.bits, IntKind.signed, Bool.false_and, Bool.false_eq_true, if_false]; omega
  unfold bitW bitsOf
  cases op <;> simp only [Option.getD_some, Option.getD_none] <;> first
    | exact hw _
    | omega

def upto (w n : Int) : Int := if n < 1 then 0 else (dmix (dstep w)) % n
theorem upto_in {w n : Int} (h : 1 ≤ n) : 0 ≤ upto w n ∧ upto w n < n := by
  unfold upto
  rw [if_neg (by omega)]
  exact ⟨Int.emod_nonneg _ (by omega), Int.emod_lt_of_pos _ (by omega)⟩
def btw (w lo hi : Int) : Int := lo + upto w (hi - lo + 1)
theorem btw_in {w lo hi : Int} (h : lo ≤ hi) : lo ≤ btw w lo hi ∧ btw w lo hi ≤ hi := by
  have := upto_in (w := w) (n := hi - lo + 1) (by omega)
  unfold btw; omega

def feed (w : Int) : List Int → Int
  | [] => w
  | x :: xs => feed (dstep (bitW .xor .u64 w (IntKind.u64.wrap x))) xs
def seedW (xs : List Int) : Int := feed (IntKind.u64.wrap (IntKind.u64.wrap xs.length + 1374496523)) xs

structure Rg where
  lo : Int
  hi : Int
  deriving Inhabited, DecidableEq

def Rg.v (r : Rg) : AVal := .agg [.int .i64 r.lo, .int .i64 r.hi]
@[go_sem] theorem rg_bel_eq (r : Rg) (S : Nat → Prop) : Bel S r.v = True := by unfold Rg.v; simp only [go_sem]
@[go_sem] theorem rg_nv (r : Rg) : NV r.v = True := by unfold Rg.v; simp only [go_sem]
@[go_sem] theorem dr_bel_eq (w : Int) (S : Nat → Prop) : (Dr w).bel S = True := eq_true (dr_bel w S)
theorem w64 {n : Int} (h : -9223372036854775808 ≤ n ∧ n ≤ 9223372036854775807) : IntKind.i64.wrap n = n := IntWalk.i64_in _ h
end Go.Proofs

namespace Go.Proofs
open Go Go.Sx

theorem next_ok (w : Int) : Ans Try.prog n_kit_Dice_next [.ptr 0 0 0 1] [some (Dr w)] (.int .u64 (dmix (dstep w))) [some (Dr (dstep w))] := by
  refine spec_run e_kit_Dice_next fun G => ?_
  simp only [go_sem, Dr, dmix, dstep]
  exact ⟨_, rfl⟩

theorem upto_ok (w n : Int) (hn : n ≤ 9223372036854775807) : Ans Try.prog n_kit_Dice_Upto [.ptr 0 0 0 1, .int .i64 n] [some (Dr w)] (.int .i64 (upto w n)) [some (Dr (dstep w))] := by
  refine spec_run e_kit_Dice_Upto fun G => ?_
  simp only [go_sem]
  refine callD (next_ok w) rfl trivial (.int _ _) (dr_bel _ _) (dr_bel _ _) (by simp) (by simp) ?_
  simp only [go_sem]
  refine ⟨fun h => ⟨by simp [upto, h], by simp⟩, fun h => ?_⟩
  have hm : 0 ≤ dmix (dstep w) := (bitW_u64 _ _ _).1
  have h1 : IntKind.u64.wrap n = n := IntWalk.u64_in n (by omega)
  have h2 : (dmix (dstep w)).tmod n = dmix (dstep w) % n := Int.tmod_eq_emod_of_nonneg hm
  have h3 := Int.emod_nonneg (dmix (dstep w)) (show n ≠ 0 by omega)
  have h4 := Int.emod_lt_of_pos (dmix (dstep w)) (show 0 < n by omega)
  rw [h1, h2, IntWalk.i64_in _ (by omega)]
  refine ⟨by omega, by rw [upto, if_neg h], _, rfl⟩

theorem between_ok (w lo hi : Int) (h1 : -1152921504606846976 ≤ lo) (h2 : lo ≤ hi) (h3 : hi ≤ 1152921504606846976) : Ans Try.prog n_kit_Dice_Between [.ptr 0 0 0 1, .int .i64 lo, .int .i64 hi] [some (Dr w)] (.int .i64 (btw w lo hi)) [some (Dr (dstep w))] := by
  refine spec_run e_kit_Dice_Between fun G => ?_
  simp only [go_sem]
  rw [IntWalk.i64_in (hi - lo) (by omega), IntWalk.i64_in (hi - lo + 1) (by omega)]
  refine callD (upto_ok w _ (by omega)) rfl ⟨.int _ _, trivial⟩ (.int _ _) (dr_bel _ _) (dr_bel _ _) (by simp) (by simp) ?_
  have := btw_in (w := w) h2
  unfold btw at this
  simp only [go_sem]
  rw [IntWalk.i64_in _ (by omega)]
  exact ⟨rfl, _, rfl⟩

theorem newdice_ok (xs : List Int) (hl : xs.length ≤ 9223372036854775807) : Ans Try.prog n_kit_NewDice [.view (xs.map (.int .i64))] [] (.ptr 0 0 0 1) [some (Dr (seedW xs))] := by
  unfold seedW
  refine spec_run e_kit_NewDice fun G => ?_
  simp only [go_sem]
  have key : ∀ (zs : List Int) (i : Nat) (w : Int), xs.drop i = zs → i ≤ xs.length →
      Sx.Loop Try.prog G 0 none k_kit_NewDice_r7 [.blk 0, .seq (.seq (.reg k_kit_NewDice_r8 false) .ret)] ⟨[.view (xs.map (.int .i64)), .any, .nilptr, .ptr 0 0 0 1, .int .i64 i] ++ List.replicate 28 .any, [some (Dr w)], []⟩
        (RetPost [ARes.tmp 2] fun v H' => v = .ptr 0 0 0 1 ∧ ∃ X, H' = some (Dr (feed w zs)) :: X) := by
    intro zs
    induction zs with
    | nil =>
      intro i w hd hi
      have : xs.length ≤ i := by simpa using hd
      have h1 : ¬ (i : Int) < xs.length := by omega
      refine loop_body 200 k_kit_NewDice_r7.eq_1 ?_
      simp only [go_sem, h1, feed]
      exact ⟨_, rfl⟩
    | cons z zs ih =>
      intro i w hd hi
      have hx : xs[i]? = some z := by have := congrArg (·[0]?) hd; simpa using this
      have h1 : i < xs.length := (List.getElem?_eq_some_iff.1 hx).1
      have h2 : (i : Int) < xs.length := by omega
      have h3 : IntKind.i64.wrap ((i : Int) + 1) = ((i + 1 : Nat) : Int) := by rw [IntWalk.i64_in _ (by omega)]; rfl
      have hd' : xs.drop (i + 1) = zs := by have := congrArg (List.drop 1) hd; simpa [Nat.add_comm] using this
      refine loop_body 200 k_kit_NewDice_r7.eq_1 ?_
      simp only [go_sem, hx, h2, Dr]
      refine callD (next_ok _) rfl trivial (.int _ _) (dr_bel _ _) (dr_bel _ _) (by simp) (by simp) ?_
      simp only [go_sem, h3]
      refine loop_wk ?_ (ih (i + 1) _ hd' h1)
      simp [Wk]
  refine loop_wk ?_ (key xs 0 _ rfl (Nat.zero_le _))
  simp [Wk]

end Go.Proofs

namespace Go.Proofs
open Go Go.Sx
attribute [local irreducible] Run

theorem cells_more {H : Heap} {j : Nat} {r : Bool × Nat × List AVal} (h : H.cellsAt j = some r) (Y : Heap) : (H ++ Y).cellsAt j = some r := by
  unfold Heap.cellsAt at *
  rcases hj : H[j]? with _ | _ | x
  · rw [hj] at h; simp at h
  · rw [hj] at h; simp at h
  · rw [List.getElem?_append_left (List.getElem?_eq_some_iff.1 hj).1, hj]
    rw [hj] at h
    exact h
theorem put_more {H : Heap} {j : Nat} (h : j < H.length) (Y : Heap) (x : Row) : Heap.put (H ++ Y) j x = H.set j (some x) ++ Y := by
  rw [put_lt (by simp; omega), List.set_append_left _ _ h]
structure Zn where
  f : Int
  glo : Int
  ghi : Int
  rlo : Int
  rhi : Int
  deriving Inhabited
def Zn.cs (z : Zn) : List AVal := [.int .i64 z.f, .int .i64 z.glo, .int .i64 z.ghi, .int .i64 z.rlo, .int .i64 z.rhi]
def Zn.v (z : Zn) : AVal := .agg z.cs
@[go_sem] theorem zns_bel (zs : List Zn) (S : Nat → Prop) : Bels S (zs.map Zn.v) = True := eq_true (bels_map _ _ fun z => by simp only [go_sem, Zn.v, Zn.cs])
structure ZnOK (z : Zn) : Prop where
  f : 0 ≤ z.f ∧ z.f ≤ 2000
  g : 0 ≤ z.glo ∧ z.glo ≤ z.ghi ∧ z.ghi ≤ 100000
  r : 0 ≤ z.rlo ∧ z.rlo ≤ z.rhi ∧ z.rhi ≤ 1000000
structure ZsOK (zs : List Zn) : Prop where
  len : 1 ≤ zs.length ∧ zs.length ≤ 16
  all : ∀ z ∈ zs, ZnOK z
  zero : ∀ z, zs[0]? = some z → z.f = 0
  asc : ∀ i (y z : Zn), zs[i]? = some y → zs[i + 1]? = some z → y.f < z.f

def zAt : List Zn → Int → Zn
  | [], _ => default
  | z :: r, t => match r with
    | [] => z
    | y :: _ => if y.f ≤ t then zAt r t else z
theorem asc_le {zs : List Zn} (h : ∀ i (y z : Zn), zs[i]? = some y → zs[i + 1]? = some z → y.f < z.f) : ∀ (k i : Nat) (y z : Zn), zs[i]? = some y → zs[i + k]? = some z → y.f ≤ z.f
  | 0, i, y, z, h1, h2 => by rw [Nat.add_zero, h1] at h2; cases h2; exact Int.le_refl _
  | k + 1, i, y, z, h1, h2 => by
    have hl := (List.getElem?_eq_some_iff.1 h2).1
    obtain ⟨x, hx⟩ : ∃ x, zs[i + k]? = some x := ⟨_, List.getElem?_eq_getElem (by omega)⟩
    have a := asc_le h k i y x h1 hx
    have b := h (i + k) x z hx h2
    omega
theorem zAt_at : ∀ {zs : List Zn}, (∀ i (y z : Zn), zs[i]? = some y → zs[i + 1]? = some z → y.f < z.f) → ∀ {k : Nat} {z : Zn}, zs[k]? = some z → ∀ {t : Int}, z.f ≤ t → (∀ y, zs[k + 1]? = some y → t < y.f) → zAt zs t = z
  | [], _, k, z, hk, _, _, _ => by simp at hk
  | [x], _, k, z, hk, t, _, _ => by
    cases k with
    | zero => simp at hk; subst hk; rfl
    | succ k => simp at hk
  | x :: y :: r, h, k, z, hk, t, h1, h2 => by
    show (if y.f ≤ t then zAt (y :: r) t else x) = z
    cases k with
    | zero =>
      simp at hk; subst hk
      have := h2 y rfl
      rw [if_neg (by omega)]
    | succ k =>
      have hk' : (y :: r)[k]? = some z := by simpa using hk
      have hyz := asc_le h k 1 y z rfl (by rw [Nat.add_comm]; exact hk)
      rw [if_pos (by omega)]
      exact zAt_at (fun i a b ha hb => h (i + 1) a b (by simpa using ha) (by simpa using hb)) hk' h1 fun a ha => h2 a (by simpa using ha)
theorem zAt_mem : ∀ {zs : List Zn} (t : Int), zs ≠ [] → zAt zs t ∈ zs
  | [], _, h => absurd rfl h
  | [x], t, _ => by show x ∈ [x]; simp
  | x :: y :: r, t, _ => by
    show (if y.f ≤ t then zAt (y :: r) t else x) ∈ _
    split
    · exact List.mem_cons_of_mem _ (zAt_mem t (by simp))
    · simp

theorem ZBack_run (zs : List Zn) : Ans Try.prog n_slices_Backward_api_Zone_api_Zone [.view (zs.map Zn.v)] [] (.fn (.func n_slices_Backward_api_Zone_api_Zone_1) [] [.ptr 0 0 0 1]) [some (.cells false 1 [.view (zs.map Zn.v)])] := by
  refine spec_run e_slices_Backward_api_Zone_api_Zone fun G => ?_
  simp only [go_sem]
  exact ⟨_, rfl⟩

structure ZBody (G : Ctx) (zs : List Zn) (r j : Nat) (Pre : Nat → Heap → Prop) (Stop : Heap → Prop) : Prop where
  row : ∀ i H, Pre i H → H[j]? = some (some (.cells false 1 [.view (zs.map Zn.v)]))
  round : ∀ i H z, i < zs.length → zs[zs.length - 1 - i]? = some z → Pre i H → RoundW Try.prog G r [.int .i64 ((zs.length : Int) - 1 - i), z.v] H fun v H' =>
    H.length ≤ H'.length ∧ ((v = .bool true ∧ Pre (i + 1) H') ∨ (v = .bool false ∧ Stop H'))

set_option maxHeartbeats 1000000 in
theorem zback_iter {G : Ctx} {zs : List Zn} {r j : Nat} {Pre : Nat → Heap → Prop} {Stop : Heap → Prop} (hn2 : zs.length ≤ 1000) (hB : ZBody G zs r j Pre Stop) {H0 : Heap} (h0 : Pre 0 H0) :
    CallW Try.prog G n_slices_Backward_api_Zone_api_Zone_1 [.yfn r, .ptr j 0 0 1] H0 fun v H' => v = .tup [] ∧ (Pre zs.length H' ∨ Stop H') := by
  have hj0 := hB.row 0 H0 h0
  have w1 : IntKind.i64.wrap ((zs.length : Int) - 1) = (zs.length : Int) - 1 := w64 (by omega)
  refine callW_run 3000 e_slices_Backward_api_Zone_api_Zone_1 ?_
  simp only [go_sem, cells_at hj0, w1, List.length_map]
  refine loop_ind k_slices_Backward_api_Zone_api_Zone_1_r4.eq_1 (fun a : Nat × Heap => a.1 ≤ zs.length ∧ H0.length ≤ a.2.length ∧ Pre a.1 a.2) (fun a => zs.length - a.1)
    (fun a => (tsets 19 [(0, .yfn r), (1, .ptr j 0 0 1), (3, .int .i64 ((zs.length : Int) - 1 - a.1))], a.2)) (0, H0) ⟨Nat.zero_le _, Nat.le_refl _, h0⟩ (by simp [go_sem]) rfl ?_
  rintro ⟨i, H⟩ ⟨hi, hH0, hp⟩ ih
  dsimp only at hi hH0 hp ih ⊢
  have hj := hB.row i H hp
  by_cases h1 : i < zs.length
  · have h2 : (zs.length : Int) - 1 - i ≥ 0 := by omega
    have h3 : ¬ (zs.length : Int) - 1 - i < 0 := by omega
    have h4 : (zs.length : Int) - 1 - i < zs.length := by omega
    have h5 : ((zs.length : Int) - 1 - i).toNat = zs.length - 1 - i := by omega
    have h6 : IntKind.i64.wrap ((zs.length : Int) - 1 - i - 1) = (zs.length : Int) - 1 - (i + 1 : Nat) := by rw [w64 (by omega)]; omega
    obtain ⟨z, he⟩ : ∃ z, zs[zs.length - 1 - i]? = some z := ⟨_, List.getElem?_eq_getElem (by omega)⟩
    have hrd := hB.round i H z h1 he hp
    simp only [go_sem, cells_at hj, h2, h3, h4, h5, he, List.length_map, Zn.v, Zn.cs]
    refine yieldR _ rfl rfl (by simp [go_sem]) (by simp [go_sem]) hH0 ?_
    simp only [Zn.v, Zn.cs] at hrd
    refine hrd.mono ?_
    rintro v H' ⟨q1, ⟨rfl, q3⟩ | ⟨rfl, q3⟩⟩
    · refine ⟨fun q hq => by simp at hq, ?_⟩
      simp only [go_sem, h6]
      exact ih (i + 1, H') (by dsimp only; omega) ⟨h1, by dsimp only; omega, q3⟩ _ (by simp [go_sem])
    · refine ⟨fun q hq => by simp at hq, ?_⟩
      simp only [go_sem]
      exact .inr q3
  · have h2 : ¬ (zs.length : Int) - 1 - i ≥ 0 := by omega
    have h3 : i = zs.length := by omega
    simp only [go_sem, h2]
    exact .inl (h3 ▸ hp)
end Go.Proofs

namespace Go.Proofs
open Go Go.Sx
attribute [local irreducible] Run

def stV (brk : Int) (zs : List Zn) : AVal := .agg [.int .i64 brk, .view (zs.map Zn.v)]
theorem zonesDown_run (brk : Int) (zs : List Zn) (a l : Int) : Ans Try.prog n_glass_zonesDown [stV brk zs, .int .i64 a, .int .i64 l] [] (.fn (.func n_glass_zonesDown_1) [] [.ptr 1 0 0 1, .ptr 0 0 0 1, .ptr 2 0 0 1])
    [some (.cells false 2 [stV brk zs]), some (.cells false 1 [.int .i64 a]), some (.cells false 1 [.int .i64 l])] := by
  refine spec_run e_glass_zonesDown fun G => ?_
  simp only [go_sem, stV]
  exact ⟨_, rfl⟩

structure DBody (G : Ctx) (brk : Int) (zs : List Zn) (a l : Int) (r ja js jl N : Nat) (Pre : Nat → Heap → Prop) (Stop : Heap → Prop) : Prop where
  row : ∀ i H, Pre i H → N ≤ H.length ∧ H[ja]? = some (some (.cells false 1 [.int .i64 a])) ∧ H[js]? = some (some (.cells false 2 [stV brk zs])) ∧ H[jl]? = some (some (.cells false 1 [.int .i64 l]))
  grow : ∀ i H x, Pre i H → Pre i (H ++ [x])
  set : ∀ i H q x, N ≤ q → Pre i H → Pre i (H.set q x)
  halt : ∀ H q x, N ≤ q → Stop H → Stop (H.set q x)
  round : ∀ (i : Nat) H, (i : Int) < a - l → Pre i H → RoundW Try.prog G r [.int .i64 (a - 1 - i), (zAt zs (a - 1 - i)).v] H fun v H' =>
    (H.length ≤ H'.length ∧ ∀ q, N ≤ q → q < H.length → H'[q]? = H[q]?) ∧ ((v = .bool true ∧ Pre (i + 1) H') ∨ (v = .bool false ∧ Stop H'))

def dnT (m jl : Nat) : List (Nat × AVal) := [(3, .ptr jl 0 0 1), (4, .ptr m 0 0 1), (5, .ptr (m + 1) 0 0 1), (12, .fn (.func n_slices_Backward_api_Zone_api_Zone_1) [] [.ptr (m + 2) 0 0 1])]
def dnL (m jl : Nat) (st : LoopState) (pe : Option ACode) : Row := .loop (tsets 28 (dnT m jl)) [13, 14] k_glass_zonesDown_1_r8 k_glass_zonesDown_1_r9 (m + 3) st pe
structure DnH (zs : List Zn) (r m jl : Nat) (t : Int) (lr : Row) (J : Heap) : Prop where
  len : m + 5 ≤ J.length
  y : J[m]? = some (some (.cells false 1 [.yfn r]))
  t : J[m + 1]? = some (some (.cells false 1 [.int .i64 t]))
  b : J[m + 2]? = some (some (.cells false 1 [.view (zs.map Zn.v)]))
  d : J[m + 3]? = some (some .dfr)
  l : J[m + 4]? = some (some lr)
theorem DnH.mono {zs : List Zn} {r m jl : Nat} {t : Int} {lr : Row} {J K : Heap} (h : DnH zs r m jl t lr J) (hl : J.length ≤ K.length) (hk : ∀ q, m ≤ q → q < J.length → K[q]? = J[q]?) : DnH zs r m jl t lr K :=
  have := h.len
  ⟨by omega, by rw [hk _ (by omega) (by omega)]; exact h.y, by rw [hk _ (by omega) (by omega)]; exact h.t, by rw [hk _ (by omega) (by omega)]; exact h.b, by rw [hk _ (by omega) (by omega)]; exact h.d, by rw [hk _ (by omega) (by omega)]; exact h.l⟩
theorem DnH.setT {zs : List Zn} {r m jl : Nat} {t u : Int} {lr : Row} {J : Heap} (h : DnH zs r m jl t lr J) : DnH zs r m jl u lr (J.set (m + 1) (some (.cells false 1 [.int .i64 u]))) :=
  have hl := h.len
  ⟨by rw [List.length_set]; exact hl, by rw [List.getElem?_set_ne (by omega)]; exact h.y, List.getElem?_set_self (by omega), by rw [List.getElem?_set_ne (by omega)]; exact h.b, by rw [List.getElem?_set_ne (by omega)]; exact h.d, by rw [List.getElem?_set_ne (by omega)]; exact h.l⟩
theorem DnH.setL {zs : List Zn} {r m jl : Nat} {t : Int} {lr x : Row} {J : Heap} (h : DnH zs r m jl t lr J) : DnH zs r m jl t x (J.set (m + 4) (some x)) :=
  have hl := h.len
  ⟨by rw [List.length_set]; exact hl, by rw [List.getElem?_set_ne (by omega)]; exact h.y, by rw [List.getElem?_set_ne (by omega)]; exact h.t, by rw [List.getElem?_set_ne (by omega)]; exact h.b, by rw [List.getElem?_set_ne (by omega)]; exact h.d, List.getElem?_set_self (by omega)⟩

set_option maxHeartbeats 4000000 in
set_option maxRecDepth 10000 in
theorem down_iter {G : Ctx} {brk : Int} {zs : List Zn} (hz : ZsOK zs) {a l : Int} (ha : a ≤ 2001) (hl : 0 ≤ l ∧ l ≤ 2001) (ha0 : -1 ≤ a) {r ja js jl N : Nat} {Pre : Nat → Heap → Prop} {Stop : Heap → Prop} (hB : DBody G brk zs a l r ja js jl N Pre Stop) {H0 : Heap} (h0 : Pre 0 H0) :
    CallW Try.prog G n_glass_zonesDown_1 [.yfn r, .ptr ja 0 0 1, .ptr js 0 0 1, .ptr jl 0 0 1] H0 fun v H' => v = .tup [] ∧ (Pre (a - l).toNat H' ∨ Stop H') := by
  obtain ⟨hN, hja, hjs, hjl⟩ := hB.row 0 H0 h0
  have hn := hz.len
  have la := (List.getElem?_eq_some_iff.1 hja).1
  have ls := (List.getElem?_eq_some_iff.1 hjs).1
  have ll := (List.getElem?_eq_some_iff.1 hjl).1
  have ca := fun Y => cells_more (cells_at hja) Y
  have cs := fun Y => cells_more (cells_at hjs) Y
  have w1 : IntKind.i64.wrap (a - 1) = a - 1 := w64 (by omega)
  refine callW_run 3000 e_glass_zonesDown_1 ?_
  simp only [go_sem, stV] at ca cs
  simp only [go_sem, ca, cs, w1, stV]
  refine cN1 (ZBack_run zs) ?_
  simp only [go_sem, ren, rens]
  generalize hm : H0.length = m at *
  have e2 : ((a - l).toNat : Int) = max 0 (a - l) := by omega
  have hKl : (H0 ++ [some (Row.cells false 1 [AVal.yfn r]), some (Row.cells false 1 [AVal.int IntKind.i64 (a - 1)]), some (Row.cells false 1 [AVal.view (List.map Zn.v zs)])]).length = m + 3 := by simp [hm]
  have hK0 : Pre 0 (H0 ++ [some (Row.cells false 1 [AVal.yfn r]), some (Row.cells false 1 [AVal.int IntKind.i64 (a - 1)]), some (Row.cells false 1 [AVal.view (List.map Zn.v zs)])]) := by
    have := hB.grow _ _ (some (Row.cells false 1 [AVal.view (List.map Zn.v zs)])) (hB.grow _ _ (some (Row.cells false 1 [AVal.int IntKind.i64 (a - 1)])) (hB.grow _ _ (some (Row.cells false 1 [AVal.yfn r])) h0))
    simpa using this
  have g0 : ∀ (x y z : Option Row), (H0 ++ [x, y, z])[m]? = some x := fun x y z => by rw [List.getElem?_append_right (by omega), hm, Nat.sub_self]; rfl
  have g1 : ∀ (x y z : Option Row), (H0 ++ [x, y, z])[m + 1]? = some y := fun x y z => by rw [List.getElem?_append_right (by omega), hm, show m + 1 - m = 1 by omega]; rfl
  have g2 : ∀ (x y z : Option Row), (H0 ++ [x, y, z])[m + 2]? = some z := fun x y z => by rw [List.getElem?_append_right (by omega), hm, show m + 2 - m = 2 by omega]; rfl
  have k0 := g0 (some (Row.cells false 1 [AVal.yfn r])) (some (Row.cells false 1 [AVal.int IntKind.i64 (a - 1)])) (some (Row.cells false 1 [AVal.view (List.map Zn.v zs)]))
  have k1 := g1 (some (Row.cells false 1 [AVal.yfn r])) (some (Row.cells false 1 [AVal.int IntKind.i64 (a - 1)])) (some (Row.cells false 1 [AVal.view (List.map Zn.v zs)]))
  have k2 := g2 (some (Row.cells false 1 [AVal.yfn r])) (some (Row.cells false 1 [AVal.int IntKind.i64 (a - 1)])) (some (Row.cells false 1 [AVal.view (List.map Zn.v zs)]))
  generalize (H0 ++ [some (Row.cells false 1 [AVal.yfn r]), some (Row.cells false 1 [AVal.int IntKind.i64 (a - 1)]), some (Row.cells false 1 [AVal.view (List.map Zn.v zs)])] : Heap) = K at *
  clear g0 g1 g2
  have hit : CallW Try.prog G n_slices_Backward_api_Zone_api_Zone_1 [.yfn (m + 4), .ptr (m + 2) 0 0 1] (K ++ [some .dfr] ++ [some (dnL m jl .ready none)]) fun v J => v = .tup [] ∧
      ((∃ i : Nat, Pre i J ∧ DnH zs r m jl (a - 1 - i) (dnL m jl .ready none) J ∧ i ≤ (a - l).toNat ∧ ∀ y, 0 < zs.length → zs[zs.length - zs.length]? = some y → a - 1 - i < max y.f l) ∨ Stop J ∧ ∃ t, DnH zs r m jl t (dnL m jl .done (some .ret)) J) := by
    refine zback_iter (r := m + 4) (j := m + 2) (zs := zs) (by omega) (Pre := fun k J => ∃ i : Nat, Pre i J ∧ DnH zs r m jl (a - 1 - i) (dnL m jl .ready none) J ∧ i ≤ (a - l).toNat ∧ ∀ y, 0 < k → zs[zs.length - k]? = some y → a - 1 - i < max y.f l)
      (Stop := fun J => Stop J ∧ ∃ t, DnH zs r m jl t (dnL m jl .done (some .ret)) J) ⟨?_, ?_⟩ ?_
    · rintro k J ⟨i, _, h, _⟩
      exact h.b
    · rintro k J z hk hz' ⟨i, hp, hd, hi, hlim⟩
      have hzm := hz.all z (List.mem_of_getElem? hz')
      have hzf := hzm.f
      have hdl := hd.len
      -- where the inner loop stands
      refine RoundW.mono (R := fun v J' => (v = .bool true ∧ ∃ i' : Nat, Pre i' J' ∧ DnH zs r m jl (a - 1 - i') (dnL m jl .ready none) J' ∧ i' ≤ (a - l).toNat ∧ a - 1 - i' < max z.f l ∧ J.length ≤ J'.length) ∨ (v = .bool false ∧ Stop J' ∧ J.length ≤ J'.length ∧ ∃ t, DnH zs r m jl t (dnL m jl .done (some .ret)) J')) ?_ ?_
      rotate_left
      · rintro v J' (⟨rfl, i', q1, q2, q3, q4, q5⟩ | ⟨rfl, q1, q2, q3⟩)
        · refine ⟨q5, .inl ⟨rfl, i', q1, q2, q3, fun y _ hy => ?_⟩⟩
          rw [show zs.length - (k + 1) = zs.length - 1 - k by omega, hz'] at hy
          cases hy; exact q4
        · exact ⟨q2, .inr ⟨rfl, q1, q3⟩⟩
      generalize hR : (fun (v : AVal) (J' : Heap) => (v = .bool true ∧ ∃ i' : Nat, Pre i' J' ∧ DnH zs r m jl (a - 1 - i') (dnL m jl .ready none) J' ∧ i' ≤ (a - l).toNat ∧ a - 1 - i' < max z.f l ∧ J.length ≤ J'.length) ∨ (v = .bool false ∧ Stop J' ∧ J.length ≤ J'.length ∧ ∃ t, DnH zs r m jl t (dnL m jl .done (some .ret)) J')) = R
      have hon : ∀ (i' : Nat) J', Pre i' J' → DnH zs r m jl (a - 1 - i') (dnL m jl .ready none) J' → i' ≤ (a - l).toNat → a - 1 - i' < max z.f l → J.length ≤ J'.length → R (.bool true) J' := fun i' J' q1 q2 q3 q4 q5 => by rw [← hR]; exact .inl ⟨rfl, i', q1, q2, q3, q4, q5⟩
      have hoff : ∀ J' t, Stop J' → J.length ≤ J'.length → DnH zs r m jl t (dnL m jl .done (some .ret)) J' → R (.bool false) J' := fun J' t q1 q2 q3 => by rw [← hR]; exact .inr ⟨rfl, q1, q2, t, q3⟩
      clear hR
      refine roundW_run 500 k_glass_zonesDown_1_r8.eq_1 hd.l rfl (ρ' := tsets 28 (dnT m jl ++ [(13, .int .i64 ((zs.length : Int) - 1 - k)), (14, z.v)])) rfl ?_
      simp only [go_sem, dnT, Zn.v, Zn.cs, put_at_end]
      have hp1 := hB.grow _ _ (some (Row.cells false 5 [AVal.agg [AVal.int IntKind.i64 z.f, AVal.int IntKind.i64 z.glo, AVal.int IntKind.i64 z.ghi, AVal.int IntKind.i64 z.rlo, AVal.int IntKind.i64 z.rhi]])) hp
      have hd1 : DnH zs r m jl (a - 1 - i) (dnL m jl .ready none) (J ++ [some (Row.cells false 5 [AVal.agg [AVal.int IntKind.i64 z.f, AVal.int IntKind.i64 z.glo, AVal.int IntKind.i64 z.ghi, AVal.int IntKind.i64 z.rlo, AVal.int IntKind.i64 z.rhi]])]) := hd.mono (by simp) fun q _ hq => List.getElem?_append_left hq
      have hb1 := get_end J (some (Row.cells false 5 [AVal.agg [AVal.int IntKind.i64 z.f, AVal.int IntKind.i64 z.glo, AVal.int IntKind.i64 z.ghi, AVal.int IntKind.i64 z.rlo, AVal.int IntKind.i64 z.rhi]]))
      have hl1 : (J ++ [some (Row.cells false 5 [AVal.agg [AVal.int IntKind.i64 z.f, AVal.int IntKind.i64 z.glo, AVal.int IntKind.i64 z.ghi, AVal.int IntKind.i64 z.rlo, AVal.int IntKind.i64 z.rhi]])]).length = J.length + 1 := by simp
      generalize (J ++ [some (Row.cells false 5 [AVal.agg [AVal.int IntKind.i64 z.f, AVal.int IntKind.i64 z.glo, AVal.int IntKind.i64 z.ghi, AVal.int IntKind.i64 z.rlo, AVal.int IntKind.i64 z.rhi]])] : Heap) = L at *
      generalize hjl' : J.length = q at *
      have hlt : m + 4 < L.length := by omega
      refine roundMid_run 500 k_glass_zonesDown_1_r9.eq_1 hd1.l (put_lt hlt) ?_
      have hp2 := hB.set _ _ (m + 4) (some (dnL m jl .busy none)) (by omega) hp1
      have hd2 := hd1.setL (x := dnL m jl .busy none)
      have hb2 : (L.set (m + 4) (some (dnL m jl .busy none)))[q]? = some (some (Row.cells false 5 [AVal.agg [AVal.int IntKind.i64 z.f, AVal.int IntKind.i64 z.glo, AVal.int IntKind.i64 z.ghi, AVal.int IntKind.i64 z.rlo, AVal.int IntKind.i64 z.rhi]])) := by rw [List.getElem?_set_ne (by omega)]; exact hb1
      have hl2 : (L.set (m + 4) (some (dnL m jl .busy none))).length = q + 1 := by rw [List.length_set]; exact hl1
      simp only [dnL, dnT] at hp2 hd2 hb2 hl2 ⊢
      generalize hM : (L.set (m + 4) _ : Heap) = M at hp2 hd2 hb2 hl2 ⊢
      clear hM hp1 hd1 hb1 hl1
      simp only [go_sem]
      refine loop_ind k_glass_zonesDown_1_r7.eq_1 (fun s : Nat × Heap => Pre s.1 s.2 ∧ DnH zs r m jl (a - 1 - s.1) (.loop (tsets 28 [(3, .ptr jl 0 0 1), (4, .ptr m 0 0 1), (5, .ptr (m + 1) 0 0 1), (12, .fn (.func n_slices_Backward_api_Zone_api_Zone_1) [] [.ptr (m + 2) 0 0 1])]) [13, 14] k_glass_zonesDown_1_r8 k_glass_zonesDown_1_r9 (m + 3) .busy none) s.2 ∧ s.1 ≤ (a - l).toNat ∧ i ≤ s.1 ∧ q < s.2.length ∧ s.2[q]? = some (some (Row.cells false 5 [AVal.agg [AVal.int IntKind.i64 z.f, AVal.int IntKind.i64 z.glo, AVal.int IntKind.i64 z.ghi, AVal.int IntKind.i64 z.rlo, AVal.int IntKind.i64 z.rhi]])))
        (fun s => (a - l).toNat - s.1) (fun s => (tsets 28 [(3, .ptr jl 0 0 1), (4, .ptr m 0 0 1), (5, .ptr (m + 1) 0 0 1), (7, .ptr q 0 0 1)], s.2)) (i, M) ⟨hp2, hd2, hi, Nat.le_refl _, by dsimp only; omega, hb2⟩ (by simp [go_sem]) rfl ?_
      rintro ⟨i', S⟩ ⟨hps, hds, his, hii, hql, hbs⟩ ih
      dsimp only at hps hds his hii hql hbs ih ⊢
      have cl := cells_at (hB.row _ _ hps).2.2.2
      have ct := cells_at hds.t
      have cy := cells_at hds.y
      have cb := cells_at hbs
      have emx : (if l > z.f then l else z.f) = max z.f l := by split <;> omega
      by_cases hge : a - 1 - (i' : Int) ≥ max z.f l
      · simp only [go_sem, cl, ct, cy, cb, emx, hge]
        have hzt : zAt zs (a - 1 - i') = z := zAt_at hz.asc hz' (by omega) fun y hy => by
          by_cases hk0 : 0 < k
          · have := hlim y hk0 (by rw [← hy]; congr 1; omega)
            omega
          · rw [List.getElem?_eq_none (by omega)] at hy; cases hy
        have hrd := hB.round i' S (by omega) hps
        rw [hzt] at hrd
        refine yieldR _ rfl rfl (by simp [go_sem]) (by simp [go_sem]) (by omega) ?_
        simp only [Zn.v, Zn.cs] at hrd
        refine hrd.mono ?_
        rintro v S' ⟨⟨q1, q2⟩, ⟨rfl, q3⟩ | ⟨rfl, q3⟩⟩
        · have hds' := hds.mono q1 fun x hx => q2 x (by omega)
          have ct' := cells_at hds'.t
          have hlt' : m + 1 < S'.length := by have := hds'.len; omega
          have hput := fun x => put_lt (H := S') (x := x) hlt'
          have hw : IntKind.i64.wrap (a - 1 - (i' : Int) - 1) = a - 1 - ((i' + 1 : Nat) : Int) := by rw [w64 (by omega)]; omega
          have hds2 := hds'.setT (u := a - 1 - ((i' + 1 : Nat) : Int))
          have ihn := ih (i' + 1, S'.set (m + 1) (some (.cells false 1 [.int .i64 (a - 1 - ((i' + 1 : Nat) : Int))]))) (by dsimp only; omega)
            ⟨hB.set _ _ _ _ (by omega) q3, hds2, by dsimp only; omega, by dsimp only; omega, by dsimp only; rw [List.length_set]; omega, by dsimp only; rw [List.getElem?_set_ne (by omega), q2 q (by omega) hql]; exact hbs⟩
          clear ih
          refine ⟨fun x hx => by simp at hx, ?_⟩
          simp only [go_sem] at ihn
          simp only [go_sem, ct', hput, hw]
          exact ihn _ (by simp [go_sem])
        · have hds' := hds.mono q1 fun x hx => q2 x (by omega)
          have hlt' : m + 4 < S'.length := by have := hds'.len; omega
          refine ⟨fun x hx => by simp at hx, ?_⟩
          simp only [go_sem]
          refine roundEnd_ret hds'.l ?_
          rw [put_lt hlt']
          exact hoff _ _ (hB.halt _ _ _ (by omega) q3) (by rw [List.length_set]; omega) hds'.setL
      · simp only [go_sem, cl, ct, cy, cb, emx, hge]
        have hlt' : m + 4 < S.length := by have := hds.len; omega
        refine roundEnd_on hds.l ?_
        rw [put_lt hlt']
        exact hon i' _ (hB.set _ _ _ _ (by omega) hps) hds.setL his (by omega) (by rw [List.length_set]; omega)
    · have q : ∀ (j : Nat) (y x x' : Option Row), K[j]? = some y → (K ++ [x] ++ [x'])[j]? = some y := fun j y x x' h => by
        have := (List.getElem?_eq_some_iff.1 h).1
        rw [List.append_assoc, List.getElem?_append_left this]; exact h
      refine ⟨0, hB.grow _ _ _ (hB.grow _ _ _ hK0), ⟨by simp [hKl], q _ _ _ _ k0, ?_, q _ _ _ _ k2, ?_, ?_⟩, Nat.zero_le _, fun y h => absurd h (by omega)⟩
      · have := q _ _ (some .dfr) (some (dnL m jl .ready none)) k1
        rw [this]; simp
      · rw [List.append_assoc, List.getElem?_append_right (by omega), hKl, Nat.sub_self]; rfl
      · rw [List.append_assoc, List.getElem?_append_right (by omega), hKl, show m + 4 - (m + 3) = 1 by omega]; rfl
  refine rangeF 2000 (ρ := tsets 28 (dnT m jl)) (by simp [go_sem, dnT]) (by simp only [go_sem, dnT]; rfl) (by rw [hKl]; exact hit) (by rw [hKl]; omega) ?_
  rw [hKl]
  rintro v J ⟨rfl, ⟨i, hp, hd, hi, hlim⟩ | ⟨hs, t, hd⟩⟩
  · refine ⟨fun q hq => by simp at hq; subst hq; exact hd.d, _, _, _, _, _, _, _, hd.l, by decide, ?_⟩
    have ez : zs[zs.length - zs.length]? = zs[0]? := by rw [Nat.sub_self]
    obtain ⟨z0, hz0⟩ : ∃ z, zs[0]? = some z := ⟨_, List.getElem?_eq_getElem (by omega)⟩
    have hf0 := hz.zero z0 hz0
    have hla := hlim z0 (by omega) (by rw [ez]; exact hz0)
    have hie : i = (a - l).toNat := by omega
    subst hie
    have hfin := hB.set _ _ (m + 3) none (by omega) (hB.set _ _ (m + 3 + 1) none (by omega) hp)
    simp only [go_sem, dnT]
    exact ⟨by simp, .inl hfin⟩
  · refine ⟨fun q hq => by simp at hq; subst hq; exact hd.d, _, _, _, _, _, _, _, hd.l, by decide, ?_⟩
    have hfin := hB.halt _ (m + 3) none (by omega) (hB.halt _ (m + 3 + 1) none (by omega) hs)
    simp only [go_sem, dnT]
    exact ⟨by simp, .inr hfin⟩
end Go.Proofs

namespace Go.Proofs
open Go Go.Sx
attribute [local irreducible] Run

section
variable {P : Program} {G : Ctx} {g : FuncId} {args : List AVal} {H : Heap} {r : AVal} {k : Nat} {R : Runner} {l : List AOper} {fs : List Sx.Frame} {ρ : List AVal} {ms : List Nat} {Q : Sx.Goal} {dst : Option Nat} {x y z : Row}
theorem cN3 (h : Ans P g args [] r [some x, some y, some z]) (hK : R (.ops l) fs ⟨setD ρ dst (ren (fun i => H.length + i) r), H ++ [some x, some y, some z], ms⟩ Q)
    (hb : Bels (fun _ => False) args := by simp only [go_sem]) (hr : Bel (· < 3) r := by simp [go_sem]) (hx : x.bel (fun _ => False) := by first | (simp only [go_sem]; done) | (rw [row_bel_cells]; simp only [go_sem])) (hy : y.bel (fun _ => False) := by first | (simp only [go_sem]; done) | (rw [row_bel_cells]; simp only [go_sem])) (hz : z.bel (fun _ => False) := by first | (simp only [go_sem]; done) | (rw [row_bel_cells]; simp only [go_sem])) (hk : k ≤ H.length := by simp) (hms : ∀ q ∈ ms, H[q]? = some (some .dfr) := by simp) : CallR P G k R g args dst l fs ρ H ms Q := by
  have e : outΔ (outσ [] H.length) 0 [some x, some y, some z] = [(H.length, x), (H.length + 1, y), (H.length + 2, z)] := by
    simp only [outΔ, Row.ren_same hx, Row.ren_same hy, Row.ren_same hz]
    rfl
  have eσ : outσ [] H.length = fun i => H.length + i := by funext i; simp [outσ]
  refine callS h [] (by simp) trivial (by
    conv => lhs; rw [← List.map_id args]
    exact List.map_congr_left fun v hv => (ren_same (bels_mem hb v hv)).symm) (bels_of fun v hv => (bels_mem hb v hv).mono fun _ h => h.elim) trivial (by simp) (by simpa using hr)
    ⟨bel_mono_row hx fun _ h => h.elim, bel_mono_row hy fun _ h => h.elim, bel_mono_row hz fun _ h => h.elim, trivial⟩ (fun q hq => by simp at hq) hk (fun q hq => ?_) ?_
  · refine ⟨?_, hms q hq⟩
    rw [e]
    have := (List.getElem?_eq_some_iff.1 (hms q hq)).1
    simp; omega
  · rw [e, eσ]
    have e3 : Heap.put (H ++ [some x]) (H.length + 1) y = H ++ [some x, some y] := by
      have := Heap.put_end (H ++ [some x]) y
      simpa using this
    have e4 : Heap.put (H ++ [some x, some y]) (H.length + 2) z = H ++ [some x, some y, some z] := by
      have := Heap.put_end (H ++ [some x, some y]) z
      simpa using this
    simp only [Heap.puts, Heap.put_end, e3, e4]
    exact hK
end

theorem tail_keep {A B X Y : Heap} {N : Nat} (ha : A.length = N) (hb : B.length = N) : (A ++ X).length ≤ (B ++ (X ++ Y)).length ∧ ∀ q, N ≤ q → q < (A ++ X).length → (B ++ (X ++ Y))[q]? = (A ++ X)[q]? := by
  refine ⟨by simp; omega, fun q hq hql => ?_⟩
  simp only [List.length_append] at hql
  have e1 : (B ++ (X ++ Y))[q]? = (X ++ Y)[q - B.length]? := List.getElem?_append_right (by omega)
  have e2 : (A ++ X)[q]? = X[q - A.length]? := List.getElem?_append_right (by omega)
  have e3 : (X ++ Y)[q - B.length]? = X[q - B.length]? := List.getElem?_append_left (by omega)
  rw [e1, e2, e3, ha, hb]
def r2 (a b : Int) : AVal := .agg [.int .i64 a, .int .i64 b]
theorem plus_run (a b c d : Int) (h : -1000000000000000000 ≤ a ∧ a ≤ 1000000000000000000 ∧ -1000000000000000000 ≤ b ∧ b ≤ 1000000000000000000 ∧ -1000000000000000000 ≤ c ∧ c ≤ 1000000000000000000 ∧ -1000000000000000000 ≤ d ∧ d ≤ 1000000000000000000) :
    Ans Try.prog n_glass_plus [r2 a b, r2 c d] [] (r2 (a + c) (b + d)) [] := by
  have w1 : IntKind.i64.wrap (a + c) = a + c := w64 (by omega)
  have w2 : IntKind.i64.wrap (b + d) = b + d := w64 (by omega)
  refine spec_run e_glass_plus fun G => ?_
  simp only [go_sem, r2, w1, w2]
theorem less_run (a b c d : Int) (h : -1000000000000000000 ≤ a ∧ a ≤ 1000000000000000000 ∧ -1000000000000000000 ≤ b ∧ b ≤ 1000000000000000000 ∧ -1000000000000000000 ≤ c ∧ c ≤ 1000000000000000000 ∧ -1000000000000000000 ≤ d ∧ d ≤ 1000000000000000000) :
    Ans Try.prog n_glass_less [r2 a b, r2 c d] [] (r2 (a - d) (b - c)) [] := by
  have w1 : IntKind.i64.wrap (a - d) = a - d := w64 (by omega)
  have w2 : IntKind.i64.wrap (b - c) = b - c := w64 (by omega)
  refine spec_run e_glass_less fun G => ?_
  simp only [go_sem, r2, w1, w2]

def sumD (f : Int → Int) (a : Int) : Nat → Int
  | 0 => 0
  | n + 1 => sumD f a n + f (a - 1 - n)
def gLo (zs : List Zn) (t : Int) : Int := (zAt zs t).glo
def gHi (zs : List Zn) (t : Int) : Int := (zAt zs t).ghi
theorem g_in {zs : List Zn} (hz : ZsOK zs) (t : Int) : 0 ≤ gLo zs t ∧ gLo zs t ≤ gHi zs t ∧ gHi zs t ≤ 100000 := by
  have hne : zs ≠ [] := fun e => by have := hz.len; rw [e] at this; simp at this
  exact (hz.all _ (zAt_mem t hne)).g

end Go.Proofs

namespace Go.Proofs
open Go Go.Sx
attribute [local irreducible] Run

theorem one_ok (w n : Int) (hn : n ≤ 9223372036854775807) : Ans Try.prog n_kit_Dice_One [.ptr 0 0 0 1, .int .i64 n] [some (Dr w)] (.bool (upto w n == 0)) [some (Dr (dstep w))] := by
  refine spec_run e_kit_Dice_One fun G => ?_
  simp only [go_sem]
  refine cD (upto_ok w n hn) ?_
  simp only [go_sem]
  exact ⟨_, rfl⟩
def rateV (w n : Int) : Int × Int :=
  if upto w 5 = 0 then (0, 0) else if upto w 5 = 1 then (btw (dstep w) 0 n, btw (dstep w) 0 n) else (btw (dstep w) 0 n, min n (btw (dstep w) 0 n + upto (dstep (dstep w)) (n / 4 + 1)))
def rateW (w : Int) : Int := if upto w 5 = 0 then dstep w else if upto w 5 = 1 then dstep (dstep w) else dstep (dstep (dstep w))
theorem rateV_in (w : Int) {n : Int} (hn : 0 ≤ n) : 0 ≤ (rateV w n).1 ∧ (rateV w n).1 ≤ (rateV w n).2 ∧ (rateV w n).2 ≤ n := by
  have h1 := btw_in (w := dstep w) (lo := 0) (hi := n) hn
  have h2 := upto_in (w := dstep (dstep w)) (n := n / 4 + 1) (by omega)
  unfold rateV
  split
  · simp; exact hn
  · split
    · dsimp only; omega
    · dsimp only; omega
theorem rate_run (w n : Int) (hn : 0 ≤ n ∧ n ≤ 1000000000000) : Ans Try.prog n_kit_rate [.ptr 0 0 0 1, .int .i64 n] [some (Dr w)] (r2 (rateV w n).1 (rateV w n).2) [some (Dr (rateW w))] := by
  have h1 := btw_in (w := dstep w) (lo := 0) (hi := n) hn.1
  have h2 := upto_in (w := dstep (dstep w)) (n := n / 4 + 1) (by omega)
  have w1 : n.tdiv 4 = n / 4 := Int.tdiv_eq_ediv_of_nonneg hn.1
  have w2 : IntKind.i64.wrap (n / 4) = n / 4 := w64 (by omega)
  have w3 : IntKind.i64.wrap (n / 4 + 1) = n / 4 + 1 := w64 (by omega)
  have w4 : IntKind.i64.wrap (btw (dstep w) 0 n + upto (dstep (dstep w)) (n / 4 + 1)) = btw (dstep w) 0 n + upto (dstep (dstep w)) (n / 4 + 1) := w64 (by omega)
  have w5 : ∀ x : Int, (if x < n then x else n) = min n x := fun x => by split <;> omega
  refine spec_run e_kit_rate fun G => ?_
  simp only [go_sem]
  refine cD (upto_ok w 5 (by decide)) ?_
  unfold rateV rateW
  by_cases c0 : upto w 5 = 0
  · have e0 : (upto w 5 == 0) = true := by rw [c0]; rfl
    simp only [go_sem, e0, c0, if_true, r2]
    exact ⟨_, rfl⟩
  · have e0 : (upto w 5 == 0) = false := beq_eq_false_iff_ne.2 c0
    by_cases c1 : upto w 5 = 1
    · have e1 : (upto w 5 == 1) = true := by rw [c1]; rfl
      simp only [go_sem, e0, e1, c0, c1, if_true, if_false, r2]
      refine cD (between_ok _ 0 n (by decide) hn.1 (by omega)) ?_
      simp only [go_sem]
      exact ⟨_, rfl⟩
    · have e1 : (upto w 5 == 1) = false := beq_eq_false_iff_ne.2 c1
      simp only [go_sem, e0, e1, c0, c1, if_true, if_false, r2]
      refine cD (between_ok _ 0 n (by decide) hn.1 (by omega)) ?_
      simp only [go_sem, w1, w2, w3]
      refine cD (upto_ok _ (n / 4 + 1) (by omega)) ?_
      simp only [go_sem, w4, w5]
      exact ⟨_, rfl⟩
end Go.Proofs

namespace Go.Proofs
open Go Go.Sx
attribute [local irreducible] Run

def zoT : List (Nat × AVal) := [(4, .ptr 1 0 0 1), (5, .ptr 2 0 0 1), (12, .fn (.func n_glass_zonesDown_1) [] [.ptr 4 0 0 1, .ptr 3 0 0 1, .ptr 5 0 0 1])]
def zoL (st : LoopState) (pe : Option ACode) : Row := .loop (tsets 17 zoT) [13, 14] k_glass_zoneOf_r5 k_glass_zoneOf_r6 6 st pe
def zoH (brk : Int) (zs : List Zn) (t : Int) (z : Zn) (x : Row) (X : Heap) : Heap :=
  [some (.cells false 2 [stV brk zs]), some (.cells false 5 [(⟨0, 0, 0, 0, 0⟩ : Zn).v]), some (.cells false 5 [z.v]), some (.cells false 2 [stV brk zs]), some (.cells false 1 [.int .i64 (t + 1)]), some (.cells false 1 [.int .i64 t]), some .dfr, some x] ++ X

set_option maxHeartbeats 4000000 in
set_option maxRecDepth 10000 in
theorem zoneOf_run (brk : Int) {zs : List Zn} (hz : ZsOK zs) {t : Int} (ht : 0 ≤ t ∧ t ≤ 2000) :
    Ans Try.prog n_glass_zoneOf [stV brk zs, .int .i64 t] [] (zAt zs t).v [] := by
  refine spec_run e_glass_zoneOf fun G => ?_
  have hzd := zonesDown_run brk zs (t + 1) t
  have w1 : IntKind.i64.wrap (t + 1) = t + 1 := w64 (by omega)
  simp only [stV] at hzd
  simp only [go_sem, stV, w1]
  refine cN3 hzd ?_
  simp only [go_sem, ren, rens]
  have hn : (t + 1 - t).toNat = 1 := by omega
  have hit := fun G => down_iter (G := G) (r := 7) (ja := 4) (js := 3) (jl := 5) (N := 8) (brk := brk) hz (a := t + 1) (l := t) (by omega) (by omega) (by omega) (Pre := fun i H => ∃ X, H = zoH brk zs t (if i = 0 then ⟨0, 0, 0, 0, 0⟩ else zAt zs t) (zoL .ready none) X) (Stop := fun _ => False)
  rw [hn] at hit
  refine rangeF 2000 (ρ := tsets 17 zoT) (by simp [go_sem, zoT]) (by simp only [go_sem, zoT]; rfl)
    (hit _ ⟨?_, ?_, ?_, ?_, ?_⟩ ⟨[], rfl⟩) (by simp) ?_
  · rintro i H ⟨X, rfl⟩
    exact ⟨by simp [zoH], rfl, rfl, rfl⟩
  · rintro i H x ⟨X, rfl⟩
    exact ⟨X ++ [x], by simp [zoH]⟩
  · rintro i H q x hq ⟨X, rfl⟩
    refine ⟨X.set (q - 8) x, ?_⟩
    unfold zoH
    rw [List.set_append_right _ _ (by simp; omega)]; rfl
  · intro H q x _ h; exact h
  · rintro i H hi ⟨X, rfl⟩
    obtain rfl : i = 0 := by omega
    have et : t + 1 - 1 - ((0 : Nat) : Int) = t := by omega
    rw [et]
    simp only [if_true, Nat.zero_add, Nat.one_ne_zero, if_false]
    generalize zAt zs t = z at *
    refine RoundW.mono (R := fun w H' => w = .bool true ∧ ∃ Y, H' = zoH brk zs t z (zoL .ready none) (X ++ Y)) ?_ ?_
    rotate_left
    · rintro w H' ⟨rfl, Y, rfl⟩
      exact ⟨tail_keep rfl rfl, .inl ⟨rfl, _, rfl⟩⟩
    generalize hR : (fun (w : AVal) (H' : Heap) => w = .bool true ∧ ∃ Y, H' = zoH brk zs t z (zoL .ready none) (X ++ Y)) = R
    have hfin : ∀ Y, R (.bool true) (zoH brk zs t z (zoL .ready none) (X ++ Y)) := fun Y => by rw [← hR]; exact ⟨rfl, Y, rfl⟩
    clear hR
    refine roundW_run 500 k_glass_zoneOf_r5.eq_1 rfl rfl (ρ' := tsets 17 (zoT ++ [(13, .int .i64 t), (14, z.v)])) rfl ?_
    simp only [go_sem, zoT, zoH, Zn.v, Zn.cs, stV]
    refine roundMid_run 500 k_glass_zoneOf_r6.eq_1 rfl rfl ?_
    simp only [go_sem]
    refine roundEnd_on rfl ?_
    simp only [go_sem]
    simp only [zoH, zoL, zoT, stV, Zn.v, Zn.cs] at hfin
    exact hfin [_]
  · rintro v H' ⟨rfl, ⟨X, rfl⟩ | h⟩
    · refine ⟨fun q hq => by simp at hq; subst hq; rfl, _, _, _, _, _, _, _, rfl, by decide, ?_⟩
      simp only [go_sem, zoH, zoT, Nat.one_ne_zero, if_false, Zn.v, Zn.cs]
      simp
    · exact h.elim

end Go.Proofs

namespace Go.Proofs
open Go Go.Sx
attribute [local irreducible] Run

theorem gwithin (n a b : Int) : Ans Try.prog n_glass_within [.int .i64 n, .int .i64 a, .int .i64 b] [] (.bool (decide (a ≤ n) && decide (n ≤ b))) [] := by
  refine spec_run e_glass_within fun G => ?_
  by_cases h1 : a ≤ n
  · by_cases h2 : n ≤ b <;> simp [go_sem, h1, h2]
  · simp [go_sem, h1]
theorem gwithin_yes {n a b : Int} (h : a ≤ n ∧ n ≤ b) : Ans Try.prog n_glass_within [.int .i64 n, .int .i64 a, .int .i64 b] [] (.bool true) [] := by
  have := gwithin n a b
  rw [decide_eq_true h.1, decide_eq_true h.2] at this
  exact this
theorem isHeat_yes {n : Int} (h : 0 ≤ n ∧ n ≤ 2000) : Ans Try.prog n_glass_isHeat [.int .i64 n] [] (.bool true) [] := by
  refine spec_run e_glass_isHeat fun G => ?_
  simp only [go_sem]
  refine cP (gwithin_yes h) ?_
  simp only [go_sem]
theorem checkRange_yes {a b m : Int} (h : 0 ≤ a ∧ a ≤ b ∧ b ≤ m) : Ans Try.prog n_glass_checkRange [r2 a b, .int .i64 m] [] (.int .i64 0) [] := by
  refine spec_run e_glass_checkRange fun G => ?_
  simp only [go_sem, r2]
  refine cP (gwithin_yes (n := a) (a := 0) (b := m) (by omega)) ?_
  simp only [go_sem]
  refine cP (gwithin_yes (n := b) (a := 0) (b := m) (by omega)) ?_
  have : ¬ a > b := by omega
  simp only [go_sem, this]

set_option maxHeartbeats 4000000 in
set_option maxRecDepth 10000 in
theorem Check_run {brk : Int} (hb : 1 ≤ brk ∧ brk ≤ 1000000000) {zs : List Zn} (hz : ZsOK zs) : Ans Try.prog n_glass_Check [stV brk zs] [] (.int .i64 0) [] := by
  have hn := hz.len
  refine spec_run e_glass_Check fun G => ?_
  simp only [go_sem, stV]
  refine cP (gwithin_yes hb) ?_
  have n1 : ((zs.length : Int) == 0) = false := beq_eq_false_iff_ne.2 (by omega)
  have n2 : ¬ (zs.length : Int) > 16 := by omega
  simp only [go_sem, n1, n2, List.length_map]
  refine loop_ind k_glass_Check_r21.eq_1 (fun s : Nat × Heap => s.1 ≤ zs.length) (fun s => zs.length - s.1)
    (fun s => (tsets 67 [(1, .ptr 0 0 0 1), (2, .int .i64 0), (20, .view (zs.map Zn.v)), (21, .int .i64 zs.length), (22, .int .i64 s.1)], some (.cells false 2 [.agg [.int .i64 brk, .view (zs.map Zn.v)]]) :: s.2)) (0, []) (Nat.zero_le _) (by simp [go_sem]) rfl ?_
  rintro ⟨i, X⟩ hi ih
  dsimp only at hi ih ⊢
  by_cases h1 : i < zs.length
  · have h2 : (i : Int) < zs.length := by omega
    have n0 : ¬ (i : Int) < 0 := by omega
    have h3 : IntKind.i64.wrap ((i : Int) + 1) = ((i + 1 : Nat) : Int) := by rw [w64 (by omega)]; rfl
    obtain ⟨z, hzi⟩ : ∃ z, zs[i]? = some z := ⟨_, List.getElem?_eq_getElem h1⟩
    have hzo := hz.all z (List.mem_of_getElem? hzi)
    have ihn := fun Y => ih (i + 1, Y) (by dsimp only; omega) h1
    clear ih
    have k1 := checkRange_yes (a := z.glo) (b := z.ghi) (m := 100000) hzo.g
    have k2 := checkRange_yes (a := z.rlo) (b := z.rhi) (m := 1000000) hzo.r
    simp only [r2] at k1 k2
    simp only [go_sem, h2, n0, hzi, Zn.v, Zn.cs]
    refine cP (isHeat_yes hzo.f) ?_
    by_cases h0 : i = 0
    · subst h0
      have hf0 : z.f = 0 := hz.zero z hzi
      have e0 : (((0 : Nat) : Int) == 0) = true := rfl
      have e1 : ¬ ((0 : Nat) : Int) > 0 := by omega
      have e2 : (z.f != 0) = false := by rw [hf0]; rfl
      have e3 : ¬ (0 : Int) < ((0 : Nat) : Int) := by omega
      simp only [go_sem, e0, e1, e2, e3, hf0]
      refine cP k1 ?_
      simp only [go_sem]
      refine cP k2 ?_
      simp only [go_sem, h3]
      exact ihn _ _ (by simp [go_sem]; rfl)
    · obtain ⟨j, rfl⟩ : ∃ j, i = j + 1 := ⟨i - 1, by omega⟩
      obtain ⟨y, hy⟩ : ∃ y, zs[j]? = some y := ⟨_, List.getElem?_eq_getElem (by omega)⟩
      have hyz := hz.asc j y z hy hzi
      have e0 : ¬ ((j + 1 : Nat) : Int) = 0 := by omega
      have e1 : (0 : Int) < ((j + 1 : Nat) : Int) := by omega
      have e2 : IntKind.i64.wrap (((j + 1 : Nat) : Int) - 1) = j := by rw [w64 (by omega)]; omega
      have e3 : ¬ z.f ≤ y.f := by omega
      have e4 : ¬ (j : Int) < 0 := by omega
      simp only [go_sem, e0, e1, e2, e3, e4, hy, Int.toNat_natCast, Zn.v, Zn.cs]
      refine cP k1 ?_
      simp only [go_sem]
      refine cP k2 ?_
      simp only [go_sem, h3]
      exact ihn _ _ (by simp [go_sem])
  · have h2 : ¬ (i : Int) < zs.length := by omega
    simp only [go_sem, h2]

structure StOK (brk : Int) (zs : List Zn) : Prop where
  brk : 1 ≤ brk ∧ brk ≤ 1000000000
  zs : ZsOK zs
theorem checkSeal_yes {b1 b2 : Int} {z1 z2 : List Zn} (h1 : StOK b1 z1) (h2 : StOK b2 z2) {set t : Int} (hs : 0 ≤ set ∧ set ≤ 2000) (ht : 0 ≤ t ∧ t ≤ 2000) : Ans Try.prog n_glass_checkSeal [stV b1 z1, stV b2 z2, .int .i64 set, .int .i64 t] [] (.int .i64 0) [] := by
  have k1 := Check_run h1.brk h1.zs
  have k2 := Check_run h2.brk h2.zs
  refine spec_run e_glass_checkSeal fun G => ?_
  simp only [stV] at k1 k2
  simp only [go_sem, stV]
  refine cP k1 ?_
  simp only [go_sem]
  refine cP k2 ?_
  simp only [go_sem]
  refine cP (isHeat_yes hs) ?_
  simp only [go_sem]
  refine cP (isHeat_yes ht) ?_
  simp only [go_sem]
end Go.Proofs

namespace Go.Proofs
open Go Go.Sx
attribute [local irreducible] Run

theorem zn_snoc5 (xs : List Zn) (f a b c d : Int) : xs.map Zn.v ++ [AVal.agg [.int .i64 f, .int .i64 a, .int .i64 b, .int .i64 c, .int .i64 d]] = (xs ++ [Zn.mk f a b c d]).map Zn.v := by
  rw [List.map_append]; rfl
theorem sel3i (i a b c : Int) (hi : 0 ≤ i ∧ i < 3) : ∃ v, (v = a ∨ v = b ∨ v = c) ∧ [AVal.int .i64 a, .int .i64 b, .int .i64 c][i.toNat]? = some (.int .i64 v) := by
  obtain rfl | rfl | rfl : i = 0 ∨ i = 1 ∨ i = 2 := by omega
  · exact ⟨a, .inl rfl, rfl⟩
  · exact ⟨b, .inr (.inl rfl), rfl⟩
  · exact ⟨c, .inr (.inr rfl), rfl⟩
theorem sel2i (i a b : Int) (hi : 0 ≤ i ∧ i < 2) : ∃ v, (v = a ∨ v = b) ∧ [AVal.int .i64 a, .int .i64 b][i.toNat]? = some (.int .i64 v) := by
  obtain rfl | rfl : i = 0 ∨ i = 1 := by omega
  · exact ⟨a, .inl rfl, rfl⟩
  · exact ⟨b, .inr rfl, rfl⟩
theorem mul_bd'' {a b A B : Int} (ha : 0 ≤ a ∧ a ≤ A) (hb : 0 ≤ b ∧ b ≤ B) : 0 ≤ a * b ∧ a * b ≤ A * B :=
  ⟨Int.mul_nonneg ha.1 hb.1, Int.le_trans (Int.mul_le_mul_of_nonneg_right ha.2 hb.1) (Int.mul_le_mul_of_nonneg_left hb.2 (by omega))⟩
structure ZsIn (zs : List Zn) (from_ : Int) : Prop where
  all : ∀ z ∈ zs, ZnOK z
  zero : ∀ z, zs[0]? = some z → z.f = 0
  asc : ∀ i (y z : Zn), zs[i]? = some y → zs[i + 1]? = some z → y.f < z.f
  lt : ∀ z ∈ zs, z.f < from_
  nil : zs = [] → from_ = 0
theorem ZsIn.snoc {zs : List Zn} {fr k : Int} (h : ZsIn zs fr) {y : Zn} (hy : ZnOK y) (hf : y.f = fr) (hk : 1 ≤ k) : ZsIn (zs ++ [y]) (fr + k) := by
  refine ⟨fun z hz => ?_, fun z hz => ?_, fun i a b ha hb => ?_, fun z hz => ?_, fun hn => by simp at hn⟩
  · rcases List.mem_append.1 hz with h1 | h1
    · exact h.all z h1
    · simp at h1; subst h1; exact hy
  · rcases zs with _ | ⟨x, r⟩
    · simp at hz; subst hz; rw [hf]; exact h.nil rfl
    · exact h.zero z (by simpa using hz)
  · by_cases h1 : i + 1 < zs.length
    · rw [List.getElem?_append_left (by omega)] at ha
      rw [List.getElem?_append_left h1] at hb
      exact h.asc i a b ha hb
    · have h2 : i + 1 = zs.length := by
        have := (List.getElem?_eq_some_iff.1 hb).1
        simp at this; omega
      rw [List.getElem?_append_right (by omega), h2, Nat.sub_self] at hb
      rw [List.getElem?_append_left (by omega)] at ha
      simp at hb; subst hb
      rw [hf]; exact h.lt a (List.mem_of_getElem? ha)
  · rcases List.mem_append.1 hz with h1 | h1
    · have := h.lt z h1; omega
    · simp at h1; subst h1; omega
theorem ZsIn.ok {zs : List Zn} {fr : Int} (h : ZsIn zs fr) (h1 : 1 ≤ zs.length ∧ zs.length ≤ 16) : ZsOK zs := ⟨h1, h.all, h.zero, h.asc⟩

set_option maxHeartbeats 4000000 in
set_option maxRecDepth 10000 in
theorem stuff_loop {G : Ctx} {brk : Int} {Y1 Y2 : Option Row} (hY : Y1 = some (.cells false 2 [.agg [.int .i64 0, .nilsl]])) {R : AVal → Heap → Prop}
    (hR : ∀ (zs : List Zn) (fr w' : Int) (q : Nat) (s1 s3 : Option Row) (X : Heap), ZsIn zs fr → 1 ≤ zs.length → zs.length ≤ 4 → X[q]? = some (some (.cells true 5 (zs.map Zn.v))) → R (.agg [.int .i64 brk, .sl (q + 4) 0 zs.length]) (some (Dr w') :: s1 :: Y2 :: s3 :: X))
    {zs : List Zn} {fr w i : Int} {q : Nat} {X : Heap} (hz : ZsIn zs fr) (hl : 1 ≤ zs.length ∧ (zs.length : Int) + i ≤ 4) (hfr : 0 ≤ fr ∧ fr ≤ 2900) (hi : 0 ≤ i) (hX : X[q]? = some (some (.cells true 5 (zs.map Zn.v)))) :
    Sx.Loop Try.prog G 1 none k_kit_StuffOf_r12 [.blk 0, .seq (.seq (.reg k_kit_StuffOf_r13 false) .ret)]
      ⟨tsets 64 [(0, .ptr 0 0 0 1), (2, .ptr 1 0 0 1), (3, .ptr 3 0 0 1), (4, .int .i64 fr), (5, .int .i64 i)], some (Dr w) :: Y1 :: Y2 :: some (.cells false 2 [.agg [.int .i64 brk, .sl (q + 4) 0 zs.length]]) :: X, []⟩ (RetPost [.cell 2 (some (some 2))] R) := by
  subst hY
  refine loop_ind k_kit_StuffOf_r12.eq_1 (fun a : List Zn × Int × Int × Int × Heap => ZsIn a.1 a.2.1 ∧ (1 ≤ a.1.length ∧ (a.1.length : Int) + a.2.2.2.1 ≤ 4) ∧ (0 ≤ a.2.1 ∧ a.2.1 ≤ 2900) ∧ 0 ≤ a.2.2.2.1 ∧ a.2.2.2.2[q]? = some (some (.cells true 5 (a.1.map Zn.v)))) (fun a => a.2.2.2.1.toNat)
    (fun a => (tsets 64 [(0, .ptr 0 0 0 1), (2, .ptr 1 0 0 1), (3, .ptr 3 0 0 1), (4, .int .i64 a.2.1), (5, .int .i64 a.2.2.2.1)], some (Dr a.2.2.1) :: some (.cells false 2 [.agg [.int .i64 0, .nilsl]]) :: Y2 :: some (.cells false 2 [.agg [.int .i64 brk, .sl (q + 4) 0 a.1.length]]) :: a.2.2.2.2))
    (zs, fr, w, i, X) ⟨hz, hl, hfr, hi, hX⟩ (by simp [go_sem]) rfl ?_
  clear hz hl hfr hi hX
  clear zs fr w i X
  rintro ⟨zs, fr, w, i, X⟩ ⟨hz, hl, hfr, hi, hX⟩ ih
  dsimp only at hz hl hfr hi hX ih ⊢
  by_cases c1 : 0 < i
  · by_cases c2 : fr ≤ 2000
    · have u1 := upto_in (w := w) (n := 20000) (by decide)
      have hlt : q < X.length := (List.getElem?_eq_some_iff.1 hX).1
      have cX := fun Y => cells_more (cells_at hX) Y
      have pX := fun Y x => put_more (H := X) hlt Y x
      have hq : (zs.length + 1) * 40 ≤ 2 ^ 44 := by omega
      have u2 := upto_in (w := dstep w) (n := 2000) (by decide)
      have u3 := upto_in (w := dstep (dstep w)) (n := 2) (by decide)
      simp only [go_sem, c1, c2]
      refine cD (upto_ok _ 20000 (by decide)) ?_
      simp only [go_sem]
      refine cD (upto_ok _ 2000 (by decide)) ?_
      simp only [go_sem]
      refine cD (upto_ok _ 2 (by decide)) ?_
      obtain ⟨n, hn⟩ : ∃ n, upto w 20000 = n := ⟨_, rfl⟩
      rw [hn] at u1 ⊢
      have m1 := mul_bd'' (a := upto (dstep w) 2000) (A := 2000) (b := upto (dstep (dstep w)) 2) (B := 1) (by omega) (by omega)
      obtain ⟨mu, hmu⟩ : ∃ mu, upto (dstep w) 2000 * upto (dstep (dstep w)) 2 = mu := ⟨_, rfl⟩
      rw [hmu] at m1
      have w1 : IntKind.i64.wrap mu = mu := w64 (by omega)
      have w2 : IntKind.i64.wrap (n + mu) = n + mu := w64 (by omega)
      simp only [go_sem, hmu, w1, w2]
      refine cD (one_ok _ 2 (by decide)) ?_
      by_cases c3 : upto (dstep (dstep (dstep w))) 2 = 0
      · have e3 : (upto (dstep (dstep (dstep w))) 2 == 0) = true := by rw [c3]; rfl
        have q1 := upto_in (w := dstep (dstep (dstep (dstep w)))) (n := 2) (by decide)
        have q0 : ¬ upto (dstep (dstep (dstep (dstep w)))) 2 < 0 := by omega
        obtain ⟨m, hm, sm⟩ := sel2i _ 1000 1000000 q1
        have hm' : 0 ≤ m ∧ m ≤ 1000000 := by omega
        simp only [go_sem, e3]
        refine cD (upto_ok _ 2 (by decide)) ?_
        simp only [go_sem, q0, sm]
        refine ⟨q1.2, ?_⟩
        have rr := rate_run (dstep (dstep (dstep (dstep (dstep w))))) m (by omega)
        have ri := rateV_in (dstep (dstep (dstep (dstep (dstep w))))) (n := m) (by omega)
        obtain ⟨p, hp⟩ : ∃ p, rateV (dstep (dstep (dstep (dstep (dstep w))))) m = p := ⟨_, rfl⟩
        obtain ⟨w5, hw5⟩ : ∃ w5, rateW (dstep (dstep (dstep (dstep (dstep w))))) = w5 := ⟨_, rfl⟩
        rw [hp] at ri
        rw [hp, hw5] at rr
        simp only [r2] at rr
        refine cD rr ?_
        simp only [go_sem, cX, pX, List.length_map, hq]
        refine cD (between_ok _ 1 900 (by decide) (by decide) (by decide)) ?_
        have b9 := btw_in (w := w5) (lo := 1) (hi := 900) (by decide)
        obtain ⟨k, hk⟩ : ∃ k, btw w5 1 900 = k := ⟨_, rfl⟩
        rw [hk] at b9 ⊢
        have w8 : IntKind.i64.wrap (fr + k) = fr + k := w64 (by omega)
        have w9 : IntKind.i64.wrap (i - 1) = i - 1 := w64 (by omega)
        simp only [go_sem, w8, w9]
        have ez : zs.map Zn.v ++ [AVal.agg [AVal.int IntKind.i64 fr, AVal.int IntKind.i64 n, AVal.int IntKind.i64 (n + mu), AVal.int IntKind.i64 p.1, AVal.int IntKind.i64 p.2]] = (zs ++ [Zn.mk fr n (n + mu) p.1 p.2]).map Zn.v := zn_snoc5 zs fr n (n + mu) p.1 p.2
        have el : zs.length + 1 = (zs ++ [Zn.mk fr n (n + mu) p.1 p.2]).length := by simp
        rw [ez, el]
        refine ih (zs ++ [Zn.mk fr n (n + mu) p.1 p.2], fr + k, _, i - 1, _) (by dsimp only; omega) ⟨hz.snoc ⟨by dsimp only; omega, by dsimp only; omega, by dsimp only; omega⟩ rfl b9.1, by dsimp only; rw [← el]; omega, by dsimp only; omega, by dsimp only; omega, ?_⟩ _ (by simp [go_sem])
        dsimp only
        rw [List.getElem?_append_left (by rw [List.length_set]; exact hlt)]
        exact List.getElem?_set_self hlt
      · have e3 : (upto (dstep (dstep (dstep w))) 2 == 0) = false := beq_eq_false_iff_ne.2 c3
        simp only [go_sem, e3, cX, pX, List.length_map, hq]
        refine cD (between_ok _ 1 900 (by decide) (by decide) (by decide)) ?_
        have b9 := btw_in (w := (dstep (dstep (dstep (dstep w))))) (lo := 1) (hi := 900) (by decide)
        obtain ⟨k, hk⟩ : ∃ k, btw (dstep (dstep (dstep (dstep w)))) 1 900 = k := ⟨_, rfl⟩
        rw [hk] at b9 ⊢
        have w8 : IntKind.i64.wrap (fr + k) = fr + k := w64 (by omega)
        have w9 : IntKind.i64.wrap (i - 1) = i - 1 := w64 (by omega)
        simp only [go_sem, w8, w9]
        have ez : zs.map Zn.v ++ [AVal.agg [AVal.int IntKind.i64 fr, AVal.int IntKind.i64 n, AVal.int IntKind.i64 (n + mu), AVal.int IntKind.i64 0, AVal.int IntKind.i64 0]] = (zs ++ [Zn.mk fr n (n + mu) 0 0]).map Zn.v := zn_snoc5 zs fr n (n + mu) 0 0
        have el : zs.length + 1 = (zs ++ [Zn.mk fr n (n + mu) 0 0]).length := by simp
        rw [ez, el]
        refine ih (zs ++ [Zn.mk fr n (n + mu) 0 0], fr + k, _, i - 1, _) (by dsimp only; omega) ⟨hz.snoc ⟨by dsimp only; omega, by dsimp only; omega, by dsimp only; omega⟩ rfl b9.1, by dsimp only; rw [← el]; omega, by dsimp only; omega, by dsimp only; omega, ?_⟩ _ (by simp [go_sem])
        dsimp only
        rw [List.getElem?_append_left (by rw [List.length_set]; exact hlt)]
        exact List.getElem?_set_self hlt
    · simp only [go_sem, c1, c2]
      exact hR zs fr w q _ _ X hz hl.1 (by omega) hX
  · simp only [go_sem, c1]
    exact hR zs fr w q _ _ X hz hl.1 (by omega) hX
end Go.Proofs

namespace Go.Proofs
open Go Go.Sx
attribute [local irreducible] Run

set_option maxHeartbeats 4000000 in
set_option maxRecDepth 10000 in
theorem stuffOf_run (w : Int) : AnsE Try.prog n_kit_StuffOf [.ptr 0 0 0 1] [some (Dr w)] (fun a : Int × List Zn × Int => StOK a.1 a.2.1) (fun a => .agg [.int .i64 a.1, .sl 1 0 a.2.1.length]) (fun a => [some (Dr a.2.2), some (.cells true 5 (a.2.1.map Zn.v))]) := by
  refine AnsE.keep (run_fn e_kit_StuffOf fun G => ?_) (fun a ha => ⟨by simp, by simp [go_sem], by simp only [go_sem], by rw [row_bel_cells]; simp only [go_sem], trivial⟩)
  have b1 := btw_in (w := w) (lo := 1) (hi := 1000) (by decide)
  have b2 := btw_in (w := dstep w) (lo := 1) (hi := 1000000) (by decide)
  have b3 := btw_in (w := dstep (dstep w)) (lo := 1) (hi := 1000000000) (by decide)
  have q1 := upto_in (w := dstep (dstep (dstep w))) (n := 3) (by decide)
  have n1 : ¬ upto (dstep (dstep (dstep w))) 3 < 0 := by omega
  obtain ⟨brk, hbr, sb⟩ := sel3i _ (btw w 1 1000) (btw (dstep w) 1 1000000) (btw (dstep (dstep w)) 1 1000000000) q1
  have hbrk : 1 ≤ brk ∧ brk ≤ 1000000000 := by rcases hbr with rfl | rfl | rfl <;> omega
  have b4 := btw_in (w := dstep (dstep (dstep (dstep w)))) (lo := 1) (hi := 4) (by decide)
  simp only [go_sem]
  refine cD (between_ok _ 1 1000 (by decide) (by decide) (by decide)) ?_
  simp only [go_sem]
  refine cD (between_ok _ 1 1000000 (by decide) (by decide) (by decide)) ?_
  simp only [go_sem]
  refine cD (between_ok _ 1 1000000000 (by decide) (by decide) (by decide)) ?_
  simp only [go_sem]
  refine cD (upto_ok _ 3 (by decide)) ?_
  simp only [go_sem, n1, sb]
  refine ⟨q1.2, ?_⟩
  refine cD (between_ok _ 1 4 (by decide) (by decide) (by decide)) ?_
  simp only [go_sem]
  obtain ⟨i0, hi0⟩ : ∃ i0, btw (dstep (dstep (dstep (dstep w)))) 1 4 = i0 := ⟨_, rfl⟩
  rw [hi0] at b4 ⊢
  obtain ⟨w0, hw0⟩ : ∃ w0, dstep (dstep (dstep (dstep (dstep w)))) = w0 := ⟨_, rfl⟩
  rw [hw0]
  have c1 : 0 < i0 := by omega
  have c2 : (0 : Int) ≤ 2000 := by decide
  have u1 := upto_in (w := w0) (n := 20000) (by decide)
  have u2 := upto_in (w := dstep w0) (n := 2000) (by decide)
  have u3 := upto_in (w := dstep (dstep w0)) (n := 2) (by decide)
  obtain ⟨Y2, hY2⟩ : ∃ Y2, some (Row.cells false 1 [AVal.int IntKind.i64 (btw w 1 1000), AVal.int IntKind.i64 (btw (dstep w) 1 1000000), AVal.int IntKind.i64 (btw (dstep (dstep w)) 1 1000000000)]) = Y2 := ⟨_, rfl⟩
  rw [hY2]
  have hz0 : ZsIn [] 0 := ⟨fun z hz => by simp at hz, fun z hz => by simp at hz, fun i y z hz => by simp at hz, fun z hz => by simp at hz, fun _ => rfl⟩
  have hR : ∀ (zs : List Zn) (fr w' : Int) (q : Nat) (s1 s3 : Option Row) (X : Heap), ZsIn zs fr → 1 ≤ zs.length → zs.length ≤ 4 → X[q]? = some (some (.cells true 5 (zs.map Zn.v))) →
      ∃ a : Int × List Zn × Int, StOK a.1 a.2.1 ∧ ∃ σ, Kept [some (Dr w)] [some (Dr a.2.2), some (Row.cells true 5 (List.map Zn.v a.2.1))] (AVal.agg [AVal.int IntKind.i64 a.1, AVal.sl 1 0 a.2.1.length]) (.agg [.int .i64 brk, .sl (q + 4) 0 zs.length]) (some (Dr w') :: s1 :: Y2 :: s3 :: X) σ := by
    intro zs fr w' q s1 s3 X hz h1 h2 hX
    refine ⟨(brk, zs, w'), ⟨hbrk, hz.ok (by omega)⟩, kept_two (q + 4) (by omega) (by simp [ren, rens]) (by simp only [go_sem]) (by rw [row_bel_cells]; simp only [go_sem]) rfl ?_⟩
    simpa using hX
  refine loop_body 400 k_kit_StuffOf_r12.eq_1 ?_
  simp only [go_sem, c1, c2]
  refine cD (upto_ok _ 20000 (by decide)) ?_
  simp only [go_sem]
  refine cD (upto_ok _ 2000 (by decide)) ?_
  simp only [go_sem]
  refine cD (upto_ok _ 2 (by decide)) ?_
  obtain ⟨n, hn⟩ : ∃ n, upto w0 20000 = n := ⟨_, rfl⟩
  rw [hn] at u1 ⊢
  have m1 := mul_bd'' (a := upto (dstep w0) 2000) (A := 2000) (b := upto (dstep (dstep w0)) 2) (B := 1) (by omega) (by omega)
  obtain ⟨mu, hmu⟩ : ∃ mu, upto (dstep w0) 2000 * upto (dstep (dstep w0)) 2 = mu := ⟨_, rfl⟩
  rw [hmu] at m1
  have w1 : IntKind.i64.wrap mu = mu := w64 (by omega)
  have w2 : IntKind.i64.wrap (n + mu) = n + mu := w64 (by omega)
  have h40 : 40 ≤ 2 ^ 44 := by decide
  simp only [go_sem, hmu, w1, w2]
  refine cD (one_ok _ 2 (by decide)) ?_
  by_cases c3 : upto (dstep (dstep (dstep w0))) 2 = 0
  · have e3 : (upto (dstep (dstep (dstep w0))) 2 == 0) = true := by rw [c3]; rfl
    have q1 := upto_in (w := dstep (dstep (dstep (dstep w0)))) (n := 2) (by decide)
    have q0 : ¬ upto (dstep (dstep (dstep (dstep w0)))) 2 < 0 := by omega
    obtain ⟨m, hm, sm⟩ := sel2i _ 1000 1000000 q1
    have hm' : 0 ≤ m ∧ m ≤ 1000000 := by omega
    simp only [go_sem, e3]
    refine cD (upto_ok _ 2 (by decide)) ?_
    simp only [go_sem, q0, sm]
    refine ⟨q1.2, ?_⟩
    have rr := rate_run (dstep (dstep (dstep (dstep (dstep w0))))) m (by omega)
    have ri := rateV_in (dstep (dstep (dstep (dstep (dstep w0))))) (n := m) (by omega)
    obtain ⟨p, hp⟩ : ∃ p, rateV (dstep (dstep (dstep (dstep (dstep w0))))) m = p := ⟨_, rfl⟩
    obtain ⟨w5, hw5⟩ : ∃ w5, rateW (dstep (dstep (dstep (dstep (dstep w0))))) = w5 := ⟨_, rfl⟩
    rw [hp] at ri
    rw [hp, hw5] at rr
    simp only [r2] at rr
    refine cD rr ?_
    simp only [go_sem, h40]
    refine cD (between_ok _ 1 900 (by decide) (by decide) (by decide)) ?_
    have b9 := btw_in (w := w5) (lo := 1) (hi := 900) (by decide)
    obtain ⟨k, hk⟩ : ∃ k, btw w5 1 900 = k := ⟨_, rfl⟩
    rw [hk] at b9 ⊢
    have w8 : IntKind.i64.wrap (0 + k) = k := by rw [Int.zero_add]; exact w64 (by omega)
    have w8' : IntKind.i64.wrap k = k := w64 (by omega)
    have w9 : IntKind.i64.wrap (i0 - 1) = i0 - 1 := w64 (by omega)
    simp only [go_sem, w8, w8', w9]
    have hz1 : ZsIn [Zn.mk 0 n (n + mu) p.1 p.2] k := by
      have := hz0.snoc (y := Zn.mk 0 n (n + mu) p.1 p.2) ⟨by dsimp only; omega, by dsimp only; omega, by dsimp only; omega⟩ rfl b9.1
      rw [Int.zero_add] at this
      exact this
    refine loop_wk ?_ (stuff_loop (brk := brk) (q := 3) (zs := [Zn.mk 0 n (n + mu) p.1 p.2]) (fr := k) (i := i0 - 1) rfl hR hz1 ⟨by simp, by simp; omega⟩ (by omega) (by omega) rfl)
    simp [go_sem]
  · have e3 : (upto (dstep (dstep (dstep w0))) 2 == 0) = false := beq_eq_false_iff_ne.2 c3
    simp only [go_sem, e3, h40]
    refine cD (between_ok _ 1 900 (by decide) (by decide) (by decide)) ?_
    have b9 := btw_in (w := (dstep (dstep (dstep (dstep w0))))) (lo := 1) (hi := 900) (by decide)
    obtain ⟨k, hk⟩ : ∃ k, btw (dstep (dstep (dstep (dstep w0)))) 1 900 = k := ⟨_, rfl⟩
    rw [hk] at b9 ⊢
    have w8 : IntKind.i64.wrap (0 + k) = k := by rw [Int.zero_add]; exact w64 (by omega)
    have w8' : IntKind.i64.wrap k = k := w64 (by omega)
    have w9 : IntKind.i64.wrap (i0 - 1) = i0 - 1 := w64 (by omega)
    simp only [go_sem, w8, w8', w9]
    have hz1 : ZsIn [Zn.mk 0 n (n + mu) 0 0] k := by
      have := hz0.snoc (y := Zn.mk 0 n (n + mu) 0 0) ⟨by dsimp only; omega, by dsimp only; omega, by dsimp only; omega⟩ rfl b9.1
      rw [Int.zero_add] at this
      exact this
    refine loop_wk ?_ (stuff_loop (brk := brk) (q := 2) (zs := [Zn.mk 0 n (n + mu) 0 0]) (fr := k) (i := i0 - 1) rfl hR hz1 ⟨by simp, by simp; omega⟩ (by omega) (by omega) rfl)
    simp [go_sem]
end Go.Proofs

