/- A part of the proof. -/
import Derived.Test.YtenbikniminggaaDoorSxJ
import Derived.Test.YtenbikniminggaaDoorProg
import Derived.KernelRfl
set_option linter.unusedSimpArgs false
set_option linter.unusedVariables false
namespace Go.Proofs
open Go Go.Sx

def k_law02_awake_r0 : List AOper := [
  ⟨some 0, .move (.const (.bool false)), none, []⟩]
def k_law02_awake_r1 : List AOper := [
  ⟨some 6, .call (.const (.fn (.func 15) [] [])) [], none, []⟩,
 ⟨some 7, .call (.const (.fn (.func 13) [] [])) [.tmp 6, .const (.int .i64 4000), .const (.int .i64 0)], none, []⟩,
 ⟨some 5, .move (.tmp 7), none, []⟩,
 ⟨some 8, .extract (.tmp 5) 0, none, []⟩,
 ⟨some 9, .extract (.tmp 5) 1, none, []⟩,
 ⟨some 1, .box (.const (.agg [.int .i64 0, .int .i64 0])), none, []⟩,
 ⟨none, .store 2 (.tmp 1) (.tmp 8), none, []⟩,
 ⟨some 2, .move (.tmp 9), none, []⟩]
def k_law02_awake_r2 : List AOper := [
  ⟨some 11, .call (.const (.fn (.func 17) [] [])) [], none, []⟩,
 ⟨some 12, .call (.const (.fn (.func 16) [] [])) [.tmp 11, .const (.int .i64 (-1000)), .const (.int .i64 50000)], none, []⟩,
 ⟨some 10, .move (.tmp 12), none, []⟩,
 ⟨some 13, .extract (.tmp 10) 0, none, []⟩,
 ⟨some 14, .extract (.tmp 10) 1, none, []⟩,
 ⟨some 3, .box (.const (.agg [.int .i64 0, .int .i64 0])), none, []⟩,
 ⟨none, .store 2 (.tmp 3) (.tmp 13), none, []⟩,
 ⟨some 4, .move (.tmp 14), none, []⟩]
def k_law02_awake_r3 : List AOper := [
  ⟨some 15, .move (.tmp 2), none, []⟩,
 ⟨some 16, .bin .plain .eql (.tmp 15) (.const (.int .i64 0)), none, []⟩,
 ⟨some 17, .move (.tmp 16), none, []⟩,
 ⟨some 18, .move (.tmp 4), (some (17, true)), []⟩,
 ⟨some 19, .bin .plain .eql (.tmp 18) (.const (.int .i64 0)), (some (17, true)), []⟩,
 ⟨some 20, .pick (.tmp 17) (.tmp 19) (.const (.bool false)), none, []⟩,
 ⟨some 21, .move (.tmp 20), none, []⟩,
 ⟨some 22, .load (some (2)) (.tmp 1), (some (21, true)), []⟩,
 ⟨some 23, .build [.int .i64 0, .int .i64 0] [(0, 1, .const (.int .i64 15178)), (1, 1, .const (.int .i64 15179))], (some (21, true)), []⟩,
 ⟨some 24, .eqAgg false [.int, .int] (.tmp 22) (.tmp 23), (some (21, true)), []⟩,
 ⟨some 25, .pick (.tmp 21) (.tmp 24) (.const (.bool false)), none, []⟩,
 ⟨some 26, .move (.tmp 25), none, []⟩,
 ⟨some 27, .load (some (2)) (.tmp 3), (some (26, true)), []⟩,
 ⟨some 28, .build [.int .i64 0, .int .i64 0] [(0, 1, .const (.int .i64 22)), (1, 1, .const (.int .i64 29))], (some (26, true)), []⟩,
 ⟨some 29, .eqAgg false [.int, .int] (.tmp 27) (.tmp 28), (some (26, true)), []⟩,
 ⟨some 30, .pick (.tmp 26) (.tmp 29) (.const (.bool false)), none, []⟩,
 ⟨some 31, .move (.tmp 30), none, []⟩,
 ⟨some 32, .call (.const (.fn (.func 17) [] [])) [], (some (31, true)), []⟩,
 ⟨some 33, .call (.const (.fn (.func 18) [] [])) [.tmp 32], (some (31, true)), []⟩,
 ⟨some 34, .bin .plain .eql (.tmp 33) (.const (.int .i64 0)), (some (31, true)), []⟩,
 ⟨some 35, .pick (.tmp 31) (.tmp 34) (.const (.bool false)), none, []⟩,
 ⟨some 0, .move (.tmp 35), none, []⟩]
def k_law02_awake : AFun := { params := 0, ntmps := 36, body := (.seq (.reg k_law02_awake_r0 false) (.seq (.reg k_law02_awake_r1 false) (.seq (.reg k_law02_awake_r2 false) (.seq (.reg k_law02_awake_r3 false) .ret)))), res := [.tmp 0] }
theorem k_law02_awake_ok : cfun Tryd.prog Tryd.f5 = k_law02_awake := by kernel_rfl

def k_kit_NewDice_r0 : List AOper := [
  ⟨some 2, .move (.const (.nilptr)), none, []⟩]
def k_kit_NewDice_r1 : List AOper := [
  ⟨some 5, .move (.tmp 0), none, []⟩,
 ⟨some 6, .len false (.tmp 5), none, []⟩,
 ⟨some 7, .toInt .u64 (.tmp 6), none, []⟩,
 ⟨some 8, .bin .plain .add (.tmp 7) (.const (.int .u64 1374496523)), none, []⟩,
 ⟨some 9, .build [.int .u64 0] [(0, 1, .tmp 8)], none, []⟩,
 ⟨some 10, .box (.tmp 9), none, []⟩,
 ⟨some 3, .move (.tmp 10), none, []⟩]
def k_kit_NewDice_r2 : List AOper := [
  ⟨some 4, .move (.const (.int .i64 0)), none, []⟩]
def k_kit_NewDice_r3 : List AOper := [
  ⟨some 11, .move (.tmp 4), none, []⟩,
 ⟨some 12, .move (.tmp 0), none, []⟩,
 ⟨some 13, .len false (.tmp 12), none, []⟩,
 ⟨some 14, .bin .plain .lss (.tmp 11) (.tmp 13), none, []⟩]
def k_kit_NewDice_r4 : List AOper := [
  ⟨some 17, .move (.tmp 3), none, []⟩,
 ⟨some 18, .move (.tmp 3), none, [0]⟩,
 ⟨some 19, .nilCheck (.tmp 18), none, [0]⟩,
 ⟨some 20, .fieldAddr 0 (.tmp 19), none, [0]⟩,
 ⟨some 21, .load none (.tmp 20), none, [0]⟩,
 ⟨some 22, .move (.tmp 0), none, [0, 1, 2, 3, 4]⟩,
 ⟨some 23, .move (.tmp 4), none, [0, 1, 2, 3, 4, 5]⟩,
 ⟨some 24, .indexAddr 1 (.tmp 22) (.tmp 23), none, [0, 1, 2, 3, 4]⟩,
 ⟨some 25, .load none (.tmp 24), none, [0, 1, 2, 3, 4]⟩,
 ⟨some 26, .toInt .u64 (.tmp 25), none, [0, 1, 2, 3, 4]⟩,
 ⟨some 27, .bin .plain .xor (.tmp 21) (.tmp 26), none, [0]⟩,
 ⟨some 28, .nilCheck (.tmp 17), none, []⟩,
 ⟨some 29, .fieldAddr 0 (.tmp 28), none, []⟩,
 ⟨none, .store 1 (.tmp 29) (.tmp 27), none, []⟩]
def k_kit_NewDice_r4s : List (List AOper) := [
  [
  ⟨some 17, .move (.tmp 3), none, []⟩,
 ⟨some 18, .move (.tmp 3), none, [0]⟩,
 ⟨some 19, .nilCheck (.tmp 18), none, [0]⟩,
 ⟨some 20, .fieldAddr 0 (.tmp 19), none, [0]⟩,
 ⟨some 21, .load none (.tmp 20), none, [0]⟩,
 ⟨some 22, .move (.tmp 0), none, [0, 1, 2, 3, 4]⟩,
 ⟨some 23, .move (.tmp 4), none, [0, 1, 2, 3, 4, 5]⟩,
 ⟨some 24, .indexAddr 1 (.tmp 22) (.tmp 23), none, [0, 1, 2, 3, 4]⟩,
 ⟨some 25, .load none (.tmp 24), none, [0, 1, 2, 3, 4]⟩,
 ⟨some 26, .toInt .u64 (.tmp 25), none, [0, 1, 2, 3, 4]⟩,
 ⟨some 27, .bin .plain .xor (.tmp 21) (.tmp 26), none, [0]⟩], 
  [
  ⟨some 28, .nilCheck (.tmp 17), none, []⟩], 
  [
  ⟨some 29, .fieldAddr 0 (.tmp 28), none, []⟩], 
  [
  ⟨none, .store 1 (.tmp 29) (.tmp 27), none, []⟩]]
theorem k_kit_NewDice_r4_sg : segs k_kit_NewDice_r4 = k_kit_NewDice_r4s := by kernel_rfl
theorem k_kit_NewDice_r4_st : statOK k_kit_NewDice_r4 = true := by kernel_rfl
def k_kit_NewDice_r5 : List AOper := [
  ⟨some 30, .move (.tmp 3), none, []⟩,
 ⟨some 31, .call (.const (.fn (.func 19) [] [])) [.tmp 30], none, []⟩]
def k_kit_NewDice_r6 : List AOper := [
  ⟨some 15, .move (.tmp 4), none, []⟩,
 ⟨some 16, .bin .plain .add (.tmp 15) (.const (.int .i64 1)), none, []⟩,
 ⟨some 4, .move (.tmp 16), none, []⟩]
def k_kit_NewDice_r7 : ACode := (.seq (.seq (.reg k_kit_NewDice_r3 false) (.cond (.tmp 14) .skip (.exit 0))) (.seq (.block 1 (.seq (.reg k_kit_NewDice_r4 true) (.reg k_kit_NewDice_r5 false))) (.reg k_kit_NewDice_r6 false)))
def k_kit_NewDice_r8 : List AOper := [
  ⟨some 32, .move (.tmp 3), none, []⟩,
 ⟨some 2, .move (.tmp 32), none, []⟩]
def k_kit_NewDice : AFun := { params := 1, ntmps := 33, body := (.seq (.reg k_kit_NewDice_r0 false) (.seq (.reg k_kit_NewDice_r1 false) (.seq (.seq (.reg k_kit_NewDice_r2 false) (.block 0 (.loop k_kit_NewDice_r7))) (.seq (.reg k_kit_NewDice_r8 false) .ret)))), res := [.tmp 2] }
theorem k_kit_NewDice_ok : cfun Tryd.prog Tryd.f6 = k_kit_NewDice := by kernel_rfl

def k_kit_LawOf_r0 : List AOper := [
  ⟨some 2, .box (.const (.agg [.int .i64 0, .int .i64 0, .int .i64 0, .int .i64 0, .int .i64 0, .int .i64 0, .int .i64 0, .int .i64 0, .int .i64 0, .int .i64 0])), none, []⟩]
def k_kit_LawOf_r1 : List AOper := [
  ⟨some 4, .move (.tmp 0), none, []⟩,
 ⟨some 5, .call (.const (.fn (.func 20) [] [])) [.tmp 4, .const (.int .i64 1000), .const (.int .i64 90000)], none, []⟩,
 ⟨some 6, .move (.tmp 0), none, []⟩,
 ⟨some 7, .call (.const (.fn (.func 20) [] [])) [.tmp 6, .const (.int .i64 5000), .const (.int .i64 60000)], none, []⟩,
 ⟨some 8, .move (.tmp 0), none, []⟩,
 ⟨some 9, .call (.const (.fn (.func 20) [] [])) [.tmp 8, .const (.int .i64 (-800)), .const (.int .i64 800)], none, []⟩,
 ⟨some 10, .move (.tmp 0), none, []⟩,
 ⟨some 11, .call (.const (.fn (.func 20) [] [])) [.tmp 10, .const (.int .i64 2000), .const (.int .i64 60000)], none, []⟩,
 ⟨some 12, .move (.tmp 0), none, []⟩,
 ⟨some 13, .call (.const (.fn (.func 20) [] [])) [.tmp 12, .const (.int .i64 500000), .const (.int .i64 1000000)], none, []⟩,
 ⟨some 14, .build [.int .i64 0, .int .i64 0, .int .i64 0, .int .i64 0, .int .i64 0, .int .i64 0, .int .i64 0, .int .i64 0, .int .i64 0, .int .i64 0] [(0, 2, .tmp 5), (2, 2, .tmp 7), (4, 2, .tmp 9), (6, 2, .tmp 11), (8, 2, .tmp 13)], none, []⟩,
 ⟨some 3, .box (.const (.agg [.int .i64 0, .int .i64 0, .int .i64 0, .int .i64 0, .int .i64 0, .int .i64 0, .int .i64 0, .int .i64 0, .int .i64 0, .int .i64 0])), none, []⟩,
 ⟨none, .store 10 (.tmp 3) (.tmp 14), none, []⟩]
def k_kit_LawOf_r2 : List AOper := [
  ⟨some 15, .move (.tmp 0), none, []⟩,
 ⟨some 16, .call (.const (.fn (.func 21) [] [])) [.tmp 15, .const (.int .i64 3)], none, []⟩]
def k_kit_LawOf_r3 : List AOper := [
  ⟨some 17, .build [.int .i64 0, .int .i64 0] [(0, 1, .const (.int .i64 1000000)), (1, 1, .const (.int .i64 1000000))], none, []⟩,
 ⟨some 18, .fieldAddr 6 (.tmp 3), none, []⟩,
 ⟨none, .store 2 (.tmp 18) (.tmp 17), none, []⟩]
def k_kit_LawOf_r4 : List AOper := [
  ⟨some 19, .move (.tmp 0), none, []⟩,
 ⟨some 20, .call (.const (.fn (.func 21) [] [])) [.tmp 19, .const (.int .i64 2)], none, []⟩]
def k_kit_LawOf_r5 : List AOper := [
  ⟨some 21, .build [.int .i64 0, .int .i64 0] [(0, 1, .const (.int .i64 1000000)), (1, 1, .const (.int .i64 1000000))], none, []⟩,
 ⟨some 22, .fieldAddr 8 (.tmp 3), none, []⟩,
 ⟨none, .store 2 (.tmp 22) (.tmp 21), none, []⟩]
def k_kit_LawOf_r6 : List AOper := [
  ⟨some 23, .move (.tmp 0), none, []⟩,
 ⟨some 24, .call (.const (.fn (.func 21) [] [])) [.tmp 23, .const (.int .i64 8)], none, []⟩]
def k_kit_LawOf_r7 : List AOper := [
  ⟨some 25, .move (.tmp 0), none, []⟩,
 ⟨some 26, .call (.const (.fn (.func 22) [] [])) [.tmp 25, .const (.int .i64 1), .const (.int .i64 400)], none, []⟩,
 ⟨some 27, .build [.int .i64 0, .int .i64 0] [(0, 1, .const (.int .i64 1)), (1, 1, .tmp 26)], none, []⟩,
 ⟨some 28, .fieldAddr 2 (.tmp 3), none, []⟩,
 ⟨none, .store 2 (.tmp 28) (.tmp 27), none, []⟩]
def k_kit_LawOf_r8 : List AOper := [
  ⟨some 29, .load (some (10)) (.tmp 3), none, []⟩,
 ⟨none, .store 10 (.tmp 2) (.tmp 29), none, []⟩]
def k_kit_LawOf : AFun := { params := 1, ntmps := 30, body := (.seq (.reg k_kit_LawOf_r0 false) (.seq (.reg k_kit_LawOf_r1 false) (.seq (.seq (.reg k_kit_LawOf_r2 false) (.cond (.tmp 16) (.reg k_kit_LawOf_r3 false) .skip)) (.seq (.seq (.reg k_kit_LawOf_r4 false) (.cond (.tmp 20) (.reg k_kit_LawOf_r5 false) .skip)) (.seq (.seq (.reg k_kit_LawOf_r6 false) (.cond (.tmp 24) (.reg k_kit_LawOf_r7 false) .skip)) (.seq (.reg k_kit_LawOf_r8 false) .ret)))))), res := [.cell 2 (some ((some (10))))] }
theorem k_kit_LawOf_ok : cfun Tryd.prog Tryd.f7 = k_kit_LawOf := by kernel_rfl

def k_kit_WithinLaw_r0 : List AOper := [
  ⟨some 3, .box (.tmp 0), none, []⟩,
 ⟨some 4, .box (.tmp 1), none, []⟩,
 ⟨some 5, .box (.tmp 2), none, []⟩,
 ⟨some 6, .box (.const (.agg [.int .i64 0, .int .i64 0, .int .i64 0, .int .i64 0, .int .i64 0, .int .i64 0, .int .i64 0, .int .i64 0, .int .i64 0, .int .i64 0])), none, []⟩]
def k_kit_WithinLaw_r1 : List AOper := [
  ⟨some 8, .makeFunc (.func 25) [] [.tmp 3, .tmp 5], none, []⟩,
 ⟨some 7, .move (.tmp 8), none, []⟩]
def k_kit_WithinLaw_r2 : List AOper := [
  ⟨some 9, .move (.tmp 7), none, []⟩,
 ⟨some 10, .fieldAddr 0 (.tmp 4), none, [0]⟩,
 ⟨some 11, .load (some (2)) (.tmp 10), none, [0]⟩,
 ⟨some 12, .call (.tmp 9) [.tmp 11], none, []⟩,
 ⟨some 13, .move (.tmp 7), none, [0, 1, 2, 3]⟩,
 ⟨some 14, .fieldAddr 2 (.tmp 4), none, [0, 1, 2, 3, 4]⟩,
 ⟨some 15, .load (some (2)) (.tmp 14), none, [0, 1, 2, 3, 4]⟩,
 ⟨some 16, .call (.tmp 13) [.tmp 15], none, []⟩,
 ⟨some 17, .move (.tmp 7), none, [0, 1, 2, 3, 4, 5, 6, 7]⟩,
 ⟨some 18, .fieldAddr 4 (.tmp 4), none, [0, 1, 2, 3, 4, 5, 6, 7, 8]⟩,
 ⟨some 19, .load (some (2)) (.tmp 18), none, [0, 1, 2, 3, 4, 5, 6, 7, 8]⟩,
 ⟨some 20, .call (.tmp 17) [.tmp 19], none, []⟩,
 ⟨some 21, .move (.tmp 7), none, [0, 1, 2, 3, 4, 5, 6, 7, 8, 9, 10, 11]⟩,
 ⟨some 22, .fieldAddr 6 (.tmp 4), none, [0, 1, 2, 3, 4, 5, 6, 7, 8, 9, 10, 11, 12]⟩,
 ⟨some 23, .load (some (2)) (.tmp 22), none, [0, 1, 2, 3, 4, 5, 6, 7, 8, 9, 10, 11, 12]⟩,
 ⟨some 24, .call (.tmp 21) [.tmp 23], none, []⟩,
 ⟨some 25, .move (.tmp 7), none, [0, 1, 2, 3, 4, 5, 6, 7, 8, 9, 10, 11, 12, 13, 14, 15]⟩,
 ⟨some 26, .fieldAddr 8 (.tmp 4), none, [0, 1, 2, 3, 4, 5, 6, 7, 8, 9, 10, 11, 12, 13, 14, 15, 16]⟩,
 ⟨some 27, .load (some (2)) (.tmp 26), none, [0, 1, 2, 3, 4, 5, 6, 7, 8, 9, 10, 11, 12, 13, 14, 15, 16]⟩,
 ⟨some 28, .call (.tmp 25) [.tmp 27], none, []⟩,
 ⟨some 29, .build [.int .i64 0, .int .i64 0, .int .i64 0, .int .i64 0, .int .i64 0, .int .i64 0, .int .i64 0, .int .i64 0, .int .i64 0, .int .i64 0] [(0, 2, .tmp 12), (2, 2, .tmp 16), (4, 2, .tmp 20), (6, 2, .tmp 24), (8, 2, .tmp 28)], none, []⟩,
 ⟨none, .store 10 (.tmp 6) (.tmp 29), none, []⟩]
def k_kit_WithinLaw_r2s : List (List AOper) := [
  [
  ⟨some 9, .move (.tmp 7), none, []⟩,
 ⟨some 10, .fieldAddr 0 (.tmp 4), none, [0]⟩,
 ⟨some 11, .load (some (2)) (.tmp 10), none, [0]⟩,
 ⟨some 12, .call (.tmp 9) [.tmp 11], none, []⟩,
 ⟨some 13, .move (.tmp 7), none, [0, 1, 2, 3]⟩,
 ⟨some 14, .fieldAddr 2 (.tmp 4), none, [0, 1, 2, 3, 4]⟩,
 ⟨some 15, .load (some (2)) (.tmp 14), none, [0, 1, 2, 3, 4]⟩,
 ⟨some 16, .call (.tmp 13) [.tmp 15], none, []⟩,
 ⟨some 17, .move (.tmp 7), none, [0, 1, 2, 3, 4, 5, 6, 7]⟩,
 ⟨some 18, .fieldAddr 4 (.tmp 4), none, [0, 1, 2, 3, 4, 5, 6, 7, 8]⟩,
 ⟨some 19, .load (some (2)) (.tmp 18), none, [0, 1, 2, 3, 4, 5, 6, 7, 8]⟩,
 ⟨some 20, .call (.tmp 17) [.tmp 19], none, []⟩,
 ⟨some 21, .move (.tmp 7), none, [0, 1, 2, 3, 4, 5, 6, 7, 8, 9, 10, 11]⟩,
 ⟨some 22, .fieldAddr 6 (.tmp 4), none, [0, 1, 2, 3, 4, 5, 6, 7, 8, 9, 10, 11, 12]⟩,
 ⟨some 23, .load (some (2)) (.tmp 22), none, [0, 1, 2, 3, 4, 5, 6, 7, 8, 9, 10, 11, 12]⟩,
 ⟨some 24, .call (.tmp 21) [.tmp 23], none, []⟩,
 ⟨some 25, .move (.tmp 7), none, [0, 1, 2, 3, 4, 5, 6, 7, 8, 9, 10, 11, 12, 13, 14, 15]⟩,
 ⟨some 26, .fieldAddr 8 (.tmp 4), none, [0, 1, 2, 3, 4, 5, 6, 7, 8, 9, 10, 11, 12, 13, 14, 15, 16]⟩,
 ⟨some 27, .load (some (2)) (.tmp 26), none, [0, 1, 2, 3, 4, 5, 6, 7, 8, 9, 10, 11, 12, 13, 14, 15, 16]⟩], 
  [
  ⟨some 28, .call (.tmp 25) [.tmp 27], none, []⟩], 
  [
  ⟨some 29, .build [.int .i64 0, .int .i64 0, .int .i64 0, .int .i64 0, .int .i64 0, .int .i64 0, .int .i64 0, .int .i64 0, .int .i64 0, .int .i64 0] [(0, 2, .tmp 12), (2, 2, .tmp 16), (4, 2, .tmp 20), (6, 2, .tmp 24), (8, 2, .tmp 28)], none, []⟩], 
  [
  ⟨none, .store 10 (.tmp 6) (.tmp 29), none, []⟩]]
theorem k_kit_WithinLaw_r2_sg : segs k_kit_WithinLaw_r2 = k_kit_WithinLaw_r2s := by kernel_rfl
theorem k_kit_WithinLaw_r2_st : statOK k_kit_WithinLaw_r2 = true := by kernel_rfl
def k_kit_WithinLaw : AFun := { params := 3, ntmps := 30, body := (.seq (.reg k_kit_WithinLaw_r0 false) (.seq (.reg k_kit_WithinLaw_r1 false) (.seq (.reg k_kit_WithinLaw_r2 true) .ret))), res := [.cell 6 (some ((some (10))))] }
theorem k_kit_WithinLaw_ok : cfun Tryd.prog Tryd.f9 = k_kit_WithinLaw := by kernel_rfl

def k_curve_Current_r0 : List AOper := [
  ⟨some 3, .box (.tmp 0), none, []⟩,
 ⟨some 6, .box (.const (.agg [.int .i64 0, .int .i64 0])), none, []⟩,
 ⟨some 7, .move (.const (.int .i64 0)), none, []⟩]
def k_curve_Current_r1 : List AOper := [
  ⟨some 9, .load (some (10)) (.tmp 3), none, []⟩,
 ⟨some 10, .move (.tmp 1), none, []⟩,
 ⟨some 11, .move (.tmp 2), none, []⟩,
 ⟨some 12, .call (.const (.fn (.func 35) [] [])) [.tmp 9, .tmp 10, .tmp 11], none, []⟩,
 ⟨some 8, .move (.tmp 12), none, []⟩]
def k_curve_Current_r2 : List AOper := [
  ⟨some 13, .move (.tmp 8), none, []⟩,
 ⟨some 14, .bin .plain .neq (.tmp 13) (.const (.int .i64 0)), none, []⟩]
def k_curve_Current_r3 : List AOper := [
  ⟨some 15, .build [.int .i64 0, .int .i64 0] [], none, []⟩,
 ⟨some 16, .move (.tmp 8), none, []⟩,
 ⟨none, .store 2 (.tmp 6) (.tmp 15), none, []⟩,
 ⟨some 7, .move (.tmp 16), none, []⟩]
def k_curve_Current_r4 : List AOper := [
  ⟨some 17, .load (some (10)) (.tmp 3), none, []⟩,
 ⟨some 18, .move (.tmp 1), none, []⟩,
 ⟨some 19, .move (.tmp 2), none, []⟩,
 ⟨some 20, .call (.const (.fn (.func 36) [] [])) [.tmp 17, .tmp 18, .tmp 19], none, []⟩,
 ⟨none, .store 2 (.tmp 6) (.tmp 20), none, []⟩,
 ⟨some 7, .move (.const (.int .i64 0)), none, []⟩]
def k_curve_Current : AFun := { params := 3, ntmps := 21, body := (.seq (.reg k_curve_Current_r0 false) (.seq (.seq (.reg k_curve_Current_r1 false) (.seq (.reg k_curve_Current_r2 false) (.cond (.tmp 14) (.seq (.reg k_curve_Current_r3 false) .ret) .skip))) (.seq (.reg k_curve_Current_r4 false) .ret))), res := [.cell 6 (some ((some (2)))), .tmp 7] }
theorem k_curve_Current_ok : cfun Tryd.prog Tryd.f13 = k_curve_Current := by kernel_rfl

def k_law02_law_r0 : List AOper := [
  ⟨some 0, .box (.const (.agg [.int .i64 0, .int .i64 0, .int .i64 0, .int .i64 0, .int .i64 0, .int .i64 0, .int .i64 0, .int .i64 0, .int .i64 0, .int .i64 0])), none, []⟩]
def k_law02_law_r1 : List AOper := [
  ⟨some 1, .call (.const (.fn (.func 37) [] [])) [.const (.int .i64 60000)], none, []⟩,
 ⟨some 2, .call (.const (.fn (.func 37) [] [])) [.const (.int .i64 20000)], none, []⟩,
 ⟨some 3, .call (.const (.fn (.func 37) [] [])) [.const (.int .i64 0)], none, []⟩,
 ⟨some 4, .call (.const (.fn (.func 37) [] [])) [.const (.int .i64 100000)], none, []⟩,
 ⟨some 5, .call (.const (.fn (.func 37) [] [])) [.const (.int .i64 1000000)], none, []⟩,
 ⟨some 6, .build [.int .i64 0, .int .i64 0, .int .i64 0, .int .i64 0, .int .i64 0, .int .i64 0, .int .i64 0, .int .i64 0, .int .i64 0, .int .i64 0] [(0, 2, .tmp 1), (2, 2, .tmp 2), (4, 2, .tmp 3), (6, 2, .tmp 4), (8, 2, .tmp 5)], none, []⟩,
 ⟨none, .store 10 (.tmp 0) (.tmp 6), none, []⟩]
def k_law02_law : AFun := { params := 0, ntmps := 7, body := (.seq (.reg k_law02_law_r0 false) (.seq (.reg k_law02_law_r1 false) .ret)), res := [.cell 0 (some ((some (10))))] }
theorem k_law02_law_ok : cfun Tryd.prog Tryd.f15 = k_law02_law := by kernel_rfl

def k_curve_At_r0 : List AOper := [
  ⟨some 3, .box (.tmp 0), none, []⟩,
 ⟨some 6, .box (.const (.agg [.int .i64 0, .int .i64 0])), none, []⟩,
 ⟨some 7, .move (.const (.int .i64 0)), none, []⟩]
def k_curve_At_r1 : List AOper := [
  ⟨some 13, .load (some (4)) (.tmp 3), none, []⟩,
 ⟨some 14, .call (.const (.fn (.func 18) [] [])) [.tmp 13], none, []⟩,
 ⟨some 8, .move (.tmp 14), none, []⟩]
def k_curve_At_r2 : List AOper := [
  ⟨some 15, .move (.tmp 8), none, []⟩,
 ⟨some 16, .bin .plain .neq (.tmp 15) (.const (.int .i64 0)), none, []⟩]
def k_curve_At_r3 : List AOper := [
  ⟨some 17, .build [.int .i64 0, .int .i64 0] [], none, []⟩,
 ⟨some 18, .move (.tmp 8), none, []⟩,
 ⟨none, .store 2 (.tmp 6) (.tmp 17), none, []⟩,
 ⟨some 7, .move (.tmp 18), none, []⟩]
def k_curve_At_r4 : List AOper := [
  ⟨some 19, .move (.tmp 1), none, []⟩,
 ⟨some 20, .call (.const (.fn (.func 38) [] [])) [.tmp 19], none, []⟩,
 ⟨some 21, .not (.tmp 20), none, []⟩,
 ⟨some 22, .move (.tmp 21), none, []⟩,
 ⟨some 23, .move (.tmp 2), (some (22, false)), []⟩,
 ⟨some 24, .call (.const (.fn (.func 39) [] [])) [.tmp 23], (some (22, false)), []⟩,
 ⟨some 25, .not (.tmp 24), (some (22, false)), []⟩,
 ⟨some 26, .pick (.tmp 22) (.const (.bool true)) (.tmp 25), none, []⟩]
def k_curve_At_r5 : List AOper := [
  ⟨some 27, .build [.int .i64 0, .int .i64 0] [], none, []⟩,
 ⟨none, .store 2 (.tmp 6) (.tmp 27), none, []⟩,
 ⟨some 7, .move (.const (.int .i64 2)), none, []⟩]
def k_curve_At_r6 : List AOper := [
  ⟨some 28, .fieldAddr 0 (.tmp 3), none, []⟩,
 ⟨some 29, .load none (.tmp 28), none, []⟩,
 ⟨some 30, .move (.tmp 1), none, [0, 1]⟩,
 ⟨some 31, .call (.const (.fn (.func 40) [] [])) [.tmp 29, .tmp 30], none, []⟩,
 ⟨some 32, .fieldAddr 1 (.tmp 3), none, [0, 1, 2, 3]⟩,
 ⟨some 33, .load none (.tmp 32), none, [0, 1, 2, 3]⟩,
 ⟨some 34, .move (.tmp 2), none, [0, 1, 2, 3, 4, 5]⟩,
 ⟨some 35, .call (.const (.fn (.func 40) [] [])) [.tmp 33, .tmp 34], none, []⟩,
 ⟨some 9, .box (.const (.agg [.int .i64 0, .int .i64 0, .int .i64 0])), none, [0, 1, 2, 3, 4, 5, 6, 7]⟩,
 ⟨some 10, .box (.const (.agg [.int .i64 0, .int .i64 0, .int .i64 0])), none, [0, 1, 2, 3, 4, 5, 6, 7, 8]⟩,
 ⟨none, .store 3 (.tmp 9) (.tmp 31), none, []⟩,
 ⟨none, .store 3 (.tmp 10) (.tmp 35), none, []⟩]
def k_curve_At_r6s : List (List AOper) := [
  [
  ⟨some 28, .fieldAddr 0 (.tmp 3), none, []⟩,
 ⟨some 29, .load none (.tmp 28), none, []⟩,
 ⟨some 30, .move (.tmp 1), none, [0, 1]⟩,
 ⟨some 31, .call (.const (.fn (.func 40) [] [])) [.tmp 29, .tmp 30], none, []⟩,
 ⟨some 32, .fieldAddr 1 (.tmp 3), none, [0, 1, 2, 3]⟩,
 ⟨some 33, .load none (.tmp 32), none, [0, 1, 2, 3]⟩,
 ⟨some 34, .move (.tmp 2), none, [0, 1, 2, 3, 4, 5]⟩,
 ⟨some 35, .call (.const (.fn (.func 40) [] [])) [.tmp 33, .tmp 34], none, []⟩,
 ⟨some 9, .box (.const (.agg [.int .i64 0, .int .i64 0, .int .i64 0])), none, [0, 1, 2, 3, 4, 5, 6, 7]⟩,
 ⟨some 10, .box (.const (.agg [.int .i64 0, .int .i64 0, .int .i64 0])), none, [0, 1, 2, 3, 4, 5, 6, 7, 8]⟩], 
  [
  ⟨none, .store 3 (.tmp 9) (.tmp 31), none, []⟩], 
  [
  ⟨none, .store 3 (.tmp 10) (.tmp 35), none, []⟩]]
theorem k_curve_At_r6_sg : segs k_curve_At_r6 = k_curve_At_r6s := by kernel_rfl
theorem k_curve_At_r6_st : statOK k_curve_At_r6 = true := by kernel_rfl
def k_curve_At_r7 : List AOper := [
  ⟨some 36, .fieldAddr 2 (.tmp 3), none, []⟩,
 ⟨some 37, .load none (.tmp 36), none, []⟩,
 ⟨some 38, .load (some (3)) (.tmp 9), none, [0, 1]⟩,
 ⟨some 39, .load (some (3)) (.tmp 10), none, [0, 1, 2]⟩,
 ⟨some 40, .call (.const (.fn (.func 41) [] [])) [.tmp 37, .tmp 38, .tmp 39], none, []⟩,
 ⟨some 41, .fieldAddr 3 (.tmp 3), none, [0, 1, 2, 3, 4]⟩,
 ⟨some 42, .load none (.tmp 41), none, [0, 1, 2, 3, 4]⟩,
 ⟨some 43, .load (some (3)) (.tmp 9), none, [0, 1, 2, 3, 4, 5, 6]⟩,
 ⟨some 44, .load (some (3)) (.tmp 10), none, [0, 1, 2, 3, 4, 5, 6, 7]⟩,
 ⟨some 45, .call (.const (.fn (.func 41) [] [])) [.tmp 42, .tmp 43, .tmp 44], none, []⟩,
 ⟨some 11, .box (.const (.agg [.int .i64 0, .int .i64 0])), none, [0, 1, 2, 3, 4, 5, 6, 7, 8, 9]⟩,
 ⟨some 12, .box (.const (.agg [.int .i64 0, .int .i64 0])), none, [0, 1, 2, 3, 4, 5, 6, 7, 8, 9, 10]⟩,
 ⟨none, .store 2 (.tmp 11) (.tmp 40), none, []⟩,
 ⟨none, .store 2 (.tmp 12) (.tmp 45), none, []⟩]
def k_curve_At_r7s : List (List AOper) := [
  [
  ⟨some 36, .fieldAddr 2 (.tmp 3), none, []⟩,
 ⟨some 37, .load none (.tmp 36), none, []⟩,
 ⟨some 38, .load (some (3)) (.tmp 9), none, [0, 1]⟩,
 ⟨some 39, .load (some (3)) (.tmp 10), none, [0, 1, 2]⟩,
 ⟨some 40, .call (.const (.fn (.func 41) [] [])) [.tmp 37, .tmp 38, .tmp 39], none, []⟩,
 ⟨some 41, .fieldAddr 3 (.tmp 3), none, [0, 1, 2, 3, 4]⟩,
 ⟨some 42, .load none (.tmp 41), none, [0, 1, 2, 3, 4]⟩,
 ⟨some 43, .load (some (3)) (.tmp 9), none, [0, 1, 2, 3, 4, 5, 6]⟩,
 ⟨some 44, .load (some (3)) (.tmp 10), none, [0, 1, 2, 3, 4, 5, 6, 7]⟩,
 ⟨some 45, .call (.const (.fn (.func 41) [] [])) [.tmp 42, .tmp 43, .tmp 44], none, []⟩,
 ⟨some 11, .box (.const (.agg [.int .i64 0, .int .i64 0])), none, [0, 1, 2, 3, 4, 5, 6, 7, 8, 9]⟩,
 ⟨some 12, .box (.const (.agg [.int .i64 0, .int .i64 0])), none, [0, 1, 2, 3, 4, 5, 6, 7, 8, 9, 10]⟩], 
  [
  ⟨none, .store 2 (.tmp 11) (.tmp 40), none, []⟩], 
  [
  ⟨none, .store 2 (.tmp 12) (.tmp 45), none, []⟩]]
theorem k_curve_At_r7_sg : segs k_curve_At_r7 = k_curve_At_r7s := by kernel_rfl
theorem k_curve_At_r7_st : statOK k_curve_At_r7 = true := by kernel_rfl
def k_curve_At_r8 : List AOper := [
  ⟨some 46, .fieldAddr 0 (.tmp 11), none, []⟩,
 ⟨some 47, .load none (.tmp 46), none, []⟩,
 ⟨some 48, .fieldAddr 1 (.tmp 11), none, [0, 1]⟩,
 ⟨some 49, .load none (.tmp 48), none, [0, 1]⟩,
 ⟨some 50, .bin .plain .quo (.tmp 47) (.tmp 49), none, []⟩,
 ⟨some 51, .fieldAddr 0 (.tmp 12), none, [0, 1, 2, 3, 4]⟩,
 ⟨some 52, .load none (.tmp 51), none, [0, 1, 2, 3, 4]⟩,
 ⟨some 53, .fieldAddr 1 (.tmp 12), none, [0, 1, 2, 3, 4, 5, 6]⟩,
 ⟨some 54, .load none (.tmp 53), none, [0, 1, 2, 3, 4, 5, 6]⟩,
 ⟨some 55, .call (.const (.fn (.func 42) [] [])) [.tmp 52, .tmp 54], none, [0, 1, 2, 3, 4]⟩,
 ⟨some 56, .build [.int .i64 0, .int .i64 0] [(0, 1, .tmp 50), (1, 1, .tmp 55)], none, []⟩,
 ⟨none, .store 2 (.tmp 6) (.tmp 56), none, []⟩,
 ⟨some 7, .move (.const (.int .i64 0)), none, []⟩]
def k_curve_At_r8s : List (List AOper) := [
  [
  ⟨some 46, .fieldAddr 0 (.tmp 11), none, []⟩,
 ⟨some 47, .load none (.tmp 46), none, []⟩,
 ⟨some 48, .fieldAddr 1 (.tmp 11), none, [0, 1]⟩,
 ⟨some 49, .load none (.tmp 48), none, [0, 1]⟩,
 ⟨some 50, .bin .plain .quo (.tmp 47) (.tmp 49), none, []⟩,
 ⟨some 51, .fieldAddr 0 (.tmp 12), none, [0, 1, 2, 3, 4]⟩,
 ⟨some 52, .load none (.tmp 51), none, [0, 1, 2, 3, 4]⟩,
 ⟨some 53, .fieldAddr 1 (.tmp 12), none, [0, 1, 2, 3, 4, 5, 6]⟩,
 ⟨some 54, .load none (.tmp 53), none, [0, 1, 2, 3, 4, 5, 6]⟩,
 ⟨some 55, .call (.const (.fn (.func 42) [] [])) [.tmp 52, .tmp 54], none, [0, 1, 2, 3, 4]⟩], 
  [
  ⟨some 56, .build [.int .i64 0, .int .i64 0] [(0, 1, .tmp 50), (1, 1, .tmp 55)], none, []⟩], 
  [
  ⟨none, .store 2 (.tmp 6) (.tmp 56), none, []⟩], 
  [
  ⟨some 7, .move (.const (.int .i64 0)), none, []⟩]]
theorem k_curve_At_r8_sg : segs k_curve_At_r8 = k_curve_At_r8s := by kernel_rfl
theorem k_curve_At_r8_st : statOK k_curve_At_r8 = true := by kernel_rfl
def k_curve_At : AFun := { params := 3, ntmps := 57, body := (.seq (.reg k_curve_At_r0 false) (.seq (.seq (.reg k_curve_At_r1 false) (.seq (.reg k_curve_At_r2 false) (.cond (.tmp 16) (.seq (.reg k_curve_At_r3 false) .ret) .skip))) (.seq (.seq (.reg k_curve_At_r4 false) (.cond (.tmp 26) (.seq (.reg k_curve_At_r5 false) .ret) .skip)) (.seq (.reg k_curve_At_r6 true) (.seq (.reg k_curve_At_r7 true) (.seq (.reg k_curve_At_r8 true) .ret)))))), res := [.cell 6 (some ((some (2)))), .tmp 7] }
theorem k_curve_At_ok : cfun Tryd.prog Tryd.f16 = k_curve_At := by kernel_rfl

def k_law02_family_r0 : List AOper := [
  ⟨some 0, .box (.const (.agg [.nilsl, .nilsl, .nilsl, .nilsl])), none, []⟩]
def k_law02_family_r1 : List AOper := [
  ⟨some 1, .buildSlice 1 [.const (.int .i64 (-2000)), .const (.int .i64 0)], none, []⟩,
 ⟨some 2, .buildSlice 1 [.const (.int .i64 0), .const (.int .i64 100000)], none, []⟩,
 ⟨some 3, .buildSlice 1 [.const (.int .i64 0), .const (.int .i64 10)], none, []⟩,
 ⟨some 4, .buildSlice 1 [.const (.int .i64 20), .const (.int .i64 60)], none, []⟩,
 ⟨some 5, .buildSlice 1 [.tmp 3, .tmp 4], none, []⟩,
 ⟨some 6, .buildSlice 1 [.const (.int .i64 5), .const (.int .i64 10)], none, []⟩,
 ⟨some 7, .buildSlice 1 [.const (.int .i64 20), .const (.int .i64 80)], none, []⟩,
 ⟨some 8, .buildSlice 1 [.tmp 6, .tmp 7], none, []⟩,
 ⟨some 9, .build [.nilsl, .nilsl, .nilsl, .nilsl] [(0, 1, .tmp 1), (1, 1, .tmp 2), (2, 1, .tmp 5), (3, 1, .tmp 8)], none, []⟩,
 ⟨none, .store 4 (.tmp 0) (.tmp 9), none, []⟩]
def k_law02_family : AFun := { params := 0, ntmps := 10, body := (.seq (.reg k_law02_family_r0 false) (.seq (.reg k_law02_family_r1 false) .ret)), res := [.cell 0 (some ((some (4))))] }
theorem k_law02_family_ok : cfun Tryd.prog Tryd.f17 = k_law02_family := by kernel_rfl

def k_curve_Check_r0 : List AOper := [
  ⟨some 1, .box (.tmp 0), none, []⟩,
 ⟨some 2, .move (.const (.int .i64 0)), none, []⟩]
def k_curve_Check_r1 : List AOper := [
  ⟨some 7, .fieldAddr 0 (.tmp 1), none, []⟩,
 ⟨some 8, .load none (.tmp 7), none, []⟩,
 ⟨some 9, .fieldAddr 1 (.tmp 1), none, []⟩,
 ⟨some 10, .load none (.tmp 9), none, []⟩,
 ⟨some 11, .call (.const (.fn (.func 43) [] [])) [.tmp 8, .tmp 10], none, []⟩,
 ⟨some 3, .move (.tmp 11), none, []⟩]
def k_curve_Check_r2 : List AOper := [
  ⟨some 12, .move (.tmp 3), none, []⟩,
 ⟨some 13, .bin .plain .neq (.tmp 12) (.const (.int .i64 0)), none, []⟩]
def k_curve_Check_r3 : List AOper := [
  ⟨some 14, .move (.tmp 3), none, []⟩,
 ⟨some 2, .move (.tmp 14), none, []⟩]
def k_curve_Check_r4 : List AOper := [
  ⟨some 15, .fieldAddr 2 (.tmp 1), none, []⟩,
 ⟨some 16, .load none (.tmp 15), none, []⟩,
 ⟨some 17, .load (some (4)) (.tmp 1), none, []⟩,
 ⟨some 18, .call (.const (.fn (.func 44) [] [])) [.tmp 16, .tmp 17], none, []⟩,
 ⟨some 19, .not (.tmp 18), none, []⟩,
 ⟨some 20, .move (.tmp 19), none, []⟩,
 ⟨some 21, .fieldAddr 3 (.tmp 1), (some (20, false)), []⟩,
 ⟨some 22, .load none (.tmp 21), (some (20, false)), []⟩,
 ⟨some 23, .load (some (4)) (.tmp 1), (some (20, false)), []⟩,
 ⟨some 24, .call (.const (.fn (.func 44) [] [])) [.tmp 22, .tmp 23], (some (20, false)), []⟩,
 ⟨some 25, .not (.tmp 24), (some (20, false)), []⟩,
 ⟨some 26, .pick (.tmp 20) (.const (.bool true)) (.tmp 25), none, []⟩]
def k_curve_Check_r5 : List AOper := [
  ⟨some 2, .move (.const (.int .i64 3)), none, []⟩]
def k_curve_Check_r6 : List AOper := [
  ⟨some 27, .fieldAddr 0 (.tmp 1), none, []⟩,
 ⟨some 28, .load none (.tmp 27), none, []⟩,
 ⟨some 29, .len false (.tmp 28), none, []⟩,
 ⟨some 30, .move (.const (.int .i64 0)), none, []⟩]
def k_curve_Check_r7 : List AOper := [
  ⟨some 31, .bin .plain .lss (.tmp 30) (.tmp 29), none, []⟩]
def k_curve_Check_r8 : List AOper := [
  ⟨some 32, .move (.tmp 30), none, []⟩,
 ⟨some 4, .move (.tmp 32), none, []⟩]
def k_curve_Check_r9 : List AOper := [
  ⟨some 33, .fieldAddr 1 (.tmp 1), none, []⟩,
 ⟨some 34, .load none (.tmp 33), none, []⟩,
 ⟨some 35, .len false (.tmp 34), none, []⟩,
 ⟨some 36, .move (.const (.int .i64 0)), none, []⟩]
def k_curve_Check_r10 : List AOper := [
  ⟨some 37, .bin .plain .lss (.tmp 36) (.tmp 35), none, []⟩]
def k_curve_Check_r11 : List AOper := [
  ⟨some 38, .move (.tmp 36), none, []⟩,
 ⟨some 5, .move (.tmp 38), none, []⟩]
def k_curve_Check_r12 : List AOper := [
  ⟨some 39, .load (some (4)) (.tmp 1), none, []⟩,
 ⟨some 40, .move (.tmp 4), none, []⟩,
 ⟨some 41, .move (.tmp 5), none, []⟩,
 ⟨some 42, .call (.const (.fn (.func 45) [] [])) [.tmp 39, .tmp 40, .tmp 41], none, []⟩,
 ⟨some 6, .move (.tmp 42), none, []⟩]
def k_curve_Check_r13 : List AOper := [
  ⟨some 43, .move (.tmp 6), none, []⟩,
 ⟨some 44, .bin .plain .neq (.tmp 43) (.const (.int .i64 0)), none, []⟩]
def k_curve_Check_r14 : List AOper := [
  ⟨some 45, .move (.tmp 6), none, []⟩,
 ⟨some 2, .move (.tmp 45), none, []⟩]
def k_curve_Check_r15 : List AOper := [
  ⟨some 46, .bin .plain .add (.tmp 36) (.const (.int .i64 1)), none, []⟩,
 ⟨some 36, .move (.tmp 46), none, []⟩]
def k_curve_Check_r16 : ACode := (.seq (.reg k_curve_Check_r10 false) (.seq (.cond (.tmp 37) .skip (.exit 2)) (.seq (.block 3 (.seq (.reg k_curve_Check_r11 false) (.seq (.reg k_curve_Check_r12 false) (.seq (.reg k_curve_Check_r13 false) (.cond (.tmp 44) (.seq (.reg k_curve_Check_r14 false) .ret) .skip))))) (.reg k_curve_Check_r15 false))))
def k_curve_Check_r17 : List AOper := [
  ⟨some 47, .bin .plain .add (.tmp 30) (.const (.int .i64 1)), none, []⟩,
 ⟨some 30, .move (.tmp 47), none, []⟩]
def k_curve_Check_r18 : ACode := (.seq (.reg k_curve_Check_r7 false) (.seq (.cond (.tmp 31) .skip (.exit 0)) (.seq (.block 1 (.seq (.reg k_curve_Check_r8 false) (.seq (.reg k_curve_Check_r9 false) (.block 2 (.loop k_curve_Check_r16))))) (.reg k_curve_Check_r17 false))))
def k_curve_Check_r19 : List AOper := [
  ⟨some 2, .move (.const (.int .i64 0)), none, []⟩]
def k_curve_Check : AFun := { params := 1, ntmps := 48, body := (.seq (.reg k_curve_Check_r0 false) (.seq (.seq (.reg k_curve_Check_r1 false) (.seq (.reg k_curve_Check_r2 false) (.cond (.tmp 13) (.seq (.reg k_curve_Check_r3 false) .ret) .skip))) (.seq (.seq (.reg k_curve_Check_r4 false) (.cond (.tmp 26) (.seq (.reg k_curve_Check_r5 false) .ret) .skip)) (.seq (.seq (.reg k_curve_Check_r6 false) (.block 0 (.loop k_curve_Check_r18))) (.seq (.reg k_curve_Check_r19 false) .ret))))), res := [.tmp 2] }
theorem k_curve_Check_ok : cfun Tryd.prog Tryd.f18 = k_curve_Check := by kernel_rfl

def k_kit_Dice_next_r0 : List AOper := [
  ⟨some 2, .move (.const (.int .u64 0)), none, []⟩]
def k_kit_Dice_next_r1 : List AOper := [
  ⟨some 4, .move (.tmp 0), none, []⟩,
 ⟨some 5, .move (.tmp 0), none, []⟩,
 ⟨some 6, .nilCheck (.tmp 5), none, []⟩,
 ⟨some 7, .fieldAddr 0 (.tmp 6), none, []⟩,
 ⟨some 8, .load none (.tmp 7), none, []⟩,
 ⟨some 9, .bin .plain .add (.tmp 8) (.const (.int .u64 11400714819323198485)), none, []⟩,
 ⟨some 10, .nilCheck (.tmp 4), none, []⟩,
 ⟨some 11, .fieldAddr 0 (.tmp 10), none, []⟩,
 ⟨none, .store 1 (.tmp 11) (.tmp 9), none, []⟩]
def k_kit_Dice_next_r2 : List AOper := [
  ⟨some 12, .move (.tmp 0), none, []⟩,
 ⟨some 13, .nilCheck (.tmp 12), none, []⟩,
 ⟨some 14, .fieldAddr 0 (.tmp 13), none, []⟩,
 ⟨some 15, .load none (.tmp 14), none, []⟩,
 ⟨some 3, .move (.tmp 15), none, []⟩]
def k_kit_Dice_next_r3 : List AOper := [
  ⟨some 16, .move (.tmp 3), none, []⟩,
 ⟨some 17, .move (.tmp 3), none, []⟩,
 ⟨some 18, .bin .plain .shr (.tmp 17) (.const (.int .u64 30)), none, []⟩,
 ⟨some 19, .bin .plain .xor (.tmp 16) (.tmp 18), none, []⟩,
 ⟨some 20, .bin .plain .mul (.tmp 19) (.const (.int .u64 13787848793156543929)), none, []⟩,
 ⟨some 3, .move (.tmp 20), none, []⟩]
def k_kit_Dice_next_r4 : List AOper := [
  ⟨some 21, .move (.tmp 3), none, []⟩,
 ⟨some 22, .move (.tmp 3), none, []⟩,
 ⟨some 23, .bin .plain .shr (.tmp 22) (.const (.int .u64 27)), none, []⟩,
 ⟨some 24, .bin .plain .xor (.tmp 21) (.tmp 23), none, []⟩,
 ⟨some 25, .bin .plain .mul (.tmp 24) (.const (.int .u64 10723151780598845931)), none, []⟩,
 ⟨some 3, .move (.tmp 25), none, []⟩]
def k_kit_Dice_next_r5 : List AOper := [
  ⟨some 26, .move (.tmp 3), none, []⟩,
 ⟨some 27, .move (.tmp 3), none, []⟩,
 ⟨some 28, .bin .plain .shr (.tmp 27) (.const (.int .u64 31)), none, []⟩,
 ⟨some 29, .bin .plain .xor (.tmp 26) (.tmp 28), none, []⟩,
 ⟨some 2, .move (.tmp 29), none, []⟩]
def k_kit_Dice_next : AFun := { params := 1, ntmps := 30, body := (.seq (.reg k_kit_Dice_next_r0 false) (.seq (.reg k_kit_Dice_next_r1 false) (.seq (.reg k_kit_Dice_next_r2 false) (.seq (.reg k_kit_Dice_next_r3 false) (.seq (.reg k_kit_Dice_next_r4 false) (.seq (.reg k_kit_Dice_next_r5 false) .ret)))))), res := [.tmp 2] }
theorem k_kit_Dice_next_ok : cfun Tryd.prog Tryd.f19 = k_kit_Dice_next := by kernel_rfl

def k_kit_Dice_Range_r0 : List AOper := [
  ⟨some 6, .box (.const (.agg [.int .i64 0, .int .i64 0])), none, []⟩]
def k_kit_Dice_Range_r1 : List AOper := [
  ⟨some 9, .move (.tmp 0), none, []⟩,
 ⟨some 10, .move (.tmp 1), none, []⟩,
 ⟨some 11, .move (.tmp 2), none, []⟩,
 ⟨some 12, .call (.const (.fn (.func 22) [] [])) [.tmp 9, .tmp 10, .tmp 11], none, []⟩,
 ⟨some 13, .move (.tmp 0), none, []⟩,
 ⟨some 14, .move (.tmp 1), none, []⟩,
 ⟨some 15, .move (.tmp 2), none, []⟩,
 ⟨some 16, .call (.const (.fn (.func 22) [] [])) [.tmp 13, .tmp 14, .tmp 15], none, []⟩,
 ⟨some 7, .move (.tmp 12), none, []⟩,
 ⟨some 8, .move (.tmp 16), none, []⟩]
def k_kit_Dice_Range_r2 : List AOper := [
  ⟨some 17, .move (.tmp 7), none, []⟩,
 ⟨some 18, .move (.tmp 8), none, []⟩,
 ⟨some 19, .minmax false [.tmp 17, .tmp 18], none, []⟩,
 ⟨some 20, .move (.tmp 7), none, []⟩,
 ⟨some 21, .move (.tmp 8), none, []⟩,
 ⟨some 22, .minmax true [.tmp 20, .tmp 21], none, []⟩,
 ⟨some 23, .build [.int .i64 0, .int .i64 0] [(0, 1, .tmp 19), (1, 1, .tmp 22)], none, []⟩,
 ⟨none, .store 2 (.tmp 6) (.tmp 23), none, []⟩]
def k_kit_Dice_Range : AFun := { params := 3, ntmps := 24, body := (.seq (.reg k_kit_Dice_Range_r0 false) (.seq (.reg k_kit_Dice_Range_r1 false) (.seq (.reg k_kit_Dice_Range_r2 false) .ret))), res := [.cell 6 (some ((some (2))))] }
theorem k_kit_Dice_Range_ok : cfun Tryd.prog Tryd.f20 = k_kit_Dice_Range := by kernel_rfl

def k_kit_Dice_One_r0 : List AOper := [
  ⟨some 4, .move (.const (.bool false)), none, []⟩]
def k_kit_Dice_One_r1 : List AOper := [
  ⟨some 5, .move (.tmp 0), none, []⟩,
 ⟨some 6, .move (.tmp 1), none, []⟩,
 ⟨some 7, .call (.const (.fn (.func 23) [] [])) [.tmp 5, .tmp 6], none, []⟩,
 ⟨some 8, .bin .plain .eql (.tmp 7) (.const (.int .i64 0)), none, []⟩,
 ⟨some 4, .move (.tmp 8), none, []⟩]
def k_kit_Dice_One : AFun := { params := 2, ntmps := 9, body := (.seq (.reg k_kit_Dice_One_r0 false) (.seq (.reg k_kit_Dice_One_r1 false) .ret)), res := [.tmp 4] }
theorem k_kit_Dice_One_ok : cfun Tryd.prog Tryd.f21 = k_kit_Dice_One := by kernel_rfl

def k_kit_Dice_Between_r0 : List AOper := [
  ⟨some 6, .move (.const (.int .i64 0)), none, []⟩]
def k_kit_Dice_Between_r1 : List AOper := [
  ⟨some 7, .move (.tmp 1), none, []⟩,
 ⟨some 8, .move (.tmp 0), none, []⟩,
 ⟨some 9, .move (.tmp 2), none, []⟩,
 ⟨some 10, .move (.tmp 1), none, []⟩,
 ⟨some 11, .bin .plain .sub (.tmp 9) (.tmp 10), none, []⟩,
 ⟨some 12, .bin .plain .add (.tmp 11) (.const (.int .i64 1)), none, []⟩,
 ⟨some 13, .call (.const (.fn (.func 23) [] [])) [.tmp 8, .tmp 12], none, []⟩,
 ⟨some 14, .bin .plain .add (.tmp 7) (.tmp 13), none, []⟩,
 ⟨some 6, .move (.tmp 14), none, []⟩]
def k_kit_Dice_Between : AFun := { params := 3, ntmps := 15, body := (.seq (.reg k_kit_Dice_Between_r0 false) (.seq (.reg k_kit_Dice_Between_r1 false) .ret)), res := [.tmp 6] }
theorem k_kit_Dice_Between_ok : cfun Tryd.prog Tryd.f22 = k_kit_Dice_Between := by kernel_rfl

def k_kit_Dice_Upto_r0 : List AOper := [
  ⟨some 4, .move (.const (.int .i64 0)), none, []⟩]
def k_kit_Dice_Upto_r1 : List AOper := [
  ⟨some 6, .move (.tmp 0), none, []⟩,
 ⟨some 7, .call (.const (.fn (.func 19) [] [])) [.tmp 6], none, []⟩,
 ⟨some 5, .move (.tmp 7), none, []⟩]
def k_kit_Dice_Upto_r2 : List AOper := [
  ⟨some 8, .move (.tmp 1), none, []⟩,
 ⟨some 9, .bin .plain .lss (.tmp 8) (.const (.int .i64 1)), none, []⟩]
def k_kit_Dice_Upto_r3 : List AOper := [
  ⟨some 4, .move (.const (.int .i64 0)), none, []⟩]
def k_kit_Dice_Upto_r4 : List AOper := [
  ⟨some 10, .move (.tmp 5), none, []⟩,
 ⟨some 11, .move (.tmp 1), none, []⟩,
 ⟨some 12, .toInt .u64 (.tmp 11), none, []⟩,
 ⟨some 13, .bin .plain .rem (.tmp 10) (.tmp 12), none, []⟩,
 ⟨some 14, .toInt .i64 (.tmp 13), none, []⟩,
 ⟨some 4, .move (.tmp 14), none, []⟩]
def k_kit_Dice_Upto : AFun := { params := 2, ntmps := 15, body := (.seq (.reg k_kit_Dice_Upto_r0 false) (.seq (.reg k_kit_Dice_Upto_r1 false) (.seq (.seq (.reg k_kit_Dice_Upto_r2 false) (.cond (.tmp 9) (.seq (.reg k_kit_Dice_Upto_r3 false) .ret) .skip)) (.seq (.reg k_kit_Dice_Upto_r4 false) .ret)))), res := [.tmp 4] }
theorem k_kit_Dice_Upto_ok : cfun Tryd.prog Tryd.f23 = k_kit_Dice_Upto := by kernel_rfl

def k_kit_WithinLaw_1_r0 : List AOper := [
  ⟨some 3, .box (.tmp 0), none, []⟩,
 ⟨some 4, .box (.const (.agg [.int .i64 0, .int .i64 0])), none, []⟩]
def k_kit_WithinLaw_1_r1 : List AOper := [
  ⟨some 7, .load none (.tmp 1), none, []⟩,
 ⟨some 8, .load (some (2)) (.tmp 3), none, [0]⟩,
 ⟨some 9, .call (.const (.fn (.func 26) [] [])) [.tmp 7, .tmp 8], none, []⟩,
 ⟨some 10, .load none (.tmp 1), none, [0, 1, 2]⟩,
 ⟨some 11, .load (some (2)) (.tmp 3), none, [0, 1, 2, 3]⟩,
 ⟨some 12, .call (.const (.fn (.func 26) [] [])) [.tmp 10, .tmp 11], none, []⟩,
 ⟨some 5, .move (.tmp 9), none, []⟩,
 ⟨some 6, .move (.tmp 12), none, []⟩]
def k_kit_WithinLaw_1_r1s : List (List AOper) := [
  [
  ⟨some 7, .load none (.tmp 1), none, []⟩,
 ⟨some 8, .load (some (2)) (.tmp 3), none, [0]⟩,
 ⟨some 9, .call (.const (.fn (.func 26) [] [])) [.tmp 7, .tmp 8], none, []⟩,
 ⟨some 10, .load none (.tmp 1), none, [0, 1, 2]⟩,
 ⟨some 11, .load (some (2)) (.tmp 3), none, [0, 1, 2, 3]⟩], 
  [
  ⟨some 12, .call (.const (.fn (.func 26) [] [])) [.tmp 10, .tmp 11], none, []⟩], 
  [
  ⟨some 5, .move (.tmp 9), none, []⟩], 
  [
  ⟨some 6, .move (.tmp 12), none, []⟩]]
theorem k_kit_WithinLaw_1_r1_sg : segs k_kit_WithinLaw_1_r1 = k_kit_WithinLaw_1_r1s := by kernel_rfl
theorem k_kit_WithinLaw_1_r1_st : statOK k_kit_WithinLaw_1_r1 = true := by kernel_rfl
def k_kit_WithinLaw_1_r2 : List AOper := [
  ⟨some 13, .load none (.tmp 2), none, []⟩]
def k_kit_WithinLaw_1_r3 : List AOper := [
  ⟨some 14, .move (.tmp 5), none, []⟩,
 ⟨some 6, .move (.tmp 14), none, []⟩]
def k_kit_WithinLaw_1_r4 : List AOper := [
  ⟨some 15, .move (.tmp 5), none, []⟩,
 ⟨some 16, .move (.tmp 6), none, []⟩,
 ⟨some 17, .minmax false [.tmp 15, .tmp 16], none, []⟩,
 ⟨some 18, .move (.tmp 5), none, []⟩,
 ⟨some 19, .move (.tmp 6), none, []⟩,
 ⟨some 20, .minmax true [.tmp 18, .tmp 19], none, []⟩,
 ⟨some 21, .build [.int .i64 0, .int .i64 0] [(0, 1, .tmp 17), (1, 1, .tmp 20)], none, []⟩,
 ⟨none, .store 2 (.tmp 4) (.tmp 21), none, []⟩]
def k_kit_WithinLaw_1 : AFun := { params := 3, ntmps := 22, body := (.seq (.reg k_kit_WithinLaw_1_r0 false) (.seq (.reg k_kit_WithinLaw_1_r1 true) (.seq (.seq (.reg k_kit_WithinLaw_1_r2 false) (.cond (.tmp 13) (.reg k_kit_WithinLaw_1_r3 false) .skip)) (.seq (.reg k_kit_WithinLaw_1_r4 false) .ret)))), res := [.cell 4 (some ((some (2))))] }
theorem k_kit_WithinLaw_1_ok : cfun Tryd.prog Tryd.f25 = k_kit_WithinLaw_1 := by kernel_rfl

def k_kit_Dice_In_r0 : List AOper := [
  ⟨some 3, .box (.tmp 1), none, []⟩,
 ⟨some 4, .move (.const (.int .i64 0)), none, []⟩]
def k_kit_Dice_In_r1 : List AOper := [
  ⟨some 5, .move (.tmp 0), none, []⟩,
 ⟨some 6, .fieldAddr 0 (.tmp 3), none, []⟩,
 ⟨some 7, .load none (.tmp 6), none, []⟩,
 ⟨some 8, .fieldAddr 0 (.tmp 3), none, []⟩,
 ⟨some 9, .load none (.tmp 8), none, []⟩,
 ⟨some 10, .fieldAddr 1 (.tmp 3), none, []⟩,
 ⟨some 11, .load none (.tmp 10), none, []⟩,
 ⟨some 12, .minmax true [.tmp 9, .tmp 11], none, []⟩,
 ⟨some 13, .call (.const (.fn (.func 22) [] [])) [.tmp 5, .tmp 7, .tmp 12], none, []⟩,
 ⟨some 4, .move (.tmp 13), none, []⟩]
def k_kit_Dice_In : AFun := { params := 2, ntmps := 14, body := (.seq (.reg k_kit_Dice_In_r0 false) (.seq (.reg k_kit_Dice_In_r1 false) .ret)), res := [.tmp 4] }
theorem k_kit_Dice_In_ok : cfun Tryd.prog Tryd.f26 = k_kit_Dice_In := by kernel_rfl

def k_curve_CheckLaw_r0 : List AOper := [
  ⟨some 1, .box (.tmp 0), none, []⟩,
 ⟨some 2, .move (.const (.int .i64 0)), none, []⟩]
def k_curve_CheckLaw_r1 : List AOper := [
  ⟨some 6, .fieldAddr 0 (.tmp 1), none, []⟩,
 ⟨some 7, .load (some (2)) (.tmp 6), none, []⟩,
 ⟨some 8, .build [.int .i64 0, .int .i64 0] [(0, 1, .const (.int .i64 0)), (1, 1, .const (.int .i64 1000000))], none, []⟩,
 ⟨some 9, .build [.int .i64 0, .int .i64 0, .int .i64 0, .int .i64 0] [(0, 2, .tmp 7), (2, 2, .tmp 8)], none, []⟩,
 ⟨some 10, .fieldAddr 2 (.tmp 1), none, []⟩,
 ⟨some 11, .load (some (2)) (.tmp 10), none, []⟩,
 ⟨some 12, .build [.int .i64 0, .int .i64 0] [(0, 1, .const (.int .i64 1)), (1, 1, .const (.int .i64 1000000))], none, []⟩,
 ⟨some 13, .build [.int .i64 0, .int .i64 0, .int .i64 0, .int .i64 0] [(0, 2, .tmp 11), (2, 2, .tmp 12)], none, []⟩,
 ⟨some 14, .fieldAddr 4 (.tmp 1), none, []⟩,
 ⟨some 15, .load (some (2)) (.tmp 14), none, []⟩,
 ⟨some 16, .build [.int .i64 0, .int .i64 0] [(0, 1, .const (.int .i64 (-1000000))), (1, 1, .const (.int .i64 1000000))], none, []⟩,
 ⟨some 17, .build [.int .i64 0, .int .i64 0, .int .i64 0, .int .i64 0] [(0, 2, .tmp 15), (2, 2, .tmp 16)], none, []⟩,
 ⟨some 18, .fieldAddr 6 (.tmp 1), none, []⟩,
 ⟨some 19, .load (some (2)) (.tmp 18), none, []⟩,
 ⟨some 20, .build [.int .i64 0, .int .i64 0] [(0, 1, .const (.int .i64 0)), (1, 1, .const (.int .i64 1000000))], none, []⟩,
 ⟨some 21, .build [.int .i64 0, .int .i64 0, .int .i64 0, .int .i64 0] [(0, 2, .tmp 19), (2, 2, .tmp 20)], none, []⟩,
 ⟨some 22, .fieldAddr 8 (.tmp 1), none, []⟩,
 ⟨some 23, .load (some (2)) (.tmp 22), none, []⟩,
 ⟨some 24, .build [.int .i64 0, .int .i64 0] [(0, 1, .const (.int .i64 0)), (1, 1, .const (.int .i64 1000000))], none, []⟩,
 ⟨some 25, .build [.int .i64 0, .int .i64 0, .int .i64 0, .int .i64 0] [(0, 2, .tmp 23), (2, 2, .tmp 24)], none, []⟩,
 ⟨some 26, .build [.int .i64 0, .int .i64 0, .int .i64 0, .int .i64 0, .int .i64 0, .int .i64 0, .int .i64 0, .int .i64 0, .int .i64 0, .int .i64 0, .int .i64 0, .int .i64 0, .int .i64 0, .int .i64 0, .int .i64 0, .int .i64 0, .int .i64 0, .int .i64 0, .int .i64 0, .int .i64 0] [(0, 4, .tmp 9), (4, 4, .tmp 13), (8, 4, .tmp 17), (12, 4, .tmp 21), (16, 4, .tmp 25)], none, []⟩,
 ⟨some 3, .box (.const (.agg [.int .i64 0, .int .i64 0, .int .i64 0, .int .i64 0, .int .i64 0, .int .i64 0, .int .i64 0, .int .i64 0, .int .i64 0, .int .i64 0, .int .i64 0, .int .i64 0, .int .i64 0, .int .i64 0, .int .i64 0, .int .i64 0, .int .i64 0, .int .i64 0, .int .i64 0, .int .i64 0])), none, []⟩,
 ⟨none, .store 20 (.tmp 3) (.tmp 26), none, []⟩]
def k_curve_CheckLaw_r2 : List AOper := [
  ⟨some 27, .load (some (20)) (.tmp 3), none, []⟩,
 ⟨some 28, .move (.const (.int .i64 0)), none, []⟩]
def k_curve_CheckLaw_r3 : List AOper := [
  ⟨some 29, .bin .plain .lss (.tmp 28) (.const (.int .i64 5)), none, []⟩]
def k_curve_CheckLaw_r4 : List AOper := [
  ⟨some 30, .indexAgg 5 4 true (.tmp 27) (.tmp 28), none, []⟩,
 ⟨some 5, .box (.const (.agg [.int .i64 0, .int .i64 0, .int .i64 0, .int .i64 0])), none, []⟩,
 ⟨none, .store 4 (.tmp 5) (.tmp 30), none, []⟩]
def k_curve_CheckLaw_r5 : List AOper := [
  ⟨some 31, .fieldAddr 0 (.tmp 5), none, []⟩,
 ⟨some 32, .fieldAddr 0 (.tmp 31), none, []⟩,
 ⟨some 33, .load none (.tmp 32), none, []⟩,
 ⟨some 34, .fieldAddr 0 (.tmp 5), none, []⟩,
 ⟨some 35, .fieldAddr 1 (.tmp 34), none, []⟩,
 ⟨some 36, .load none (.tmp 35), none, []⟩,
 ⟨some 37, .bin .plain .gtr (.tmp 33) (.tmp 36), none, []⟩]
def k_curve_CheckLaw_r6 : List AOper := [
  ⟨some 2, .move (.const (.int .i64 11)), none, []⟩]
def k_curve_CheckLaw_r7 : List AOper := [
  ⟨some 38, .fieldAddr 0 (.tmp 5), none, []⟩,
 ⟨some 39, .fieldAddr 0 (.tmp 38), none, []⟩,
 ⟨some 40, .load none (.tmp 39), none, []⟩,
 ⟨some 41, .fieldAddr 2 (.tmp 5), none, []⟩,
 ⟨some 42, .fieldAddr 0 (.tmp 41), none, []⟩,
 ⟨some 43, .load none (.tmp 42), none, []⟩,
 ⟨some 44, .bin .plain .lss (.tmp 40) (.tmp 43), none, []⟩,
 ⟨some 45, .move (.tmp 44), none, []⟩,
 ⟨some 46, .fieldAddr 0 (.tmp 5), (some (45, false)), []⟩,
 ⟨some 47, .fieldAddr 1 (.tmp 46), (some (45, false)), []⟩,
 ⟨some 48, .load none (.tmp 47), (some (45, false)), []⟩,
 ⟨some 49, .fieldAddr 2 (.tmp 5), (some (45, false)), []⟩,
 ⟨some 50, .fieldAddr 1 (.tmp 49), (some (45, false)), []⟩,
 ⟨some 51, .load none (.tmp 50), (some (45, false)), []⟩,
 ⟨some 52, .bin .plain .gtr (.tmp 48) (.tmp 51), (some (45, false)), []⟩,
 ⟨some 53, .pick (.tmp 45) (.const (.bool true)) (.tmp 52), none, []⟩]
def k_curve_CheckLaw_r8 : List AOper := [
  ⟨some 2, .move (.const (.int .i64 2)), none, []⟩]
def k_curve_CheckLaw_r9 : List AOper := [
  ⟨some 54, .bin .plain .add (.tmp 28) (.const (.int .i64 1)), none, []⟩,
 ⟨some 28, .move (.tmp 54), none, []⟩]
def k_curve_CheckLaw_r10 : ACode := (.seq (.reg k_curve_CheckLaw_r3 false) (.seq (.cond (.tmp 29) .skip (.exit 0)) (.seq (.block 1 (.seq (.reg k_curve_CheckLaw_r4 false) (.seq (.seq (.reg k_curve_CheckLaw_r5 false) (.cond (.tmp 37) (.seq (.reg k_curve_CheckLaw_r6 false) .ret) .skip)) (.seq (.reg k_curve_CheckLaw_r7 false) (.cond (.tmp 53) (.seq (.reg k_curve_CheckLaw_r8 false) .ret) .skip))))) (.reg k_curve_CheckLaw_r9 false))))
def k_curve_CheckLaw_r11 : List AOper := [
  ⟨some 2, .move (.const (.int .i64 0)), none, []⟩]
def k_curve_CheckLaw : AFun := { params := 1, ntmps := 55, body := (.seq (.reg k_curve_CheckLaw_r0 false) (.seq (.reg k_curve_CheckLaw_r1 false) (.seq (.seq (.reg k_curve_CheckLaw_r2 false) (.block 0 (.loop k_curve_CheckLaw_r10))) (.seq (.reg k_curve_CheckLaw_r11 false) .ret)))), res := [.tmp 2] }
theorem k_curve_CheckLaw_ok : cfun Tryd.prog Tryd.f27 = k_curve_CheckLaw := by kernel_rfl

def k_kit_Within_r0 : List AOper := [
  ⟨some 2, .box (.tmp 0), none, []⟩,
 ⟨some 3, .box (.tmp 1), none, []⟩,
 ⟨some 4, .move (.const (.bool false)), none, []⟩]
def k_kit_Within_r1 : List AOper := [
  ⟨some 5, .fieldAddr 0 (.tmp 2), none, []⟩,
 ⟨some 6, .load none (.tmp 5), none, []⟩,
 ⟨some 7, .fieldAddr 0 (.tmp 3), none, []⟩,
 ⟨some 8, .load none (.tmp 7), none, []⟩,
 ⟨some 9, .bin .plain .geq (.tmp 6) (.tmp 8), none, []⟩,
 ⟨some 10, .move (.tmp 9), none, []⟩,
 ⟨some 11, .fieldAddr 1 (.tmp 2), (some (10, true)), []⟩,
 ⟨some 12, .load none (.tmp 11), (some (10, true)), []⟩,
 ⟨some 13, .fieldAddr 1 (.tmp 3), (some (10, true)), []⟩,
 ⟨some 14, .load none (.tmp 13), (some (10, true)), []⟩,
 ⟨some 15, .bin .plain .leq (.tmp 12) (.tmp 14), (some (10, true)), []⟩,
 ⟨some 16, .pick (.tmp 10) (.tmp 15) (.const (.bool false)), none, []⟩,
 ⟨some 4, .move (.tmp 16), none, []⟩]
def k_kit_Within : AFun := { params := 2, ntmps := 17, body := (.seq (.reg k_kit_Within_r0 false) (.seq (.reg k_kit_Within_r1 false) .ret)), res := [.tmp 4] }
theorem k_kit_Within_ok : cfun Tryd.prog Tryd.f34 = k_kit_Within := by kernel_rfl

def k_curve_checkVolts_r0 : List AOper := [
  ⟨some 3, .box (.tmp 0), none, []⟩,
 ⟨some 6, .move (.const (.int .i64 0)), none, []⟩]
def k_curve_checkVolts_r1 : List AOper := [
  ⟨some 8, .load (some (10)) (.tmp 3), none, []⟩,
 ⟨some 9, .call (.const (.fn (.func 27) [] [])) [.tmp 8], none, []⟩,
 ⟨some 7, .move (.tmp 9), none, []⟩]
def k_curve_checkVolts_r2 : List AOper := [
  ⟨some 10, .move (.tmp 7), none, []⟩,
 ⟨some 11, .bin .plain .neq (.tmp 10) (.const (.int .i64 0)), none, []⟩]
def k_curve_checkVolts_r3 : List AOper := [
  ⟨some 12, .move (.tmp 7), none, []⟩,
 ⟨some 6, .move (.tmp 12), none, []⟩]
def k_curve_checkVolts_r4 : List AOper := [
  ⟨some 13, .move (.tmp 1), none, []⟩,
 ⟨some 14, .call (.const (.fn (.func 38) [] [])) [.tmp 13], none, []⟩,
 ⟨some 15, .not (.tmp 14), none, []⟩,
 ⟨some 16, .move (.tmp 15), none, []⟩,
 ⟨some 17, .move (.tmp 2), (some (16, false)), []⟩,
 ⟨some 18, .call (.const (.fn (.func 39) [] [])) [.tmp 17], (some (16, false)), []⟩,
 ⟨some 19, .not (.tmp 18), (some (16, false)), []⟩,
 ⟨some 20, .pick (.tmp 16) (.const (.bool true)) (.tmp 19), none, []⟩]
def k_curve_checkVolts_r5 : List AOper := [
  ⟨some 6, .move (.const (.int .i64 2)), none, []⟩]
def k_curve_checkVolts_r6 : List AOper := [
  ⟨some 6, .move (.const (.int .i64 0)), none, []⟩]
def k_curve_checkVolts : AFun := { params := 3, ntmps := 21, body := (.seq (.reg k_curve_checkVolts_r0 false) (.seq (.seq (.reg k_curve_checkVolts_r1 false) (.seq (.reg k_curve_checkVolts_r2 false) (.cond (.tmp 11) (.seq (.reg k_curve_checkVolts_r3 false) .ret) .skip))) (.seq (.seq (.reg k_curve_checkVolts_r4 false) (.cond (.tmp 20) (.seq (.reg k_curve_checkVolts_r5 false) .ret) .skip)) (.seq (.reg k_curve_checkVolts_r6 false) .ret)))), res := [.tmp 6] }
theorem k_curve_checkVolts_ok : cfun Tryd.prog Tryd.f35 = k_curve_checkVolts := by kernel_rfl

def k_curve_current_r0 : List AOper := [
  ⟨some 3, .box (.tmp 0), none, []⟩,
 ⟨some 6, .box (.const (.agg [.int .i64 0, .int .i64 0])), none, []⟩]
def k_curve_current_r1 : List AOper := [
  ⟨some 10, .load (some (10)) (.tmp 3), none, []⟩,
 ⟨some 11, .move (.tmp 1), none, []⟩,
 ⟨some 12, .move (.tmp 2), none, []⟩,
 ⟨some 13, .call (.const (.fn (.func 58) [] [])) [.tmp 10, .tmp 11, .tmp 12], none, []⟩,
 ⟨some 7, .box (.const (.agg [.int .i64 0, .int .i64 0])), none, []⟩,
 ⟨none, .store 2 (.tmp 7) (.tmp 13), none, []⟩]
def k_curve_current_r2 : List AOper := [
  ⟨some 14, .fieldAddr 0 (.tmp 3), none, []⟩,
 ⟨some 15, .fieldAddr 0 (.tmp 14), none, []⟩,
 ⟨some 16, .load none (.tmp 15), none, []⟩,
 ⟨some 17, .fieldAddr 0 (.tmp 7), none, [0, 1, 2]⟩,
 ⟨some 18, .load none (.tmp 17), none, [0, 1, 2]⟩,
 ⟨some 19, .fieldAddr 0 (.tmp 7), none, [0, 1, 2, 3, 4]⟩,
 ⟨some 20, .load none (.tmp 19), none, [0, 1, 2, 3, 4]⟩,
 ⟨some 21, .bin .plain .mul (.tmp 18) (.tmp 20), none, [0, 1, 2]⟩,
 ⟨some 22, .fieldAddr 0 (.tmp 7), none, [0, 1, 2, 3, 4, 5, 6, 7]⟩,
 ⟨some 23, .load none (.tmp 22), none, [0, 1, 2, 3, 4, 5, 6, 7]⟩,
 ⟨some 24, .bin .plain .mul (.tmp 21) (.tmp 23), none, [0, 1, 2]⟩,
 ⟨some 25, .call (.const (.fn (.func 59) [] [])) [.tmp 24], none, [0, 1, 2]⟩,
 ⟨some 26, .bin .plain .mul (.tmp 16) (.tmp 25), none, []⟩,
 ⟨some 27, .bin .plain .quo (.tmp 26) (.const (.int .i64 1000000)), none, []⟩,
 ⟨some 28, .fieldAddr 0 (.tmp 3), none, [0, 1, 2, 3, 4, 5, 6, 7, 8, 9, 10, 11, 12, 13]⟩,
 ⟨some 29, .fieldAddr 1 (.tmp 28), none, [0, 1, 2, 3, 4, 5, 6, 7, 8, 9, 10, 11, 12, 13]⟩,
 ⟨some 30, .load none (.tmp 29), none, [0, 1, 2, 3, 4, 5, 6, 7, 8, 9, 10, 11, 12, 13]⟩,
 ⟨some 31, .fieldAddr 1 (.tmp 7), none, [0, 1, 2, 3, 4, 5, 6, 7, 8, 9, 10, 11, 12, 13, 14, 15, 16]⟩,
 ⟨some 32, .load none (.tmp 31), none, [0, 1, 2, 3, 4, 5, 6, 7, 8, 9, 10, 11, 12, 13, 14, 15, 16]⟩,
 ⟨some 33, .fieldAddr 1 (.tmp 7), none, [0, 1, 2, 3, 4, 5, 6, 7, 8, 9, 10, 11, 12, 13, 14, 15, 16, 17, 18]⟩,
 ⟨some 34, .load none (.tmp 33), none, [0, 1, 2, 3, 4, 5, 6, 7, 8, 9, 10, 11, 12, 13, 14, 15, 16, 17, 18]⟩,
 ⟨some 35, .bin .plain .mul (.tmp 32) (.tmp 34), none, [0, 1, 2, 3, 4, 5, 6, 7, 8, 9, 10, 11, 12, 13, 14, 15, 16]⟩,
 ⟨some 36, .fieldAddr 1 (.tmp 7), none, [0, 1, 2, 3, 4, 5, 6, 7, 8, 9, 10, 11, 12, 13, 14, 15, 16, 17, 18, 19, 20, 21]⟩,
 ⟨some 37, .load none (.tmp 36), none, [0, 1, 2, 3, 4, 5, 6, 7, 8, 9, 10, 11, 12, 13, 14, 15, 16, 17, 18, 19, 20, 21]⟩,
 ⟨some 38, .bin .plain .mul (.tmp 35) (.tmp 37), none, [0, 1, 2, 3, 4, 5, 6, 7, 8, 9, 10, 11, 12, 13, 14, 15, 16]⟩,
 ⟨some 39, .call (.const (.fn (.func 60) [] [])) [.tmp 38], none, [0, 1, 2, 12, 13, 14, 15, 16]⟩,
 ⟨some 40, .bin .plain .mul (.tmp 30) (.tmp 39), none, [0, 1, 2, 12, 13]⟩,
 ⟨some 41, .call (.const (.fn (.func 42) [] [])) [.tmp 40, .const (.int .i64 1000000)], none, [0, 1, 2, 12, 13]⟩,
 ⟨some 42, .build [.int .i64 0, .int .i64 0] [(0, 1, .tmp 27), (1, 1, .tmp 41)], none, []⟩,
 ⟨some 8, .box (.const (.agg [.int .i64 0, .int .i64 0])), none, [0, 1, 2, 3, 4, 5, 6, 7, 8, 9, 10, 11, 12, 13, 14, 15, 16, 17, 18, 19, 20, 21, 22, 23, 24, 25, 26, 27, 28]⟩,
 ⟨none, .store 2 (.tmp 8) (.tmp 42), none, []⟩]
def k_curve_current_r2s : List (List AOper) := [
  [
  ⟨some 14, .fieldAddr 0 (.tmp 3), none, []⟩,
 ⟨some 15, .fieldAddr 0 (.tmp 14), none, []⟩,
 ⟨some 16, .load none (.tmp 15), none, []⟩,
 ⟨some 17, .fieldAddr 0 (.tmp 7), none, [0, 1, 2]⟩,
 ⟨some 18, .load none (.tmp 17), none, [0, 1, 2]⟩,
 ⟨some 19, .fieldAddr 0 (.tmp 7), none, [0, 1, 2, 3, 4]⟩,
 ⟨some 20, .load none (.tmp 19), none, [0, 1, 2, 3, 4]⟩,
 ⟨some 21, .bin .plain .mul (.tmp 18) (.tmp 20), none, [0, 1, 2]⟩,
 ⟨some 22, .fieldAddr 0 (.tmp 7), none, [0, 1, 2, 3, 4, 5, 6, 7]⟩,
 ⟨some 23, .load none (.tmp 22), none, [0, 1, 2, 3, 4, 5, 6, 7]⟩,
 ⟨some 24, .bin .plain .mul (.tmp 21) (.tmp 23), none, [0, 1, 2]⟩,
 ⟨some 25, .call (.const (.fn (.func 59) [] [])) [.tmp 24], none, [0, 1, 2]⟩,
 ⟨some 26, .bin .plain .mul (.tmp 16) (.tmp 25), none, []⟩,
 ⟨some 27, .bin .plain .quo (.tmp 26) (.const (.int .i64 1000000)), none, []⟩,
 ⟨some 28, .fieldAddr 0 (.tmp 3), none, [0, 1, 2, 3, 4, 5, 6, 7, 8, 9, 10, 11, 12, 13]⟩,
 ⟨some 29, .fieldAddr 1 (.tmp 28), none, [0, 1, 2, 3, 4, 5, 6, 7, 8, 9, 10, 11, 12, 13]⟩,
 ⟨some 30, .load none (.tmp 29), none, [0, 1, 2, 3, 4, 5, 6, 7, 8, 9, 10, 11, 12, 13]⟩,
 ⟨some 31, .fieldAddr 1 (.tmp 7), none, [0, 1, 2, 3, 4, 5, 6, 7, 8, 9, 10, 11, 12, 13, 14, 15, 16]⟩,
 ⟨some 32, .load none (.tmp 31), none, [0, 1, 2, 3, 4, 5, 6, 7, 8, 9, 10, 11, 12, 13, 14, 15, 16]⟩,
 ⟨some 33, .fieldAddr 1 (.tmp 7), none, [0, 1, 2, 3, 4, 5, 6, 7, 8, 9, 10, 11, 12, 13, 14, 15, 16, 17, 18]⟩,
 ⟨some 34, .load none (.tmp 33), none, [0, 1, 2, 3, 4, 5, 6, 7, 8, 9, 10, 11, 12, 13, 14, 15, 16, 17, 18]⟩,
 ⟨some 35, .bin .plain .mul (.tmp 32) (.tmp 34), none, [0, 1, 2, 3, 4, 5, 6, 7, 8, 9, 10, 11, 12, 13, 14, 15, 16]⟩,
 ⟨some 36, .fieldAddr 1 (.tmp 7), none, [0, 1, 2, 3, 4, 5, 6, 7, 8, 9, 10, 11, 12, 13, 14, 15, 16, 17, 18, 19, 20, 21]⟩,
 ⟨some 37, .load none (.tmp 36), none, [0, 1, 2, 3, 4, 5, 6, 7, 8, 9, 10, 11, 12, 13, 14, 15, 16, 17, 18, 19, 20, 21]⟩,
 ⟨some 38, .bin .plain .mul (.tmp 35) (.tmp 37), none, [0, 1, 2, 3, 4, 5, 6, 7, 8, 9, 10, 11, 12, 13, 14, 15, 16]⟩,
 ⟨some 39, .call (.const (.fn (.func 60) [] [])) [.tmp 38], none, [0, 1, 2, 12, 13, 14, 15, 16]⟩,
 ⟨some 40, .bin .plain .mul (.tmp 30) (.tmp 39), none, [0, 1, 2, 12, 13]⟩,
 ⟨some 41, .call (.const (.fn (.func 42) [] [])) [.tmp 40, .const (.int .i64 1000000)], none, [0, 1, 2, 12, 13]⟩,
 ⟨some 42, .build [.int .i64 0, .int .i64 0] [(0, 1, .tmp 27), (1, 1, .tmp 41)], none, []⟩,
 ⟨some 8, .box (.const (.agg [.int .i64 0, .int .i64 0])), none, [0, 1, 2, 3, 4, 5, 6, 7, 8, 9, 10, 11, 12, 13, 14, 15, 16, 17, 18, 19, 20, 21, 22, 23, 24, 25, 26, 27, 28]⟩], 
  [
  ⟨none, .store 2 (.tmp 8) (.tmp 42), none, []⟩]]
theorem k_curve_current_r2_sg : segs k_curve_current_r2 = k_curve_current_r2s := by kernel_rfl
theorem k_curve_current_r2_st : statOK k_curve_current_r2 = true := by kernel_rfl
def k_curve_current_r3 : List AOper := [
  ⟨some 43, .fieldAddr 0 (.tmp 8), none, []⟩,
 ⟨some 44, .load none (.tmp 43), none, []⟩,
 ⟨some 45, .fieldAddr 6 (.tmp 3), none, []⟩,
 ⟨some 46, .fieldAddr 0 (.tmp 45), none, []⟩,
 ⟨some 47, .load none (.tmp 46), none, []⟩,
 ⟨some 48, .minmax false [.tmp 44, .tmp 47], none, []⟩,
 ⟨some 49, .fieldAddr 1 (.tmp 8), none, []⟩,
 ⟨some 50, .load none (.tmp 49), none, []⟩,
 ⟨some 51, .fieldAddr 6 (.tmp 3), none, []⟩,
 ⟨some 52, .fieldAddr 1 (.tmp 51), none, []⟩,
 ⟨some 53, .load none (.tmp 52), none, []⟩,
 ⟨some 54, .minmax false [.tmp 50, .tmp 53], none, []⟩,
 ⟨some 55, .build [.int .i64 0, .int .i64 0] [(0, 1, .tmp 48), (1, 1, .tmp 54)], none, []⟩,
 ⟨some 9, .box (.const (.agg [.int .i64 0, .int .i64 0])), none, []⟩,
 ⟨none, .store 2 (.tmp 9) (.tmp 55), none, []⟩]
def k_curve_current_r4 : List AOper := [
  ⟨some 56, .fieldAddr 8 (.tmp 3), none, []⟩,
 ⟨some 57, .fieldAddr 0 (.tmp 56), none, []⟩,
 ⟨some 58, .load none (.tmp 57), none, []⟩,
 ⟨some 59, .fieldAddr 0 (.tmp 9), none, [0, 1, 2]⟩,
 ⟨some 60, .load none (.tmp 59), none, [0, 1, 2]⟩,
 ⟨some 61, .bin .plain .mul (.tmp 58) (.tmp 60), none, []⟩,
 ⟨some 62, .bin .plain .quo (.tmp 61) (.const (.int .i64 1000000)), none, []⟩,
 ⟨some 63, .fieldAddr 8 (.tmp 3), none, [0, 1, 2, 3, 4, 5, 6]⟩,
 ⟨some 64, .fieldAddr 1 (.tmp 63), none, [0, 1, 2, 3, 4, 5, 6]⟩,
 ⟨some 65, .load none (.tmp 64), none, [0, 1, 2, 3, 4, 5, 6]⟩,
 ⟨some 66, .fieldAddr 1 (.tmp 9), none, [0, 1, 2, 3, 4, 5, 6, 7, 8, 9]⟩,
 ⟨some 67, .load none (.tmp 66), none, [0, 1, 2, 3, 4, 5, 6, 7, 8, 9]⟩,
 ⟨some 68, .bin .plain .mul (.tmp 65) (.tmp 67), none, [0, 1, 2, 3, 4, 5, 6]⟩,
 ⟨some 69, .call (.const (.fn (.func 42) [] [])) [.tmp 68, .const (.int .i64 1000000)], none, [0, 1, 2, 3, 4, 5, 6]⟩,
 ⟨some 70, .build [.int .i64 0, .int .i64 0] [(0, 1, .tmp 62), (1, 1, .tmp 69)], none, []⟩,
 ⟨none, .store 2 (.tmp 6) (.tmp 70), none, []⟩]
def k_curve_current_r4s : List (List AOper) := [
  [
  ⟨some 56, .fieldAddr 8 (.tmp 3), none, []⟩,
 ⟨some 57, .fieldAddr 0 (.tmp 56), none, []⟩,
 ⟨some 58, .load none (.tmp 57), none, []⟩,
 ⟨some 59, .fieldAddr 0 (.tmp 9), none, [0, 1, 2]⟩,
 ⟨some 60, .load none (.tmp 59), none, [0, 1, 2]⟩,
 ⟨some 61, .bin .plain .mul (.tmp 58) (.tmp 60), none, []⟩,
 ⟨some 62, .bin .plain .quo (.tmp 61) (.const (.int .i64 1000000)), none, []⟩,
 ⟨some 63, .fieldAddr 8 (.tmp 3), none, [0, 1, 2, 3, 4, 5, 6]⟩,
 ⟨some 64, .fieldAddr 1 (.tmp 63), none, [0, 1, 2, 3, 4, 5, 6]⟩,
 ⟨some 65, .load none (.tmp 64), none, [0, 1, 2, 3, 4, 5, 6]⟩,
 ⟨some 66, .fieldAddr 1 (.tmp 9), none, [0, 1, 2, 3, 4, 5, 6, 7, 8, 9]⟩,
 ⟨some 67, .load none (.tmp 66), none, [0, 1, 2, 3, 4, 5, 6, 7, 8, 9]⟩,
 ⟨some 68, .bin .plain .mul (.tmp 65) (.tmp 67), none, [0, 1, 2, 3, 4, 5, 6]⟩,
 ⟨some 69, .call (.const (.fn (.func 42) [] [])) [.tmp 68, .const (.int .i64 1000000)], none, [0, 1, 2, 3, 4, 5, 6]⟩], 
  [
  ⟨some 70, .build [.int .i64 0, .int .i64 0] [(0, 1, .tmp 62), (1, 1, .tmp 69)], none, []⟩], 
  [
  ⟨none, .store 2 (.tmp 6) (.tmp 70), none, []⟩]]
theorem k_curve_current_r4_sg : segs k_curve_current_r4 = k_curve_current_r4s := by kernel_rfl
theorem k_curve_current_r4_st : statOK k_curve_current_r4 = true := by kernel_rfl
def k_curve_current : AFun := { params := 3, ntmps := 71, body := (.seq (.reg k_curve_current_r0 false) (.seq (.reg k_curve_current_r1 false) (.seq (.reg k_curve_current_r2 true) (.seq (.reg k_curve_current_r3 false) (.seq (.reg k_curve_current_r4 true) .ret))))), res := [.cell 6 (some ((some (2))))] }
theorem k_curve_current_ok : cfun Tryd.prog Tryd.f36 = k_curve_current := by kernel_rfl

def k_law02_alone_r0 : List AOper := [
  ⟨some 2, .box (.const (.agg [.int .i64 0, .int .i64 0])), none, []⟩]
def k_law02_alone_r1 : List AOper := [
  ⟨some 3, .move (.tmp 0), none, []⟩,
 ⟨some 4, .move (.tmp 0), none, []⟩,
 ⟨some 5, .build [.int .i64 0, .int .i64 0] [(0, 1, .tmp 3), (1, 1, .tmp 4)], none, []⟩,
 ⟨none, .store 2 (.tmp 2) (.tmp 5), none, []⟩]
def k_law02_alone : AFun := { params := 1, ntmps := 6, body := (.seq (.reg k_law02_alone_r0 false) (.seq (.reg k_law02_alone_r1 false) .ret)), res := [.cell 2 (some ((some (2))))] }
theorem k_law02_alone_ok : cfun Tryd.prog Tryd.f37 = k_law02_alone := by kernel_rfl

def k_curve_rightGrid_r0 : List AOper := [
  ⟨some 2, .move (.const (.bool false)), none, []⟩]
def k_curve_rightGrid_r1 : List AOper := [
  ⟨some 3, .move (.tmp 0), none, []⟩,
 ⟨some 4, .call (.const (.fn (.func 61) [] [])) [.tmp 3, .const (.int .i64 (-1000000)), .const (.int .i64 1000000)], none, []⟩,
 ⟨some 2, .move (.tmp 4), none, []⟩]
def k_curve_rightGrid : AFun := { params := 1, ntmps := 5, body := (.seq (.reg k_curve_rightGrid_r0 false) (.seq (.reg k_curve_rightGrid_r1 false) .ret)), res := [.tmp 2] }
theorem k_curve_rightGrid_ok : cfun Tryd.prog Tryd.f38 = k_curve_rightGrid := by kernel_rfl

def k_curve_rightPlate_r0 : List AOper := [
  ⟨some 2, .move (.const (.bool false)), none, []⟩]
def k_curve_rightPlate_r1 : List AOper := [
  ⟨some 3, .move (.tmp 0), none, []⟩,
 ⟨some 4, .call (.const (.fn (.func 61) [] [])) [.tmp 3, .const (.int .i64 0), .const (.int .i64 1000000)], none, []⟩,
 ⟨some 2, .move (.tmp 4), none, []⟩]
def k_curve_rightPlate : AFun := { params := 1, ntmps := 5, body := (.seq (.reg k_curve_rightPlate_r0 false) (.seq (.reg k_curve_rightPlate_r1 false) .ret)), res := [.tmp 2] }
theorem k_curve_rightPlate_ok : cfun Tryd.prog Tryd.f39 = k_curve_rightPlate := by kernel_rfl

def k_curve_spotOf_r0 : List AOper := [
  ⟨some 4, .box (.const (.agg [.int .i64 0, .int .i64 0, .int .i64 0])), none, []⟩]
def k_curve_spotOf_r1 : List AOper := [
  ⟨some 6, .move (.tmp 0), none, []⟩,
 ⟨some 7, .move (.tmp 1), none, []⟩,
 ⟨some 8, .bin .plain .add (.tmp 7) (.const (.int .i64 1)), none, []⟩,
 ⟨some 9, .call (.const (.fn (.func 62) [] [])) [.tmp 6, .tmp 8], none, []⟩,
 ⟨some 10, .bin .plain .sub (.tmp 9) (.const (.int .i64 1)), none, []⟩,
 ⟨some 5, .move (.tmp 10), none, []⟩]
def k_curve_spotOf_r2 : List AOper := [
  ⟨some 11, .move (.tmp 5), none, []⟩,
 ⟨some 12, .bin .plain .lss (.tmp 11) (.const (.int .i64 0)), none, []⟩]
def k_curve_spotOf_r3 : List AOper := [
  ⟨some 13, .build [.int .i64 0, .int .i64 0, .int .i64 0] [(2, 1, .const (.int .i64 1))], none, []⟩,
 ⟨none, .store 3 (.tmp 4) (.tmp 13), none, []⟩]
def k_curve_spotOf_r4 : List AOper := [
  ⟨some 14, .move (.tmp 5), none, []⟩,
 ⟨some 15, .move (.tmp 0), none, []⟩,
 ⟨some 16, .len false (.tmp 15), none, []⟩,
 ⟨some 17, .bin .plain .sub (.tmp 16) (.const (.int .i64 1)), none, []⟩,
 ⟨some 18, .bin .plain .eql (.tmp 14) (.tmp 17), none, []⟩]
def k_curve_spotOf_r5 : List AOper := [
  ⟨some 19, .move (.tmp 5), none, []⟩,
 ⟨some 20, .build [.int .i64 0, .int .i64 0, .int .i64 0] [(0, 1, .tmp 19), (2, 1, .const (.int .i64 1))], none, []⟩,
 ⟨none, .store 3 (.tmp 4) (.tmp 20), none, []⟩]
def k_curve_spotOf_r6 : List AOper := [
  ⟨some 21, .move (.tmp 5), none, []⟩,
 ⟨some 22, .move (.tmp 1), none, [0]⟩,
 ⟨some 23, .move (.tmp 0), none, [0, 1]⟩,
 ⟨some 24, .move (.tmp 5), none, [0, 1, 2]⟩,
 ⟨some 25, .indexAddr 1 (.tmp 23) (.tmp 24), none, [0, 1]⟩,
 ⟨some 26, .load none (.tmp 25), none, [0, 1]⟩,
 ⟨some 27, .bin .plain .sub (.tmp 22) (.tmp 26), none, [0]⟩,
 ⟨some 28, .move (.tmp 0), none, [0, 1, 2, 3, 4, 5, 6]⟩,
 ⟨some 29, .move (.tmp 5), none, [0, 1, 2, 3, 4, 5, 6, 7]⟩,
 ⟨some 30, .bin .plain .add (.tmp 29) (.const (.int .i64 1)), none, [0, 1, 2, 3, 4, 5, 6, 7]⟩,
 ⟨some 31, .indexAddr 1 (.tmp 28) (.tmp 30), none, [0, 1, 2, 3, 4, 5, 6]⟩,
 ⟨some 32, .load none (.tmp 31), none, [0, 1, 2, 3, 4, 5, 6]⟩,
 ⟨some 33, .move (.tmp 0), none, [0, 1, 2, 3, 4, 5, 6, 7, 8, 9, 10, 11]⟩,
 ⟨some 34, .move (.tmp 5), none, [0, 1, 2, 3, 4, 5, 6, 7, 8, 9, 10, 11, 12]⟩,
 ⟨some 35, .indexAddr 1 (.tmp 33) (.tmp 34), none, [0, 1, 2, 3, 4, 5, 6, 7, 8, 9, 10, 11]⟩,
 ⟨some 36, .load none (.tmp 35), none, [0, 1, 2, 3, 4, 5, 6, 7, 8, 9, 10, 11]⟩,
 ⟨some 37, .bin .plain .sub (.tmp 32) (.tmp 36), none, [0, 1, 2, 3, 4, 5, 6]⟩,
 ⟨some 38, .build [.int .i64 0, .int .i64 0, .int .i64 0] [(0, 1, .tmp 21), (1, 1, .tmp 27), (2, 1, .tmp 37)], none, []⟩,
 ⟨none, .store 3 (.tmp 4) (.tmp 38), none, []⟩]
def k_curve_spotOf_r6s : List (List AOper) := [
  [
  ⟨some 21, .move (.tmp 5), none, []⟩,
 ⟨some 22, .move (.tmp 1), none, [0]⟩,
 ⟨some 23, .move (.tmp 0), none, [0, 1]⟩,
 ⟨some 24, .move (.tmp 5), none, [0, 1, 2]⟩,
 ⟨some 25, .indexAddr 1 (.tmp 23) (.tmp 24), none, [0, 1]⟩,
 ⟨some 26, .load none (.tmp 25), none, [0, 1]⟩,
 ⟨some 27, .bin .plain .sub (.tmp 22) (.tmp 26), none, [0]⟩,
 ⟨some 28, .move (.tmp 0), none, [0, 1, 2, 3, 4, 5, 6]⟩,
 ⟨some 29, .move (.tmp 5), none, [0, 1, 2, 3, 4, 5, 6, 7]⟩,
 ⟨some 30, .bin .plain .add (.tmp 29) (.const (.int .i64 1)), none, [0, 1, 2, 3, 4, 5, 6, 7]⟩,
 ⟨some 31, .indexAddr 1 (.tmp 28) (.tmp 30), none, [0, 1, 2, 3, 4, 5, 6]⟩,
 ⟨some 32, .load none (.tmp 31), none, [0, 1, 2, 3, 4, 5, 6]⟩,
 ⟨some 33, .move (.tmp 0), none, [0, 1, 2, 3, 4, 5, 6, 7, 8, 9, 10, 11]⟩,
 ⟨some 34, .move (.tmp 5), none, [0, 1, 2, 3, 4, 5, 6, 7, 8, 9, 10, 11, 12]⟩,
 ⟨some 35, .indexAddr 1 (.tmp 33) (.tmp 34), none, [0, 1, 2, 3, 4, 5, 6, 7, 8, 9, 10, 11]⟩,
 ⟨some 36, .load none (.tmp 35), none, [0, 1, 2, 3, 4, 5, 6, 7, 8, 9, 10, 11]⟩,
 ⟨some 37, .bin .plain .sub (.tmp 32) (.tmp 36), none, [0, 1, 2, 3, 4, 5, 6]⟩], 
  [
  ⟨some 38, .build [.int .i64 0, .int .i64 0, .int .i64 0] [(0, 1, .tmp 21), (1, 1, .tmp 27), (2, 1, .tmp 37)], none, []⟩], 
  [
  ⟨none, .store 3 (.tmp 4) (.tmp 38), none, []⟩]]
theorem k_curve_spotOf_r6_sg : segs k_curve_spotOf_r6 = k_curve_spotOf_r6s := by kernel_rfl
theorem k_curve_spotOf_r6_st : statOK k_curve_spotOf_r6 = true := by kernel_rfl
def k_curve_spotOf : AFun := { params := 2, ntmps := 39, body := (.seq (.reg k_curve_spotOf_r0 false) (.seq (.reg k_curve_spotOf_r1 false) (.seq (.seq (.reg k_curve_spotOf_r2 false) (.cond (.tmp 12) (.seq (.reg k_curve_spotOf_r3 false) .ret) .skip)) (.seq (.seq (.reg k_curve_spotOf_r4 false) (.cond (.tmp 18) (.seq (.reg k_curve_spotOf_r5 false) .ret) .skip)) (.seq (.reg k_curve_spotOf_r6 true) .ret))))), res := [.cell 4 (some ((some (3))))] }
theorem k_curve_spotOf_ok : cfun Tryd.prog Tryd.f40 = k_curve_spotOf := by kernel_rfl

def k_curve_value_r0 : List AOper := [
  ⟨some 4, .box (.tmp 1), none, []⟩,
 ⟨some 5, .box (.tmp 2), none, []⟩,
 ⟨some 6, .box (.const (.agg [.int .i64 0, .int .i64 0])), none, []⟩]
def k_curve_value_r1 : List AOper := [
  ⟨some 12, .fieldAddr 2 (.tmp 4), none, []⟩,
 ⟨some 13, .load none (.tmp 12), none, []⟩,
 ⟨some 14, .fieldAddr 2 (.tmp 5), none, []⟩,
 ⟨some 15, .load none (.tmp 14), none, []⟩,
 ⟨some 16, .bin .plain .mul (.tmp 13) (.tmp 15), none, []⟩,
 ⟨some 17, .build [.int .i64 0, .int .i64 0] [(1, 1, .tmp 16)], none, []⟩,
 ⟨some 7, .box (.const (.agg [.int .i64 0, .int .i64 0])), none, []⟩,
 ⟨none, .store 2 (.tmp 7) (.tmp 17), none, []⟩]
def k_curve_value_r2 : List AOper := [
  ⟨some 18, .load (some (3)) (.tmp 4), none, []⟩,
 ⟨some 19, .call (.const (.fn (.func 63) [] [])) [.tmp 18], none, []⟩,
 ⟨some 20, .move (.const (.int .i64 0)), none, []⟩]
def k_curve_value_r3 : List AOper := [
  ⟨some 21, .bin .plain .lss (.tmp 20) (.const (.int .i64 2)), none, []⟩]
def k_curve_value_r4 : List AOper := [
  ⟨some 22, .move (.tmp 20), none, []⟩,
 ⟨some 23, .indexAgg 2 1 false (.tmp 19) (.tmp 20), none, []⟩,
 ⟨some 8, .move (.tmp 22), none, []⟩,
 ⟨some 9, .move (.tmp 23), none, []⟩]
def k_curve_value_r5 : List AOper := [
  ⟨some 24, .load (some (3)) (.tmp 5), none, []⟩,
 ⟨some 25, .call (.const (.fn (.func 63) [] [])) [.tmp 24], none, []⟩,
 ⟨some 26, .move (.const (.int .i64 0)), none, []⟩]
def k_curve_value_r6 : List AOper := [
  ⟨some 27, .bin .plain .lss (.tmp 26) (.const (.int .i64 2)), none, []⟩]
def k_curve_value_r7 : List AOper := [
  ⟨some 28, .move (.tmp 26), none, []⟩,
 ⟨some 29, .indexAgg 2 1 false (.tmp 25) (.tmp 26), none, []⟩,
 ⟨some 10, .move (.tmp 28), none, []⟩,
 ⟨some 11, .move (.tmp 29), none, []⟩]
def k_curve_value_r8 : List AOper := [
  ⟨some 30, .move (.tmp 9), none, []⟩,
 ⟨some 31, .bin .plain .neq (.tmp 30) (.const (.int .i64 0)), none, []⟩,
 ⟨some 32, .move (.tmp 31), none, []⟩,
 ⟨some 33, .move (.tmp 11), (some (32, true)), []⟩,
 ⟨some 34, .bin .plain .neq (.tmp 33) (.const (.int .i64 0)), (some (32, true)), []⟩,
 ⟨some 35, .pick (.tmp 32) (.tmp 34) (.const (.bool false)), none, []⟩]
def k_curve_value_r9 : List AOper := [
  ⟨some 36, .fieldAddr 0 (.tmp 7), none, []⟩,
 ⟨some 37, .load none (.tmp 36), none, []⟩,
 ⟨some 38, .move (.tmp 9), none, [0, 1]⟩,
 ⟨some 39, .move (.tmp 11), none, [0, 1, 2]⟩,
 ⟨some 40, .bin .plain .mul (.tmp 38) (.tmp 39), none, [0, 1]⟩,
 ⟨some 41, .move (.tmp 0), none, [0, 1, 2, 3, 4]⟩,
 ⟨some 42, .fieldAddr 0 (.tmp 4), none, [0, 1, 2, 3, 4, 5]⟩,
 ⟨some 43, .load none (.tmp 42), none, [0, 1, 2, 3, 4, 5]⟩,
 ⟨some 44, .move (.tmp 8), none, [0, 1, 2, 3, 4, 5, 6, 7]⟩,
 ⟨some 45, .bin .plain .add (.tmp 43) (.tmp 44), none, [0, 1, 2, 3, 4, 5]⟩,
 ⟨some 46, .indexAddr 1 (.tmp 41) (.tmp 45), none, [0, 1, 2, 3, 4]⟩,
 ⟨some 47, .load none (.tmp 46), none, [0, 1, 2, 3, 4]⟩,
 ⟨some 48, .fieldAddr 0 (.tmp 5), none, [0, 1, 2, 3, 4, 5, 6, 7, 8, 9, 10, 11]⟩,
 ⟨some 49, .load none (.tmp 48), none, [0, 1, 2, 3, 4, 5, 6, 7, 8, 9, 10, 11]⟩,
 ⟨some 50, .move (.tmp 10), none, [0, 1, 2, 3, 4, 5, 6, 7, 8, 9, 10, 11, 12, 13]⟩,
 ⟨some 51, .bin .plain .add (.tmp 49) (.tmp 50), none, [0, 1, 2, 3, 4, 5, 6, 7, 8, 9, 10, 11]⟩,
 ⟨some 52, .indexAddr 1 (.tmp 47) (.tmp 51), none, [0, 1, 2, 3, 4]⟩,
 ⟨some 53, .load none (.tmp 52), none, [0, 1, 2, 3, 4]⟩,
 ⟨some 54, .bin .plain .mul (.tmp 40) (.tmp 53), none, [0, 1]⟩,
 ⟨some 55, .bin .plain .add (.tmp 37) (.tmp 54), none, []⟩,
 ⟨some 56, .fieldAddr 0 (.tmp 7), none, []⟩,
 ⟨none, .store 1 (.tmp 56) (.tmp 55), none, []⟩]
def k_curve_value_r9s : List (List AOper) := [
  [
  ⟨some 36, .fieldAddr 0 (.tmp 7), none, []⟩,
 ⟨some 37, .load none (.tmp 36), none, []⟩,
 ⟨some 38, .move (.tmp 9), none, [0, 1]⟩,
 ⟨some 39, .move (.tmp 11), none, [0, 1, 2]⟩,
 ⟨some 40, .bin .plain .mul (.tmp 38) (.tmp 39), none, [0, 1]⟩,
 ⟨some 41, .move (.tmp 0), none, [0, 1, 2, 3, 4]⟩,
 ⟨some 42, .fieldAddr 0 (.tmp 4), none, [0, 1, 2, 3, 4, 5]⟩,
 ⟨some 43, .load none (.tmp 42), none, [0, 1, 2, 3, 4, 5]⟩,
 ⟨some 44, .move (.tmp 8), none, [0, 1, 2, 3, 4, 5, 6, 7]⟩,
 ⟨some 45, .bin .plain .add (.tmp 43) (.tmp 44), none, [0, 1, 2, 3, 4, 5]⟩,
 ⟨some 46, .indexAddr 1 (.tmp 41) (.tmp 45), none, [0, 1, 2, 3, 4]⟩,
 ⟨some 47, .load none (.tmp 46), none, [0, 1, 2, 3, 4]⟩,
 ⟨some 48, .fieldAddr 0 (.tmp 5), none, [0, 1, 2, 3, 4, 5, 6, 7, 8, 9, 10, 11]⟩,
 ⟨some 49, .load none (.tmp 48), none, [0, 1, 2, 3, 4, 5, 6, 7, 8, 9, 10, 11]⟩,
 ⟨some 50, .move (.tmp 10), none, [0, 1, 2, 3, 4, 5, 6, 7, 8, 9, 10, 11, 12, 13]⟩,
 ⟨some 51, .bin .plain .add (.tmp 49) (.tmp 50), none, [0, 1, 2, 3, 4, 5, 6, 7, 8, 9, 10, 11]⟩,
 ⟨some 52, .indexAddr 1 (.tmp 47) (.tmp 51), none, [0, 1, 2, 3, 4]⟩,
 ⟨some 53, .load none (.tmp 52), none, [0, 1, 2, 3, 4]⟩,
 ⟨some 54, .bin .plain .mul (.tmp 40) (.tmp 53), none, [0, 1]⟩], 
  [
  ⟨some 55, .bin .plain .add (.tmp 37) (.tmp 54), none, []⟩], 
  [
  ⟨some 56, .fieldAddr 0 (.tmp 7), none, []⟩], 
  [
  ⟨none, .store 1 (.tmp 56) (.tmp 55), none, []⟩]]
theorem k_curve_value_r9_sg : segs k_curve_value_r9 = k_curve_value_r9s := by kernel_rfl
theorem k_curve_value_r9_st : statOK k_curve_value_r9 = true := by kernel_rfl
def k_curve_value_r10 : List AOper := [
  ⟨some 57, .bin .plain .add (.tmp 26) (.const (.int .i64 1)), none, []⟩,
 ⟨some 26, .move (.tmp 57), none, []⟩]
def k_curve_value_r11 : ACode := (.seq (.reg k_curve_value_r6 false) (.seq (.cond (.tmp 27) .skip (.exit 2)) (.seq (.block 3 (.seq (.reg k_curve_value_r7 false) (.seq (.reg k_curve_value_r8 false) (.cond (.tmp 35) (.reg k_curve_value_r9 true) .skip)))) (.reg k_curve_value_r10 false))))
def k_curve_value_r12 : List AOper := [
  ⟨some 58, .bin .plain .add (.tmp 20) (.const (.int .i64 1)), none, []⟩,
 ⟨some 20, .move (.tmp 58), none, []⟩]
def k_curve_value_r13 : ACode := (.seq (.reg k_curve_value_r3 false) (.seq (.cond (.tmp 21) .skip (.exit 0)) (.seq (.block 1 (.seq (.reg k_curve_value_r4 false) (.seq (.reg k_curve_value_r5 false) (.block 2 (.loop k_curve_value_r11))))) (.reg k_curve_value_r12 false))))
def k_curve_value_r14 : List AOper := [
  ⟨some 59, .load (some (2)) (.tmp 7), none, []⟩,
 ⟨none, .store 2 (.tmp 6) (.tmp 59), none, []⟩]
def k_curve_value : AFun := { params := 3, ntmps := 60, body := (.seq (.reg k_curve_value_r0 false) (.seq (.reg k_curve_value_r1 false) (.seq (.seq (.reg k_curve_value_r2 false) (.block 0 (.loop k_curve_value_r13))) (.seq (.reg k_curve_value_r14 false) .ret)))), res := [.cell 6 (some ((some (2))))] }
theorem k_curve_value_ok : cfun Tryd.prog Tryd.f41 = k_curve_value := by kernel_rfl

def k_curve_roundUp_r0 : List AOper := [
  ⟨some 4, .move (.const (.int .i64 0)), none, []⟩]
def k_curve_roundUp_r1 : List AOper := [
  ⟨some 5, .move (.tmp 0), none, []⟩,
 ⟨some 6, .move (.tmp 1), none, []⟩,
 ⟨some 7, .bin .plain .add (.tmp 5) (.tmp 6), none, []⟩,
 ⟨some 8, .bin .plain .sub (.tmp 7) (.const (.int .i64 1)), none, []⟩,
 ⟨some 9, .move (.tmp 1), none, []⟩,
 ⟨some 10, .bin .plain .quo (.tmp 8) (.tmp 9), none, []⟩,
 ⟨some 4, .move (.tmp 10), none, []⟩]
def k_curve_roundUp : AFun := { params := 2, ntmps := 11, body := (.seq (.reg k_curve_roundUp_r0 false) (.seq (.reg k_curve_roundUp_r1 false) .ret)), res := [.tmp 4] }
theorem k_curve_roundUp_ok : cfun Tryd.prog Tryd.f42 = k_curve_roundUp := by kernel_rfl

def k_curve_checkLines_r0 : List AOper := [
  ⟨some 4, .move (.const (.int .i64 0)), none, []⟩]
def k_curve_checkLines_r1 : List AOper := [
  ⟨some 6, .move (.tmp 0), none, []⟩,
 ⟨some 7, .len false (.tmp 6), none, []⟩,
 ⟨some 8, .bin .plain .eql (.tmp 7) (.const (.int .i64 0)), none, []⟩,
 ⟨some 9, .move (.tmp 8), none, []⟩,
 ⟨some 10, .move (.tmp 1), (some (9, false)), []⟩,
 ⟨some 11, .len false (.tmp 10), (some (9, false)), []⟩,
 ⟨some 12, .bin .plain .eql (.tmp 11) (.const (.int .i64 0)), (some (9, false)), []⟩,
 ⟨some 13, .pick (.tmp 9) (.const (.bool true)) (.tmp 12), none, []⟩]
def k_curve_checkLines_r2 : List AOper := [
  ⟨some 4, .move (.const (.int .i64 6)), none, []⟩]
def k_curve_checkLines_r3 : List AOper := [
  ⟨some 14, .move (.tmp 0), none, []⟩,
 ⟨some 15, .len false (.tmp 14), none, []⟩,
 ⟨some 16, .bin .plain .gtr (.tmp 15) (.const (.int .i64 40)), none, []⟩,
 ⟨some 17, .move (.tmp 16), none, []⟩,
 ⟨some 18, .move (.tmp 1), (some (17, false)), []⟩,
 ⟨some 19, .len false (.tmp 18), (some (17, false)), []⟩,
 ⟨some 20, .bin .plain .gtr (.tmp 19) (.const (.int .i64 40)), (some (17, false)), []⟩,
 ⟨some 21, .pick (.tmp 17) (.const (.bool true)) (.tmp 20), none, []⟩]
def k_curve_checkLines_r4 : List AOper := [
  ⟨some 4, .move (.const (.int .i64 8)), none, []⟩]
def k_curve_checkLines_r5 : List AOper := [
  ⟨some 22, .move (.tmp 0), none, []⟩,
 ⟨some 23, .call (.const (.fn (.func 64) [] [])) [.tmp 22, .const (.fn (.func 38) [] [])], none, []⟩,
 ⟨some 5, .move (.tmp 23), none, []⟩]
def k_curve_checkLines_r6 : List AOper := [
  ⟨some 24, .move (.tmp 5), none, []⟩,
 ⟨some 25, .bin .plain .neq (.tmp 24) (.const (.int .i64 0)), none, []⟩]
def k_curve_checkLines_r7 : List AOper := [
  ⟨some 26, .move (.tmp 5), none, []⟩,
 ⟨some 4, .move (.tmp 26), none, []⟩]
def k_curve_checkLines_r8 : List AOper := [
  ⟨some 27, .move (.tmp 1), none, []⟩,
 ⟨some 28, .call (.const (.fn (.func 64) [] [])) [.tmp 27, .const (.fn (.func 39) [] [])], none, []⟩,
 ⟨some 4, .move (.tmp 28), none, []⟩]
def k_curve_checkLines : AFun := { params := 2, ntmps := 29, body := (.seq (.reg k_curve_checkLines_r0 false) (.seq (.seq (.reg k_curve_checkLines_r1 false) (.cond (.tmp 13) (.seq (.reg k_curve_checkLines_r2 false) .ret) .skip)) (.seq (.seq (.reg k_curve_checkLines_r3 false) (.cond (.tmp 21) (.seq (.reg k_curve_checkLines_r4 false) .ret) .skip)) (.seq (.seq (.reg k_curve_checkLines_r5 false) (.seq (.reg k_curve_checkLines_r6 false) (.cond (.tmp 25) (.seq (.reg k_curve_checkLines_r7 false) .ret) .skip))) (.seq (.reg k_curve_checkLines_r8 false) .ret))))), res := [.tmp 4] }
theorem k_curve_checkLines_ok : cfun Tryd.prog Tryd.f43 = k_curve_checkLines := by kernel_rfl

def k_curve_hasForm_r0 : List AOper := [
  ⟨some 3, .box (.tmp 1), none, []⟩,
 ⟨some 4, .move (.const (.bool false)), none, []⟩]
def k_curve_hasForm_r1 : List AOper := [
  ⟨some 7, .move (.tmp 0), none, []⟩,
 ⟨some 8, .len false (.tmp 7), none, []⟩,
 ⟨some 9, .move (.const (.int .i64 0)), none, []⟩]
def k_curve_hasForm_r2 : List AOper := [
  ⟨some 10, .bin .plain .lss (.tmp 9) (.tmp 8), none, []⟩]
def k_curve_hasForm_r3 : List AOper := [
  ⟨some 11, .indexAddr 1 (.tmp 7) (.tmp 9), none, []⟩,
 ⟨some 12, .load none (.tmp 11), none, []⟩,
 ⟨some 6, .move (.tmp 12), none, []⟩]
def k_curve_hasForm_r4 : List AOper := [
  ⟨some 13, .move (.tmp 6), none, []⟩,
 ⟨some 14, .len false (.tmp 13), none, []⟩,
 ⟨some 15, .fieldAddr 1 (.tmp 3), none, []⟩,
 ⟨some 16, .load none (.tmp 15), none, []⟩,
 ⟨some 17, .len false (.tmp 16), none, []⟩,
 ⟨some 18, .bin .plain .neq (.tmp 14) (.tmp 17), none, []⟩]
def k_curve_hasForm_r5 : List AOper := [
  ⟨some 4, .move (.const (.bool false)), none, []⟩]
def k_curve_hasForm_r6 : List AOper := [
  ⟨some 19, .bin .plain .add (.tmp 9) (.const (.int .i64 1)), none, []⟩,
 ⟨some 9, .move (.tmp 19), none, []⟩]
def k_curve_hasForm_r7 : ACode := (.seq (.reg k_curve_hasForm_r2 false) (.seq (.cond (.tmp 10) .skip (.exit 0)) (.seq (.block 1 (.seq (.reg k_curve_hasForm_r3 false) (.seq (.reg k_curve_hasForm_r4 false) (.cond (.tmp 18) (.seq (.reg k_curve_hasForm_r5 false) .ret) .skip)))) (.reg k_curve_hasForm_r6 false))))
def k_curve_hasForm_r8 : List AOper := [
  ⟨some 20, .move (.tmp 0), none, []⟩,
 ⟨some 21, .len false (.tmp 20), none, []⟩,
 ⟨some 22, .fieldAddr 0 (.tmp 3), none, []⟩,
 ⟨some 23, .load none (.tmp 22), none, []⟩,
 ⟨some 24, .len false (.tmp 23), none, []⟩,
 ⟨some 25, .bin .plain .eql (.tmp 21) (.tmp 24), none, []⟩,
 ⟨some 4, .move (.tmp 25), none, []⟩]
def k_curve_hasForm : AFun := { params := 2, ntmps := 26, body := (.seq (.reg k_curve_hasForm_r0 false) (.seq (.seq (.reg k_curve_hasForm_r1 false) (.block 0 (.loop k_curve_hasForm_r7))) (.seq (.reg k_curve_hasForm_r8 false) .ret))), res := [.tmp 4] }
theorem k_curve_hasForm_ok : cfun Tryd.prog Tryd.f44 = k_curve_hasForm := by kernel_rfl

def k_curve_checkPlace_r0 : List AOper := [
  ⟨some 3, .box (.tmp 0), none, []⟩,
 ⟨some 6, .move (.const (.int .i64 0)), none, []⟩]
def k_curve_checkPlace_r1 : List AOper := [
  ⟨some 9, .fieldAddr 2 (.tmp 3), none, []⟩,
 ⟨some 10, .load none (.tmp 9), none, []⟩,
 ⟨some 11, .move (.tmp 1), none, [0, 1]⟩,
 ⟨some 12, .indexAddr 1 (.tmp 10) (.tmp 11), none, []⟩,
 ⟨some 13, .load none (.tmp 12), none, []⟩,
 ⟨some 14, .move (.tmp 2), none, [0, 1, 2, 3, 4]⟩,
 ⟨some 15, .indexAddr 1 (.tmp 13) (.tmp 14), none, []⟩,
 ⟨some 16, .load none (.tmp 15), none, []⟩,
 ⟨some 17, .fieldAddr 3 (.tmp 3), none, [0, 1, 2, 3, 4, 5, 6, 7]⟩,
 ⟨some 18, .load none (.tmp 17), none, [0, 1, 2, 3, 4, 5, 6, 7]⟩,
 ⟨some 19, .move (.tmp 1), none, [0, 1, 2, 3, 4, 5, 6, 7, 8, 9]⟩,
 ⟨some 20, .indexAddr 1 (.tmp 18) (.tmp 19), none, [0, 1, 2, 3, 4, 5, 6, 7]⟩,
 ⟨some 21, .load none (.tmp 20), none, [0, 1, 2, 3, 4, 5, 6, 7]⟩,
 ⟨some 22, .move (.tmp 2), none, [0, 1, 2, 3, 4, 5, 6, 7, 8, 9, 10, 11, 12]⟩,
 ⟨some 23, .indexAddr 1 (.tmp 21) (.tmp 22), none, [0, 1, 2, 3, 4, 5, 6, 7]⟩,
 ⟨some 24, .load none (.tmp 23), none, [0, 1, 2, 3, 4, 5, 6, 7]⟩,
 ⟨some 7, .move (.tmp 16), none, [8, 9, 10, 11, 12, 13, 14, 15]⟩,
 ⟨some 8, .move (.tmp 24), none, []⟩]
def k_curve_checkPlace_r1s : List (List AOper) := [
  [
  ⟨some 9, .fieldAddr 2 (.tmp 3), none, []⟩,
 ⟨some 10, .load none (.tmp 9), none, []⟩,
 ⟨some 11, .move (.tmp 1), none, [0, 1]⟩,
 ⟨some 12, .indexAddr 1 (.tmp 10) (.tmp 11), none, []⟩,
 ⟨some 13, .load none (.tmp 12), none, []⟩,
 ⟨some 14, .move (.tmp 2), none, [0, 1, 2, 3, 4]⟩,
 ⟨some 15, .indexAddr 1 (.tmp 13) (.tmp 14), none, []⟩,
 ⟨some 16, .load none (.tmp 15), none, []⟩,
 ⟨some 17, .fieldAddr 3 (.tmp 3), none, [0, 1, 2, 3, 4, 5, 6, 7]⟩,
 ⟨some 18, .load none (.tmp 17), none, [0, 1, 2, 3, 4, 5, 6, 7]⟩,
 ⟨some 19, .move (.tmp 1), none, [0, 1, 2, 3, 4, 5, 6, 7, 8, 9]⟩,
 ⟨some 20, .indexAddr 1 (.tmp 18) (.tmp 19), none, [0, 1, 2, 3, 4, 5, 6, 7]⟩,
 ⟨some 21, .load none (.tmp 20), none, [0, 1, 2, 3, 4, 5, 6, 7]⟩,
 ⟨some 22, .move (.tmp 2), none, [0, 1, 2, 3, 4, 5, 6, 7, 8, 9, 10, 11, 12]⟩,
 ⟨some 23, .indexAddr 1 (.tmp 21) (.tmp 22), none, [0, 1, 2, 3, 4, 5, 6, 7]⟩,
 ⟨some 24, .load none (.tmp 23), none, [0, 1, 2, 3, 4, 5, 6, 7]⟩,
 ⟨some 7, .move (.tmp 16), none, [8, 9, 10, 11, 12, 13, 14, 15]⟩], 
  [
  ⟨some 8, .move (.tmp 24), none, []⟩]]
theorem k_curve_checkPlace_r1_sg : segs k_curve_checkPlace_r1 = k_curve_checkPlace_r1s := by kernel_rfl
theorem k_curve_checkPlace_r1_st : statOK k_curve_checkPlace_r1 = true := by kernel_rfl
def k_curve_checkPlace_r2 : List AOper := [
  ⟨some 25, .move (.tmp 7), none, []⟩,
 ⟨some 26, .call (.const (.fn (.func 61) [] [])) [.tmp 25, .const (.int .i64 0), .const (.int .i64 1000000)], none, []⟩,
 ⟨some 27, .not (.tmp 26), none, []⟩,
 ⟨some 28, .move (.tmp 27), none, []⟩,
 ⟨some 29, .move (.tmp 8), (some (28, false)), []⟩,
 ⟨some 30, .call (.const (.fn (.func 61) [] [])) [.tmp 29, .const (.int .i64 0), .const (.int .i64 1000000)], (some (28, false)), []⟩,
 ⟨some 31, .not (.tmp 30), (some (28, false)), []⟩,
 ⟨some 32, .pick (.tmp 28) (.const (.bool true)) (.tmp 31), none, []⟩]
def k_curve_checkPlace_r3 : List AOper := [
  ⟨some 6, .move (.const (.int .i64 2)), none, []⟩]
def k_curve_checkPlace_r4 : List AOper := [
  ⟨some 33, .move (.tmp 7), none, []⟩,
 ⟨some 34, .move (.tmp 8), none, []⟩,
 ⟨some 35, .bin .plain .gtr (.tmp 33) (.tmp 34), none, []⟩]
def k_curve_checkPlace_r5 : List AOper := [
  ⟨some 6, .move (.const (.int .i64 12)), none, []⟩]
def k_curve_checkPlace_r6 : List AOper := [
  ⟨some 36, .move (.tmp 2), none, []⟩,
 ⟨some 37, .bin .plain .gtr (.tmp 36) (.const (.int .i64 0)), none, []⟩,
 ⟨some 38, .move (.tmp 37), none, []⟩,
 ⟨some 39, .move (.tmp 7), (some (38, true)), []⟩,
 ⟨some 40, .fieldAddr 2 (.tmp 3), (some (38, true)), []⟩,
 ⟨some 41, .load none (.tmp 40), (some (38, true)), []⟩,
 ⟨some 42, .move (.tmp 1), (some (38, true)), []⟩,
 ⟨some 43, .indexAddr 1 (.tmp 41) (.tmp 42), (some (38, true)), []⟩,
 ⟨some 44, .load none (.tmp 43), (some (38, true)), []⟩,
 ⟨some 45, .move (.tmp 2), (some (38, true)), []⟩,
 ⟨some 46, .bin .plain .sub (.tmp 45) (.const (.int .i64 1)), (some (38, true)), []⟩,
 ⟨some 47, .indexAddr 1 (.tmp 44) (.tmp 46), (some (38, true)), []⟩,
 ⟨some 48, .load none (.tmp 47), (some (38, true)), []⟩,
 ⟨some 49, .bin .plain .lss (.tmp 39) (.tmp 48), (some (38, true)), []⟩,
 ⟨some 50, .move (.tmp 49), (some (38, true)), []⟩,
 ⟨some 51, .move (.tmp 8), (some (50, false)), []⟩,
 ⟨some 52, .fieldAddr 3 (.tmp 3), (some (50, false)), []⟩,
 ⟨some 53, .load none (.tmp 52), (some (50, false)), []⟩,
 ⟨some 54, .move (.tmp 1), (some (50, false)), []⟩,
 ⟨some 55, .indexAddr 1 (.tmp 53) (.tmp 54), (some (50, false)), []⟩,
 ⟨some 56, .load none (.tmp 55), (some (50, false)), []⟩,
 ⟨some 57, .move (.tmp 2), (some (50, false)), []⟩,
 ⟨some 58, .bin .plain .sub (.tmp 57) (.const (.int .i64 1)), (some (50, false)), []⟩,
 ⟨some 59, .indexAddr 1 (.tmp 56) (.tmp 58), (some (50, false)), []⟩,
 ⟨some 60, .load none (.tmp 59), (some (50, false)), []⟩,
 ⟨some 61, .bin .plain .lss (.tmp 51) (.tmp 60), (some (50, false)), []⟩,
 ⟨some 62, .pick (.tmp 50) (.const (.bool true)) (.tmp 61), (some (38, true)), []⟩,
 ⟨some 63, .pick (.tmp 38) (.tmp 62) (.const (.bool false)), none, []⟩]
def k_curve_checkPlace_r7 : List AOper := [
  ⟨some 6, .move (.const (.int .i64 11)), none, []⟩]
def k_curve_checkPlace_r8 : List AOper := [
  ⟨some 64, .move (.tmp 1), none, []⟩,
 ⟨some 65, .bin .plain .gtr (.tmp 64) (.const (.int .i64 0)), none, []⟩,
 ⟨some 66, .move (.tmp 65), none, []⟩,
 ⟨some 67, .move (.tmp 7), (some (66, true)), []⟩,
 ⟨some 68, .fieldAddr 2 (.tmp 3), (some (66, true)), []⟩,
 ⟨some 69, .load none (.tmp 68), (some (66, true)), []⟩,
 ⟨some 70, .move (.tmp 1), (some (66, true)), []⟩,
 ⟨some 71, .bin .plain .sub (.tmp 70) (.const (.int .i64 1)), (some (66, true)), []⟩,
 ⟨some 72, .indexAddr 1 (.tmp 69) (.tmp 71), (some (66, true)), []⟩,
 ⟨some 73, .load none (.tmp 72), (some (66, true)), []⟩,
 ⟨some 74, .move (.tmp 2), (some (66, true)), []⟩,
 ⟨some 75, .indexAddr 1 (.tmp 73) (.tmp 74), (some (66, true)), []⟩,
 ⟨some 76, .load none (.tmp 75), (some (66, true)), []⟩,
 ⟨some 77, .bin .plain .lss (.tmp 67) (.tmp 76), (some (66, true)), []⟩,
 ⟨some 78, .move (.tmp 77), (some (66, true)), []⟩,
 ⟨some 79, .move (.tmp 8), (some (78, false)), []⟩,
 ⟨some 80, .fieldAddr 3 (.tmp 3), (some (78, false)), []⟩,
 ⟨some 81, .load none (.tmp 80), (some (78, false)), []⟩,
 ⟨some 82, .move (.tmp 1), (some (78, false)), []⟩,
 ⟨some 83, .bin .plain .sub (.tmp 82) (.const (.int .i64 1)), (some (78, false)), []⟩,
 ⟨some 84, .indexAddr 1 (.tmp 81) (.tmp 83), (some (78, false)), []⟩,
 ⟨some 85, .load none (.tmp 84), (some (78, false)), []⟩,
 ⟨some 86, .move (.tmp 2), (some (78, false)), []⟩,
 ⟨some 87, .indexAddr 1 (.tmp 85) (.tmp 86), (some (78, false)), []⟩,
 ⟨some 88, .load none (.tmp 87), (some (78, false)), []⟩,
 ⟨some 89, .bin .plain .lss (.tmp 79) (.tmp 88), (some (78, false)), []⟩,
 ⟨some 90, .pick (.tmp 78) (.const (.bool true)) (.tmp 89), (some (66, true)), []⟩,
 ⟨some 91, .pick (.tmp 66) (.tmp 90) (.const (.bool false)), none, []⟩]
def k_curve_checkPlace_r9 : List AOper := [
  ⟨some 6, .move (.const (.int .i64 11)), none, []⟩]
def k_curve_checkPlace_r10 : List AOper := [
  ⟨some 6, .move (.const (.int .i64 0)), none, []⟩]
def k_curve_checkPlace : AFun := { params := 3, ntmps := 92, body := (.seq (.reg k_curve_checkPlace_r0 false) (.seq (.reg k_curve_checkPlace_r1 true) (.seq (.seq (.reg k_curve_checkPlace_r2 false) (.cond (.tmp 32) (.seq (.reg k_curve_checkPlace_r3 false) .ret) .skip)) (.seq (.seq (.reg k_curve_checkPlace_r4 false) (.cond (.tmp 35) (.seq (.reg k_curve_checkPlace_r5 false) .ret) .skip)) (.seq (.seq (.reg k_curve_checkPlace_r6 false) (.cond (.tmp 63) (.seq (.reg k_curve_checkPlace_r7 false) .ret) .skip)) (.seq (.seq (.reg k_curve_checkPlace_r8 false) (.cond (.tmp 91) (.seq (.reg k_curve_checkPlace_r9 false) .ret) .skip)) (.seq (.reg k_curve_checkPlace_r10 false) .ret))))))), res := [.tmp 6] }
theorem k_curve_checkPlace_ok : cfun Tryd.prog Tryd.f45 = k_curve_checkPlace := by kernel_rfl

def k_curve_drive_r0 : List AOper := [
  ⟨some 3, .box (.tmp 0), none, []⟩,
 ⟨some 6, .box (.const (.agg [.int .i64 0, .int .i64 0])), none, []⟩]
def k_curve_drive_r1 : List AOper := [
  ⟨some 7, .move (.tmp 1), none, []⟩,
 ⟨some 8, .fieldAddr 4 (.tmp 3), none, [0]⟩,
 ⟨some 9, .fieldAddr 0 (.tmp 8), none, [0]⟩,
 ⟨some 10, .load none (.tmp 9), none, [0]⟩,
 ⟨some 11, .bin .plain .add (.tmp 7) (.tmp 10), none, []⟩,
 ⟨some 12, .move (.tmp 2), none, [0, 1, 2, 3, 4]⟩,
 ⟨some 13, .bin .plain .mul (.const (.int .i64 1000)) (.tmp 12), none, [0, 1, 2, 3, 4]⟩,
 ⟨some 14, .fieldAddr 2 (.tmp 3), none, [0, 1, 2, 3, 4, 5, 6]⟩,
 ⟨some 15, .fieldAddr 1 (.tmp 14), none, [0, 1, 2, 3, 4, 5, 6]⟩,
 ⟨some 16, .load none (.tmp 15), none, [0, 1, 2, 3, 4, 5, 6]⟩,
 ⟨some 17, .bin .plain .quo (.tmp 13) (.tmp 16), none, [0, 1, 2, 3, 4]⟩,
 ⟨some 18, .bin .plain .add (.tmp 11) (.tmp 17), none, []⟩,
 ⟨some 19, .call (.const (.fn (.func 71) [] [])) [.tmp 18, .const (.int .i64 0), .const (.int .i64 1000000)], none, []⟩,
 ⟨some 20, .move (.tmp 1), none, [0, 1, 2, 3, 4, 5, 6, 7, 8, 9, 10, 11, 12]⟩,
 ⟨some 21, .fieldAddr 4 (.tmp 3), none, [0, 1, 2, 3, 4, 5, 6, 7, 8, 9, 10, 11, 12, 13]⟩,
 ⟨some 22, .fieldAddr 1 (.tmp 21), none, [0, 1, 2, 3, 4, 5, 6, 7, 8, 9, 10, 11, 12, 13]⟩,
 ⟨some 23, .load none (.tmp 22), none, [0, 1, 2, 3, 4, 5, 6, 7, 8, 9, 10, 11, 12, 13]⟩,
 ⟨some 24, .bin .plain .add (.tmp 20) (.tmp 23), none, [0, 1, 2, 3, 4, 5, 6, 7, 8, 9, 10, 11, 12]⟩,
 ⟨some 25, .move (.tmp 2), none, [0, 1, 2, 3, 4, 5, 6, 7, 8, 9, 10, 11, 12, 13, 14, 15, 16, 17]⟩,
 ⟨some 26, .bin .plain .mul (.const (.int .i64 1000)) (.tmp 25), none, [0, 1, 2, 3, 4, 5, 6, 7, 8, 9, 10, 11, 12, 13, 14, 15, 16, 17]⟩,
 ⟨some 27, .fieldAddr 2 (.tmp 3), none, [0, 1, 2, 3, 4, 5, 6, 7, 8, 9, 10, 11, 12, 13, 14, 15, 16, 17, 18, 19]⟩,
 ⟨some 28, .fieldAddr 0 (.tmp 27), none, [0, 1, 2, 3, 4, 5, 6, 7, 8, 9, 10, 11, 12, 13, 14, 15, 16, 17, 18, 19]⟩,
 ⟨some 29, .load none (.tmp 28), none, [0, 1, 2, 3, 4, 5, 6, 7, 8, 9, 10, 11, 12, 13, 14, 15, 16, 17, 18, 19]⟩,
 ⟨some 30, .call (.const (.fn (.func 42) [] [])) [.tmp 26, .tmp 29], none, [13, 14, 15, 16, 17]⟩,
 ⟨some 31, .bin .plain .add (.tmp 24) (.tmp 30), none, []⟩,
 ⟨some 32, .call (.const (.fn (.func 71) [] [])) [.tmp 31, .const (.int .i64 0), .const (.int .i64 1000000)], none, []⟩,
 ⟨some 33, .build [.int .i64 0, .int .i64 0] [(0, 1, .tmp 19), (1, 1, .tmp 32)], none, []⟩,
 ⟨none, .store 2 (.tmp 6) (.tmp 33), none, []⟩]
def k_curve_drive_r1s : List (List AOper) := [
  [
  ⟨some 7, .move (.tmp 1), none, []⟩,
 ⟨some 8, .fieldAddr 4 (.tmp 3), none, [0]⟩,
 ⟨some 9, .fieldAddr 0 (.tmp 8), none, [0]⟩,
 ⟨some 10, .load none (.tmp 9), none, [0]⟩,
 ⟨some 11, .bin .plain .add (.tmp 7) (.tmp 10), none, []⟩,
 ⟨some 12, .move (.tmp 2), none, [0, 1, 2, 3, 4]⟩,
 ⟨some 13, .bin .plain .mul (.const (.int .i64 1000)) (.tmp 12), none, [0, 1, 2, 3, 4]⟩,
 ⟨some 14, .fieldAddr 2 (.tmp 3), none, [0, 1, 2, 3, 4, 5, 6]⟩,
 ⟨some 15, .fieldAddr 1 (.tmp 14), none, [0, 1, 2, 3, 4, 5, 6]⟩,
 ⟨some 16, .load none (.tmp 15), none, [0, 1, 2, 3, 4, 5, 6]⟩,
 ⟨some 17, .bin .plain .quo (.tmp 13) (.tmp 16), none, [0, 1, 2, 3, 4]⟩,
 ⟨some 18, .bin .plain .add (.tmp 11) (.tmp 17), none, []⟩,
 ⟨some 19, .call (.const (.fn (.func 71) [] [])) [.tmp 18, .const (.int .i64 0), .const (.int .i64 1000000)], none, []⟩,
 ⟨some 20, .move (.tmp 1), none, [0, 1, 2, 3, 4, 5, 6, 7, 8, 9, 10, 11, 12]⟩,
 ⟨some 21, .fieldAddr 4 (.tmp 3), none, [0, 1, 2, 3, 4, 5, 6, 7, 8, 9, 10, 11, 12, 13]⟩,
 ⟨some 22, .fieldAddr 1 (.tmp 21), none, [0, 1, 2, 3, 4, 5, 6, 7, 8, 9, 10, 11, 12, 13]⟩,
 ⟨some 23, .load none (.tmp 22), none, [0, 1, 2, 3, 4, 5, 6, 7, 8, 9, 10, 11, 12, 13]⟩,
 ⟨some 24, .bin .plain .add (.tmp 20) (.tmp 23), none, [0, 1, 2, 3, 4, 5, 6, 7, 8, 9, 10, 11, 12]⟩,
 ⟨some 25, .move (.tmp 2), none, [0, 1, 2, 3, 4, 5, 6, 7, 8, 9, 10, 11, 12, 13, 14, 15, 16, 17]⟩,
 ⟨some 26, .bin .plain .mul (.const (.int .i64 1000)) (.tmp 25), none, [0, 1, 2, 3, 4, 5, 6, 7, 8, 9, 10, 11, 12, 13, 14, 15, 16, 17]⟩,
 ⟨some 27, .fieldAddr 2 (.tmp 3), none, [0, 1, 2, 3, 4, 5, 6, 7, 8, 9, 10, 11, 12, 13, 14, 15, 16, 17, 18, 19]⟩,
 ⟨some 28, .fieldAddr 0 (.tmp 27), none, [0, 1, 2, 3, 4, 5, 6, 7, 8, 9, 10, 11, 12, 13, 14, 15, 16, 17, 18, 19]⟩,
 ⟨some 29, .load none (.tmp 28), none, [0, 1, 2, 3, 4, 5, 6, 7, 8, 9, 10, 11, 12, 13, 14, 15, 16, 17, 18, 19]⟩,
 ⟨some 30, .call (.const (.fn (.func 42) [] [])) [.tmp 26, .tmp 29], none, [13, 14, 15, 16, 17]⟩], 
  [
  ⟨some 31, .bin .plain .add (.tmp 24) (.tmp 30), none, []⟩], 
  [
  ⟨some 32, .call (.const (.fn (.func 71) [] [])) [.tmp 31, .const (.int .i64 0), .const (.int .i64 1000000)], none, []⟩], 
  [
  ⟨some 33, .build [.int .i64 0, .int .i64 0] [(0, 1, .tmp 19), (1, 1, .tmp 32)], none, []⟩], 
  [
  ⟨none, .store 2 (.tmp 6) (.tmp 33), none, []⟩]]
theorem k_curve_drive_r1_sg : segs k_curve_drive_r1 = k_curve_drive_r1s := by kernel_rfl
theorem k_curve_drive_r1_st : statOK k_curve_drive_r1 = true := by kernel_rfl
def k_curve_drive : AFun := { params := 3, ntmps := 34, body := (.seq (.reg k_curve_drive_r0 false) (.seq (.reg k_curve_drive_r1 true) .ret)), res := [.cell 6 (some ((some (2))))] }
theorem k_curve_drive_ok : cfun Tryd.prog Tryd.f58 = k_curve_drive := by kernel_rfl

def k_curve_rootDown_r0 : List AOper := [
  ⟨some 2, .move (.const (.int .i64 0)), none, []⟩]
def k_curve_rootDown_r1 : List AOper := [
  ⟨some 5, .move (.tmp 0), none, []⟩,
 ⟨some 6, .bin .plain .eql (.tmp 5) (.const (.int .i64 0)), none, []⟩]
def k_curve_rootDown_r2 : List AOper := [
  ⟨some 2, .move (.const (.int .i64 0)), none, []⟩]
def k_curve_rootDown_r3 : List AOper := [
  ⟨some 7, .move (.tmp 0), none, []⟩,
 ⟨some 8, .toInt .u64 (.tmp 7), none, []⟩,
 ⟨some 9, .call (.const (.fn (.func 72) [] [])) [.tmp 8], none, []⟩,
 ⟨some 10, .bin .plain .add (.tmp 9) (.const (.int .i64 1)), none, []⟩,
 ⟨some 11, .bin .plain .quo (.tmp 10) (.const (.int .i64 2)), none, []⟩,
 ⟨some 12, .bin .plain .shl (.const (.int .i64 1)) (.tmp 11), none, []⟩,
 ⟨some 3, .move (.tmp 12), none, []⟩]
def k_curve_rootDown_r4 : List AOper := [
  ⟨some 13, .move (.tmp 3), none, []⟩,
 ⟨some 14, .move (.tmp 0), none, []⟩,
 ⟨some 15, .move (.tmp 3), none, []⟩,
 ⟨some 16, .bin .plain .quo (.tmp 14) (.tmp 15), none, []⟩,
 ⟨some 17, .bin .plain .add (.tmp 13) (.tmp 16), none, []⟩,
 ⟨some 18, .bin .plain .quo (.tmp 17) (.const (.int .i64 2)), none, []⟩,
 ⟨some 4, .move (.tmp 18), none, []⟩]
def k_curve_rootDown_r5 : List AOper := [
  ⟨some 19, .move (.tmp 4), none, []⟩,
 ⟨some 20, .move (.tmp 3), none, []⟩,
 ⟨some 21, .bin .plain .geq (.tmp 19) (.tmp 20), none, []⟩]
def k_curve_rootDown_r6 : List AOper := [
  ⟨some 22, .move (.tmp 3), none, []⟩,
 ⟨some 2, .move (.tmp 22), none, []⟩]
def k_curve_rootDown_r7 : List AOper := [
  ⟨some 23, .move (.tmp 4), none, []⟩,
 ⟨some 3, .move (.tmp 23), none, []⟩]
def k_curve_rootDown_r8 : ACode := (.block 1 (.seq (.reg k_curve_rootDown_r4 false) (.seq (.seq (.reg k_curve_rootDown_r5 false) (.cond (.tmp 21) (.seq (.reg k_curve_rootDown_r6 false) .ret) .skip)) (.reg k_curve_rootDown_r7 false))))
def k_curve_rootDown : AFun := { params := 1, ntmps := 24, body := (.seq (.reg k_curve_rootDown_r0 false) (.seq (.seq (.reg k_curve_rootDown_r1 false) (.cond (.tmp 6) (.seq (.reg k_curve_rootDown_r2 false) .ret) .skip)) (.seq (.reg k_curve_rootDown_r3 false) (.block 0 (.loop k_curve_rootDown_r8))))), res := [.tmp 2] }
theorem k_curve_rootDown_ok : cfun Tryd.prog Tryd.f59 = k_curve_rootDown := by kernel_rfl

def k_curve_rootUp_r0 : List AOper := [
  ⟨some 2, .move (.const (.int .i64 0)), none, []⟩]
def k_curve_rootUp_r1 : List AOper := [
  ⟨some 4, .move (.tmp 0), none, []⟩,
 ⟨some 5, .call (.const (.fn (.func 59) [] [])) [.tmp 4], none, []⟩,
 ⟨some 3, .move (.tmp 5), none, []⟩]
def k_curve_rootUp_r2 : List AOper := [
  ⟨some 6, .move (.tmp 3), none, []⟩,
 ⟨some 7, .move (.tmp 3), none, []⟩,
 ⟨some 8, .bin .plain .mul (.tmp 6) (.tmp 7), none, []⟩,
 ⟨some 9, .move (.tmp 0), none, []⟩,
 ⟨some 10, .bin .plain .lss (.tmp 8) (.tmp 9), none, []⟩]
def k_curve_rootUp_r3 : List AOper := [
  ⟨some 11, .move (.tmp 3), none, []⟩,
 ⟨some 12, .bin .plain .add (.tmp 11) (.const (.int .i64 1)), none, []⟩,
 ⟨some 3, .move (.tmp 12), none, []⟩]
def k_curve_rootUp_r4 : List AOper := [
  ⟨some 13, .move (.tmp 3), none, []⟩,
 ⟨some 2, .move (.tmp 13), none, []⟩]
def k_curve_rootUp : AFun := { params := 1, ntmps := 14, body := (.seq (.reg k_curve_rootUp_r0 false) (.seq (.reg k_curve_rootUp_r1 false) (.seq (.seq (.reg k_curve_rootUp_r2 false) (.cond (.tmp 10) (.reg k_curve_rootUp_r3 false) .skip)) (.seq (.reg k_curve_rootUp_r4 false) .ret)))), res := [.tmp 2] }
theorem k_curve_rootUp_ok : cfun Tryd.prog Tryd.f60 = k_curve_rootUp := by kernel_rfl

def k_curve_within_r0 : List AOper := [
  ⟨some 6, .move (.const (.bool false)), none, []⟩]
def k_curve_within_r1 : List AOper := [
  ⟨some 7, .move (.tmp 1), none, []⟩,
 ⟨some 8, .move (.tmp 0), none, []⟩,
 ⟨some 9, .bin .plain .leq (.tmp 7) (.tmp 8), none, []⟩,
 ⟨some 10, .move (.tmp 9), none, []⟩,
 ⟨some 11, .move (.tmp 0), (some (10, true)), []⟩,
 ⟨some 12, .move (.tmp 2), (some (10, true)), []⟩,
 ⟨some 13, .bin .plain .leq (.tmp 11) (.tmp 12), (some (10, true)), []⟩,
 ⟨some 14, .pick (.tmp 10) (.tmp 13) (.const (.bool false)), none, []⟩,
 ⟨some 6, .move (.tmp 14), none, []⟩]
def k_curve_within : AFun := { params := 3, ntmps := 15, body := (.seq (.reg k_curve_within_r0 false) (.seq (.reg k_curve_within_r1 false) .ret)), res := [.tmp 6] }
theorem k_curve_within_ok : cfun Tryd.prog Tryd.f61 = k_curve_within := by kernel_rfl

def k_sort_SearchInts_r0 : List AOper := [
  ⟨some 2, .box (.tmp 0), none, []⟩,
 ⟨some 3, .box (.tmp 1), none, []⟩,
 ⟨some 4, .move (.const (.int .i64 0)), none, []⟩]
def k_sort_SearchInts_r1 : List AOper := [
  ⟨some 5, .load none (.tmp 2), none, []⟩,
 ⟨some 6, .len false (.tmp 5), none, []⟩,
 ⟨some 7, .makeFunc (.func 73) [] [.tmp 2, .tmp 3], none, []⟩,
 ⟨some 8, .call (.const (.fn (.func 68) [] [])) [.tmp 6, .tmp 7], none, []⟩,
 ⟨some 4, .move (.tmp 8), none, []⟩]
def k_sort_SearchInts : AFun := { params := 2, ntmps := 9, body := (.seq (.reg k_sort_SearchInts_r0 false) (.seq (.reg k_sort_SearchInts_r1 false) .ret)), res := [.tmp 4] }
theorem k_sort_SearchInts_ok : cfun Tryd.prog Tryd.f62 = k_sort_SearchInts := by kernel_rfl

def k_curve_spot_weights_r0 : List AOper := [
  ⟨some 1, .box (.tmp 0), none, []⟩,
 ⟨some 2, .box (.const (.agg [.int .i64 0, .int .i64 0])), none, []⟩]
def k_curve_spot_weights_r1 : List AOper := [
  ⟨some 3, .fieldAddr 2 (.tmp 1), none, []⟩,
 ⟨some 4, .load none (.tmp 3), none, []⟩,
 ⟨some 5, .fieldAddr 1 (.tmp 1), none, []⟩,
 ⟨some 6, .load none (.tmp 5), none, []⟩,
 ⟨some 7, .bin .plain .sub (.tmp 4) (.tmp 6), none, []⟩,
 ⟨some 8, .fieldAddr 1 (.tmp 1), none, []⟩,
 ⟨some 9, .load none (.tmp 8), none, []⟩,
 ⟨some 10, .build [.int .i64 0, .int .i64 0] [(0, 1, .tmp 7), (1, 1, .tmp 9)], none, []⟩,
 ⟨none, .store 2 (.tmp 2) (.tmp 10), none, []⟩]
def k_curve_spot_weights : AFun := { params := 1, ntmps := 11, body := (.seq (.reg k_curve_spot_weights_r0 false) (.seq (.reg k_curve_spot_weights_r1 false) .ret)), res := [.cell 2 (some ((some (2))))] }
theorem k_curve_spot_weights_ok : cfun Tryd.prog Tryd.f63 = k_curve_spot_weights := by kernel_rfl

def k_curve_checkAscending_r0 : List AOper := [
  ⟨some 4, .move (.const (.int .i64 0)), none, []⟩]
def k_curve_checkAscending_r1 : List AOper := [
  ⟨some 7, .move (.tmp 0), none, []⟩,
 ⟨some 8, .len false (.tmp 7), none, []⟩,
 ⟨some 9, .move (.const (.int .i64 0)), none, []⟩]
def k_curve_checkAscending_r2 : List AOper := [
  ⟨some 10, .bin .plain .lss (.tmp 9) (.tmp 8), none, []⟩]
def k_curve_checkAscending_r3 : List AOper := [
  ⟨some 11, .move (.tmp 9), none, []⟩,
 ⟨some 12, .indexAddr 1 (.tmp 7) (.tmp 9), none, []⟩,
 ⟨some 13, .load none (.tmp 12), none, []⟩,
 ⟨some 5, .move (.tmp 11), none, []⟩,
 ⟨some 6, .move (.tmp 13), none, []⟩]
def k_curve_checkAscending_r4 : List AOper := [
  ⟨some 14, .move (.tmp 1), none, []⟩,
 ⟨some 15, .move (.tmp 6), none, []⟩,
 ⟨some 16, .call (.tmp 14) [.tmp 15], none, []⟩,
 ⟨some 17, .not (.tmp 16), none, []⟩]
def k_curve_checkAscending_r5 : List AOper := [
  ⟨some 4, .move (.const (.int .i64 2)), none, []⟩]
def k_curve_checkAscending_r6 : List AOper := [
  ⟨some 18, .move (.tmp 5), none, []⟩,
 ⟨some 19, .bin .plain .gtr (.tmp 18) (.const (.int .i64 0)), none, []⟩,
 ⟨some 20, .move (.tmp 19), none, []⟩,
 ⟨some 21, .move (.tmp 6), (some (20, true)), []⟩,
 ⟨some 22, .move (.tmp 0), (some (20, true)), []⟩,
 ⟨some 23, .move (.tmp 5), (some (20, true)), []⟩,
 ⟨some 24, .bin .plain .sub (.tmp 23) (.const (.int .i64 1)), (some (20, true)), []⟩,
 ⟨some 25, .indexAddr 1 (.tmp 22) (.tmp 24), (some (20, true)), []⟩,
 ⟨some 26, .load none (.tmp 25), (some (20, true)), []⟩,
 ⟨some 27, .bin .plain .leq (.tmp 21) (.tmp 26), (some (20, true)), []⟩,
 ⟨some 28, .pick (.tmp 20) (.tmp 27) (.const (.bool false)), none, []⟩]
def k_curve_checkAscending_r7 : List AOper := [
  ⟨some 4, .move (.const (.int .i64 11)), none, []⟩]
def k_curve_checkAscending_r8 : List AOper := [
  ⟨some 29, .bin .plain .add (.tmp 9) (.const (.int .i64 1)), none, []⟩,
 ⟨some 9, .move (.tmp 29), none, []⟩]
def k_curve_checkAscending_r9 : ACode := (.seq (.reg k_curve_checkAscending_r2 false) (.seq (.cond (.tmp 10) .skip (.exit 0)) (.seq (.block 1 (.seq (.reg k_curve_checkAscending_r3 false) (.seq (.seq (.reg k_curve_checkAscending_r4 false) (.cond (.tmp 17) (.seq (.reg k_curve_checkAscending_r5 false) .ret) .skip)) (.seq (.reg k_curve_checkAscending_r6 false) (.cond (.tmp 28) (.seq (.reg k_curve_checkAscending_r7 false) .ret) .skip))))) (.reg k_curve_checkAscending_r8 false))))
def k_curve_checkAscending_r10 : List AOper := [
  ⟨some 4, .move (.const (.int .i64 0)), none, []⟩]
def k_curve_checkAscending : AFun := { params := 2, ntmps := 30, body := (.seq (.reg k_curve_checkAscending_r0 false) (.seq (.seq (.reg k_curve_checkAscending_r1 false) (.block 0 (.loop k_curve_checkAscending_r9))) (.seq (.reg k_curve_checkAscending_r10 false) .ret))), res := [.tmp 4] }
theorem k_curve_checkAscending_ok : cfun Tryd.prog Tryd.f64 = k_curve_checkAscending := by kernel_rfl

def k_sort_Search_r0 : List AOper := [
  ⟨some 4, .move (.const (.int .i64 0)), none, []⟩]
def k_sort_Search_r1 : List AOper := [
  ⟨some 8, .move (.tmp 0), none, []⟩,
 ⟨some 5, .move (.const (.int .i64 0)), none, []⟩,
 ⟨some 6, .move (.tmp 8), none, []⟩]
def k_sort_Search_r2 : List AOper := [
  ⟨some 9, .move (.tmp 5), none, []⟩,
 ⟨some 10, .move (.tmp 6), none, []⟩,
 ⟨some 11, .bin .plain .lss (.tmp 9) (.tmp 10), none, []⟩]
def k_sort_Search_r3 : List AOper := [
  ⟨some 12, .move (.tmp 5), none, []⟩,
 ⟨some 13, .move (.tmp 6), none, []⟩,
 ⟨some 14, .bin .plain .add (.tmp 12) (.tmp 13), none, []⟩,
 ⟨some 15, .toInt .u64 (.tmp 14), none, []⟩,
 ⟨some 16, .bin .plain .shr (.tmp 15) (.const (.int .u64 1)), none, []⟩,
 ⟨some 17, .toInt .i64 (.tmp 16), none, []⟩,
 ⟨some 7, .move (.tmp 17), none, []⟩]
def k_sort_Search_r4 : List AOper := [
  ⟨some 18, .move (.tmp 1), none, []⟩,
 ⟨some 19, .move (.tmp 7), none, []⟩,
 ⟨some 20, .call (.tmp 18) [.tmp 19], none, []⟩,
 ⟨some 21, .not (.tmp 20), none, []⟩]
def k_sort_Search_r5 : List AOper := [
  ⟨some 22, .move (.tmp 7), none, []⟩,
 ⟨some 23, .bin .plain .add (.tmp 22) (.const (.int .i64 1)), none, []⟩,
 ⟨some 5, .move (.tmp 23), none, []⟩]
def k_sort_Search_r6 : List AOper := [
  ⟨some 24, .move (.tmp 7), none, []⟩,
 ⟨some 6, .move (.tmp 24), none, []⟩]
def k_sort_Search_r7 : ACode := (.seq (.seq (.reg k_sort_Search_r2 false) (.cond (.tmp 11) .skip (.exit 0))) (.block 1 (.seq (.reg k_sort_Search_r3 false) (.seq (.reg k_sort_Search_r4 false) (.cond (.tmp 21) (.reg k_sort_Search_r5 false) (.reg k_sort_Search_r6 false))))))
def k_sort_Search_r8 : List AOper := [
  ⟨some 25, .move (.tmp 5), none, []⟩,
 ⟨some 4, .move (.tmp 25), none, []⟩]
def k_sort_Search : AFun := { params := 2, ntmps := 26, body := (.seq (.reg k_sort_Search_r0 false) (.seq (.reg k_sort_Search_r1 false) (.seq (.block 0 (.loop k_sort_Search_r7)) (.seq (.reg k_sort_Search_r8 false) .ret)))), res := [.tmp 4] }
theorem k_sort_Search_ok : cfun Tryd.prog Tryd.f68 = k_sort_Search := by kernel_rfl

def k_curve_bounded_r0 : List AOper := [
  ⟨some 6, .move (.const (.int .i64 0)), none, []⟩]
def k_curve_bounded_r1 : List AOper := [
  ⟨some 7, .move (.tmp 0), none, []⟩,
 ⟨some 8, .move (.tmp 1), none, []⟩,
 ⟨some 9, .minmax true [.tmp 7, .tmp 8], none, []⟩,
 ⟨some 10, .move (.tmp 2), none, []⟩,
 ⟨some 11, .minmax false [.tmp 9, .tmp 10], none, []⟩,
 ⟨some 6, .move (.tmp 11), none, []⟩]
def k_curve_bounded : AFun := { params := 3, ntmps := 12, body := (.seq (.reg k_curve_bounded_r0 false) (.seq (.reg k_curve_bounded_r1 false) .ret)), res := [.tmp 6] }
theorem k_curve_bounded_ok : cfun Tryd.prog Tryd.f71 = k_curve_bounded := by kernel_rfl

def k_bits_Len_r0 : List AOper := [
  ⟨some 2, .move (.const (.int .i64 0)), none, []⟩]
def k_bits_Len_r1 : List AOper := [
  ⟨some 3, .move (.tmp 0), none, []⟩,
 ⟨some 4, .toInt .u32 (.tmp 3), none, []⟩,
 ⟨some 5, .call (.const (.fn (.func 75) [] [])) [.tmp 4], none, []⟩,
 ⟨some 2, .move (.tmp 5), none, []⟩]
def k_bits_Len_r2 : List AOper := [
  ⟨some 6, .move (.tmp 0), none, []⟩,
 ⟨some 7, .call (.const (.fn (.func 76) [] [])) [.tmp 6], none, []⟩,
 ⟨some 2, .move (.tmp 7), none, []⟩]
def k_bits_Len : AFun := { params := 1, ntmps := 8, body := (.seq (.reg k_bits_Len_r0 false) (.seq (.cond (.const (.bool false)) (.seq (.reg k_bits_Len_r1 false) .ret) .skip) (.seq (.reg k_bits_Len_r2 false) .ret))), res := [.tmp 2] }
theorem k_bits_Len_ok : cfun Tryd.prog Tryd.f72 = k_bits_Len := by kernel_rfl

def k_sort_SearchInts_1_r0 : List AOper := [
  ⟨some 4, .move (.const (.bool false)), none, []⟩]
def k_sort_SearchInts_1_r1 : List AOper := [
  ⟨some 5, .load none (.tmp 1), none, []⟩,
 ⟨some 6, .move (.tmp 0), none, [0]⟩,
 ⟨some 7, .indexAddr 1 (.tmp 5) (.tmp 6), none, []⟩,
 ⟨some 8, .load none (.tmp 7), none, []⟩,
 ⟨some 9, .load none (.tmp 2), none, [0, 1, 2, 3]⟩,
 ⟨some 10, .bin .plain .geq (.tmp 8) (.tmp 9), none, []⟩,
 ⟨some 4, .move (.tmp 10), none, []⟩]
def k_sort_SearchInts_1_r1s : List (List AOper) := [
  [
  ⟨some 5, .load none (.tmp 1), none, []⟩,
 ⟨some 6, .move (.tmp 0), none, [0]⟩,
 ⟨some 7, .indexAddr 1 (.tmp 5) (.tmp 6), none, []⟩,
 ⟨some 8, .load none (.tmp 7), none, []⟩,
 ⟨some 9, .load none (.tmp 2), none, [0, 1, 2, 3]⟩], 
  [
  ⟨some 10, .bin .plain .geq (.tmp 8) (.tmp 9), none, []⟩], 
  [
  ⟨some 4, .move (.tmp 10), none, []⟩]]
theorem k_sort_SearchInts_1_r1_sg : segs k_sort_SearchInts_1_r1 = k_sort_SearchInts_1_r1s := by kernel_rfl
theorem k_sort_SearchInts_1_r1_st : statOK k_sort_SearchInts_1_r1 = true := by kernel_rfl
def k_sort_SearchInts_1 : AFun := { params := 3, ntmps := 11, body := (.seq (.reg k_sort_SearchInts_1_r0 false) (.seq (.reg k_sort_SearchInts_1_r1 true) .ret)), res := [.tmp 4] }
theorem k_sort_SearchInts_1_ok : cfun Tryd.prog Tryd.f73 = k_sort_SearchInts_1 := by kernel_rfl

def k_bits_Len32_r0 : List AOper := [
  ⟨some 2, .move (.const (.int .i64 0)), none, []⟩]
def k_bits_Len32_r1 : List AOper := [
  ⟨some 3, .move (.tmp 0), none, []⟩,
 ⟨some 4, .bin .plain .geq (.tmp 3) (.const (.int .u32 65536)), none, []⟩]
def k_bits_Len32_r2 : List AOper := [
  ⟨some 5, .move (.tmp 0), none, []⟩,
 ⟨some 6, .bin .plain .shr (.tmp 5) (.const (.int .u64 16)), none, []⟩,
 ⟨some 0, .move (.tmp 6), none, []⟩]
def k_bits_Len32_r3 : List AOper := [
  ⟨some 2, .move (.const (.int .i64 16)), none, []⟩]
def k_bits_Len32_r4 : List AOper := [
  ⟨some 7, .move (.tmp 0), none, []⟩,
 ⟨some 8, .bin .plain .geq (.tmp 7) (.const (.int .u32 256)), none, []⟩]
def k_bits_Len32_r5 : List AOper := [
  ⟨some 9, .move (.tmp 0), none, []⟩,
 ⟨some 10, .bin .plain .shr (.tmp 9) (.const (.int .u64 8)), none, []⟩,
 ⟨some 0, .move (.tmp 10), none, []⟩]
def k_bits_Len32_r6 : List AOper := [
  ⟨some 11, .move (.tmp 2), none, []⟩,
 ⟨some 12, .bin .plain .add (.tmp 11) (.const (.int .i64 8)), none, []⟩,
 ⟨some 2, .move (.tmp 12), none, []⟩]
def k_bits_Len32_r7 : List AOper := [
  ⟨some 13, .move (.tmp 2), none, []⟩,
 ⟨some 14, .move (.tmp 0), none, []⟩,
 ⟨some 15, .toInt .u8 (.tmp 14), none, []⟩,
 ⟨some 16, .indexStr (.const (.str [0, 1, 2, 2, 3, 3, 3, 3, 4, 4, 4, 4, 4, 4, 4, 4, 5, 5, 5, 5, 5, 5, 5, 5, 5, 5, 5, 5, 5, 5, 5, 5, 6, 6, 6, 6, 6, 6, 6, 6, 6, 6, 6, 6, 6, 6, 6, 6, 6, 6, 6, 6, 6, 6, 6, 6, 6, 6, 6, 6, 6, 6, 6, 6, 7, 7, 7, 7, 7, 7, 7, 7, 7, 7, 7, 7, 7, 7, 7, 7, 7, 7, 7, 7, 7, 7, 7, 7, 7, 7, 7, 7, 7, 7, 7, 7, 7, 7, 7, 7, 7, 7, 7, 7, 7, 7, 7, 7, 7, 7, 7, 7, 7, 7, 7, 7, 7, 7, 7, 7, 7, 7, 7, 7, 7, 7, 7, 7, 8, 8, 8, 8, 8, 8, 8, 8, 8, 8, 8, 8, 8, 8, 8, 8, 8, 8, 8, 8, 8, 8, 8, 8, 8, 8, 8, 8, 8, 8, 8, 8, 8, 8, 8, 8, 8, 8, 8, 8, 8, 8, 8, 8, 8, 8, 8, 8, 8, 8, 8, 8, 8, 8, 8, 8, 8, 8, 8, 8, 8, 8, 8, 8, 8, 8, 8, 8, 8, 8, 8, 8, 8, 8, 8, 8, 8, 8, 8, 8, 8, 8, 8, 8, 8, 8, 8, 8, 8, 8, 8, 8, 8, 8, 8, 8, 8, 8, 8, 8, 8, 8, 8, 8, 8, 8, 8, 8, 8, 8, 8, 8, 8, 8, 8, 8, 8, 8, 8, 8, 8, 8, 8, 8, 8, 8, 8, 8])) (.tmp 15), none, []⟩,
 ⟨some 17, .toInt .i64 (.tmp 16), none, []⟩,
 ⟨some 18, .bin .plain .add (.tmp 13) (.tmp 17), none, []⟩,
 ⟨some 2, .move (.tmp 18), none, []⟩]
def k_bits_Len32 : AFun := { params := 1, ntmps := 19, body := (.seq (.reg k_bits_Len32_r0 false) (.seq (.seq (.reg k_bits_Len32_r1 false) (.cond (.tmp 4) (.seq (.reg k_bits_Len32_r2 false) (.reg k_bits_Len32_r3 false)) .skip)) (.seq (.seq (.reg k_bits_Len32_r4 false) (.cond (.tmp 8) (.seq (.reg k_bits_Len32_r5 false) (.reg k_bits_Len32_r6 false)) .skip)) (.seq (.reg k_bits_Len32_r7 false) .ret)))), res := [.tmp 2] }
theorem k_bits_Len32_ok : cfun Tryd.prog Tryd.f75 = k_bits_Len32 := by kernel_rfl

def k_bits_Len64_r0 : List AOper := [
  ⟨some 2, .move (.const (.int .i64 0)), none, []⟩]
def k_bits_Len64_r1 : List AOper := [
  ⟨some 3, .move (.tmp 0), none, []⟩,
 ⟨some 4, .bin .plain .geq (.tmp 3) (.const (.int .u64 4294967296)), none, []⟩]
def k_bits_Len64_r2 : List AOper := [
  ⟨some 5, .move (.tmp 0), none, []⟩,
 ⟨some 6, .bin .plain .shr (.tmp 5) (.const (.int .u64 32)), none, []⟩,
 ⟨some 0, .move (.tmp 6), none, []⟩]
def k_bits_Len64_r3 : List AOper := [
  ⟨some 2, .move (.const (.int .i64 32)), none, []⟩]
def k_bits_Len64_r4 : List AOper := [
  ⟨some 7, .move (.tmp 0), none, []⟩,
 ⟨some 8, .bin .plain .geq (.tmp 7) (.const (.int .u64 65536)), none, []⟩]
def k_bits_Len64_r5 : List AOper := [
  ⟨some 9, .move (.tmp 0), none, []⟩,
 ⟨some 10, .bin .plain .shr (.tmp 9) (.const (.int .u64 16)), none, []⟩,
 ⟨some 0, .move (.tmp 10), none, []⟩]
def k_bits_Len64_r6 : List AOper := [
  ⟨some 11, .move (.tmp 2), none, []⟩,
 ⟨some 12, .bin .plain .add (.tmp 11) (.const (.int .i64 16)), none, []⟩,
 ⟨some 2, .move (.tmp 12), none, []⟩]
def k_bits_Len64_r7 : List AOper := [
  ⟨some 13, .move (.tmp 0), none, []⟩,
 ⟨some 14, .bin .plain .geq (.tmp 13) (.const (.int .u64 256)), none, []⟩]
def k_bits_Len64_r8 : List AOper := [
  ⟨some 15, .move (.tmp 0), none, []⟩,
 ⟨some 16, .bin .plain .shr (.tmp 15) (.const (.int .u64 8)), none, []⟩,
 ⟨some 0, .move (.tmp 16), none, []⟩]
def k_bits_Len64_r9 : List AOper := [
  ⟨some 17, .move (.tmp 2), none, []⟩,
 ⟨some 18, .bin .plain .add (.tmp 17) (.const (.int .i64 8)), none, []⟩,
 ⟨some 2, .move (.tmp 18), none, []⟩]
def k_bits_Len64_r10 : List AOper := [
  ⟨some 19, .move (.tmp 2), none, []⟩,
 ⟨some 20, .move (.tmp 0), none, []⟩,
 ⟨some 21, .toInt .u8 (.tmp 20), none, []⟩,
 ⟨some 22, .indexStr (.const (.str [0, 1, 2, 2, 3, 3, 3, 3, 4, 4, 4, 4, 4, 4, 4, 4, 5, 5, 5, 5, 5, 5, 5, 5, 5, 5, 5, 5, 5, 5, 5, 5, 6, 6, 6, 6, 6, 6, 6, 6, 6, 6, 6, 6, 6, 6, 6, 6, 6, 6, 6, 6, 6, 6, 6, 6, 6, 6, 6, 6, 6, 6, 6, 6, 7, 7, 7, 7, 7, 7, 7, 7, 7, 7, 7, 7, 7, 7, 7, 7, 7, 7, 7, 7, 7, 7, 7, 7, 7, 7, 7, 7, 7, 7, 7, 7, 7, 7, 7, 7, 7, 7, 7, 7, 7, 7, 7, 7, 7, 7, 7, 7, 7, 7, 7, 7, 7, 7, 7, 7, 7, 7, 7, 7, 7, 7, 7, 7, 8, 8, 8, 8, 8, 8, 8, 8, 8, 8, 8, 8, 8, 8, 8, 8, 8, 8, 8, 8, 8, 8, 8, 8, 8, 8, 8, 8, 8, 8, 8, 8, 8, 8, 8, 8, 8, 8, 8, 8, 8, 8, 8, 8, 8, 8, 8, 8, 8, 8, 8, 8, 8, 8, 8, 8, 8, 8, 8, 8, 8, 8, 8, 8, 8, 8, 8, 8, 8, 8, 8, 8, 8, 8, 8, 8, 8, 8, 8, 8, 8, 8, 8, 8, 8, 8, 8, 8, 8, 8, 8, 8, 8, 8, 8, 8, 8, 8, 8, 8, 8, 8, 8, 8, 8, 8, 8, 8, 8, 8, 8, 8, 8, 8, 8, 8, 8, 8, 8, 8, 8, 8, 8, 8, 8, 8, 8, 8])) (.tmp 21), none, []⟩,
 ⟨some 23, .toInt .i64 (.tmp 22), none, []⟩,
 ⟨some 24, .bin .plain .add (.tmp 19) (.tmp 23), none, []⟩,
 ⟨some 2, .move (.tmp 24), none, []⟩]
def k_bits_Len64 : AFun := { params := 1, ntmps := 25, body := (.seq (.reg k_bits_Len64_r0 false) (.seq (.seq (.reg k_bits_Len64_r1 false) (.cond (.tmp 4) (.seq (.reg k_bits_Len64_r2 false) (.reg k_bits_Len64_r3 false)) .skip)) (.seq (.seq (.reg k_bits_Len64_r4 false) (.cond (.tmp 8) (.seq (.reg k_bits_Len64_r5 false) (.reg k_bits_Len64_r6 false)) .skip)) (.seq (.seq (.reg k_bits_Len64_r7 false) (.cond (.tmp 14) (.seq (.reg k_bits_Len64_r8 false) (.reg k_bits_Len64_r9 false)) .skip)) (.seq (.reg k_bits_Len64_r10 false) .ret))))), res := [.tmp 2] }
theorem k_bits_Len64_ok : cfun Tryd.prog Tryd.f76 = k_bits_Len64 := by kernel_rfl


abbrev n_law02_awake : Nat := 5
theorem e_law02_awake : EntryOK Tryd.prog n_law02_awake k_law02_awake := ⟨Tryd.f5, Tryd.func5, k_law02_awake_ok, by kernel_rfl⟩
abbrev n_kit_NewDice : Nat := 6
theorem e_kit_NewDice : EntryOK Tryd.prog n_kit_NewDice k_kit_NewDice := ⟨Tryd.f6, Tryd.func6, k_kit_NewDice_ok, by kernel_rfl⟩
abbrev n_kit_LawOf : Nat := 7
theorem e_kit_LawOf : EntryOK Tryd.prog n_kit_LawOf k_kit_LawOf := ⟨Tryd.f7, Tryd.func7, k_kit_LawOf_ok, by kernel_rfl⟩
abbrev n_kit_WithinLaw : Nat := 9
theorem e_kit_WithinLaw : EntryOK Tryd.prog n_kit_WithinLaw k_kit_WithinLaw := ⟨Tryd.f9, Tryd.func9, k_kit_WithinLaw_ok, by kernel_rfl⟩
abbrev n_curve_Current : Nat := 13
theorem e_curve_Current : EntryOK Tryd.prog n_curve_Current k_curve_Current := ⟨Tryd.f13, Tryd.func13, k_curve_Current_ok, by kernel_rfl⟩
abbrev n_law02_law : Nat := 15
theorem e_law02_law : EntryOK Tryd.prog n_law02_law k_law02_law := ⟨Tryd.f15, Tryd.func15, k_law02_law_ok, by kernel_rfl⟩
abbrev n_curve_At : Nat := 16
theorem e_curve_At : EntryOK Tryd.prog n_curve_At k_curve_At := ⟨Tryd.f16, Tryd.func16, k_curve_At_ok, by kernel_rfl⟩
abbrev n_law02_family : Nat := 17
theorem e_law02_family : EntryOK Tryd.prog n_law02_family k_law02_family := ⟨Tryd.f17, Tryd.func17, k_law02_family_ok, by kernel_rfl⟩
abbrev n_curve_Check : Nat := 18
theorem e_curve_Check : EntryOK Tryd.prog n_curve_Check k_curve_Check := ⟨Tryd.f18, Tryd.func18, k_curve_Check_ok, by kernel_rfl⟩
abbrev n_kit_Dice_next : Nat := 19
theorem e_kit_Dice_next : EntryOK Tryd.prog n_kit_Dice_next k_kit_Dice_next := ⟨Tryd.f19, Tryd.func19, k_kit_Dice_next_ok, by kernel_rfl⟩
abbrev n_kit_Dice_Range : Nat := 20
theorem e_kit_Dice_Range : EntryOK Tryd.prog n_kit_Dice_Range k_kit_Dice_Range := ⟨Tryd.f20, Tryd.func20, k_kit_Dice_Range_ok, by kernel_rfl⟩
abbrev n_kit_Dice_One : Nat := 21
theorem e_kit_Dice_One : EntryOK Tryd.prog n_kit_Dice_One k_kit_Dice_One := ⟨Tryd.f21, Tryd.func21, k_kit_Dice_One_ok, by kernel_rfl⟩
abbrev n_kit_Dice_Between : Nat := 22
theorem e_kit_Dice_Between : EntryOK Tryd.prog n_kit_Dice_Between k_kit_Dice_Between := ⟨Tryd.f22, Tryd.func22, k_kit_Dice_Between_ok, by kernel_rfl⟩
abbrev n_kit_Dice_Upto : Nat := 23
theorem e_kit_Dice_Upto : EntryOK Tryd.prog n_kit_Dice_Upto k_kit_Dice_Upto := ⟨Tryd.f23, Tryd.func23, k_kit_Dice_Upto_ok, by kernel_rfl⟩
abbrev n_kit_WithinLaw_1 : Nat := 25
theorem e_kit_WithinLaw_1 : EntryOK Tryd.prog n_kit_WithinLaw_1 k_kit_WithinLaw_1 := ⟨Tryd.f25, Tryd.func25, k_kit_WithinLaw_1_ok, by kernel_rfl⟩
abbrev n_kit_Dice_In : Nat := 26
theorem e_kit_Dice_In : EntryOK Tryd.prog n_kit_Dice_In k_kit_Dice_In := ⟨Tryd.f26, Tryd.func26, k_kit_Dice_In_ok, by kernel_rfl⟩
abbrev n_curve_CheckLaw : Nat := 27
theorem e_curve_CheckLaw : EntryOK Tryd.prog n_curve_CheckLaw k_curve_CheckLaw := ⟨Tryd.f27, Tryd.func27, k_curve_CheckLaw_ok, by kernel_rfl⟩
abbrev n_kit_Within : Nat := 34
theorem e_kit_Within : EntryOK Tryd.prog n_kit_Within k_kit_Within := ⟨Tryd.f34, Tryd.func34, k_kit_Within_ok, by kernel_rfl⟩
abbrev n_curve_checkVolts : Nat := 35
theorem e_curve_checkVolts : EntryOK Tryd.prog n_curve_checkVolts k_curve_checkVolts := ⟨Tryd.f35, Tryd.func35, k_curve_checkVolts_ok, by kernel_rfl⟩
abbrev n_curve_current : Nat := 36
theorem e_curve_current : EntryOK Tryd.prog n_curve_current k_curve_current := ⟨Tryd.f36, Tryd.func36, k_curve_current_ok, by kernel_rfl⟩
abbrev n_law02_alone : Nat := 37
theorem e_law02_alone : EntryOK Tryd.prog n_law02_alone k_law02_alone := ⟨Tryd.f37, Tryd.func37, k_law02_alone_ok, by kernel_rfl⟩
abbrev n_curve_rightGrid : Nat := 38
theorem e_curve_rightGrid : EntryOK Tryd.prog n_curve_rightGrid k_curve_rightGrid := ⟨Tryd.f38, Tryd.func38, k_curve_rightGrid_ok, by kernel_rfl⟩
abbrev n_curve_rightPlate : Nat := 39
theorem e_curve_rightPlate : EntryOK Tryd.prog n_curve_rightPlate k_curve_rightPlate := ⟨Tryd.f39, Tryd.func39, k_curve_rightPlate_ok, by kernel_rfl⟩
abbrev n_curve_spotOf : Nat := 40
theorem e_curve_spotOf : EntryOK Tryd.prog n_curve_spotOf k_curve_spotOf := ⟨Tryd.f40, Tryd.func40, k_curve_spotOf_ok, by kernel_rfl⟩
abbrev n_curve_value : Nat := 41
theorem e_curve_value : EntryOK Tryd.prog n_curve_value k_curve_value := ⟨Tryd.f41, Tryd.func41, k_curve_value_ok, by kernel_rfl⟩
abbrev n_curve_roundUp : Nat := 42
theorem e_curve_roundUp : EntryOK Tryd.prog n_curve_roundUp k_curve_roundUp := ⟨Tryd.f42, Tryd.func42, k_curve_roundUp_ok, by kernel_rfl⟩
abbrev n_curve_checkLines : Nat := 43
theorem e_curve_checkLines : EntryOK Tryd.prog n_curve_checkLines k_curve_checkLines := ⟨Tryd.f43, Tryd.func43, k_curve_checkLines_ok, by kernel_rfl⟩
abbrev n_curve_hasForm : Nat := 44
theorem e_curve_hasForm : EntryOK Tryd.prog n_curve_hasForm k_curve_hasForm := ⟨Tryd.f44, Tryd.func44, k_curve_hasForm_ok, by kernel_rfl⟩
abbrev n_curve_checkPlace : Nat := 45
theorem e_curve_checkPlace : EntryOK Tryd.prog n_curve_checkPlace k_curve_checkPlace := ⟨Tryd.f45, Tryd.func45, k_curve_checkPlace_ok, by kernel_rfl⟩
abbrev n_curve_drive : Nat := 58
theorem e_curve_drive : EntryOK Tryd.prog n_curve_drive k_curve_drive := ⟨Tryd.f58, Tryd.func58, k_curve_drive_ok, by kernel_rfl⟩
abbrev n_curve_rootDown : Nat := 59
theorem e_curve_rootDown : EntryOK Tryd.prog n_curve_rootDown k_curve_rootDown := ⟨Tryd.f59, Tryd.func59, k_curve_rootDown_ok, by kernel_rfl⟩
abbrev n_curve_rootUp : Nat := 60
theorem e_curve_rootUp : EntryOK Tryd.prog n_curve_rootUp k_curve_rootUp := ⟨Tryd.f60, Tryd.func60, k_curve_rootUp_ok, by kernel_rfl⟩
abbrev n_curve_within : Nat := 61
theorem e_curve_within : EntryOK Tryd.prog n_curve_within k_curve_within := ⟨Tryd.f61, Tryd.func61, k_curve_within_ok, by kernel_rfl⟩
abbrev n_sort_SearchInts : Nat := 62
theorem e_sort_SearchInts : EntryOK Tryd.prog n_sort_SearchInts k_sort_SearchInts := ⟨Tryd.f62, Tryd.func62, k_sort_SearchInts_ok, by kernel_rfl⟩
abbrev n_curve_spot_weights : Nat := 63
theorem e_curve_spot_weights : EntryOK Tryd.prog n_curve_spot_weights k_curve_spot_weights := ⟨Tryd.f63, Tryd.func63, k_curve_spot_weights_ok, by kernel_rfl⟩
abbrev n_curve_checkAscending : Nat := 64
theorem e_curve_checkAscending : EntryOK Tryd.prog n_curve_checkAscending k_curve_checkAscending := ⟨Tryd.f64, Tryd.func64, k_curve_checkAscending_ok, by kernel_rfl⟩
abbrev n_sort_Search : Nat := 68
theorem e_sort_Search : EntryOK Tryd.prog n_sort_Search k_sort_Search := ⟨Tryd.f68, Tryd.func68, k_sort_Search_ok, by kernel_rfl⟩
abbrev n_curve_bounded : Nat := 71
theorem e_curve_bounded : EntryOK Tryd.prog n_curve_bounded k_curve_bounded := ⟨Tryd.f71, Tryd.func71, k_curve_bounded_ok, by kernel_rfl⟩
abbrev n_bits_Len : Nat := 72
theorem e_bits_Len : EntryOK Tryd.prog n_bits_Len k_bits_Len := ⟨Tryd.f72, Tryd.func72, k_bits_Len_ok, by kernel_rfl⟩
abbrev n_sort_SearchInts_1 : Nat := 73
theorem e_sort_SearchInts_1 : EntryOK Tryd.prog n_sort_SearchInts_1 k_sort_SearchInts_1 := ⟨Tryd.f73, Tryd.func73, k_sort_SearchInts_1_ok, by kernel_rfl⟩
abbrev n_bits_Len32 : Nat := 75
theorem e_bits_Len32 : EntryOK Tryd.prog n_bits_Len32 k_bits_Len32 := ⟨Tryd.f75, Tryd.func75, k_bits_Len32_ok, by kernel_rfl⟩
abbrev n_bits_Len64 : Nat := 76
theorem e_bits_Len64 : EntryOK Tryd.prog n_bits_Len64 k_bits_Len64 := ⟨Tryd.f76, Tryd.func76, k_bits_Len64_ok, by kernel_rfl⟩

@[go_sem] theorem mixed : Tryd.prog.follows .mixedOrders = true := by kernel_rfl
attribute [go_sem] k_law02_awake_r0 k_law02_awake_r1 k_law02_awake_r2 k_law02_awake_r3 k_kit_NewDice_r0 k_kit_NewDice_r1 k_kit_NewDice_r2 k_kit_NewDice_r3 k_kit_NewDice_r4s k_kit_NewDice_r5 k_kit_NewDice_r6 k_kit_NewDice_r8
attribute [go_sem] k_kit_LawOf_r0 k_kit_LawOf_r1 k_kit_LawOf_r2 k_kit_LawOf_r3 k_kit_LawOf_r4 k_kit_LawOf_r5 k_kit_LawOf_r6 k_kit_LawOf_r7 k_kit_LawOf_r8 k_kit_WithinLaw_r0 k_kit_WithinLaw_r1 k_kit_WithinLaw_r2s
attribute [go_sem] k_curve_Current_r0 k_curve_Current_r1 k_curve_Current_r2 k_curve_Current_r3 k_curve_Current_r4 k_law02_law_r0 k_law02_law_r1 k_curve_At_r0 k_curve_At_r1 k_curve_At_r2 k_curve_At_r3 k_curve_At_r4
attribute [go_sem] k_curve_At_r5 k_curve_At_r6s k_curve_At_r7s k_curve_At_r8s k_law02_family_r0 k_law02_family_r1 k_curve_Check_r0 k_curve_Check_r1 k_curve_Check_r2 k_curve_Check_r3 k_curve_Check_r4 k_curve_Check_r5
attribute [go_sem] k_curve_Check_r6 k_curve_Check_r7 k_curve_Check_r8 k_curve_Check_r9 k_curve_Check_r10 k_curve_Check_r11 k_curve_Check_r12 k_curve_Check_r13 k_curve_Check_r14 k_curve_Check_r15 k_curve_Check_r17 k_curve_Check_r19
attribute [go_sem] k_kit_Dice_next_r0 k_kit_Dice_next_r1 k_kit_Dice_next_r2 k_kit_Dice_next_r3 k_kit_Dice_next_r4 k_kit_Dice_next_r5 k_kit_Dice_Range_r0 k_kit_Dice_Range_r1 k_kit_Dice_Range_r2 k_kit_Dice_One_r0 k_kit_Dice_One_r1 k_kit_Dice_Between_r0
attribute [go_sem] k_kit_Dice_Between_r1 k_kit_Dice_Upto_r0 k_kit_Dice_Upto_r1 k_kit_Dice_Upto_r2 k_kit_Dice_Upto_r3 k_kit_Dice_Upto_r4 k_kit_WithinLaw_1_r0 k_kit_WithinLaw_1_r1s k_kit_WithinLaw_1_r2 k_kit_WithinLaw_1_r3 k_kit_WithinLaw_1_r4 k_kit_Dice_In_r0
attribute [go_sem] k_kit_Dice_In_r1 k_curve_CheckLaw_r0 k_curve_CheckLaw_r1 k_curve_CheckLaw_r2 k_curve_CheckLaw_r3 k_curve_CheckLaw_r4 k_curve_CheckLaw_r5 k_curve_CheckLaw_r6 k_curve_CheckLaw_r7 k_curve_CheckLaw_r8 k_curve_CheckLaw_r9 k_curve_CheckLaw_r11
attribute [go_sem] k_kit_Within_r0 k_kit_Within_r1 k_curve_checkVolts_r0 k_curve_checkVolts_r1 k_curve_checkVolts_r2 k_curve_checkVolts_r3 k_curve_checkVolts_r4 k_curve_checkVolts_r5 k_curve_checkVolts_r6 k_curve_current_r0 k_curve_current_r1 k_curve_current_r2s
attribute [go_sem] k_curve_current_r3 k_curve_current_r4s k_law02_alone_r0 k_law02_alone_r1 k_curve_rightGrid_r0 k_curve_rightGrid_r1 k_curve_rightPlate_r0 k_curve_rightPlate_r1 k_curve_spotOf_r0 k_curve_spotOf_r1 k_curve_spotOf_r2 k_curve_spotOf_r3
attribute [go_sem] k_curve_spotOf_r4 k_curve_spotOf_r5 k_curve_spotOf_r6s k_curve_value_r0 k_curve_value_r1 k_curve_value_r2 k_curve_value_r3 k_curve_value_r4 k_curve_value_r5 k_curve_value_r6 k_curve_value_r7 k_curve_value_r8
attribute [go_sem] k_curve_value_r9s k_curve_value_r10 k_curve_value_r12 k_curve_value_r14 k_curve_roundUp_r0 k_curve_roundUp_r1 k_curve_checkLines_r0 k_curve_checkLines_r1 k_curve_checkLines_r2 k_curve_checkLines_r3 k_curve_checkLines_r4 k_curve_checkLines_r5
attribute [go_sem] k_curve_checkLines_r6 k_curve_checkLines_r7 k_curve_checkLines_r8 k_curve_hasForm_r0 k_curve_hasForm_r1 k_curve_hasForm_r2 k_curve_hasForm_r3 k_curve_hasForm_r4 k_curve_hasForm_r5 k_curve_hasForm_r6 k_curve_hasForm_r8 k_curve_checkPlace_r0
attribute [go_sem] k_curve_checkPlace_r1s k_curve_checkPlace_r2 k_curve_checkPlace_r3 k_curve_checkPlace_r4 k_curve_checkPlace_r5 k_curve_checkPlace_r6 k_curve_checkPlace_r7 k_curve_checkPlace_r8 k_curve_checkPlace_r9 k_curve_checkPlace_r10 k_curve_drive_r0 k_curve_drive_r1s
attribute [go_sem] k_curve_rootDown_r0 k_curve_rootDown_r1 k_curve_rootDown_r2 k_curve_rootDown_r3 k_curve_rootDown_r4 k_curve_rootDown_r5 k_curve_rootDown_r6 k_curve_rootDown_r7 k_curve_rootUp_r0 k_curve_rootUp_r1 k_curve_rootUp_r2 k_curve_rootUp_r3
attribute [go_sem] k_curve_rootUp_r4 k_curve_within_r0 k_curve_within_r1 k_sort_SearchInts_r0 k_sort_SearchInts_r1 k_curve_spot_weights_r0 k_curve_spot_weights_r1 k_curve_checkAscending_r0 k_curve_checkAscending_r1 k_curve_checkAscending_r2 k_curve_checkAscending_r3 k_curve_checkAscending_r4
attribute [go_sem] k_curve_checkAscending_r5 k_curve_checkAscending_r6 k_curve_checkAscending_r7 k_curve_checkAscending_r8 k_curve_checkAscending_r10 k_sort_Search_r0 k_sort_Search_r1 k_sort_Search_r2 k_sort_Search_r3 k_sort_Search_r4 k_sort_Search_r5 k_sort_Search_r6
attribute [go_sem] k_sort_Search_r8 k_curve_bounded_r0 k_curve_bounded_r1 k_bits_Len_r0 k_bits_Len_r1 k_bits_Len_r2 k_sort_SearchInts_1_r0 k_sort_SearchInts_1_r1s k_bits_Len32_r0 k_bits_Len32_r1 k_bits_Len32_r2 k_bits_Len32_r3
attribute [go_sem] k_bits_Len32_r4 k_bits_Len32_r5 k_bits_Len32_r6 k_bits_Len32_r7 k_bits_Len64_r0 k_bits_Len64_r1 k_bits_Len64_r2 k_bits_Len64_r3 k_bits_Len64_r4 k_bits_Len64_r5 k_bits_Len64_r6 k_bits_Len64_r7
attribute [go_sem] k_bits_Len64_r8 k_bits_Len64_r9 k_bits_Len64_r10 k_curve_At_r6_sg k_curve_checkPlace_r1_sg k_curve_At_r8_sg k_curve_drive_r1_sg k_curve_value_r9_sg k_curve_spotOf_r6_sg k_curve_current_r4_sg k_curve_current_r2_sg k_sort_SearchInts_1_r1_sg
attribute [go_sem] k_kit_NewDice_r4_sg k_curve_At_r7_sg k_kit_WithinLaw_r2_sg k_kit_WithinLaw_1_r1_sg k_curve_At_r6_st k_curve_checkPlace_r1_st k_curve_At_r8_st k_curve_drive_r1_st k_curve_value_r9_st k_curve_spotOf_r6_st k_curve_current_r4_st k_curve_current_r2_st
attribute [go_sem] k_sort_SearchInts_1_r1_st k_kit_NewDice_r4_st k_curve_At_r7_st k_kit_WithinLaw_r2_st k_kit_WithinLaw_1_r1_st k_law02_awake k_kit_NewDice k_kit_LawOf k_kit_WithinLaw k_curve_Current k_law02_law k_curve_At
attribute [go_sem] k_law02_family k_curve_Check k_kit_Dice_next k_kit_Dice_Range k_kit_Dice_One k_kit_Dice_Between k_kit_Dice_Upto k_kit_WithinLaw_1 k_kit_Dice_In k_curve_CheckLaw k_kit_Within k_curve_checkVolts
attribute [go_sem] k_curve_current k_law02_alone k_curve_rightGrid k_curve_rightPlate k_curve_spotOf k_curve_value k_curve_roundUp k_curve_checkLines k_curve_hasForm k_curve_checkPlace k_curve_drive k_curve_rootDown
attribute [go_sem] k_curve_rootUp k_curve_within k_sort_SearchInts k_curve_spot_weights k_curve_checkAscending k_sort_Search k_curve_bounded k_bits_Len k_sort_SearchInts_1 k_bits_Len32 k_bits_Len64
def tabL : List (Nat × AFun) := [(5, k_law02_awake), (6, k_kit_NewDice), (7, k_kit_LawOf), (9, k_kit_WithinLaw), (13, k_curve_Current), (15, k_law02_law), (16, k_curve_At), (17, k_law02_family), (18, k_curve_Check), (19, k_kit_Dice_next), (20, k_kit_Dice_Range), (21, k_kit_Dice_One), (22, k_kit_Dice_Between), (23, k_kit_Dice_Upto), (25, k_kit_WithinLaw_1), (26, k_kit_Dice_In), (27, k_curve_CheckLaw), (34, k_kit_Within), (35, k_curve_checkVolts), (36, k_curve_current), (37, k_law02_alone), (38, k_curve_rightGrid), (39, k_curve_rightPlate), (40, k_curve_spotOf), (41, k_curve_value), (42, k_curve_roundUp), (43, k_curve_checkLines), (44, k_curve_hasForm), (45, k_curve_checkPlace), (58, k_curve_drive), (59, k_curve_rootDown), (60, k_curve_rootUp), (61, k_curve_within), (62, k_sort_SearchInts), (63, k_curve_spot_weights), (64, k_curve_checkAscending), (68, k_sort_Search), (71, k_curve_bounded), (72, k_bits_Len), (73, k_sort_SearchInts_1), (75, k_bits_Len32), (76, k_bits_Len64)]
def tabGet : List (Nat × AFun) → Nat → Option AFun
  | [], _ => none
  | (n, c) :: l, g => if Nat.beq n g = true then some c else tabGet l g
def tab (g : Nat) : Option AFun := tabGet tabL g
def AllOK : List (Nat × AFun) → Prop
  | [] => True
  | p :: l => EntryOK Tryd.prog p.1 p.2 ∧ AllOK l
theorem AllOK.get : ∀ {l : List (Nat × AFun)}, AllOK l → ∀ p ∈ l, EntryOK Tryd.prog p.1 p.2
  | [], _, p, h => by simp at h
  | q :: l, h, p, hp => by
    rcases List.mem_cons.1 hp with rfl | hp
    · exact h.1
    · exact AllOK.get h.2 p hp
set_option maxRecDepth 100000 in
theorem tab_all : ∀ p ∈ tabL, EntryOK Tryd.prog p.1 p.2 := AllOK.get (l := tabL) (⟨e_law02_awake, ⟨e_kit_NewDice, ⟨e_kit_LawOf, ⟨e_kit_WithinLaw, ⟨e_curve_Current, ⟨e_law02_law, ⟨e_curve_At, ⟨e_law02_family, ⟨e_curve_Check, ⟨e_kit_Dice_next, ⟨e_kit_Dice_Range, ⟨e_kit_Dice_One, ⟨e_kit_Dice_Between, ⟨e_kit_Dice_Upto, ⟨e_kit_WithinLaw_1, ⟨e_kit_Dice_In, ⟨e_curve_CheckLaw, ⟨e_kit_Within, ⟨e_curve_checkVolts, ⟨e_curve_current, ⟨e_law02_alone, ⟨e_curve_rightGrid, ⟨e_curve_rightPlate, ⟨e_curve_spotOf, ⟨e_curve_value, ⟨e_curve_roundUp, ⟨e_curve_checkLines, ⟨e_curve_hasForm, ⟨e_curve_checkPlace, ⟨e_curve_drive, ⟨e_curve_rootDown, ⟨e_curve_rootUp, ⟨e_curve_within, ⟨e_sort_SearchInts, ⟨e_curve_spot_weights, ⟨e_curve_checkAscending, ⟨e_sort_Search, ⟨e_curve_bounded, ⟨e_bits_Len, ⟨e_sort_SearchInts_1, ⟨e_bits_Len32, ⟨e_bits_Len64, trivial⟩⟩⟩⟩⟩⟩⟩⟩⟩⟩⟩⟩⟩⟩⟩⟩⟩⟩⟩⟩⟩⟩⟩⟩⟩⟩⟩⟩⟩⟩⟩⟩⟩⟩⟩⟩⟩⟩⟩⟩⟩⟩)
theorem tabGet_mem : ∀ (l : List (Nat × AFun)) (g : Nat) (c : AFun), tabGet l g = some c → (g, c) ∈ l
  | [], _, _, h => by cases h
  | (n, c') :: l, g, c, h => by
    simp only [tabGet] at h
    split at h
    · rename_i hn
      cases h
      rw [Nat.eq_of_beq_eq_true hn]; exact List.mem_cons_self
    · exact List.mem_cons_of_mem _ (tabGet_mem l g c h)
theorem tab_ok (g : Nat) (af : AFun) (h : tab g = some af) : EntryOK Tryd.prog g af := by
  have h2 := tab_all _ (tabGet_mem _ _ _ h)
  exact h2
end Go.Proofs

