/- A part of the proof. -/
import Derived.Test.YtgjcjehpfjeomaaDoorSxI
import Derived.Test.YtgjcjehpfjeomaaDoorProg
import Derived.KernelRfl
set_option linter.unusedSimpArgs false
set_option linter.unusedVariables false
namespace Go.Proofs
open Go Go.Sx

def k_law01_awake_r0 : List AOper := [
  ⟨some 0, .move (.const (.bool false)), none, []⟩]
def k_law01_awake_r1 : List AOper := [
  ⟨some 6, .call (.const (.fn (.func 16) [] [])) [], none, []⟩,
 ⟨some 7, .buildSlice 1 [.const (.int .i64 0), .const (.int .i64 100)], none, []⟩,
 ⟨some 8, .call (.const (.fn (.func 15) [] [])) [.tmp 6, .tmp 7, .const (.int .i64 1)], none, []⟩,
 ⟨some 5, .move (.tmp 8), none, []⟩,
 ⟨some 9, .extract (.tmp 5) 0, none, []⟩,
 ⟨some 10, .extract (.tmp 5) 1, none, []⟩,
 ⟨some 1, .box (.const (.agg [.nilsl, .nilsl, .int .i64 0, .bool false])), none, []⟩,
 ⟨none, .store 4 (.tmp 1) (.tmp 9), none, []⟩,
 ⟨some 2, .move (.tmp 10), none, []⟩]
def k_law01_awake_r2 : List AOper := [
  ⟨some 12, .call (.const (.fn (.func 16) [] [])) [], none, []⟩,
 ⟨some 13, .buildSlice 1 [.const (.int .i64 0), .const (.int .i64 100)], none, []⟩,
 ⟨some 14, .call (.const (.fn (.func 17) [] [])) [.tmp 12, .tmp 13, .const (.int .i64 1), .const (.int .i64 2)], none, []⟩,
 ⟨some 11, .move (.tmp 14), none, []⟩,
 ⟨some 15, .extract (.tmp 11) 0, none, []⟩,
 ⟨some 16, .extract (.tmp 11) 1, none, []⟩,
 ⟨some 3, .box (.const (.agg [.int .i64 0, .int .i64 0])), none, []⟩,
 ⟨none, .store 2 (.tmp 3) (.tmp 15), none, []⟩,
 ⟨some 4, .move (.tmp 16), none, []⟩]
def k_law01_awake_r3 : List AOper := [
  ⟨some 17, .move (.tmp 2), none, []⟩,
 ⟨some 18, .bin .plain .eql (.tmp 17) (.const (.int .i64 0)), none, []⟩,
 ⟨some 19, .move (.tmp 18), none, []⟩,
 ⟨some 20, .move (.tmp 4), (some (19, true)), []⟩,
 ⟨some 21, .bin .plain .eql (.tmp 20) (.const (.int .i64 0)), (some (19, true)), []⟩,
 ⟨some 22, .pick (.tmp 19) (.tmp 21) (.const (.bool false)), none, []⟩,
 ⟨some 23, .move (.tmp 22), none, []⟩,
 ⟨some 24, .fieldAddr 0 (.tmp 1), (some (23, true)), []⟩,
 ⟨some 25, .load none (.tmp 24), (some (23, true)), []⟩,
 ⟨some 26, .buildSlice 1 [.const (.int .i64 0), .const (.int .i64 0), .const (.int .i64 0), .const (.int .i64 50), .const (.int .i64 100)], (some (23, true)), []⟩,
 ⟨some 27, .call (.const (.fn (.func 18) [] [])) [.tmp 25, .tmp 26], (some (23, true)), []⟩,
 ⟨some 28, .pick (.tmp 23) (.tmp 27) (.const (.bool false)), none, []⟩,
 ⟨some 29, .move (.tmp 28), none, []⟩,
 ⟨some 30, .fieldAddr 1 (.tmp 1), (some (29, true)), []⟩,
 ⟨some 31, .load none (.tmp 30), (some (29, true)), []⟩,
 ⟨some 32, .buildSlice 1 [.const (.int .i64 0), .const (.int .i64 50), .const (.int .i64 75), .const (.int .i64 88), .const (.int .i64 100)], (some (29, true)), []⟩,
 ⟨some 33, .call (.const (.fn (.func 18) [] [])) [.tmp 31, .tmp 32], (some (29, true)), []⟩,
 ⟨some 34, .pick (.tmp 29) (.tmp 33) (.const (.bool false)), none, []⟩,
 ⟨some 35, .move (.tmp 34), none, []⟩,
 ⟨some 36, .load (some (2)) (.tmp 3), (some (35, true)), []⟩,
 ⟨some 37, .build [.int .i64 0, .int .i64 0] [(0, 1, .const (.int .i64 12)), (1, 1, .const (.int .i64 50))], (some (35, true)), []⟩,
 ⟨some 38, .eqAgg false [.int, .int] (.tmp 36) (.tmp 37), (some (35, true)), []⟩,
 ⟨some 39, .pick (.tmp 35) (.tmp 38) (.const (.bool false)), none, []⟩,
 ⟨some 40, .move (.tmp 39), none, []⟩,
 ⟨some 41, .call (.const (.fn (.func 20) [] [])) [], (some (40, true)), []⟩,
 ⟨some 42, .call (.const (.fn (.func 19) [] [])) [.tmp 41, .const (.int .i64 3), .const (.int .i64 4)], (some (40, true)), []⟩,
 ⟨some 43, .bin .plain .eql (.tmp 42) (.const (.int .i64 8)), (some (40, true)), []⟩,
 ⟨some 44, .pick (.tmp 40) (.tmp 43) (.const (.bool false)), none, []⟩,
 ⟨some 0, .move (.tmp 44), none, []⟩]
def k_law01_awake : AFun := { params := 0, ntmps := 45, body := (.seq (.reg k_law01_awake_r0 false) (.seq (.reg k_law01_awake_r1 false) (.seq (.reg k_law01_awake_r2 false) (.seq (.reg k_law01_awake_r3 false) .ret)))), res := [.tmp 0] }
theorem k_law01_awake_ok : cfun Tryd.prog Tryd.f6 = k_law01_awake := by kernel_rfl

def k_field_Solve_r0 : List AOper := [
  ⟨some 3, .box (.tmp 0), none, []⟩,
 ⟨some 6, .box (.const (.agg [.nilsl, .nilsl, .int .i64 0, .bool false])), none, []⟩,
 ⟨some 7, .move (.const (.int .i64 0)), none, []⟩]
def k_field_Solve_r1 : List AOper := [
  ⟨some 10, .load (some (4)) (.tmp 3), none, []⟩,
 ⟨some 11, .move (.tmp 1), none, []⟩,
 ⟨some 12, .call (.const (.fn (.func 33) [] [])) [.tmp 10, .tmp 11], none, []⟩,
 ⟨some 8, .move (.tmp 12), none, []⟩]
def k_field_Solve_r2 : List AOper := [
  ⟨some 13, .move (.tmp 8), none, []⟩,
 ⟨some 14, .bin .plain .neq (.tmp 13) (.const (.int .i64 0)), none, []⟩]
def k_field_Solve_r3 : List AOper := [
  ⟨some 15, .build [.nilsl, .nilsl, .int .i64 0, .bool false] [], none, []⟩,
 ⟨some 16, .move (.tmp 8), none, []⟩,
 ⟨none, .store 4 (.tmp 6) (.tmp 15), none, []⟩,
 ⟨some 7, .move (.tmp 16), none, []⟩]
def k_field_Solve_r4 : List AOper := [
  ⟨some 17, .move (.tmp 2), none, []⟩,
 ⟨some 18, .call (.const (.fn (.func 34) [] [])) [.tmp 17], none, []⟩,
 ⟨some 9, .move (.tmp 18), none, []⟩]
def k_field_Solve_r5 : List AOper := [
  ⟨some 19, .move (.tmp 9), none, []⟩,
 ⟨some 20, .bin .plain .neq (.tmp 19) (.const (.int .i64 0)), none, []⟩]
def k_field_Solve_r6 : List AOper := [
  ⟨some 21, .build [.nilsl, .nilsl, .int .i64 0, .bool false] [], none, []⟩,
 ⟨some 22, .move (.tmp 9), none, []⟩,
 ⟨none, .store 4 (.tmp 6) (.tmp 21), none, []⟩,
 ⟨some 7, .move (.tmp 22), none, []⟩]
def k_field_Solve_r7 : List AOper := [
  ⟨some 23, .load (some (4)) (.tmp 3), none, []⟩,
 ⟨some 24, .move (.tmp 1), none, []⟩,
 ⟨some 25, .move (.tmp 2), none, []⟩,
 ⟨some 26, .call (.const (.fn (.func 35) [] [])) [.tmp 23, .tmp 24, .tmp 25], none, []⟩,
 ⟨none, .store 4 (.tmp 6) (.tmp 26), none, []⟩,
 ⟨some 7, .move (.const (.int .i64 0)), none, []⟩]
def k_field_Solve : AFun := { params := 3, ntmps := 27, body := (.seq (.reg k_field_Solve_r0 false) (.seq (.seq (.reg k_field_Solve_r1 false) (.seq (.reg k_field_Solve_r2 false) (.cond (.tmp 14) (.seq (.reg k_field_Solve_r3 false) .ret) .skip))) (.seq (.seq (.reg k_field_Solve_r4 false) (.seq (.reg k_field_Solve_r5 false) (.cond (.tmp 20) (.seq (.reg k_field_Solve_r6 false) .ret) .skip))) (.seq (.reg k_field_Solve_r7 false) .ret)))), res := [.cell 6 (some ((some (4)))), .tmp 7] }
theorem k_field_Solve_ok : cfun Tryd.prog Tryd.f15 = k_field_Solve := by kernel_rfl

def k_law01_line_r0 : List AOper := [
  ⟨some 0, .box (.const (.agg [.int .i64 0, .int .i64 0, .bool false, .nilsl])), none, []⟩]
def k_law01_line_r1 : List AOper := [
  ⟨some 1, .buildSlice 1 [.const (.int .i64 1), .const (.int .i64 0), .const (.int .i64 0), .const (.int .i64 0), .const (.int .i64 2)], none, []⟩,
 ⟨some 2, .build [.int .i64 0, .int .i64 0, .bool false, .nilsl] [(0, 1, .const (.int .i64 5)), (1, 1, .const (.int .i64 1)), (3, 1, .tmp 1)], none, []⟩,
 ⟨none, .store 4 (.tmp 0) (.tmp 2), none, []⟩]
def k_law01_line : AFun := { params := 0, ntmps := 3, body := (.seq (.reg k_law01_line_r0 false) (.seq (.reg k_law01_line_r1 false) .ret)), res := [.cell 0 (some ((some (4))))] }
theorem k_law01_line_ok : cfun Tryd.prog Tryd.f16 = k_law01_line := by kernel_rfl

def k_field_Charge_r0 : List AOper := [
  ⟨some 4, .box (.tmp 0), none, []⟩,
 ⟨some 8, .box (.const (.agg [.int .i64 0, .int .i64 0])), none, []⟩,
 ⟨some 9, .move (.const (.int .i64 0)), none, []⟩]
def k_field_Charge_r1 : List AOper := [
  ⟨some 13, .load (some (4)) (.tmp 4), none, []⟩,
 ⟨some 14, .move (.tmp 1), none, []⟩,
 ⟨some 15, .move (.tmp 2), none, []⟩,
 ⟨some 16, .call (.const (.fn (.func 15) [] [])) [.tmp 13, .tmp 14, .tmp 15], none, []⟩,
 ⟨some 12, .move (.tmp 16), none, []⟩,
 ⟨some 17, .extract (.tmp 12) 0, none, []⟩,
 ⟨some 18, .extract (.tmp 12) 1, none, []⟩,
 ⟨some 10, .box (.const (.agg [.nilsl, .nilsl, .int .i64 0, .bool false])), none, []⟩,
 ⟨none, .store 4 (.tmp 10) (.tmp 17), none, []⟩,
 ⟨some 11, .move (.tmp 18), none, []⟩]
def k_field_Charge_r2 : List AOper := [
  ⟨some 19, .move (.tmp 11), none, []⟩,
 ⟨some 20, .bin .plain .neq (.tmp 19) (.const (.int .i64 0)), none, []⟩]
def k_field_Charge_r3 : List AOper := [
  ⟨some 21, .build [.int .i64 0, .int .i64 0] [], none, []⟩,
 ⟨some 22, .move (.tmp 11), none, []⟩,
 ⟨none, .store 2 (.tmp 8) (.tmp 21), none, []⟩,
 ⟨some 9, .move (.tmp 22), none, []⟩]
def k_field_Charge_r4 : List AOper := [
  ⟨some 23, .load (some (4)) (.tmp 4), none, []⟩,
 ⟨some 24, .move (.tmp 3), none, []⟩,
 ⟨some 25, .call (.const (.fn (.func 36) [] [])) [.tmp 23, .tmp 24], none, []⟩,
 ⟨some 26, .not (.tmp 25), none, []⟩]
def k_field_Charge_r5 : List AOper := [
  ⟨some 27, .build [.int .i64 0, .int .i64 0] [], none, []⟩,
 ⟨none, .store 2 (.tmp 8) (.tmp 27), none, []⟩,
 ⟨some 9, .move (.const (.int .i64 7)), none, []⟩]
def k_field_Charge_r6 : List AOper := [
  ⟨some 28, .load (some (4)) (.tmp 4), none, []⟩,
 ⟨some 29, .load (some (4)) (.tmp 10), none, []⟩,
 ⟨some 30, .move (.tmp 3), none, []⟩,
 ⟨some 31, .call (.const (.fn (.func 37) [] [])) [.tmp 28, .tmp 29, .tmp 30], none, []⟩,
 ⟨none, .store 2 (.tmp 8) (.tmp 31), none, []⟩,
 ⟨some 9, .move (.const (.int .i64 0)), none, []⟩]
def k_field_Charge : AFun := { params := 4, ntmps := 32, body := (.seq (.reg k_field_Charge_r0 false) (.seq (.reg k_field_Charge_r1 false) (.seq (.seq (.reg k_field_Charge_r2 false) (.cond (.tmp 20) (.seq (.reg k_field_Charge_r3 false) .ret) .skip)) (.seq (.seq (.reg k_field_Charge_r4 false) (.cond (.tmp 26) (.seq (.reg k_field_Charge_r5 false) .ret) .skip)) (.seq (.reg k_field_Charge_r6 false) .ret))))), res := [.cell 8 (some ((some (2)))), .tmp 9] }
theorem k_field_Charge_ok : cfun Tryd.prog Tryd.f17 = k_field_Charge := by kernel_rfl

def k_kit_Same_r0 : List AOper := [
  ⟨some 4, .move (.const (.bool false)), none, []⟩]
def k_kit_Same_r1 : List AOper := [
  ⟨some 6, .move (.tmp 0), none, []⟩,
 ⟨some 7, .len false (.tmp 6), none, []⟩,
 ⟨some 8, .move (.tmp 1), none, []⟩,
 ⟨some 9, .len false (.tmp 8), none, []⟩,
 ⟨some 10, .bin .plain .neq (.tmp 7) (.tmp 9), none, []⟩]
def k_kit_Same_r2 : List AOper := [
  ⟨some 4, .move (.const (.bool false)), none, []⟩]
def k_kit_Same_r3 : List AOper := [
  ⟨some 5, .move (.const (.int .i64 0)), none, []⟩]
def k_kit_Same_r4 : List AOper := [
  ⟨some 11, .move (.tmp 5), none, []⟩,
 ⟨some 12, .move (.tmp 0), none, []⟩,
 ⟨some 13, .len false (.tmp 12), none, []⟩,
 ⟨some 14, .bin .plain .lss (.tmp 11) (.tmp 13), none, []⟩]
def k_kit_Same_r5 : List AOper := [
  ⟨some 17, .move (.tmp 0), none, []⟩,
 ⟨some 18, .move (.tmp 5), none, [0]⟩,
 ⟨some 19, .indexAddr 1 (.tmp 17) (.tmp 18), none, []⟩,
 ⟨some 20, .load none (.tmp 19), none, []⟩,
 ⟨some 21, .move (.tmp 1), none, [0, 1, 2, 3]⟩,
 ⟨some 22, .move (.tmp 5), none, [0, 1, 2, 3, 4]⟩,
 ⟨some 23, .indexAddr 1 (.tmp 21) (.tmp 22), none, [0, 1, 2, 3]⟩,
 ⟨some 24, .load none (.tmp 23), none, [0, 1, 2, 3]⟩,
 ⟨some 25, .bin .plain .neq (.tmp 20) (.tmp 24), none, []⟩]
def k_kit_Same_r5s : List (List AOper) := [
  [
  ⟨some 17, .move (.tmp 0), none, []⟩,
 ⟨some 18, .move (.tmp 5), none, [0]⟩,
 ⟨some 19, .indexAddr 1 (.tmp 17) (.tmp 18), none, []⟩,
 ⟨some 20, .load none (.tmp 19), none, []⟩,
 ⟨some 21, .move (.tmp 1), none, [0, 1, 2, 3]⟩,
 ⟨some 22, .move (.tmp 5), none, [0, 1, 2, 3, 4]⟩,
 ⟨some 23, .indexAddr 1 (.tmp 21) (.tmp 22), none, [0, 1, 2, 3]⟩,
 ⟨some 24, .load none (.tmp 23), none, [0, 1, 2, 3]⟩], 
  [
  ⟨some 25, .bin .plain .neq (.tmp 20) (.tmp 24), none, []⟩]]
theorem k_kit_Same_r5_sg : segs k_kit_Same_r5 = k_kit_Same_r5s := by kernel_rfl
theorem k_kit_Same_r5_st : statOK k_kit_Same_r5 = true := by kernel_rfl
def k_kit_Same_r6 : List AOper := [
  ⟨some 4, .move (.const (.bool false)), none, []⟩]
def k_kit_Same_r7 : List AOper := [
  ⟨some 15, .move (.tmp 5), none, []⟩,
 ⟨some 16, .bin .plain .add (.tmp 15) (.const (.int .i64 1)), none, []⟩,
 ⟨some 5, .move (.tmp 16), none, []⟩]
def k_kit_Same_r8 : ACode := (.seq (.seq (.reg k_kit_Same_r4 false) (.cond (.tmp 14) .skip (.exit 0))) (.seq (.block 1 (.seq (.reg k_kit_Same_r5 true) (.cond (.tmp 25) (.seq (.reg k_kit_Same_r6 false) .ret) .skip))) (.reg k_kit_Same_r7 false)))
def k_kit_Same_r9 : List AOper := [
  ⟨some 4, .move (.const (.bool true)), none, []⟩]
def k_kit_Same : AFun := { params := 2, ntmps := 26, body := (.seq (.reg k_kit_Same_r0 false) (.seq (.seq (.reg k_kit_Same_r1 false) (.cond (.tmp 10) (.seq (.reg k_kit_Same_r2 false) .ret) .skip)) (.seq (.seq (.reg k_kit_Same_r3 false) (.block 0 (.loop k_kit_Same_r8))) (.seq (.reg k_kit_Same_r9 false) .ret)))), res := [.tmp 4] }
theorem k_kit_Same_ok : cfun Tryd.prog Tryd.f18 = k_kit_Same := by kernel_rfl

def k_field_Weight_r0 : List AOper := [
  ⟨some 3, .box (.tmp 0), none, []⟩,
 ⟨some 5, .box (.tmp 2), none, []⟩,
 ⟨some 6, .box (.const (.int .i64 0)), none, []⟩]
def k_field_Weight_r1 : List AOper := [
  ⟨some 9, .load (some (4)) (.tmp 3), none, []⟩,
 ⟨some 10, .call (.const (.fn (.func 25) [] [])) [.tmp 9], none, []⟩,
 ⟨some 11, .bin .plain .neq (.tmp 10) (.const (.int .i64 0)), none, []⟩,
 ⟨some 12, .move (.tmp 11), none, []⟩,
 ⟨some 13, .move (.tmp 1), (some (12, false)), []⟩,
 ⟨some 14, .fieldAddr 3 (.tmp 3), (some (12, false)), []⟩,
 ⟨some 15, .load none (.tmp 14), (some (12, false)), []⟩,
 ⟨some 16, .len false (.tmp 15), (some (12, false)), []⟩,
 ⟨some 17, .bin .plain .sub (.tmp 16) (.const (.int .i64 1)), (some (12, false)), []⟩,
 ⟨some 18, .call (.const (.fn (.func 38) [] [])) [.tmp 13, .const (.int .i64 0), .tmp 17], (some (12, false)), []⟩,
 ⟨some 19, .not (.tmp 18), (some (12, false)), []⟩,
 ⟨some 20, .pick (.tmp 12) (.const (.bool true)) (.tmp 19), none, []⟩]
def k_field_Weight_r2 : List AOper := [
  ⟨none, .store 1 (.tmp 6) (.const (.int .i64 0)), none, []⟩]
def k_field_Weight_r3 : List AOper := [
  ⟨some 21, .load (some (4)) (.tmp 3), none, []⟩,
 ⟨some 22, .move (.tmp 1), none, []⟩,
 ⟨some 23, .call (.const (.fn (.func 39) [] [])) [.tmp 21, .tmp 22], none, []⟩]
def k_field_Weight_r4 : List AOper := [
  ⟨some 7, .move (.tmp 24), none, []⟩]
def k_field_Weight_r5 : List AOper := [
  ⟨some 8, .move (.tmp 25), none, []⟩]
def k_field_Weight_r6 : List AOper := [
  ⟨some 26, .move (.tmp 7), none, []⟩,
 ⟨some 27, .load none (.tmp 5), none, []⟩,
 ⟨some 28, .bin .plain .eql (.tmp 26) (.tmp 27), none, []⟩]
def k_field_Weight_r7 : List AOper := [
  ⟨some 29, .move (.tmp 8), none, []⟩,
 ⟨none, .store 1 (.tmp 6) (.tmp 29), none, []⟩]
def k_field_Weight_r8 : ACode := (.seq (.reg k_field_Weight_r4 false) (.reg k_field_Weight_r5 false))
def k_field_Weight_r9 : ACode := (.block 1 (.seq (.reg k_field_Weight_r6 false) (.cond (.tmp 28) (.seq (.reg k_field_Weight_r7 false) .ret) .skip)))
def k_field_Weight_r10 : List AOper := [
  ⟨none, .store 1 (.tmp 6) (.const (.int .i64 0)), none, []⟩]
def k_field_Weight : AFun := { params := 3, ntmps := 30, body := (.seq (.reg k_field_Weight_r0 false) (.seq (.seq (.reg k_field_Weight_r1 false) (.cond (.tmp 20) (.seq (.reg k_field_Weight_r2 false) .ret) .skip)) (.seq (.seq (.reg k_field_Weight_r3 false) (.block 0 (.rng (.tmp 23) [24, 25] k_field_Weight_r8 k_field_Weight_r9))) (.seq (.reg k_field_Weight_r10 false) .ret)))), res := [.cell 6 (some (none))] }
theorem k_field_Weight_ok : cfun Tryd.prog Tryd.f19 = k_field_Weight := by kernel_rfl

def k_law01_ring_r0 : List AOper := [
  ⟨some 0, .box (.const (.agg [.int .i64 0, .int .i64 0, .bool false, .nilsl])), none, []⟩]
def k_law01_ring_r1 : List AOper := [
  ⟨some 2, .call (.const (.fn (.func 16) [] [])) [], none, []⟩,
 ⟨some 1, .box (.const (.agg [.int .i64 0, .int .i64 0, .bool false, .nilsl])), none, []⟩,
 ⟨none, .store 4 (.tmp 1) (.tmp 2), none, []⟩]
def k_law01_ring_r2 : List AOper := [
  ⟨some 3, .fieldAddr 2 (.tmp 1), none, []⟩,
 ⟨none, .store 1 (.tmp 3) (.const (.bool true)), none, []⟩]
def k_law01_ring_r3 : List AOper := [
  ⟨some 4, .load (some (4)) (.tmp 1), none, []⟩,
 ⟨none, .store 4 (.tmp 0) (.tmp 4), none, []⟩]
def k_law01_ring : AFun := { params := 0, ntmps := 5, body := (.seq (.reg k_law01_ring_r0 false) (.seq (.reg k_law01_ring_r1 false) (.seq (.reg k_law01_ring_r2 false) (.seq (.reg k_law01_ring_r3 false) .ret)))), res := [.cell 0 (some ((some (4))))] }
theorem k_law01_ring_ok : cfun Tryd.prog Tryd.f20 = k_law01_ring := by kernel_rfl

def k_field_Check_r0 : List AOper := [
  ⟨some 1, .box (.tmp 0), none, []⟩,
 ⟨some 2, .move (.const (.int .i64 0)), none, []⟩]
def k_field_Check_r1 : List AOper := [
  ⟨some 5, .fieldAddr 0 (.tmp 1), none, []⟩,
 ⟨some 6, .load none (.tmp 5), none, []⟩,
 ⟨some 7, .call (.const (.fn (.func 38) [] [])) [.tmp 6, .const (.int .i64 1), .const (.int .i64 16)], none, []⟩,
 ⟨some 8, .not (.tmp 7), none, []⟩,
 ⟨some 9, .move (.tmp 8), none, []⟩,
 ⟨some 10, .fieldAddr 1 (.tmp 1), (some (9, false)), []⟩,
 ⟨some 11, .load none (.tmp 10), (some (9, false)), []⟩,
 ⟨some 12, .call (.const (.fn (.func 38) [] [])) [.tmp 11, .const (.int .i64 1), .const (.int .i64 16)], (some (9, false)), []⟩,
 ⟨some 13, .not (.tmp 12), (some (9, false)), []⟩,
 ⟨some 14, .pick (.tmp 9) (.const (.bool true)) (.tmp 13), none, []⟩]
def k_field_Check_r2 : List AOper := [
  ⟨some 2, .move (.const (.int .i64 2)), none, []⟩]
def k_field_Check_r3 : List AOper := [
  ⟨some 15, .fieldAddr 3 (.tmp 1), none, []⟩,
 ⟨some 16, .load none (.tmp 15), none, []⟩,
 ⟨some 17, .len false (.tmp 16), none, []⟩,
 ⟨some 18, .fieldAddr 0 (.tmp 1), none, []⟩,
 ⟨some 19, .load none (.tmp 18), none, []⟩,
 ⟨some 20, .fieldAddr 1 (.tmp 1), none, []⟩,
 ⟨some 21, .load none (.tmp 20), none, []⟩,
 ⟨some 22, .bin .plain .mul (.tmp 19) (.tmp 21), none, []⟩,
 ⟨some 23, .bin .plain .neq (.tmp 17) (.tmp 22), none, []⟩]
def k_field_Check_r4 : List AOper := [
  ⟨some 2, .move (.const (.int .i64 3)), none, []⟩]
def k_field_Check_r5 : List AOper := [
  ⟨some 24, .fieldAddr 3 (.tmp 1), none, []⟩,
 ⟨some 25, .load none (.tmp 24), none, []⟩,
 ⟨some 26, .len false (.tmp 25), none, []⟩,
 ⟨some 27, .move (.const (.int .i64 0)), none, []⟩]
def k_field_Check_r6 : List AOper := [
  ⟨some 28, .bin .plain .lss (.tmp 27) (.tmp 26), none, []⟩]
def k_field_Check_r7 : List AOper := [
  ⟨some 29, .indexAddr 1 (.tmp 25) (.tmp 27), none, []⟩,
 ⟨some 30, .load none (.tmp 29), none, []⟩,
 ⟨some 4, .move (.tmp 30), none, []⟩]
def k_field_Check_r8 : List AOper := [
  ⟨some 31, .move (.tmp 4), none, []⟩,
 ⟨some 32, .call (.const (.fn (.func 38) [] [])) [.tmp 31, .const (.int .i64 0), .const (.int .i64 6)], none, []⟩,
 ⟨some 33, .not (.tmp 32), none, []⟩]
def k_field_Check_r9 : List AOper := [
  ⟨some 2, .move (.const (.int .i64 2)), none, []⟩]
def k_field_Check_r10 : List AOper := [
  ⟨some 34, .bin .plain .add (.tmp 27) (.const (.int .i64 1)), none, []⟩,
 ⟨some 27, .move (.tmp 34), none, []⟩]
def k_field_Check_r11 : ACode := (.seq (.reg k_field_Check_r6 false) (.seq (.cond (.tmp 28) .skip (.exit 0)) (.seq (.block 1 (.seq (.reg k_field_Check_r7 false) (.seq (.reg k_field_Check_r8 false) (.cond (.tmp 33) (.seq (.reg k_field_Check_r9 false) .ret) .skip)))) (.reg k_field_Check_r10 false))))
def k_field_Check_r12 : List AOper := [
  ⟨some 35, .fieldAddr 3 (.tmp 1), none, []⟩,
 ⟨some 36, .load none (.tmp 35), none, []⟩,
 ⟨some 37, .call (.const (.fn (.func 41) [] [])) [.tmp 36], none, []⟩,
 ⟨some 38, .bin .plain .eql (.tmp 37) (.const (.int .i64 0)), none, []⟩]
def k_field_Check_r13 : List AOper := [
  ⟨some 2, .move (.const (.int .i64 7)), none, []⟩]
def k_field_Check_r14 : List AOper := [
  ⟨some 39, .load (some (4)) (.tmp 1), none, []⟩,
 ⟨some 40, .call (.const (.fn (.func 42) [] [])) [.tmp 39], none, []⟩]
def k_field_Check_r15 : List AOper := [
  ⟨some 2, .move (.const (.int .i64 13)), none, []⟩]
def k_field_Check_r16 : List AOper := [
  ⟨some 2, .move (.const (.int .i64 0)), none, []⟩]
def k_field_Check : AFun := { params := 1, ntmps := 41, body := (.seq (.reg k_field_Check_r0 false) (.seq (.seq (.reg k_field_Check_r1 false) (.cond (.tmp 14) (.seq (.reg k_field_Check_r2 false) .ret) .skip)) (.seq (.seq (.reg k_field_Check_r3 false) (.cond (.tmp 23) (.seq (.reg k_field_Check_r4 false) .ret) .skip)) (.seq (.seq (.reg k_field_Check_r5 false) (.block 0 (.loop k_field_Check_r11))) (.seq (.seq (.reg k_field_Check_r12 false) (.cond (.tmp 38) (.seq (.reg k_field_Check_r13 false) .ret) .skip)) (.seq (.seq (.reg k_field_Check_r14 false) (.cond (.tmp 40) (.seq (.reg k_field_Check_r15 false) .ret) .skip)) (.seq (.reg k_field_Check_r16 false) .ret))))))), res := [.tmp 2] }
theorem k_field_Check_ok : cfun Tryd.prog Tryd.f25 = k_field_Check := by kernel_rfl

def k_field_CheckVolts_r0 : List AOper := [
  ⟨some 2, .box (.tmp 0), none, []⟩,
 ⟨some 4, .move (.const (.int .i64 0)), none, []⟩]
def k_field_CheckVolts_r1 : List AOper := [
  ⟨some 6, .load (some (4)) (.tmp 2), none, []⟩,
 ⟨some 7, .call (.const (.fn (.func 25) [] [])) [.tmp 6], none, []⟩,
 ⟨some 5, .move (.tmp 7), none, []⟩]
def k_field_CheckVolts_r2 : List AOper := [
  ⟨some 8, .move (.tmp 5), none, []⟩,
 ⟨some 9, .bin .plain .neq (.tmp 8) (.const (.int .i64 0)), none, []⟩]
def k_field_CheckVolts_r3 : List AOper := [
  ⟨some 10, .move (.tmp 5), none, []⟩,
 ⟨some 4, .move (.tmp 10), none, []⟩]
def k_field_CheckVolts_r4 : List AOper := [
  ⟨some 11, .move (.tmp 1), none, []⟩,
 ⟨some 12, .len false (.tmp 11), none, []⟩,
 ⟨some 13, .fieldAddr 3 (.tmp 2), none, []⟩,
 ⟨some 14, .load none (.tmp 13), none, []⟩,
 ⟨some 15, .call (.const (.fn (.func 41) [] [])) [.tmp 14], none, []⟩,
 ⟨some 16, .bin .plain .neq (.tmp 12) (.tmp 15), none, []⟩]
def k_field_CheckVolts_r5 : List AOper := [
  ⟨some 4, .move (.const (.int .i64 3)), none, []⟩]
def k_field_CheckVolts_r6 : List AOper := [
  ⟨some 17, .move (.tmp 1), none, []⟩,
 ⟨some 18, .call (.const (.fn (.func 49) [] [])) [.tmp 17], none, []⟩,
 ⟨some 4, .move (.tmp 18), none, []⟩]
def k_field_CheckVolts : AFun := { params := 2, ntmps := 19, body := (.seq (.reg k_field_CheckVolts_r0 false) (.seq (.seq (.reg k_field_CheckVolts_r1 false) (.seq (.reg k_field_CheckVolts_r2 false) (.cond (.tmp 9) (.seq (.reg k_field_CheckVolts_r3 false) .ret) .skip))) (.seq (.seq (.reg k_field_CheckVolts_r4 false) (.cond (.tmp 16) (.seq (.reg k_field_CheckVolts_r5 false) .ret) .skip)) (.seq (.reg k_field_CheckVolts_r6 false) .ret)))), res := [.tmp 4] }
theorem k_field_CheckVolts_ok : cfun Tryd.prog Tryd.f33 = k_field_CheckVolts := by kernel_rfl

def k_field_checkSweeps_r0 : List AOper := [
  ⟨some 2, .move (.const (.int .i64 0)), none, []⟩]
def k_field_checkSweeps_r1 : List AOper := [
  ⟨some 3, .move (.tmp 0), none, []⟩,
 ⟨some 4, .call (.const (.fn (.func 38) [] [])) [.tmp 3, .const (.int .i64 0), .const (.int .i64 200)], none, []⟩,
 ⟨some 5, .not (.tmp 4), none, []⟩]
def k_field_checkSweeps_r2 : List AOper := [
  ⟨some 2, .move (.const (.int .i64 2)), none, []⟩]
def k_field_checkSweeps_r3 : List AOper := [
  ⟨some 2, .move (.const (.int .i64 0)), none, []⟩]
def k_field_checkSweeps : AFun := { params := 1, ntmps := 6, body := (.seq (.reg k_field_checkSweeps_r0 false) (.seq (.seq (.reg k_field_checkSweeps_r1 false) (.cond (.tmp 5) (.seq (.reg k_field_checkSweeps_r2 false) .ret) .skip)) (.seq (.reg k_field_checkSweeps_r3 false) .ret))), res := [.tmp 2] }
theorem k_field_checkSweeps_ok : cfun Tryd.prog Tryd.f34 = k_field_checkSweeps := by kernel_rfl

def k_field_solve_r0 : List AOper := [
  ⟨some 3, .box (.tmp 0), none, []⟩,
 ⟨some 6, .box (.const (.agg [.nilsl, .nilsl, .int .i64 0, .bool false])), none, []⟩]
def k_field_solve_r1 : List AOper := [
  ⟨some 15, .load (some (4)) (.tmp 3), none, []⟩,
 ⟨some 16, .move (.tmp 1), none, []⟩,
 ⟨some 17, .call (.const (.fn (.func 50) [] [])) [.tmp 15, .tmp 16], none, []⟩,
 ⟨some 14, .move (.tmp 17), none, []⟩,
 ⟨some 18, .extract (.tmp 14) 0, none, []⟩,
 ⟨some 19, .extract (.tmp 14) 1, none, []⟩,
 ⟨some 7, .move (.tmp 18), none, []⟩,
 ⟨some 8, .move (.tmp 19), none, []⟩]
def k_field_solve_r2 : List AOper := [
  ⟨some 20, .load (some (4)) (.tmp 3), none, []⟩,
 ⟨some 21, .move (.tmp 1), none, []⟩,
 ⟨some 22, .move (.tmp 7), none, []⟩,
 ⟨some 23, .call (.const (.fn (.func 51) [] [])) [.tmp 20, .tmp 21, .tmp 22, .const (.fn (.func 52) [] [])], none, []⟩,
 ⟨some 9, .box (.const (.agg [.nilsl, .nilfn])), none, []⟩,
 ⟨none, .store 2 (.tmp 9) (.tmp 23), none, []⟩]
def k_field_solve_r3 : List AOper := [
  ⟨some 24, .load (some (4)) (.tmp 3), none, []⟩,
 ⟨some 25, .move (.tmp 1), none, []⟩,
 ⟨some 26, .move (.tmp 8), none, []⟩,
 ⟨some 27, .call (.const (.fn (.func 51) [] [])) [.tmp 24, .tmp 25, .tmp 26, .const (.fn (.func 53) [] [])], none, []⟩,
 ⟨some 10, .box (.const (.agg [.nilsl, .nilfn])), none, []⟩,
 ⟨none, .store 2 (.tmp 10) (.tmp 27), none, []⟩]
def k_field_solve_r4 : List AOper := [
  ⟨some 28, .fieldAddr 0 (.tmp 9), none, []⟩,
 ⟨some 29, .load none (.tmp 28), none, []⟩,
 ⟨some 30, .fieldAddr 0 (.tmp 10), none, []⟩,
 ⟨some 31, .load none (.tmp 30), none, []⟩,
 ⟨some 32, .build [.nilsl, .nilsl, .int .i64 0, .bool false] [(0, 1, .tmp 29), (1, 1, .tmp 31)], none, []⟩,
 ⟨some 11, .box (.const (.agg [.nilsl, .nilsl, .int .i64 0, .bool false])), none, []⟩,
 ⟨none, .store 4 (.tmp 11) (.tmp 32), none, []⟩]
def k_field_solve_r5 : List AOper := [
  ⟨some 33, .fieldAddr 2 (.tmp 11), none, []⟩,
 ⟨some 34, .load none (.tmp 33), none, []⟩,
 ⟨some 35, .move (.tmp 2), none, []⟩,
 ⟨some 36, .bin .plain .lss (.tmp 34) (.tmp 35), none, []⟩,
 ⟨some 37, .move (.tmp 36), none, []⟩,
 ⟨some 38, .fieldAddr 3 (.tmp 11), (some (37, true)), []⟩,
 ⟨some 39, .load none (.tmp 38), (some (37, true)), []⟩,
 ⟨some 40, .not (.tmp 39), (some (37, true)), []⟩,
 ⟨some 41, .pick (.tmp 37) (.tmp 40) (.const (.bool false)), none, []⟩]
def k_field_solve_r6 : List AOper := [
  ⟨some 42, .load (some (2)) (.tmp 9), none, []⟩,
 ⟨some 43, .load (some (4)) (.tmp 3), none, [0]⟩,
 ⟨some 44, .call (.const (.fn (.func 54) [] [])) [.tmp 42, .tmp 43], none, []⟩,
 ⟨some 45, .load (some (2)) (.tmp 10), none, [0, 1, 2]⟩,
 ⟨some 46, .load (some (4)) (.tmp 3), none, [0, 1, 2, 3]⟩,
 ⟨some 47, .call (.const (.fn (.func 54) [] [])) [.tmp 45, .tmp 46], none, []⟩,
 ⟨some 12, .move (.tmp 44), none, []⟩,
 ⟨some 13, .move (.tmp 47), none, []⟩]
def k_field_solve_r6s : List (List AOper) := [
  [
  ⟨some 42, .load (some (2)) (.tmp 9), none, []⟩,
 ⟨some 43, .load (some (4)) (.tmp 3), none, [0]⟩,
 ⟨some 44, .call (.const (.fn (.func 54) [] [])) [.tmp 42, .tmp 43], none, []⟩,
 ⟨some 45, .load (some (2)) (.tmp 10), none, [0, 1, 2]⟩,
 ⟨some 46, .load (some (4)) (.tmp 3), none, [0, 1, 2, 3]⟩], 
  [
  ⟨some 47, .call (.const (.fn (.func 54) [] [])) [.tmp 45, .tmp 46], none, []⟩], 
  [
  ⟨some 12, .move (.tmp 44), none, []⟩], 
  [
  ⟨some 13, .move (.tmp 47), none, []⟩]]
theorem k_field_solve_r6_sg : segs k_field_solve_r6 = k_field_solve_r6s := by kernel_rfl
theorem k_field_solve_r6_st : statOK k_field_solve_r6 = true := by kernel_rfl
def k_field_solve_r7 : List AOper := [
  ⟨some 48, .move (.tmp 12), none, []⟩,
 ⟨some 49, .not (.tmp 48), none, []⟩,
 ⟨some 50, .move (.tmp 49), none, []⟩,
 ⟨some 51, .move (.tmp 13), (some (50, true)), []⟩,
 ⟨some 52, .not (.tmp 51), (some (50, true)), []⟩,
 ⟨some 53, .pick (.tmp 50) (.tmp 52) (.const (.bool false)), none, []⟩,
 ⟨some 54, .fieldAddr 3 (.tmp 11), none, []⟩,
 ⟨none, .store 1 (.tmp 54) (.tmp 53), none, []⟩]
def k_field_solve_r8 : List AOper := [
  ⟨some 55, .fieldAddr 2 (.tmp 11), none, []⟩,
 ⟨some 56, .load none (.tmp 55), none, []⟩,
 ⟨some 57, .bin .plain .add (.tmp 56) (.const (.int .i64 1)), none, []⟩,
 ⟨some 58, .fieldAddr 2 (.tmp 11), none, []⟩,
 ⟨none, .store 1 (.tmp 58) (.tmp 57), none, []⟩]
def k_field_solve_r9 : ACode := (.seq (.seq (.reg k_field_solve_r5 false) (.cond (.tmp 41) .skip (.exit 0))) (.block 1 (.seq (.reg k_field_solve_r6 true) (.seq (.reg k_field_solve_r7 false) (.reg k_field_solve_r8 false)))))
def k_field_solve_r10 : List AOper := [
  ⟨some 59, .load (some (4)) (.tmp 11), none, []⟩,
 ⟨none, .store 4 (.tmp 6) (.tmp 59), none, []⟩]
def k_field_solve : AFun := { params := 3, ntmps := 60, body := (.seq (.reg k_field_solve_r0 false) (.seq (.reg k_field_solve_r1 false) (.seq (.reg k_field_solve_r2 false) (.seq (.reg k_field_solve_r3 false) (.seq (.reg k_field_solve_r4 false) (.seq (.block 0 (.loop k_field_solve_r9)) (.seq (.reg k_field_solve_r10 false) .ret))))))), res := [.cell 6 (some ((some (4))))] }
theorem k_field_solve_ok : cfun Tryd.prog Tryd.f35 = k_field_solve := by kernel_rfl

def k_field_has_r0 : List AOper := [
  ⟨some 2, .box (.tmp 0), none, []⟩,
 ⟨some 4, .move (.const (.bool false)), none, []⟩]
def k_field_has_r1 : List AOper := [
  ⟨some 5, .move (.tmp 1), none, []⟩,
 ⟨some 6, .bin .plain .neq (.tmp 5) (.const (.int .i64 0)), none, []⟩,
 ⟨some 7, .move (.tmp 6), none, []⟩,
 ⟨some 8, .fieldAddr 3 (.tmp 2), (some (7, true)), []⟩,
 ⟨some 9, .load none (.tmp 8), (some (7, true)), []⟩,
 ⟨some 10, .move (.tmp 1), (some (7, true)), []⟩,
 ⟨some 11, .call (.const (.fn (.func 55) [] [])) [.tmp 9, .tmp 10], (some (7, true)), []⟩,
 ⟨some 12, .pick (.tmp 7) (.tmp 11) (.const (.bool false)), none, []⟩,
 ⟨some 4, .move (.tmp 12), none, []⟩]
def k_field_has : AFun := { params := 2, ntmps := 13, body := (.seq (.reg k_field_has_r0 false) (.seq (.reg k_field_has_r1 false) .ret)), res := [.tmp 4] }
theorem k_field_has_ok : cfun Tryd.prog Tryd.f36 = k_field_has := by kernel_rfl

def k_field_charge_r0 : List AOper := [
  ⟨some 3, .box (.tmp 0), none, []⟩,
 ⟨some 4, .box (.tmp 1), none, []⟩,
 ⟨some 5, .box (.tmp 2), none, []⟩,
 ⟨some 6, .box (.const (.agg [.int .i64 0, .int .i64 0])), none, []⟩]
def k_field_charge_r1 : List AOper := [
  ⟨some 7, .box (.const (.agg [.int .i64 0, .int .i64 0])), none, []⟩]
def k_field_charge_r2 : List AOper := [
  ⟨some 12, .fieldAddr 3 (.tmp 3), none, []⟩,
 ⟨some 13, .load none (.tmp 12), none, []⟩,
 ⟨some 14, .len false (.tmp 13), none, []⟩,
 ⟨some 15, .move (.const (.int .i64 0)), none, []⟩]
def k_field_charge_r3 : List AOper := [
  ⟨some 16, .bin .plain .lss (.tmp 15) (.tmp 14), none, []⟩]
def k_field_charge_r4 : List AOper := [
  ⟨some 17, .move (.tmp 15), none, []⟩,
 ⟨some 18, .indexAddr 1 (.tmp 13) (.tmp 15), none, []⟩,
 ⟨some 19, .load none (.tmp 18), none, []⟩,
 ⟨some 8, .box (.const (.int .i64 0)), none, []⟩,
 ⟨none, .store 1 (.tmp 8) (.tmp 17), none, []⟩,
 ⟨some 9, .move (.tmp 19), none, []⟩]
def k_field_charge_r5 : List AOper := [
  ⟨some 20, .move (.tmp 9), none, []⟩,
 ⟨some 21, .load none (.tmp 5), none, []⟩,
 ⟨some 22, .bin .plain .neq (.tmp 20) (.tmp 21), none, []⟩]
def k_field_charge_r6 : List AOper := [
  ⟨some 23, .load (some (4)) (.tmp 3), none, []⟩,
 ⟨some 24, .load none (.tmp 8), none, []⟩,
 ⟨some 25, .call (.const (.fn (.func 39) [] [])) [.tmp 23, .tmp 24], none, []⟩]
def k_field_charge_r7 : List AOper := [
  ⟨some 10, .move (.tmp 26), none, []⟩]
def k_field_charge_r8 : List AOper := [
  ⟨some 11, .move (.tmp 27), none, []⟩]
def k_field_charge_r9 : List AOper := [
  ⟨some 28, .fieldAddr 3 (.tmp 3), none, []⟩,
 ⟨some 29, .load none (.tmp 28), none, []⟩,
 ⟨some 30, .move (.tmp 10), none, [0, 1]⟩,
 ⟨some 31, .indexAddr 1 (.tmp 29) (.tmp 30), none, []⟩,
 ⟨some 32, .load none (.tmp 31), none, []⟩,
 ⟨some 33, .load none (.tmp 5), none, [0, 1, 2, 3, 4]⟩,
 ⟨some 34, .bin .plain .neq (.tmp 32) (.tmp 33), none, []⟩]
def k_field_charge_r9s : List (List AOper) := [
  [
  ⟨some 28, .fieldAddr 3 (.tmp 3), none, []⟩,
 ⟨some 29, .load none (.tmp 28), none, []⟩,
 ⟨some 30, .move (.tmp 10), none, [0, 1]⟩,
 ⟨some 31, .indexAddr 1 (.tmp 29) (.tmp 30), none, []⟩,
 ⟨some 32, .load none (.tmp 31), none, []⟩,
 ⟨some 33, .load none (.tmp 5), none, [0, 1, 2, 3, 4]⟩], 
  [
  ⟨some 34, .bin .plain .neq (.tmp 32) (.tmp 33), none, []⟩]]
theorem k_field_charge_r9_sg : segs k_field_charge_r9 = k_field_charge_r9s := by kernel_rfl
theorem k_field_charge_r9_st : statOK k_field_charge_r9 = true := by kernel_rfl
def k_field_charge_r10 : List AOper := [
  ⟨some 35, .fieldAddr 0 (.tmp 7), none, []⟩,
 ⟨some 36, .load none (.tmp 35), none, []⟩,
 ⟨some 37, .move (.tmp 11), none, [0, 1]⟩,
 ⟨some 38, .fieldAddr 1 (.tmp 4), none, [0, 1, 2]⟩,
 ⟨some 39, .load none (.tmp 38), none, [0, 1, 2]⟩,
 ⟨some 40, .load none (.tmp 8), none, [0, 1, 2, 3, 4]⟩,
 ⟨some 41, .indexAddr 1 (.tmp 39) (.tmp 40), none, [0, 1, 2]⟩,
 ⟨some 42, .load none (.tmp 41), none, [0, 1, 2]⟩,
 ⟨some 43, .fieldAddr 1 (.tmp 4), none, [0, 1, 2, 3, 4, 5, 6, 7]⟩,
 ⟨some 44, .load none (.tmp 43), none, [0, 1, 2, 3, 4, 5, 6, 7]⟩,
 ⟨some 45, .move (.tmp 10), none, [0, 1, 2, 3, 4, 5, 6, 7, 8, 9]⟩,
 ⟨some 46, .indexAddr 1 (.tmp 44) (.tmp 45), none, [0, 1, 2, 3, 4, 5, 6, 7]⟩,
 ⟨some 47, .load none (.tmp 46), none, [0, 1, 2, 3, 4, 5, 6, 7]⟩,
 ⟨some 48, .bin .plain .sub (.tmp 42) (.tmp 47), none, [0, 1, 2]⟩,
 ⟨some 49, .bin .plain .mul (.tmp 37) (.tmp 48), none, [0, 1]⟩,
 ⟨some 50, .bin .plain .add (.tmp 36) (.tmp 49), none, []⟩,
 ⟨some 51, .fieldAddr 0 (.tmp 7), none, []⟩,
 ⟨none, .store 1 (.tmp 51) (.tmp 50), none, []⟩]
def k_field_charge_r10s : List (List AOper) := [
  [
  ⟨some 35, .fieldAddr 0 (.tmp 7), none, []⟩,
 ⟨some 36, .load none (.tmp 35), none, []⟩,
 ⟨some 37, .move (.tmp 11), none, [0, 1]⟩,
 ⟨some 38, .fieldAddr 1 (.tmp 4), none, [0, 1, 2]⟩,
 ⟨some 39, .load none (.tmp 38), none, [0, 1, 2]⟩,
 ⟨some 40, .load none (.tmp 8), none, [0, 1, 2, 3, 4]⟩,
 ⟨some 41, .indexAddr 1 (.tmp 39) (.tmp 40), none, [0, 1, 2]⟩,
 ⟨some 42, .load none (.tmp 41), none, [0, 1, 2]⟩,
 ⟨some 43, .fieldAddr 1 (.tmp 4), none, [0, 1, 2, 3, 4, 5, 6, 7]⟩,
 ⟨some 44, .load none (.tmp 43), none, [0, 1, 2, 3, 4, 5, 6, 7]⟩,
 ⟨some 45, .move (.tmp 10), none, [0, 1, 2, 3, 4, 5, 6, 7, 8, 9]⟩,
 ⟨some 46, .indexAddr 1 (.tmp 44) (.tmp 45), none, [0, 1, 2, 3, 4, 5, 6, 7]⟩,
 ⟨some 47, .load none (.tmp 46), none, [0, 1, 2, 3, 4, 5, 6, 7]⟩,
 ⟨some 48, .bin .plain .sub (.tmp 42) (.tmp 47), none, [0, 1, 2]⟩,
 ⟨some 49, .bin .plain .mul (.tmp 37) (.tmp 48), none, [0, 1]⟩], 
  [
  ⟨some 50, .bin .plain .add (.tmp 36) (.tmp 49), none, []⟩], 
  [
  ⟨some 51, .fieldAddr 0 (.tmp 7), none, []⟩], 
  [
  ⟨none, .store 1 (.tmp 51) (.tmp 50), none, []⟩]]
theorem k_field_charge_r10_sg : segs k_field_charge_r10 = k_field_charge_r10s := by kernel_rfl
theorem k_field_charge_r10_st : statOK k_field_charge_r10 = true := by kernel_rfl
def k_field_charge_r11 : List AOper := [
  ⟨some 52, .fieldAddr 1 (.tmp 7), none, []⟩,
 ⟨some 53, .load none (.tmp 52), none, []⟩,
 ⟨some 54, .move (.tmp 11), none, [0, 1]⟩,
 ⟨some 55, .fieldAddr 0 (.tmp 4), none, [0, 1, 2]⟩,
 ⟨some 56, .load none (.tmp 55), none, [0, 1, 2]⟩,
 ⟨some 57, .load none (.tmp 8), none, [0, 1, 2, 3, 4]⟩,
 ⟨some 58, .indexAddr 1 (.tmp 56) (.tmp 57), none, [0, 1, 2]⟩,
 ⟨some 59, .load none (.tmp 58), none, [0, 1, 2]⟩,
 ⟨some 60, .fieldAddr 0 (.tmp 4), none, [0, 1, 2, 3, 4, 5, 6, 7]⟩,
 ⟨some 61, .load none (.tmp 60), none, [0, 1, 2, 3, 4, 5, 6, 7]⟩,
 ⟨some 62, .move (.tmp 10), none, [0, 1, 2, 3, 4, 5, 6, 7, 8, 9]⟩,
 ⟨some 63, .indexAddr 1 (.tmp 61) (.tmp 62), none, [0, 1, 2, 3, 4, 5, 6, 7]⟩,
 ⟨some 64, .load none (.tmp 63), none, [0, 1, 2, 3, 4, 5, 6, 7]⟩,
 ⟨some 65, .bin .plain .sub (.tmp 59) (.tmp 64), none, [0, 1, 2]⟩,
 ⟨some 66, .bin .plain .mul (.tmp 54) (.tmp 65), none, [0, 1]⟩,
 ⟨some 67, .bin .plain .add (.tmp 53) (.tmp 66), none, []⟩,
 ⟨some 68, .fieldAddr 1 (.tmp 7), none, []⟩,
 ⟨none, .store 1 (.tmp 68) (.tmp 67), none, []⟩]
def k_field_charge_r11s : List (List AOper) := [
  [
  ⟨some 52, .fieldAddr 1 (.tmp 7), none, []⟩,
 ⟨some 53, .load none (.tmp 52), none, []⟩,
 ⟨some 54, .move (.tmp 11), none, [0, 1]⟩,
 ⟨some 55, .fieldAddr 0 (.tmp 4), none, [0, 1, 2]⟩,
 ⟨some 56, .load none (.tmp 55), none, [0, 1, 2]⟩,
 ⟨some 57, .load none (.tmp 8), none, [0, 1, 2, 3, 4]⟩,
 ⟨some 58, .indexAddr 1 (.tmp 56) (.tmp 57), none, [0, 1, 2]⟩,
 ⟨some 59, .load none (.tmp 58), none, [0, 1, 2]⟩,
 ⟨some 60, .fieldAddr 0 (.tmp 4), none, [0, 1, 2, 3, 4, 5, 6, 7]⟩,
 ⟨some 61, .load none (.tmp 60), none, [0, 1, 2, 3, 4, 5, 6, 7]⟩,
 ⟨some 62, .move (.tmp 10), none, [0, 1, 2, 3, 4, 5, 6, 7, 8, 9]⟩,
 ⟨some 63, .indexAddr 1 (.tmp 61) (.tmp 62), none, [0, 1, 2, 3, 4, 5, 6, 7]⟩,
 ⟨some 64, .load none (.tmp 63), none, [0, 1, 2, 3, 4, 5, 6, 7]⟩,
 ⟨some 65, .bin .plain .sub (.tmp 59) (.tmp 64), none, [0, 1, 2]⟩,
 ⟨some 66, .bin .plain .mul (.tmp 54) (.tmp 65), none, [0, 1]⟩], 
  [
  ⟨some 67, .bin .plain .add (.tmp 53) (.tmp 66), none, []⟩], 
  [
  ⟨some 68, .fieldAddr 1 (.tmp 7), none, []⟩], 
  [
  ⟨none, .store 1 (.tmp 68) (.tmp 67), none, []⟩]]
theorem k_field_charge_r11_sg : segs k_field_charge_r11 = k_field_charge_r11s := by kernel_rfl
theorem k_field_charge_r11_st : statOK k_field_charge_r11 = true := by kernel_rfl
def k_field_charge_r12 : ACode := (.seq (.reg k_field_charge_r7 false) (.reg k_field_charge_r8 false))
def k_field_charge_r13 : ACode := (.block 3 (.seq (.reg k_field_charge_r9 true) (.cond (.tmp 34) (.seq (.reg k_field_charge_r10 true) (.reg k_field_charge_r11 true)) .skip)))
def k_field_charge_r14 : List AOper := [
  ⟨some 69, .bin .plain .add (.tmp 15) (.const (.int .i64 1)), none, []⟩,
 ⟨some 15, .move (.tmp 69), none, []⟩]
def k_field_charge_r15 : ACode := (.seq (.reg k_field_charge_r3 false) (.seq (.cond (.tmp 16) .skip (.exit 0)) (.seq (.block 1 (.seq (.reg k_field_charge_r4 false) (.seq (.seq (.reg k_field_charge_r5 false) (.cond (.tmp 22) (.exit 1) .skip)) (.seq (.reg k_field_charge_r6 false) (.block 2 (.rng (.tmp 25) [26, 27] k_field_charge_r12 k_field_charge_r13)))))) (.reg k_field_charge_r14 false))))
def k_field_charge_r16 : List AOper := [
  ⟨some 70, .load (some (2)) (.tmp 7), none, []⟩,
 ⟨none, .store 2 (.tmp 6) (.tmp 70), none, []⟩]
def k_field_charge : AFun := { params := 3, ntmps := 71, body := (.seq (.reg k_field_charge_r0 false) (.seq (.reg k_field_charge_r1 false) (.seq (.seq (.reg k_field_charge_r2 false) (.block 0 (.loop k_field_charge_r15))) (.seq (.reg k_field_charge_r16 false) .ret)))), res := [.cell 6 (some ((some (2))))] }
theorem k_field_charge_ok : cfun Tryd.prog Tryd.f37 = k_field_charge := by kernel_rfl

def k_field_within_r0 : List AOper := [
  ⟨some 6, .move (.const (.bool false)), none, []⟩]
def k_field_within_r1 : List AOper := [
  ⟨some 7, .move (.tmp 1), none, []⟩,
 ⟨some 8, .move (.tmp 0), none, []⟩,
 ⟨some 9, .bin .plain .leq (.tmp 7) (.tmp 8), none, []⟩,
 ⟨some 10, .move (.tmp 9), none, []⟩,
 ⟨some 11, .move (.tmp 0), (some (10, true)), []⟩,
 ⟨some 12, .move (.tmp 2), (some (10, true)), []⟩,
 ⟨some 13, .bin .plain .leq (.tmp 11) (.tmp 12), (some (10, true)), []⟩,
 ⟨some 14, .pick (.tmp 10) (.tmp 13) (.const (.bool false)), none, []⟩,
 ⟨some 6, .move (.tmp 14), none, []⟩]
def k_field_within : AFun := { params := 3, ntmps := 15, body := (.seq (.reg k_field_within_r0 false) (.seq (.reg k_field_within_r1 false) .ret)), res := [.tmp 6] }
theorem k_field_within_ok : cfun Tryd.prog Tryd.f38 = k_field_within := by kernel_rfl

def k_field_neighbours_r0 : List AOper := [
  ⟨some 2, .box (.tmp 0), none, []⟩,
 ⟨some 3, .box (.tmp 1), none, []⟩,
 ⟨some 4, .move (.const (.nilfn)), none, []⟩]
def k_field_neighbours_r1 : List AOper := [
  ⟨some 5, .makeFunc (.func 56) [] [.tmp 3, .tmp 2], none, []⟩,
 ⟨some 4, .move (.tmp 5), none, []⟩]
def k_field_neighbours : AFun := { params := 2, ntmps := 6, body := (.seq (.reg k_field_neighbours_r0 false) (.seq (.reg k_field_neighbours_r1 false) .ret)), res := [.tmp 4] }
theorem k_field_neighbours_ok : cfun Tryd.prog Tryd.f39 = k_field_neighbours := by kernel_rfl

def k_slices_Max_int_int_r0 : List AOper := [
  ⟨some 2, .move (.const (.int .i64 0)), none, []⟩]
def k_slices_Max_int_int_r1 : List AOper := [
  ⟨some 5, .move (.tmp 0), none, []⟩,
 ⟨some 6, .len false (.tmp 5), none, []⟩,
 ⟨some 7, .bin .plain .lss (.tmp 6) (.const (.int .i64 1)), none, []⟩]
def k_slices_Max_int_int_r2 : List AOper := [
  ⟨some 8, .makeIface 9 (.const (.str [115, 108, 105, 99, 101, 115, 46, 77, 97, 120, 58, 32, 101, 109, 112, 116, 121, 32, 108, 105, 115, 116])), none, []⟩,
 ⟨none, .bad, none, []⟩]
def k_slices_Max_int_int_r3 : List AOper := [
  ⟨some 9, .move (.tmp 0), none, []⟩,
 ⟨some 10, .indexAddr 1 (.tmp 9) (.const (.int .i64 0)), none, []⟩,
 ⟨some 11, .load none (.tmp 10), none, []⟩,
 ⟨some 3, .move (.tmp 11), none, []⟩]
def k_slices_Max_int_int_r4 : List AOper := [
  ⟨some 4, .move (.const (.int .i64 1)), none, []⟩]
def k_slices_Max_int_int_r5 : List AOper := [
  ⟨some 12, .move (.tmp 4), none, []⟩,
 ⟨some 13, .move (.tmp 0), none, []⟩,
 ⟨some 14, .len false (.tmp 13), none, []⟩,
 ⟨some 15, .bin .plain .lss (.tmp 12) (.tmp 14), none, []⟩]
def k_slices_Max_int_int_r6 : List AOper := [
  ⟨some 18, .move (.tmp 3), none, []⟩,
 ⟨some 19, .move (.tmp 0), none, []⟩,
 ⟨some 20, .move (.tmp 4), none, []⟩,
 ⟨some 21, .indexAddr 1 (.tmp 19) (.tmp 20), none, []⟩,
 ⟨some 22, .load none (.tmp 21), none, []⟩,
 ⟨some 23, .minmax true [.tmp 18, .tmp 22], none, []⟩,
 ⟨some 3, .move (.tmp 23), none, []⟩]
def k_slices_Max_int_int_r7 : List AOper := [
  ⟨some 16, .move (.tmp 4), none, []⟩,
 ⟨some 17, .bin .plain .add (.tmp 16) (.const (.int .i64 1)), none, []⟩,
 ⟨some 4, .move (.tmp 17), none, []⟩]
def k_slices_Max_int_int_r8 : ACode := (.seq (.seq (.reg k_slices_Max_int_int_r5 false) (.cond (.tmp 15) .skip (.exit 0))) (.seq (.block 1 (.reg k_slices_Max_int_int_r6 false)) (.reg k_slices_Max_int_int_r7 false)))
def k_slices_Max_int_int_r9 : List AOper := [
  ⟨some 24, .move (.tmp 3), none, []⟩,
 ⟨some 2, .move (.tmp 24), none, []⟩]
def k_slices_Max_int_int : AFun := { params := 1, ntmps := 25, body := (.seq (.reg k_slices_Max_int_int_r0 false) (.seq (.seq (.reg k_slices_Max_int_int_r1 false) (.cond (.tmp 7) (.reg k_slices_Max_int_int_r2 false) .skip)) (.seq (.reg k_slices_Max_int_int_r3 false) (.seq (.seq (.reg k_slices_Max_int_int_r4 false) (.block 0 (.loop k_slices_Max_int_int_r8))) (.seq (.reg k_slices_Max_int_int_r9 false) .ret))))), res := [.tmp 2] }
theorem k_slices_Max_int_int_ok : cfun Tryd.prog Tryd.f41 = k_slices_Max_int_int := by kernel_rfl

def k_field_loose_r0 : List AOper := [
  ⟨some 1, .box (.tmp 0), none, []⟩,
 ⟨some 2, .move (.const (.bool false)), none, []⟩]
def k_field_loose_r1 : List AOper := [
  ⟨some 3, .box (.const (.agg [.bool false, .bool false, .bool false, .bool false, .bool false, .bool false, .bool false, .bool false, .bool false, .bool false, .bool false, .bool false, .bool false, .bool false, .bool false, .bool false, .bool false, .bool false, .bool false, .bool false, .bool false, .bool false, .bool false, .bool false, .bool false, .bool false, .bool false, .bool false, .bool false, .bool false, .bool false, .bool false, .bool false, .bool false, .bool false, .bool false, .bool false, .bool false, .bool false, .bool false, .bool false, .bool false, .bool false, .bool false, .bool false, .bool false, .bool false, .bool false, .bool false, .bool false, .bool false, .bool false, .bool false, .bool false, .bool false, .bool false, .bool false, .bool false, .bool false, .bool false, .bool false, .bool false, .bool false, .bool false, .bool false, .bool false, .bool false, .bool false, .bool false, .bool false, .bool false, .bool false, .bool false, .bool false, .bool false, .bool false, .bool false, .bool false, .bool false, .bool false, .bool false, .bool false, .bool false, .bool false, .bool false, .bool false, .bool false, .bool false, .bool false, .bool false, .bool false, .bool false, .bool false, .bool false, .bool false, .bool false, .bool false, .bool false, .bool false, .bool false, .bool false, .bool false, .bool false, .bool false, .bool false, .bool false, .bool false, .bool false, .bool false, .bool false, .bool false, .bool false, .bool false, .bool false, .bool false, .bool false, .bool false, .bool false, .bool false, .bool false, .bool false, .bool false, .bool false, .bool false, .bool false, .bool false, .bool false, .bool false, .bool false, .bool false, .bool false, .bool false, .bool false, .bool false, .bool false, .bool false, .bool false, .bool false, .bool false, .bool false, .bool false, .bool false, .bool false, .bool false, .bool false, .bool false, .bool false, .bool false, .bool false, .bool false, .bool false, .bool false, .bool false, .bool false, .bool false, .bool false, .bool false, .bool false, .bool false, .bool false, .bool false, .bool false, .bool false, .bool false, .bool false, .bool false, .bool false, .bool false, .bool false, .bool false, .bool false, .bool false, .bool false, .bool false, .bool false, .bool false, .bool false, .bool false, .bool false, .bool false, .bool false, .bool false, .bool false, .bool false, .bool false, .bool false, .bool false, .bool false, .bool false, .bool false, .bool false, .bool false, .bool false, .bool false, .bool false, .bool false, .bool false, .bool false, .bool false, .bool false, .bool false, .bool false, .bool false, .bool false, .bool false, .bool false, .bool false, .bool false, .bool false, .bool false, .bool false, .bool false, .bool false, .bool false, .bool false, .bool false, .bool false, .bool false, .bool false, .bool false, .bool false, .bool false, .bool false, .bool false, .bool false, .bool false, .bool false, .bool false, .bool false, .bool false, .bool false, .bool false, .bool false, .bool false, .bool false, .bool false, .bool false, .bool false, .bool false, .bool false, .bool false, .bool false, .bool false, .bool false, .bool false, .bool false, .bool false, .bool false, .bool false, .bool false, .bool false, .bool false, .bool false, .bool false, .bool false, .bool false])), none, []⟩]
def k_field_loose_r2 : List AOper := [
  ⟨some 4, .box (.const (.nilsl)), none, []⟩]
def k_field_loose_r3 : List AOper := [
  ⟨some 9, .fieldAddr 3 (.tmp 1), none, []⟩,
 ⟨some 10, .load none (.tmp 9), none, []⟩,
 ⟨some 11, .len false (.tmp 10), none, []⟩,
 ⟨some 12, .move (.const (.int .i64 0)), none, []⟩]
def k_field_loose_r4 : List AOper := [
  ⟨some 13, .bin .plain .lss (.tmp 12) (.tmp 11), none, []⟩]
def k_field_loose_r5 : List AOper := [
  ⟨some 14, .move (.tmp 12), none, []⟩,
 ⟨some 15, .indexAddr 1 (.tmp 10) (.tmp 12), none, []⟩,
 ⟨some 16, .load none (.tmp 15), none, []⟩,
 ⟨some 5, .move (.tmp 14), none, []⟩,
 ⟨some 6, .move (.tmp 16), none, []⟩]
def k_field_loose_r6 : List AOper := [
  ⟨some 17, .move (.tmp 6), none, []⟩,
 ⟨some 18, .bin .plain .neq (.tmp 17) (.const (.int .i64 0)), none, []⟩]
def k_field_loose_r7 : List AOper := [
  ⟨some 19, .move (.tmp 5), none, []⟩,
 ⟨some 20, .indexArr 256 1 (.tmp 3) (.tmp 19), none, []⟩,
 ⟨none, .store 1 (.tmp 20) (.const (.bool true)), none, []⟩]
def k_field_loose_r8 : List AOper := [
  ⟨some 21, .load none (.tmp 4), none, []⟩,
 ⟨some 22, .move (.tmp 5), none, []⟩,
 ⟨some 23, .buildSlice 1 [.tmp 22], none, []⟩,
 ⟨some 24, .append 1 8 false (.tmp 21) (.tmp 23), none, []⟩,
 ⟨none, .store 1 (.tmp 4) (.tmp 24), none, []⟩]
def k_field_loose_r9 : List AOper := [
  ⟨some 25, .bin .plain .add (.tmp 12) (.const (.int .i64 1)), none, []⟩,
 ⟨some 12, .move (.tmp 25), none, []⟩]
def k_field_loose_r10 : ACode := (.seq (.reg k_field_loose_r4 false) (.seq (.cond (.tmp 13) .skip (.exit 0)) (.seq (.block 1 (.seq (.reg k_field_loose_r5 false) (.seq (.reg k_field_loose_r6 false) (.cond (.tmp 18) (.seq (.reg k_field_loose_r7 false) (.reg k_field_loose_r8 false)) .skip)))) (.reg k_field_loose_r9 false))))
def k_field_loose_r11 : List AOper := [
  ⟨some 7, .move (.const (.int .i64 0)), none, []⟩]
def k_field_loose_r12 : List AOper := [
  ⟨some 26, .move (.tmp 7), none, []⟩,
 ⟨some 27, .load none (.tmp 4), none, []⟩,
 ⟨some 28, .len false (.tmp 27), none, []⟩,
 ⟨some 29, .bin .plain .lss (.tmp 26) (.tmp 28), none, []⟩]
def k_field_loose_r13 : List AOper := [
  ⟨some 32, .load (some (4)) (.tmp 1), none, []⟩,
 ⟨some 33, .load none (.tmp 4), none, [0]⟩,
 ⟨some 34, .move (.tmp 7), none, [0, 1]⟩,
 ⟨some 35, .indexAddr 1 (.tmp 33) (.tmp 34), none, [0]⟩,
 ⟨some 36, .load none (.tmp 35), none, [0]⟩,
 ⟨some 37, .call (.const (.fn (.func 39) [] [])) [.tmp 32, .tmp 36], none, []⟩]
def k_field_loose_r13s : List (List AOper) := [
  [
  ⟨some 32, .load (some (4)) (.tmp 1), none, []⟩,
 ⟨some 33, .load none (.tmp 4), none, [0]⟩,
 ⟨some 34, .move (.tmp 7), none, [0, 1]⟩,
 ⟨some 35, .indexAddr 1 (.tmp 33) (.tmp 34), none, [0]⟩,
 ⟨some 36, .load none (.tmp 35), none, [0]⟩], 
  [
  ⟨some 37, .call (.const (.fn (.func 39) [] [])) [.tmp 32, .tmp 36], none, []⟩]]
theorem k_field_loose_r13_sg : segs k_field_loose_r13 = k_field_loose_r13s := by kernel_rfl
theorem k_field_loose_r13_st : statOK k_field_loose_r13 = true := by kernel_rfl
def k_field_loose_r14 : List AOper := [
  ⟨some 8, .move (.tmp 38), none, []⟩]
def k_field_loose_r15 : List AOper := [
  ⟨some 40, .move (.tmp 8), none, []⟩,
 ⟨some 41, .indexArr 256 1 (.tmp 3) (.tmp 40), none, []⟩,
 ⟨some 42, .load none (.tmp 41), none, []⟩,
 ⟨some 43, .not (.tmp 42), none, []⟩]
def k_field_loose_r16 : List AOper := [
  ⟨some 44, .move (.tmp 8), none, []⟩,
 ⟨some 45, .indexArr 256 1 (.tmp 3) (.tmp 44), none, []⟩,
 ⟨none, .store 1 (.tmp 45) (.const (.bool true)), none, []⟩]
def k_field_loose_r17 : List AOper := [
  ⟨some 46, .load none (.tmp 4), none, []⟩,
 ⟨some 47, .move (.tmp 8), none, []⟩,
 ⟨some 48, .buildSlice 1 [.tmp 47], none, []⟩,
 ⟨some 49, .append 1 8 false (.tmp 46) (.tmp 48), none, []⟩,
 ⟨none, .store 1 (.tmp 4) (.tmp 49), none, []⟩]
def k_field_loose_r18 : ACode := (.reg k_field_loose_r14 false)
def k_field_loose_r19 : ACode := (.block 5 (.seq (.reg k_field_loose_r15 false) (.cond (.tmp 43) (.seq (.reg k_field_loose_r16 false) (.reg k_field_loose_r17 false)) .skip)))
def k_field_loose_r20 : List AOper := [
  ⟨some 30, .move (.tmp 7), none, []⟩,
 ⟨some 31, .bin .plain .add (.tmp 30) (.const (.int .i64 1)), none, []⟩,
 ⟨some 7, .move (.tmp 31), none, []⟩]
def k_field_loose_r21 : ACode := (.seq (.seq (.reg k_field_loose_r12 false) (.cond (.tmp 29) .skip (.exit 2))) (.seq (.block 3 (.seq (.reg k_field_loose_r13 true) (.block 4 (.rng (.tmp 37) [38, 39] k_field_loose_r18 k_field_loose_r19)))) (.reg k_field_loose_r20 false)))
def k_field_loose_r22 : List AOper := [
  ⟨some 50, .load none (.tmp 4), none, []⟩,
 ⟨some 51, .len false (.tmp 50), none, []⟩,
 ⟨some 52, .fieldAddr 3 (.tmp 1), none, []⟩,
 ⟨some 53, .load none (.tmp 52), none, []⟩,
 ⟨some 54, .len false (.tmp 53), none, []⟩,
 ⟨some 55, .bin .plain .lss (.tmp 51) (.tmp 54), none, []⟩,
 ⟨some 2, .move (.tmp 55), none, []⟩]
def k_field_loose : AFun := { params := 1, ntmps := 56, body := (.seq (.reg k_field_loose_r0 false) (.seq (.reg k_field_loose_r1 false) (.seq (.reg k_field_loose_r2 false) (.seq (.seq (.reg k_field_loose_r3 false) (.block 0 (.loop k_field_loose_r10))) (.seq (.seq (.reg k_field_loose_r11 false) (.block 2 (.loop k_field_loose_r21))) (.seq (.reg k_field_loose_r22 false) .ret)))))), res := [.tmp 2] }
theorem k_field_loose_ok : cfun Tryd.prog Tryd.f42 = k_field_loose := by kernel_rfl

def k_field_checkNumbers_r0 : List AOper := [
  ⟨some 2, .move (.const (.int .i64 0)), none, []⟩]
def k_field_checkNumbers_r1 : List AOper := [
  ⟨some 5, .move (.tmp 0), none, []⟩,
 ⟨some 6, .len false (.tmp 5), none, []⟩,
 ⟨some 7, .move (.const (.int .i64 0)), none, []⟩]
def k_field_checkNumbers_r2 : List AOper := [
  ⟨some 8, .bin .plain .lss (.tmp 7) (.tmp 6), none, []⟩]
def k_field_checkNumbers_r3 : List AOper := [
  ⟨some 9, .indexAddr 1 (.tmp 5) (.tmp 7), none, []⟩,
 ⟨some 10, .load none (.tmp 9), none, []⟩,
 ⟨some 4, .move (.tmp 10), none, []⟩]
def k_field_checkNumbers_r4 : List AOper := [
  ⟨some 11, .move (.tmp 4), none, []⟩,
 ⟨some 12, .call (.const (.fn (.func 38) [] [])) [.tmp 11, .const (.int .i64 (-1000000)), .const (.int .i64 1000000)], none, []⟩,
 ⟨some 13, .not (.tmp 12), none, []⟩]
def k_field_checkNumbers_r5 : List AOper := [
  ⟨some 2, .move (.const (.int .i64 2)), none, []⟩]
def k_field_checkNumbers_r6 : List AOper := [
  ⟨some 14, .bin .plain .add (.tmp 7) (.const (.int .i64 1)), none, []⟩,
 ⟨some 7, .move (.tmp 14), none, []⟩]
def k_field_checkNumbers_r7 : ACode := (.seq (.reg k_field_checkNumbers_r2 false) (.seq (.cond (.tmp 8) .skip (.exit 0)) (.seq (.block 1 (.seq (.reg k_field_checkNumbers_r3 false) (.seq (.reg k_field_checkNumbers_r4 false) (.cond (.tmp 13) (.seq (.reg k_field_checkNumbers_r5 false) .ret) .skip)))) (.reg k_field_checkNumbers_r6 false))))
def k_field_checkNumbers_r8 : List AOper := [
  ⟨some 2, .move (.const (.int .i64 0)), none, []⟩]
def k_field_checkNumbers : AFun := { params := 1, ntmps := 15, body := (.seq (.reg k_field_checkNumbers_r0 false) (.seq (.seq (.reg k_field_checkNumbers_r1 false) (.block 0 (.loop k_field_checkNumbers_r7))) (.seq (.reg k_field_checkNumbers_r8 false) .ret))), res := [.tmp 2] }
theorem k_field_checkNumbers_ok : cfun Tryd.prog Tryd.f49 = k_field_checkNumbers := by kernel_rfl

def k_field_ends_r0 : List AOper := [
  ⟨some 2, .box (.tmp 0), none, []⟩,
 ⟨some 4, .move (.const (.int .i64 0)), none, []⟩,
 ⟨some 5, .move (.const (.int .i64 0)), none, []⟩]
def k_field_ends_r1 : List AOper := [
  ⟨some 4, .move (.const (.int .i64 1000000)), none, []⟩,
 ⟨some 5, .move (.const (.int .i64 (-1000000))), none, []⟩]
def k_field_ends_r2 : List AOper := [
  ⟨some 8, .fieldAddr 3 (.tmp 2), none, []⟩,
 ⟨some 9, .load none (.tmp 8), none, []⟩,
 ⟨some 10, .len false (.tmp 9), none, []⟩,
 ⟨some 11, .move (.const (.int .i64 0)), none, []⟩]
def k_field_ends_r3 : List AOper := [
  ⟨some 12, .bin .plain .lss (.tmp 11) (.tmp 10), none, []⟩]
def k_field_ends_r4 : List AOper := [
  ⟨some 13, .indexAddr 1 (.tmp 9) (.tmp 11), none, []⟩,
 ⟨some 14, .load none (.tmp 13), none, []⟩,
 ⟨some 7, .move (.tmp 14), none, []⟩]
def k_field_ends_r5 : List AOper := [
  ⟨some 15, .move (.tmp 7), none, []⟩,
 ⟨some 16, .bin .plain .neq (.tmp 15) (.const (.int .i64 0)), none, []⟩]
def k_field_ends_r6 : List AOper := [
  ⟨some 17, .move (.tmp 4), none, []⟩,
 ⟨some 18, .move (.tmp 1), none, []⟩,
 ⟨some 19, .move (.tmp 7), none, []⟩,
 ⟨some 20, .bin .plain .sub (.tmp 19) (.const (.int .i64 1)), none, []⟩,
 ⟨some 21, .indexAddr 1 (.tmp 18) (.tmp 20), none, []⟩,
 ⟨some 22, .load none (.tmp 21), none, []⟩,
 ⟨some 23, .minmax false [.tmp 17, .tmp 22], none, []⟩,
 ⟨some 4, .move (.tmp 23), none, []⟩]
def k_field_ends_r7 : List AOper := [
  ⟨some 24, .move (.tmp 5), none, []⟩,
 ⟨some 25, .move (.tmp 1), none, []⟩,
 ⟨some 26, .move (.tmp 7), none, []⟩,
 ⟨some 27, .bin .plain .sub (.tmp 26) (.const (.int .i64 1)), none, []⟩,
 ⟨some 28, .indexAddr 1 (.tmp 25) (.tmp 27), none, []⟩,
 ⟨some 29, .load none (.tmp 28), none, []⟩,
 ⟨some 30, .minmax true [.tmp 24, .tmp 29], none, []⟩,
 ⟨some 5, .move (.tmp 30), none, []⟩]
def k_field_ends_r8 : List AOper := [
  ⟨some 31, .bin .plain .add (.tmp 11) (.const (.int .i64 1)), none, []⟩,
 ⟨some 11, .move (.tmp 31), none, []⟩]
def k_field_ends_r9 : ACode := (.seq (.reg k_field_ends_r3 false) (.seq (.cond (.tmp 12) .skip (.exit 0)) (.seq (.block 1 (.seq (.reg k_field_ends_r4 false) (.seq (.reg k_field_ends_r5 false) (.cond (.tmp 16) (.seq (.reg k_field_ends_r6 false) (.reg k_field_ends_r7 false)) .skip)))) (.reg k_field_ends_r8 false))))
def k_field_ends_r10 : List AOper := [
  ⟨some 32, .move (.tmp 4), none, []⟩,
 ⟨some 33, .move (.tmp 5), none, []⟩,
 ⟨some 4, .move (.tmp 32), none, []⟩,
 ⟨some 5, .move (.tmp 33), none, []⟩]
def k_field_ends : AFun := { params := 2, ntmps := 34, body := (.seq (.reg k_field_ends_r0 false) (.seq (.reg k_field_ends_r1 false) (.seq (.seq (.reg k_field_ends_r2 false) (.block 0 (.loop k_field_ends_r9))) (.seq (.reg k_field_ends_r10 false) .ret)))), res := [.tmp 4, .tmp 5] }
theorem k_field_ends_ok : cfun Tryd.prog Tryd.f50 = k_field_ends := by kernel_rfl

def k_field_newBound_r0 : List AOper := [
  ⟨some 4, .box (.tmp 0), none, []⟩,
 ⟨some 8, .box (.const (.agg [.nilsl, .nilfn])), none, []⟩]
def k_field_newBound_r1 : List AOper := [
  ⟨some 12, .fieldAddr 3 (.tmp 4), none, []⟩,
 ⟨some 13, .load none (.tmp 12), none, []⟩,
 ⟨some 14, .len false (.tmp 13), none, []⟩,
 ⟨some 15, .makeSlice (.int .i64 0) 8 (.tmp 14) (.tmp 14), none, []⟩,
 ⟨some 9, .move (.tmp 15), none, []⟩]
def k_field_newBound_r2 : List AOper := [
  ⟨some 16, .fieldAddr 3 (.tmp 4), none, []⟩,
 ⟨some 17, .load none (.tmp 16), none, []⟩,
 ⟨some 18, .len false (.tmp 17), none, []⟩,
 ⟨some 19, .move (.const (.int .i64 0)), none, []⟩]
def k_field_newBound_r3 : List AOper := [
  ⟨some 20, .bin .plain .lss (.tmp 19) (.tmp 18), none, []⟩]
def k_field_newBound_r4 : List AOper := [
  ⟨some 21, .move (.tmp 19), none, []⟩,
 ⟨some 22, .indexAddr 1 (.tmp 17) (.tmp 19), none, []⟩,
 ⟨some 23, .load none (.tmp 22), none, []⟩,
 ⟨some 10, .move (.tmp 21), none, []⟩,
 ⟨some 11, .move (.tmp 23), none, []⟩]
def k_field_newBound_r5 : List AOper := [
  ⟨some 24, .move (.tmp 9), none, []⟩,
 ⟨some 25, .move (.tmp 10), none, []⟩,
 ⟨some 26, .move (.tmp 2), none, []⟩,
 ⟨some 27, .indexAddr 1 (.tmp 24) (.tmp 25), none, []⟩,
 ⟨none, .store 1 (.tmp 27) (.tmp 26), none, []⟩]
def k_field_newBound_r6 : List AOper := [
  ⟨some 28, .move (.tmp 11), none, []⟩,
 ⟨some 29, .bin .plain .neq (.tmp 28) (.const (.int .i64 0)), none, []⟩]
def k_field_newBound_r7 : List AOper := [
  ⟨some 30, .move (.tmp 9), none, []⟩,
 ⟨some 31, .move (.tmp 10), none, []⟩,
 ⟨some 32, .move (.tmp 1), none, []⟩,
 ⟨some 33, .move (.tmp 11), none, []⟩,
 ⟨some 34, .bin .plain .sub (.tmp 33) (.const (.int .i64 1)), none, []⟩,
 ⟨some 35, .indexAddr 1 (.tmp 32) (.tmp 34), none, []⟩,
 ⟨some 36, .load none (.tmp 35), none, []⟩,
 ⟨some 37, .indexAddr 1 (.tmp 30) (.tmp 31), none, []⟩,
 ⟨none, .store 1 (.tmp 37) (.tmp 36), none, []⟩]
def k_field_newBound_r8 : List AOper := [
  ⟨some 38, .bin .plain .add (.tmp 19) (.const (.int .i64 1)), none, []⟩,
 ⟨some 19, .move (.tmp 38), none, []⟩]
def k_field_newBound_r9 : ACode := (.seq (.reg k_field_newBound_r3 false) (.seq (.cond (.tmp 20) .skip (.exit 0)) (.seq (.block 1 (.seq (.reg k_field_newBound_r4 false) (.seq (.reg k_field_newBound_r5 false) (.seq (.reg k_field_newBound_r6 false) (.cond (.tmp 29) (.reg k_field_newBound_r7 false) .skip))))) (.reg k_field_newBound_r8 false))))
def k_field_newBound_r10 : List AOper := [
  ⟨some 39, .move (.tmp 9), none, []⟩,
 ⟨some 40, .move (.tmp 3), none, []⟩,
 ⟨some 41, .build [.nilsl, .nilfn] [(0, 1, .tmp 39), (1, 1, .tmp 40)], none, []⟩,
 ⟨none, .store 2 (.tmp 8) (.tmp 41), none, []⟩]
def k_field_newBound : AFun := { params := 4, ntmps := 42, body := (.seq (.reg k_field_newBound_r0 false) (.seq (.reg k_field_newBound_r1 false) (.seq (.seq (.reg k_field_newBound_r2 false) (.block 0 (.loop k_field_newBound_r9))) (.seq (.reg k_field_newBound_r10 false) .ret)))), res := [.cell 8 (some ((some (2))))] }
theorem k_field_newBound_ok : cfun Tryd.prog Tryd.f51 = k_field_newBound := by kernel_rfl

def k_field_roundDown_r0 : List AOper := [
  ⟨some 4, .move (.const (.int .i64 0)), none, []⟩]
def k_field_roundDown_r1 : List AOper := [
  ⟨some 6, .move (.tmp 0), none, []⟩,
 ⟨some 7, .move (.tmp 1), none, []⟩,
 ⟨some 8, .bin .plain .quo (.tmp 6) (.tmp 7), none, []⟩,
 ⟨some 5, .move (.tmp 8), none, []⟩]
def k_field_roundDown_r2 : List AOper := [
  ⟨some 9, .move (.tmp 0), none, []⟩,
 ⟨some 10, .move (.tmp 1), none, []⟩,
 ⟨some 11, .bin .plain .rem (.tmp 9) (.tmp 10), none, []⟩,
 ⟨some 12, .bin .plain .lss (.tmp 11) (.const (.int .i64 0)), none, []⟩]
def k_field_roundDown_r3 : List AOper := [
  ⟨some 13, .move (.tmp 5), none, []⟩,
 ⟨some 14, .bin .plain .sub (.tmp 13) (.const (.int .i64 1)), none, []⟩,
 ⟨some 5, .move (.tmp 14), none, []⟩]
def k_field_roundDown_r4 : List AOper := [
  ⟨some 15, .move (.tmp 5), none, []⟩,
 ⟨some 4, .move (.tmp 15), none, []⟩]
def k_field_roundDown : AFun := { params := 2, ntmps := 16, body := (.seq (.reg k_field_roundDown_r0 false) (.seq (.reg k_field_roundDown_r1 false) (.seq (.seq (.reg k_field_roundDown_r2 false) (.cond (.tmp 12) (.reg k_field_roundDown_r3 false) .skip)) (.seq (.reg k_field_roundDown_r4 false) .ret)))), res := [.tmp 4] }
theorem k_field_roundDown_ok : cfun Tryd.prog Tryd.f52 = k_field_roundDown := by kernel_rfl

def k_field_roundUp_r0 : List AOper := [
  ⟨some 4, .move (.const (.int .i64 0)), none, []⟩]
def k_field_roundUp_r1 : List AOper := [
  ⟨some 5, .move (.tmp 0), none, []⟩,
 ⟨some 6, .neg (.tmp 5), none, []⟩,
 ⟨some 7, .move (.tmp 1), none, []⟩,
 ⟨some 8, .call (.const (.fn (.func 52) [] [])) [.tmp 6, .tmp 7], none, []⟩,
 ⟨some 9, .neg (.tmp 8), none, []⟩,
 ⟨some 4, .move (.tmp 9), none, []⟩]
def k_field_roundUp : AFun := { params := 2, ntmps := 10, body := (.seq (.reg k_field_roundUp_r0 false) (.seq (.reg k_field_roundUp_r1 false) .ret)), res := [.tmp 4] }
theorem k_field_roundUp_ok : cfun Tryd.prog Tryd.f53 = k_field_roundUp := by kernel_rfl

def k_field_bound_sweep_r0 : List AOper := [
  ⟨some 2, .box (.tmp 0), none, []⟩,
 ⟨some 3, .box (.tmp 1), none, []⟩,
 ⟨some 4, .move (.const (.bool false)), none, []⟩]
def k_field_bound_sweep_r1 : List AOper := [
  ⟨some 5, .move (.const (.bool false)), none, []⟩]
def k_field_bound_sweep_r2 : List AOper := [
  ⟨some 11, .fieldAddr 3 (.tmp 3), none, []⟩,
 ⟨some 12, .load none (.tmp 11), none, []⟩,
 ⟨some 13, .len false (.tmp 12), none, []⟩,
 ⟨some 14, .move (.const (.int .i64 0)), none, []⟩]
def k_field_bound_sweep_r3 : List AOper := [
  ⟨some 15, .bin .plain .lss (.tmp 14) (.tmp 13), none, []⟩]
def k_field_bound_sweep_r4 : List AOper := [
  ⟨some 16, .move (.tmp 14), none, []⟩,
 ⟨some 17, .indexAddr 1 (.tmp 12) (.tmp 14), none, []⟩,
 ⟨some 18, .load none (.tmp 17), none, []⟩,
 ⟨some 6, .move (.tmp 16), none, []⟩,
 ⟨some 7, .move (.tmp 18), none, []⟩]
def k_field_bound_sweep_r5 : List AOper := [
  ⟨some 19, .move (.tmp 7), none, []⟩,
 ⟨some 20, .bin .plain .neq (.tmp 19) (.const (.int .i64 0)), none, []⟩]
def k_field_bound_sweep_r6 : List AOper := [
  ⟨some 22, .load (some (4)) (.tmp 3), none, []⟩,
 ⟨some 23, .fieldAddr 0 (.tmp 2), none, []⟩,
 ⟨some 24, .load none (.tmp 23), none, []⟩,
 ⟨some 25, .move (.tmp 6), none, []⟩,
 ⟨some 26, .call (.const (.fn (.func 61) [] [])) [.tmp 22, .tmp 24, .tmp 25], none, []⟩,
 ⟨some 21, .move (.tmp 26), none, []⟩,
 ⟨some 27, .extract (.tmp 21) 0, none, []⟩,
 ⟨some 28, .extract (.tmp 21) 1, none, []⟩,
 ⟨some 8, .move (.tmp 27), none, []⟩,
 ⟨some 9, .move (.tmp 28), none, []⟩]
def k_field_bound_sweep_r7 : List AOper := [
  ⟨some 29, .fieldAddr 1 (.tmp 2), none, []⟩,
 ⟨some 30, .load none (.tmp 29), none, []⟩,
 ⟨some 31, .move (.tmp 8), none, []⟩,
 ⟨some 32, .move (.tmp 9), none, []⟩,
 ⟨some 33, .call (.tmp 30) [.tmp 31, .tmp 32], none, []⟩,
 ⟨some 10, .move (.tmp 33), none, []⟩]
def k_field_bound_sweep_r8 : List AOper := [
  ⟨some 34, .move (.tmp 5), none, []⟩,
 ⟨some 35, .move (.tmp 34), none, []⟩,
 ⟨some 36, .move (.tmp 10), (some (35, false)), []⟩,
 ⟨some 37, .fieldAddr 0 (.tmp 2), (some (35, false)), []⟩,
 ⟨some 38, .load none (.tmp 37), (some (35, false)), []⟩,
 ⟨some 39, .move (.tmp 6), (some (35, false)), []⟩,
 ⟨some 40, .indexAddr 1 (.tmp 38) (.tmp 39), (some (35, false)), []⟩,
 ⟨some 41, .load none (.tmp 40), (some (35, false)), []⟩,
 ⟨some 42, .bin .plain .neq (.tmp 36) (.tmp 41), (some (35, false)), []⟩,
 ⟨some 43, .pick (.tmp 35) (.const (.bool true)) (.tmp 42), none, []⟩,
 ⟨some 5, .move (.tmp 43), none, []⟩]
def k_field_bound_sweep_r9 : List AOper := [
  ⟨some 44, .fieldAddr 0 (.tmp 2), none, []⟩,
 ⟨some 45, .load none (.tmp 44), none, []⟩,
 ⟨some 46, .move (.tmp 6), none, []⟩,
 ⟨some 47, .move (.tmp 10), none, []⟩,
 ⟨some 48, .indexAddr 1 (.tmp 45) (.tmp 46), none, []⟩,
 ⟨none, .store 1 (.tmp 48) (.tmp 47), none, []⟩]
def k_field_bound_sweep_r10 : List AOper := [
  ⟨some 49, .bin .plain .add (.tmp 14) (.const (.int .i64 1)), none, []⟩,
 ⟨some 14, .move (.tmp 49), none, []⟩]
def k_field_bound_sweep_r11 : ACode := (.seq (.reg k_field_bound_sweep_r3 false) (.seq (.cond (.tmp 15) .skip (.exit 0)) (.seq (.block 1 (.seq (.reg k_field_bound_sweep_r4 false) (.seq (.seq (.reg k_field_bound_sweep_r5 false) (.cond (.tmp 20) (.exit 1) .skip)) (.seq (.reg k_field_bound_sweep_r6 false) (.seq (.reg k_field_bound_sweep_r7 false) (.seq (.reg k_field_bound_sweep_r8 false) (.reg k_field_bound_sweep_r9 false))))))) (.reg k_field_bound_sweep_r10 false))))
def k_field_bound_sweep_r12 : List AOper := [
  ⟨some 50, .move (.tmp 5), none, []⟩,
 ⟨some 4, .move (.tmp 50), none, []⟩]
def k_field_bound_sweep : AFun := { params := 2, ntmps := 51, body := (.seq (.reg k_field_bound_sweep_r0 false) (.seq (.reg k_field_bound_sweep_r1 false) (.seq (.seq (.reg k_field_bound_sweep_r2 false) (.block 0 (.loop k_field_bound_sweep_r11))) (.seq (.reg k_field_bound_sweep_r12 false) .ret)))), res := [.tmp 4] }
theorem k_field_bound_sweep_ok : cfun Tryd.prog Tryd.f54 = k_field_bound_sweep := by kernel_rfl

def k_slices_Contains_int_int_r0 : List AOper := [
  ⟨some 4, .move (.const (.bool false)), none, []⟩]
def k_slices_Contains_int_int_r1 : List AOper := [
  ⟨some 5, .move (.tmp 0), none, []⟩,
 ⟨some 6, .move (.tmp 1), none, []⟩,
 ⟨some 7, .call (.const (.fn (.func 62) [] [])) [.tmp 5, .tmp 6], none, []⟩,
 ⟨some 8, .bin .plain .geq (.tmp 7) (.const (.int .i64 0)), none, []⟩,
 ⟨some 4, .move (.tmp 8), none, []⟩]
def k_slices_Contains_int_int : AFun := { params := 2, ntmps := 9, body := (.seq (.reg k_slices_Contains_int_int_r0 false) (.seq (.reg k_slices_Contains_int_int_r1 false) .ret)), res := [.tmp 4] }
theorem k_slices_Contains_int_int_ok : cfun Tryd.prog Tryd.f55 = k_slices_Contains_int_int := by kernel_rfl

def k_field_neighbours_1_r0 : List AOper := [
  ⟨some 6, .load none (.tmp 1), none, []⟩,
 ⟨some 7, .fieldAddr 0 (.tmp 2), none, [0]⟩,
 ⟨some 8, .load none (.tmp 7), none, [0]⟩,
 ⟨some 9, .bin .plain .rem (.tmp 6) (.tmp 8), none, []⟩,
 ⟨some 10, .load none (.tmp 1), none, [0, 1, 2, 3]⟩,
 ⟨some 11, .fieldAddr 0 (.tmp 2), none, [0, 1, 2, 3, 4]⟩,
 ⟨some 12, .load none (.tmp 11), none, [0, 1, 2, 3, 4]⟩,
 ⟨some 13, .bin .plain .quo (.tmp 10) (.tmp 12), none, [0, 1, 2, 3]⟩,
 ⟨some 4, .move (.tmp 9), none, [4, 5, 6, 7]⟩,
 ⟨some 5, .move (.tmp 13), none, []⟩]
def k_field_neighbours_1_r0s : List (List AOper) := [
  [
  ⟨some 6, .load none (.tmp 1), none, []⟩,
 ⟨some 7, .fieldAddr 0 (.tmp 2), none, [0]⟩,
 ⟨some 8, .load none (.tmp 7), none, [0]⟩,
 ⟨some 9, .bin .plain .rem (.tmp 6) (.tmp 8), none, []⟩,
 ⟨some 10, .load none (.tmp 1), none, [0, 1, 2, 3]⟩,
 ⟨some 11, .fieldAddr 0 (.tmp 2), none, [0, 1, 2, 3, 4]⟩,
 ⟨some 12, .load none (.tmp 11), none, [0, 1, 2, 3, 4]⟩,
 ⟨some 13, .bin .plain .quo (.tmp 10) (.tmp 12), none, [0, 1, 2, 3]⟩,
 ⟨some 4, .move (.tmp 9), none, [4, 5, 6, 7]⟩], 
  [
  ⟨some 5, .move (.tmp 13), none, []⟩]]
theorem k_field_neighbours_1_r0_sg : segs k_field_neighbours_1_r0 = k_field_neighbours_1_r0s := by kernel_rfl
theorem k_field_neighbours_1_r0_st : statOK k_field_neighbours_1_r0 = true := by kernel_rfl
def k_field_neighbours_1_r1 : List AOper := [
  ⟨some 14, .move (.tmp 4), none, []⟩,
 ⟨some 15, .bin .plain .gtr (.tmp 14) (.const (.int .i64 0)), none, []⟩,
 ⟨some 16, .move (.tmp 15), none, []⟩,
 ⟨some 17, .move (.tmp 0), (some (16, true)), []⟩,
 ⟨some 18, .load none (.tmp 1), (some (16, true)), [3]⟩,
 ⟨some 19, .bin .plain .sub (.tmp 18) (.const (.int .i64 1)), (some (16, true)), [3]⟩,
 ⟨some 20, .load (some (4)) (.tmp 2), (some (16, true)), [3, 4, 5]⟩,
 ⟨some 21, .move (.tmp 4), (some (16, true)), [3, 4, 5, 6]⟩,
 ⟨some 22, .bin .plain .sub (.tmp 21) (.const (.int .i64 1)), (some (16, true)), [3, 4, 5, 6]⟩,
 ⟨some 23, .call (.const (.fn (.func 57) [] [])) [.tmp 20, .tmp 22], (some (16, true)), [3, 4, 5]⟩,
 ⟨some 24, .call (.tmp 17) [.tmp 19, .tmp 23], (some (16, true)), []⟩,
 ⟨some 25, .not (.tmp 24), (some (16, true)), []⟩,
 ⟨some 26, .pick (.tmp 16) (.tmp 25) (.const (.bool false)), none, []⟩]
def k_field_neighbours_1_r1s : List (List AOper) := [
  [
  ⟨some 14, .move (.tmp 4), none, []⟩], 
  [
  ⟨some 15, .bin .plain .gtr (.tmp 14) (.const (.int .i64 0)), none, []⟩], 
  [
  ⟨some 16, .move (.tmp 15), none, []⟩], 
  [
  ⟨some 17, .move (.tmp 0), (some (16, true)), []⟩,
 ⟨some 18, .load none (.tmp 1), (some (16, true)), [3]⟩,
 ⟨some 19, .bin .plain .sub (.tmp 18) (.const (.int .i64 1)), (some (16, true)), [3]⟩,
 ⟨some 20, .load (some (4)) (.tmp 2), (some (16, true)), [3, 4, 5]⟩,
 ⟨some 21, .move (.tmp 4), (some (16, true)), [3, 4, 5, 6]⟩,
 ⟨some 22, .bin .plain .sub (.tmp 21) (.const (.int .i64 1)), (some (16, true)), [3, 4, 5, 6]⟩,
 ⟨some 23, .call (.const (.fn (.func 57) [] [])) [.tmp 20, .tmp 22], (some (16, true)), [3, 4, 5]⟩], 
  [
  ⟨some 24, .call (.tmp 17) [.tmp 19, .tmp 23], (some (16, true)), []⟩], 
  [
  ⟨some 25, .not (.tmp 24), (some (16, true)), []⟩], 
  [
  ⟨some 26, .pick (.tmp 16) (.tmp 25) (.const (.bool false)), none, []⟩]]
theorem k_field_neighbours_1_r1_sg : segs k_field_neighbours_1_r1 = k_field_neighbours_1_r1s := by kernel_rfl
theorem k_field_neighbours_1_r1_st : statOK k_field_neighbours_1_r1 = true := by kernel_rfl
def k_field_neighbours_1_r2 : List AOper := [
  ⟨some 27, .move (.tmp 4), none, []⟩,
 ⟨some 28, .fieldAddr 0 (.tmp 2), none, [0]⟩,
 ⟨some 29, .load none (.tmp 28), none, [0]⟩,
 ⟨some 30, .bin .plain .sub (.tmp 29) (.const (.int .i64 1)), none, [0]⟩,
 ⟨some 31, .bin .plain .lss (.tmp 27) (.tmp 30), none, []⟩,
 ⟨some 32, .move (.tmp 31), none, []⟩,
 ⟨some 33, .move (.tmp 0), (some (32, true)), []⟩,
 ⟨some 34, .load none (.tmp 1), (some (32, true)), [6]⟩,
 ⟨some 35, .bin .plain .add (.tmp 34) (.const (.int .i64 1)), (some (32, true)), [6]⟩,
 ⟨some 36, .load (some (4)) (.tmp 2), (some (32, true)), [6, 7, 8]⟩,
 ⟨some 37, .move (.tmp 4), (some (32, true)), [6, 7, 8, 9]⟩,
 ⟨some 38, .call (.const (.fn (.func 57) [] [])) [.tmp 36, .tmp 37], (some (32, true)), [6, 7, 8]⟩,
 ⟨some 39, .call (.tmp 33) [.tmp 35, .tmp 38], (some (32, true)), []⟩,
 ⟨some 40, .not (.tmp 39), (some (32, true)), []⟩,
 ⟨some 41, .pick (.tmp 32) (.tmp 40) (.const (.bool false)), none, []⟩]
def k_field_neighbours_1_r2s : List (List AOper) := [
  [
  ⟨some 27, .move (.tmp 4), none, []⟩,
 ⟨some 28, .fieldAddr 0 (.tmp 2), none, [0]⟩,
 ⟨some 29, .load none (.tmp 28), none, [0]⟩,
 ⟨some 30, .bin .plain .sub (.tmp 29) (.const (.int .i64 1)), none, [0]⟩], 
  [
  ⟨some 31, .bin .plain .lss (.tmp 27) (.tmp 30), none, []⟩], 
  [
  ⟨some 32, .move (.tmp 31), none, []⟩], 
  [
  ⟨some 33, .move (.tmp 0), (some (32, true)), []⟩,
 ⟨some 34, .load none (.tmp 1), (some (32, true)), [6]⟩,
 ⟨some 35, .bin .plain .add (.tmp 34) (.const (.int .i64 1)), (some (32, true)), [6]⟩,
 ⟨some 36, .load (some (4)) (.tmp 2), (some (32, true)), [6, 7, 8]⟩,
 ⟨some 37, .move (.tmp 4), (some (32, true)), [6, 7, 8, 9]⟩,
 ⟨some 38, .call (.const (.fn (.func 57) [] [])) [.tmp 36, .tmp 37], (some (32, true)), [6, 7, 8]⟩], 
  [
  ⟨some 39, .call (.tmp 33) [.tmp 35, .tmp 38], (some (32, true)), []⟩], 
  [
  ⟨some 40, .not (.tmp 39), (some (32, true)), []⟩], 
  [
  ⟨some 41, .pick (.tmp 32) (.tmp 40) (.const (.bool false)), none, []⟩]]
theorem k_field_neighbours_1_r2_sg : segs k_field_neighbours_1_r2 = k_field_neighbours_1_r2s := by kernel_rfl
theorem k_field_neighbours_1_r2_st : statOK k_field_neighbours_1_r2 = true := by kernel_rfl
def k_field_neighbours_1_r3 : List AOper := [
  ⟨some 42, .move (.tmp 5), none, []⟩,
 ⟨some 43, .bin .plain .gtr (.tmp 42) (.const (.int .i64 0)), none, []⟩,
 ⟨some 44, .move (.tmp 43), none, []⟩,
 ⟨some 45, .move (.tmp 0), (some (44, true)), []⟩,
 ⟨some 46, .load none (.tmp 1), (some (44, true)), [3]⟩,
 ⟨some 47, .fieldAddr 0 (.tmp 2), (some (44, true)), [3, 4]⟩,
 ⟨some 48, .load none (.tmp 47), (some (44, true)), [3, 4]⟩,
 ⟨some 49, .bin .plain .sub (.tmp 46) (.tmp 48), (some (44, true)), [3]⟩,
 ⟨some 50, .load (some (4)) (.tmp 2), (some (44, true)), [3, 4, 5, 6, 7]⟩,
 ⟨some 51, .move (.tmp 4), (some (44, true)), [3, 4, 5, 6, 7, 8]⟩,
 ⟨some 52, .call (.const (.fn (.func 58) [] [])) [.tmp 50, .tmp 51], (some (44, true)), [3, 4, 5, 6, 7]⟩,
 ⟨some 53, .call (.tmp 45) [.tmp 49, .tmp 52], (some (44, true)), []⟩,
 ⟨some 54, .not (.tmp 53), (some (44, true)), []⟩,
 ⟨some 55, .pick (.tmp 44) (.tmp 54) (.const (.bool false)), none, []⟩]
def k_field_neighbours_1_r3s : List (List AOper) := [
  [
  ⟨some 42, .move (.tmp 5), none, []⟩], 
  [
  ⟨some 43, .bin .plain .gtr (.tmp 42) (.const (.int .i64 0)), none, []⟩], 
  [
  ⟨some 44, .move (.tmp 43), none, []⟩], 
  [
  ⟨some 45, .move (.tmp 0), (some (44, true)), []⟩,
 ⟨some 46, .load none (.tmp 1), (some (44, true)), [3]⟩,
 ⟨some 47, .fieldAddr 0 (.tmp 2), (some (44, true)), [3, 4]⟩,
 ⟨some 48, .load none (.tmp 47), (some (44, true)), [3, 4]⟩,
 ⟨some 49, .bin .plain .sub (.tmp 46) (.tmp 48), (some (44, true)), [3]⟩,
 ⟨some 50, .load (some (4)) (.tmp 2), (some (44, true)), [3, 4, 5, 6, 7]⟩,
 ⟨some 51, .move (.tmp 4), (some (44, true)), [3, 4, 5, 6, 7, 8]⟩,
 ⟨some 52, .call (.const (.fn (.func 58) [] [])) [.tmp 50, .tmp 51], (some (44, true)), [3, 4, 5, 6, 7]⟩], 
  [
  ⟨some 53, .call (.tmp 45) [.tmp 49, .tmp 52], (some (44, true)), []⟩], 
  [
  ⟨some 54, .not (.tmp 53), (some (44, true)), []⟩], 
  [
  ⟨some 55, .pick (.tmp 44) (.tmp 54) (.const (.bool false)), none, []⟩]]
theorem k_field_neighbours_1_r3_sg : segs k_field_neighbours_1_r3 = k_field_neighbours_1_r3s := by kernel_rfl
theorem k_field_neighbours_1_r3_st : statOK k_field_neighbours_1_r3 = true := by kernel_rfl
def k_field_neighbours_1_r4 : List AOper := [
  ⟨some 56, .move (.tmp 5), none, []⟩,
 ⟨some 57, .fieldAddr 1 (.tmp 2), none, []⟩,
 ⟨some 58, .load none (.tmp 57), none, []⟩,
 ⟨some 59, .bin .plain .sub (.tmp 58) (.const (.int .i64 1)), none, []⟩,
 ⟨some 60, .bin .plain .lss (.tmp 56) (.tmp 59), none, []⟩]
def k_field_neighbours_1_r5 : List AOper := [
  ⟨some 61, .move (.tmp 0), none, []⟩,
 ⟨some 62, .load none (.tmp 1), none, [0]⟩,
 ⟨some 63, .fieldAddr 0 (.tmp 2), none, [0, 1]⟩,
 ⟨some 64, .load none (.tmp 63), none, [0, 1]⟩,
 ⟨some 65, .bin .plain .add (.tmp 62) (.tmp 64), none, [0]⟩,
 ⟨some 66, .load (some (4)) (.tmp 2), none, [0, 1, 2, 3, 4]⟩,
 ⟨some 67, .move (.tmp 4), none, [0, 1, 2, 3, 4, 5]⟩,
 ⟨some 68, .call (.const (.fn (.func 58) [] [])) [.tmp 66, .tmp 67], none, [0, 1, 2, 3, 4]⟩,
 ⟨some 69, .call (.tmp 61) [.tmp 65, .tmp 68], none, []⟩]
def k_field_neighbours_1_r5s : List (List AOper) := [
  [
  ⟨some 61, .move (.tmp 0), none, []⟩,
 ⟨some 62, .load none (.tmp 1), none, [0]⟩,
 ⟨some 63, .fieldAddr 0 (.tmp 2), none, [0, 1]⟩,
 ⟨some 64, .load none (.tmp 63), none, [0, 1]⟩,
 ⟨some 65, .bin .plain .add (.tmp 62) (.tmp 64), none, [0]⟩,
 ⟨some 66, .load (some (4)) (.tmp 2), none, [0, 1, 2, 3, 4]⟩,
 ⟨some 67, .move (.tmp 4), none, [0, 1, 2, 3, 4, 5]⟩,
 ⟨some 68, .call (.const (.fn (.func 58) [] [])) [.tmp 66, .tmp 67], none, [0, 1, 2, 3, 4]⟩], 
  [
  ⟨some 69, .call (.tmp 61) [.tmp 65, .tmp 68], none, []⟩]]
theorem k_field_neighbours_1_r5_sg : segs k_field_neighbours_1_r5 = k_field_neighbours_1_r5s := by kernel_rfl
theorem k_field_neighbours_1_r5_st : statOK k_field_neighbours_1_r5 = true := by kernel_rfl
def k_field_neighbours_1 : AFun := { params := 3, ntmps := 70, body := (.seq (.reg k_field_neighbours_1_r0 true) (.seq (.seq (.reg k_field_neighbours_1_r1 true) (.cond (.tmp 26) .ret .skip)) (.seq (.seq (.reg k_field_neighbours_1_r2 true) (.cond (.tmp 41) .ret .skip)) (.seq (.seq (.reg k_field_neighbours_1_r3 true) (.cond (.tmp 55) .ret .skip)) (.seq (.reg k_field_neighbours_1_r4 false) (.cond (.tmp 60) (.reg k_field_neighbours_1_r5 true) .skip)))))), res := [] }
theorem k_field_neighbours_1_ok : cfun Tryd.prog Tryd.f56 = k_field_neighbours_1 := by kernel_rfl

def k_field_beside_r0 : List AOper := [
  ⟨some 2, .box (.tmp 0), none, []⟩,
 ⟨some 4, .move (.const (.int .i64 0)), none, []⟩]
def k_field_beside_r1 : List AOper := [
  ⟨some 5, .fieldAddr 2 (.tmp 2), none, []⟩,
 ⟨some 6, .load none (.tmp 5), none, []⟩]
def k_field_beside_r2 : List AOper := [
  ⟨some 7, .move (.tmp 1), none, []⟩,
 ⟨some 8, .bin .plain .add (.tmp 7) (.const (.int .i64 1)), none, []⟩,
 ⟨some 9, .bin .plain .mul (.const (.int .i64 2)) (.tmp 8), none, []⟩,
 ⟨some 4, .move (.tmp 9), none, []⟩]
def k_field_beside_r3 : List AOper := [
  ⟨some 4, .move (.const (.int .i64 1)), none, []⟩]
def k_field_beside : AFun := { params := 2, ntmps := 10, body := (.seq (.reg k_field_beside_r0 false) (.seq (.seq (.reg k_field_beside_r1 false) (.cond (.tmp 6) (.seq (.reg k_field_beside_r2 false) .ret) .skip)) (.seq (.reg k_field_beside_r3 false) .ret))), res := [.tmp 4] }
theorem k_field_beside_ok : cfun Tryd.prog Tryd.f57 = k_field_beside := by kernel_rfl

def k_field_above_r0 : List AOper := [
  ⟨some 2, .box (.tmp 0), none, []⟩,
 ⟨some 4, .move (.const (.int .i64 0)), none, []⟩]
def k_field_above_r1 : List AOper := [
  ⟨some 5, .fieldAddr 2 (.tmp 2), none, []⟩,
 ⟨some 6, .load none (.tmp 5), none, []⟩]
def k_field_above_r2 : List AOper := [
  ⟨some 7, .move (.tmp 1), none, []⟩,
 ⟨some 8, .bin .plain .mul (.const (.int .i64 2)) (.tmp 7), none, []⟩,
 ⟨some 9, .bin .plain .add (.tmp 8) (.const (.int .i64 1)), none, []⟩,
 ⟨some 4, .move (.tmp 9), none, []⟩]
def k_field_above_r3 : List AOper := [
  ⟨some 4, .move (.const (.int .i64 1)), none, []⟩]
def k_field_above : AFun := { params := 2, ntmps := 10, body := (.seq (.reg k_field_above_r0 false) (.seq (.seq (.reg k_field_above_r1 false) (.cond (.tmp 6) (.seq (.reg k_field_above_r2 false) .ret) .skip)) (.seq (.reg k_field_above_r3 false) .ret))), res := [.tmp 4] }
theorem k_field_above_ok : cfun Tryd.prog Tryd.f58 = k_field_above := by kernel_rfl

def k_field_around_r0 : List AOper := [
  ⟨some 3, .box (.tmp 0), none, []⟩,
 ⟨some 4, .box (.tmp 1), none, []⟩,
 ⟨some 6, .box (.const (.int .i64 0)), none, []⟩,
 ⟨some 7, .box (.const (.int .i64 0)), none, []⟩]
def k_field_around_r1 : List AOper := [
  ⟨some 10, .load (some (4)) (.tmp 3), none, []⟩,
 ⟨some 11, .move (.tmp 2), none, []⟩,
 ⟨some 12, .call (.const (.fn (.func 39) [] [])) [.tmp 10, .tmp 11], none, []⟩]
def k_field_around_r2 : List AOper := [
  ⟨some 8, .move (.tmp 13), none, []⟩]
def k_field_around_r3 : List AOper := [
  ⟨some 9, .move (.tmp 14), none, []⟩]
def k_field_around_r4 : List AOper := [
  ⟨some 15, .load none (.tmp 6), none, []⟩,
 ⟨some 16, .move (.tmp 9), none, [0]⟩,
 ⟨some 17, .load none (.tmp 4), none, [0, 1]⟩,
 ⟨some 18, .move (.tmp 8), none, [0, 1, 2]⟩,
 ⟨some 19, .indexAddr 1 (.tmp 17) (.tmp 18), none, [0, 1]⟩,
 ⟨some 20, .load none (.tmp 19), none, [0, 1]⟩,
 ⟨some 21, .bin .plain .mul (.tmp 16) (.tmp 20), none, [0]⟩,
 ⟨some 22, .bin .plain .add (.tmp 15) (.tmp 21), none, []⟩,
 ⟨none, .store 1 (.tmp 6) (.tmp 22), none, []⟩]
def k_field_around_r4s : List (List AOper) := [
  [
  ⟨some 15, .load none (.tmp 6), none, []⟩,
 ⟨some 16, .move (.tmp 9), none, [0]⟩,
 ⟨some 17, .load none (.tmp 4), none, [0, 1]⟩,
 ⟨some 18, .move (.tmp 8), none, [0, 1, 2]⟩,
 ⟨some 19, .indexAddr 1 (.tmp 17) (.tmp 18), none, [0, 1]⟩,
 ⟨some 20, .load none (.tmp 19), none, [0, 1]⟩,
 ⟨some 21, .bin .plain .mul (.tmp 16) (.tmp 20), none, [0]⟩], 
  [
  ⟨some 22, .bin .plain .add (.tmp 15) (.tmp 21), none, []⟩], 
  [
  ⟨none, .store 1 (.tmp 6) (.tmp 22), none, []⟩]]
theorem k_field_around_r4_sg : segs k_field_around_r4 = k_field_around_r4s := by kernel_rfl
theorem k_field_around_r4_st : statOK k_field_around_r4 = true := by kernel_rfl
def k_field_around_r5 : List AOper := [
  ⟨some 23, .load none (.tmp 7), none, []⟩,
 ⟨some 24, .move (.tmp 9), none, []⟩,
 ⟨some 25, .bin .plain .add (.tmp 23) (.tmp 24), none, []⟩,
 ⟨none, .store 1 (.tmp 7) (.tmp 25), none, []⟩]
def k_field_around_r6 : ACode := (.seq (.reg k_field_around_r2 false) (.reg k_field_around_r3 false))
def k_field_around_r7 : ACode := (.block 1 (.seq (.reg k_field_around_r4 true) (.reg k_field_around_r5 false)))
def k_field_around_r8 : List AOper := [
  ⟨some 26, .load none (.tmp 6), none, []⟩,
 ⟨some 27, .load none (.tmp 7), none, [0]⟩,
 ⟨none, .store 1 (.tmp 6) (.tmp 26), none, [1]⟩,
 ⟨none, .store 1 (.tmp 7) (.tmp 27), none, []⟩]
def k_field_around_r8s : List (List AOper) := [
  [
  ⟨some 26, .load none (.tmp 6), none, []⟩,
 ⟨some 27, .load none (.tmp 7), none, [0]⟩,
 ⟨none, .store 1 (.tmp 6) (.tmp 26), none, [1]⟩], 
  [
  ⟨none, .store 1 (.tmp 7) (.tmp 27), none, []⟩]]
theorem k_field_around_r8_sg : segs k_field_around_r8 = k_field_around_r8s := by kernel_rfl
theorem k_field_around_r8_st : statOK k_field_around_r8 = true := by kernel_rfl
def k_field_around : AFun := { params := 3, ntmps := 28, body := (.seq (.reg k_field_around_r0 false) (.seq (.seq (.reg k_field_around_r1 false) (.block 0 (.rng (.tmp 12) [13, 14] k_field_around_r6 k_field_around_r7))) (.seq (.reg k_field_around_r8 true) .ret))), res := [.cell 6 (some (none)), .cell 7 (some (none))] }
theorem k_field_around_ok : cfun Tryd.prog Tryd.f61 = k_field_around := by kernel_rfl

def k_slices_Index_int_int_r0 : List AOper := [
  ⟨some 4, .move (.const (.int .i64 0)), none, []⟩]
def k_slices_Index_int_int_r1 : List AOper := [
  ⟨some 6, .move (.tmp 0), none, []⟩,
 ⟨some 7, .len false (.tmp 6), none, []⟩,
 ⟨some 8, .move (.const (.int .i64 0)), none, []⟩]
def k_slices_Index_int_int_r2 : List AOper := [
  ⟨some 9, .bin .plain .lss (.tmp 8) (.tmp 7), none, []⟩]
def k_slices_Index_int_int_r3 : List AOper := [
  ⟨some 10, .move (.tmp 8), none, []⟩,
 ⟨some 5, .move (.tmp 10), none, []⟩]
def k_slices_Index_int_int_r4 : List AOper := [
  ⟨some 11, .move (.tmp 1), none, []⟩,
 ⟨some 12, .move (.tmp 0), none, []⟩,
 ⟨some 13, .move (.tmp 5), none, []⟩,
 ⟨some 14, .indexAddr 1 (.tmp 12) (.tmp 13), none, []⟩,
 ⟨some 15, .load none (.tmp 14), none, []⟩,
 ⟨some 16, .bin .plain .eql (.tmp 11) (.tmp 15), none, []⟩]
def k_slices_Index_int_int_r5 : List AOper := [
  ⟨some 17, .move (.tmp 5), none, []⟩,
 ⟨some 4, .move (.tmp 17), none, []⟩]
def k_slices_Index_int_int_r6 : List AOper := [
  ⟨some 18, .bin .plain .add (.tmp 8) (.const (.int .i64 1)), none, []⟩,
 ⟨some 8, .move (.tmp 18), none, []⟩]
def k_slices_Index_int_int_r7 : ACode := (.seq (.reg k_slices_Index_int_int_r2 false) (.seq (.cond (.tmp 9) .skip (.exit 0)) (.seq (.block 1 (.seq (.reg k_slices_Index_int_int_r3 false) (.seq (.reg k_slices_Index_int_int_r4 false) (.cond (.tmp 16) (.seq (.reg k_slices_Index_int_int_r5 false) .ret) .skip)))) (.reg k_slices_Index_int_int_r6 false))))
def k_slices_Index_int_int_r8 : List AOper := [
  ⟨some 4, .move (.const (.int .i64 (-1))), none, []⟩]
def k_slices_Index_int_int : AFun := { params := 2, ntmps := 19, body := (.seq (.reg k_slices_Index_int_int_r0 false) (.seq (.seq (.reg k_slices_Index_int_int_r1 false) (.block 0 (.loop k_slices_Index_int_int_r7))) (.seq (.reg k_slices_Index_int_int_r8 false) .ret))), res := [.tmp 4] }
theorem k_slices_Index_int_int_ok : cfun Tryd.prog Tryd.f62 = k_slices_Index_int_int := by kernel_rfl


abbrev n_law01_awake : Nat := 6
theorem e_law01_awake : EntryOK Tryd.prog n_law01_awake k_law01_awake := ⟨Tryd.f6, Tryd.func6, k_law01_awake_ok, by kernel_rfl⟩
abbrev n_field_Solve : Nat := 15
theorem e_field_Solve : EntryOK Tryd.prog n_field_Solve k_field_Solve := ⟨Tryd.f15, Tryd.func15, k_field_Solve_ok, by kernel_rfl⟩
abbrev n_law01_line : Nat := 16
theorem e_law01_line : EntryOK Tryd.prog n_law01_line k_law01_line := ⟨Tryd.f16, Tryd.func16, k_law01_line_ok, by kernel_rfl⟩
abbrev n_field_Charge : Nat := 17
theorem e_field_Charge : EntryOK Tryd.prog n_field_Charge k_field_Charge := ⟨Tryd.f17, Tryd.func17, k_field_Charge_ok, by kernel_rfl⟩
abbrev n_kit_Same : Nat := 18
theorem e_kit_Same : EntryOK Tryd.prog n_kit_Same k_kit_Same := ⟨Tryd.f18, Tryd.func18, k_kit_Same_ok, by kernel_rfl⟩
abbrev n_field_Weight : Nat := 19
theorem e_field_Weight : EntryOK Tryd.prog n_field_Weight k_field_Weight := ⟨Tryd.f19, Tryd.func19, k_field_Weight_ok, by kernel_rfl⟩
abbrev n_law01_ring : Nat := 20
theorem e_law01_ring : EntryOK Tryd.prog n_law01_ring k_law01_ring := ⟨Tryd.f20, Tryd.func20, k_law01_ring_ok, by kernel_rfl⟩
abbrev n_field_Check : Nat := 25
theorem e_field_Check : EntryOK Tryd.prog n_field_Check k_field_Check := ⟨Tryd.f25, Tryd.func25, k_field_Check_ok, by kernel_rfl⟩
abbrev n_field_CheckVolts : Nat := 33
theorem e_field_CheckVolts : EntryOK Tryd.prog n_field_CheckVolts k_field_CheckVolts := ⟨Tryd.f33, Tryd.func33, k_field_CheckVolts_ok, by kernel_rfl⟩
abbrev n_field_checkSweeps : Nat := 34
theorem e_field_checkSweeps : EntryOK Tryd.prog n_field_checkSweeps k_field_checkSweeps := ⟨Tryd.f34, Tryd.func34, k_field_checkSweeps_ok, by kernel_rfl⟩
abbrev n_field_solve : Nat := 35
theorem e_field_solve : EntryOK Tryd.prog n_field_solve k_field_solve := ⟨Tryd.f35, Tryd.func35, k_field_solve_ok, by kernel_rfl⟩
abbrev n_field_has : Nat := 36
theorem e_field_has : EntryOK Tryd.prog n_field_has k_field_has := ⟨Tryd.f36, Tryd.func36, k_field_has_ok, by kernel_rfl⟩
abbrev n_field_charge : Nat := 37
theorem e_field_charge : EntryOK Tryd.prog n_field_charge k_field_charge := ⟨Tryd.f37, Tryd.func37, k_field_charge_ok, by kernel_rfl⟩
abbrev n_field_within : Nat := 38
theorem e_field_within : EntryOK Tryd.prog n_field_within k_field_within := ⟨Tryd.f38, Tryd.func38, k_field_within_ok, by kernel_rfl⟩
abbrev n_field_neighbours : Nat := 39
theorem e_field_neighbours : EntryOK Tryd.prog n_field_neighbours k_field_neighbours := ⟨Tryd.f39, Tryd.func39, k_field_neighbours_ok, by kernel_rfl⟩
abbrev n_slices_Max_int_int : Nat := 41
theorem e_slices_Max_int_int : EntryOK Tryd.prog n_slices_Max_int_int k_slices_Max_int_int := ⟨Tryd.f41, Tryd.func41, k_slices_Max_int_int_ok, by kernel_rfl⟩
abbrev n_field_loose : Nat := 42
theorem e_field_loose : EntryOK Tryd.prog n_field_loose k_field_loose := ⟨Tryd.f42, Tryd.func42, k_field_loose_ok, by kernel_rfl⟩
abbrev n_field_checkNumbers : Nat := 49
theorem e_field_checkNumbers : EntryOK Tryd.prog n_field_checkNumbers k_field_checkNumbers := ⟨Tryd.f49, Tryd.func49, k_field_checkNumbers_ok, by kernel_rfl⟩
abbrev n_field_ends : Nat := 50
theorem e_field_ends : EntryOK Tryd.prog n_field_ends k_field_ends := ⟨Tryd.f50, Tryd.func50, k_field_ends_ok, by kernel_rfl⟩
abbrev n_field_newBound : Nat := 51
theorem e_field_newBound : EntryOK Tryd.prog n_field_newBound k_field_newBound := ⟨Tryd.f51, Tryd.func51, k_field_newBound_ok, by kernel_rfl⟩
abbrev n_field_roundDown : Nat := 52
theorem e_field_roundDown : EntryOK Tryd.prog n_field_roundDown k_field_roundDown := ⟨Tryd.f52, Tryd.func52, k_field_roundDown_ok, by kernel_rfl⟩
abbrev n_field_roundUp : Nat := 53
theorem e_field_roundUp : EntryOK Tryd.prog n_field_roundUp k_field_roundUp := ⟨Tryd.f53, Tryd.func53, k_field_roundUp_ok, by kernel_rfl⟩
abbrev n_field_bound_sweep : Nat := 54
theorem e_field_bound_sweep : EntryOK Tryd.prog n_field_bound_sweep k_field_bound_sweep := ⟨Tryd.f54, Tryd.func54, k_field_bound_sweep_ok, by kernel_rfl⟩
abbrev n_slices_Contains_int_int : Nat := 55
theorem e_slices_Contains_int_int : EntryOK Tryd.prog n_slices_Contains_int_int k_slices_Contains_int_int := ⟨Tryd.f55, Tryd.func55, k_slices_Contains_int_int_ok, by kernel_rfl⟩
abbrev n_field_neighbours_1 : Nat := 56
theorem e_field_neighbours_1 : EntryOK Tryd.prog n_field_neighbours_1 k_field_neighbours_1 := ⟨Tryd.f56, Tryd.func56, k_field_neighbours_1_ok, by kernel_rfl⟩
abbrev n_field_beside : Nat := 57
theorem e_field_beside : EntryOK Tryd.prog n_field_beside k_field_beside := ⟨Tryd.f57, Tryd.func57, k_field_beside_ok, by kernel_rfl⟩
abbrev n_field_above : Nat := 58
theorem e_field_above : EntryOK Tryd.prog n_field_above k_field_above := ⟨Tryd.f58, Tryd.func58, k_field_above_ok, by kernel_rfl⟩
abbrev n_field_around : Nat := 61
theorem e_field_around : EntryOK Tryd.prog n_field_around k_field_around := ⟨Tryd.f61, Tryd.func61, k_field_around_ok, by kernel_rfl⟩
abbrev n_slices_Index_int_int : Nat := 62
theorem e_slices_Index_int_int : EntryOK Tryd.prog n_slices_Index_int_int k_slices_Index_int_int := ⟨Tryd.f62, Tryd.func62, k_slices_Index_int_int_ok, by kernel_rfl⟩

@[go_sem] theorem mixed : Tryd.prog.follows .mixedOrders = true := by kernel_rfl
attribute [go_sem] k_law01_awake_r0 k_law01_awake_r1 k_law01_awake_r2 k_law01_awake_r3 k_field_Solve_r0 k_field_Solve_r1 k_field_Solve_r2 k_field_Solve_r3 k_field_Solve_r4 k_field_Solve_r5 k_field_Solve_r6 k_field_Solve_r7
attribute [go_sem] k_law01_line_r0 k_law01_line_r1 k_field_Charge_r0 k_field_Charge_r1 k_field_Charge_r2 k_field_Charge_r3 k_field_Charge_r4 k_field_Charge_r5 k_field_Charge_r6 k_kit_Same_r0 k_kit_Same_r1 k_kit_Same_r2
attribute [go_sem] k_kit_Same_r3 k_kit_Same_r4 k_kit_Same_r5s k_kit_Same_r6 k_kit_Same_r7 k_kit_Same_r9 k_field_Weight_r0 k_field_Weight_r1 k_field_Weight_r2 k_field_Weight_r3 k_field_Weight_r4 k_field_Weight_r5
attribute [go_sem] k_field_Weight_r6 k_field_Weight_r7 k_field_Weight_r10 k_law01_ring_r0 k_law01_ring_r1 k_law01_ring_r2 k_law01_ring_r3 k_field_Check_r0 k_field_Check_r1 k_field_Check_r2 k_field_Check_r3 k_field_Check_r4
attribute [go_sem] k_field_Check_r5 k_field_Check_r6 k_field_Check_r7 k_field_Check_r8 k_field_Check_r9 k_field_Check_r10 k_field_Check_r12 k_field_Check_r13 k_field_Check_r14 k_field_Check_r15 k_field_Check_r16 k_field_CheckVolts_r0
attribute [go_sem] k_field_CheckVolts_r1 k_field_CheckVolts_r2 k_field_CheckVolts_r3 k_field_CheckVolts_r4 k_field_CheckVolts_r5 k_field_CheckVolts_r6 k_field_checkSweeps_r0 k_field_checkSweeps_r1 k_field_checkSweeps_r2 k_field_checkSweeps_r3 k_field_solve_r0 k_field_solve_r1
attribute [go_sem] k_field_solve_r2 k_field_solve_r3 k_field_solve_r4 k_field_solve_r5 k_field_solve_r6s k_field_solve_r7 k_field_solve_r8 k_field_solve_r10 k_field_has_r0 k_field_has_r1 k_field_charge_r0 k_field_charge_r1
attribute [go_sem] k_field_charge_r2 k_field_charge_r3 k_field_charge_r4 k_field_charge_r5 k_field_charge_r6 k_field_charge_r7 k_field_charge_r8 k_field_charge_r9s k_field_charge_r10s k_field_charge_r11s k_field_charge_r14 k_field_charge_r16
attribute [go_sem] k_field_within_r0 k_field_within_r1 k_field_neighbours_r0 k_field_neighbours_r1 k_slices_Max_int_int_r0 k_slices_Max_int_int_r1 k_slices_Max_int_int_r2 k_slices_Max_int_int_r3 k_slices_Max_int_int_r4 k_slices_Max_int_int_r5 k_slices_Max_int_int_r6 k_slices_Max_int_int_r7
attribute [go_sem] k_slices_Max_int_int_r9 k_field_loose_r0 k_field_loose_r1 k_field_loose_r2 k_field_loose_r3 k_field_loose_r4 k_field_loose_r5 k_field_loose_r6 k_field_loose_r7 k_field_loose_r8 k_field_loose_r9 k_field_loose_r11
attribute [go_sem] k_field_loose_r12 k_field_loose_r13s k_field_loose_r14 k_field_loose_r15 k_field_loose_r16 k_field_loose_r17 k_field_loose_r20 k_field_loose_r22 k_field_checkNumbers_r0 k_field_checkNumbers_r1 k_field_checkNumbers_r2 k_field_checkNumbers_r3
attribute [go_sem] k_field_checkNumbers_r4 k_field_checkNumbers_r5 k_field_checkNumbers_r6 k_field_checkNumbers_r8 k_field_ends_r0 k_field_ends_r1 k_field_ends_r2 k_field_ends_r3 k_field_ends_r4 k_field_ends_r5 k_field_ends_r6 k_field_ends_r7
attribute [go_sem] k_field_ends_r8 k_field_ends_r10 k_field_newBound_r0 k_field_newBound_r1 k_field_newBound_r2 k_field_newBound_r3 k_field_newBound_r4 k_field_newBound_r5 k_field_newBound_r6 k_field_newBound_r7 k_field_newBound_r8 k_field_newBound_r10
attribute [go_sem] k_field_roundDown_r0 k_field_roundDown_r1 k_field_roundDown_r2 k_field_roundDown_r3 k_field_roundDown_r4 k_field_roundUp_r0 k_field_roundUp_r1 k_field_bound_sweep_r0 k_field_bound_sweep_r1 k_field_bound_sweep_r2 k_field_bound_sweep_r3 k_field_bound_sweep_r4
attribute [go_sem] k_field_bound_sweep_r5 k_field_bound_sweep_r6 k_field_bound_sweep_r7 k_field_bound_sweep_r8 k_field_bound_sweep_r9 k_field_bound_sweep_r10 k_field_bound_sweep_r12 k_slices_Contains_int_int_r0 k_slices_Contains_int_int_r1 k_field_neighbours_1_r0s k_field_neighbours_1_r1s k_field_neighbours_1_r2s
attribute [go_sem] k_field_neighbours_1_r3s k_field_neighbours_1_r4 k_field_neighbours_1_r5s k_field_beside_r0 k_field_beside_r1 k_field_beside_r2 k_field_beside_r3 k_field_above_r0 k_field_above_r1 k_field_above_r2 k_field_above_r3 k_field_around_r0
attribute [go_sem] k_field_around_r1 k_field_around_r2 k_field_around_r3 k_field_around_r4s k_field_around_r5 k_field_around_r8s k_slices_Index_int_int_r0 k_slices_Index_int_int_r1 k_slices_Index_int_int_r2 k_slices_Index_int_int_r3 k_slices_Index_int_int_r4 k_slices_Index_int_int_r5
attribute [go_sem] k_slices_Index_int_int_r6 k_slices_Index_int_int_r8 k_field_neighbours_1_r0_sg k_field_around_r4_sg k_field_loose_r13_sg k_kit_Same_r5_sg k_field_around_r8_sg k_field_neighbours_1_r5_sg k_field_neighbours_1_r3_sg k_field_solve_r6_sg k_field_charge_r10_sg k_field_neighbours_1_r1_sg
attribute [go_sem] k_field_neighbours_1_r2_sg k_field_charge_r11_sg k_field_charge_r9_sg k_field_neighbours_1_r0_st k_field_around_r4_st k_field_loose_r13_st k_kit_Same_r5_st k_field_around_r8_st k_field_neighbours_1_r5_st k_field_neighbours_1_r3_st k_field_solve_r6_st k_field_charge_r10_st
attribute [go_sem] k_field_neighbours_1_r1_st k_field_neighbours_1_r2_st k_field_charge_r11_st k_field_charge_r9_st k_law01_awake k_field_Solve k_law01_line k_field_Charge k_kit_Same k_field_Weight k_law01_ring k_field_Check
attribute [go_sem] k_field_CheckVolts k_field_checkSweeps k_field_solve k_field_has k_field_charge k_field_within k_field_neighbours k_slices_Max_int_int k_field_loose k_field_checkNumbers k_field_ends k_field_newBound
attribute [go_sem] k_field_roundDown k_field_roundUp k_field_bound_sweep k_slices_Contains_int_int k_field_neighbours_1 k_field_beside k_field_above k_field_around k_slices_Index_int_int
def tabL : List (Nat × AFun) := [(6, k_law01_awake), (15, k_field_Solve), (16, k_law01_line), (17, k_field_Charge), (18, k_kit_Same), (19, k_field_Weight), (20, k_law01_ring), (25, k_field_Check), (33, k_field_CheckVolts), (34, k_field_checkSweeps), (35, k_field_solve), (36, k_field_has), (37, k_field_charge), (38, k_field_within), (39, k_field_neighbours), (41, k_slices_Max_int_int), (42, k_field_loose), (49, k_field_checkNumbers), (50, k_field_ends), (51, k_field_newBound), (52, k_field_roundDown), (53, k_field_roundUp), (54, k_field_bound_sweep), (55, k_slices_Contains_int_int), (56, k_field_neighbours_1), (57, k_field_beside), (58, k_field_above), (61, k_field_around), (62, k_slices_Index_int_int)]
def tabGet : List (Nat × AFun) → Nat → Option AFun
  | [], _ => none
  | (n, c) :: l, g => if Nat.beq n g = true then some c else tabGet l g
def tab (g : Nat) : Option AFun := tabGet tabL g
def AllOK : List (Nat × AFun) → Prop
  | [] => True
  | p :: l => EntryOK Tryd.prog p.1 p.2 ∧ AllOK l
theorem AllOK.get : ∀ {l : List (Nat × AFun)}, AllOK l → ∀ p ∈ l, EntryOK Tryd.prog p.1 p.2
  | [], _, p, h => by simp at h
  | q :: l, h, p, hp => by
    rcases List.mem_cons.1 hp with rfl | hp
    · exact h.1
    · exact AllOK.get h.2 p hp
set_option maxRecDepth 100000 in
theorem tab_all : ∀ p ∈ tabL, EntryOK Tryd.prog p.1 p.2 := AllOK.get (l := tabL) (⟨e_law01_awake, ⟨e_field_Solve, ⟨e_law01_line, ⟨e_field_Charge, ⟨e_kit_Same, ⟨e_field_Weight, ⟨e_law01_ring, ⟨e_field_Check, ⟨e_field_CheckVolts, ⟨e_field_checkSweeps, ⟨e_field_solve, ⟨e_field_has, ⟨e_field_charge, ⟨e_field_within, ⟨e_field_neighbours, ⟨e_slices_Max_int_int, ⟨e_field_loose, ⟨e_field_checkNumbers, ⟨e_field_ends, ⟨e_field_newBound, ⟨e_field_roundDown, ⟨e_field_roundUp, ⟨e_field_bound_sweep, ⟨e_slices_Contains_int_int, ⟨e_field_neighbours_1, ⟨e_field_beside, ⟨e_field_above, ⟨e_field_around, ⟨e_slices_Index_int_int, trivial⟩⟩⟩⟩⟩⟩⟩⟩⟩⟩⟩⟩⟩⟩⟩⟩⟩⟩⟩⟩⟩⟩⟩⟩⟩⟩⟩⟩⟩)
theorem tabGet_mem : ∀ (l : List (Nat × AFun)) (g : Nat) (c : AFun), tabGet l g = some c → (g, c) ∈ l
  | [], _, _, h => by cases h
  | (n, c') :: l, g, c, h => by
    simp only [tabGet] at h
    split at h
    · rename_i hn
      cases h
      rw [Nat.eq_of_beq_eq_true hn]; exact List.mem_cons_self
    · exact List.mem_cons_of_mem _ (tabGet_mem l g c h)
theorem tab_ok (g : Nat) (af : AFun) (h : tab g = some af) : EntryOK Tryd.prog g af := by
  have h2 := tab_all _ (tabGet_mem _ _ _ h)
  exact h2
end Go.Proofs

