/- A part of the proof. -/
import Derived.Test.YtechakihgojbgaaSxH
import Derived.Test.YtechakihgojbgaaProg
import Derived.KernelRfl
set_option linter.unusedSimpArgs false
set_option linter.unusedVariables false
namespace Go.Proofs
open Go Go.Sx

def k_law06_PumpRows_r0 : List AOper := [
  ⟨some 2, .move (.const (.bool false)), none, []⟩]
def k_law06_PumpRows_r1 : List AOper := [
  ⟨some 9, .move (.tmp 0), none, []⟩,
 ⟨some 10, .call (.const (.fn (.func 70) [] [])) [.tmp 9, .const (.int .i64 12)], none, []⟩,
 ⟨some 11, .bin .plain .add (.const (.int .i64 1)) (.tmp 10), none, []⟩,
 ⟨some 0, .move (.tmp 11), none, []⟩]
def k_law06_PumpRows_r2 : List AOper := [
  ⟨some 12, .move (.tmp 0), none, []⟩,
 ⟨some 13, .build [.int .i64 0, .nilsl] [(0, 1, .tmp 12)], none, []⟩,
 ⟨some 3, .box (.const (.agg [.int .i64 0, .nilsl])), none, []⟩,
 ⟨none, .store 2 (.tmp 3) (.tmp 13), none, []⟩]
def k_law06_PumpRows_r3 : List AOper := [
  ⟨some 4, .move (.const (.int .i64 1)), none, []⟩]
def k_law06_PumpRows_r4 : List AOper := [
  ⟨some 14, .move (.tmp 4), none, []⟩,
 ⟨some 15, .move (.tmp 0), none, []⟩,
 ⟨some 16, .bin .plain .lss (.tmp 14) (.tmp 15), none, []⟩]
def k_law06_PumpRows_r5 : List AOper := [
  ⟨some 19, .fieldAddr 1 (.tmp 3), none, []⟩,
 ⟨some 20, .load none (.tmp 19), none, []⟩,
 ⟨some 21, .move (.tmp 4), none, [0, 1]⟩,
 ⟨some 22, .call (.const (.fn (.func 53) [] [])) [.tmp 21], none, [0, 1]⟩,
 ⟨some 23, .build [.nilsl, .int .i64 0] [(0, 1, .tmp 22), (1, 1, .const (.int .i64 1))], none, [0, 1]⟩,
 ⟨some 24, .buildSlice 2 [.tmp 23], none, [0, 1]⟩,
 ⟨some 25, .append 2 32 true (.tmp 20) (.tmp 24), none, []⟩,
 ⟨some 26, .fieldAddr 1 (.tmp 3), none, []⟩,
 ⟨none, .store 1 (.tmp 26) (.tmp 25), none, []⟩]
def k_law06_PumpRows_r5s : List (List AOper) := [
  [
  ⟨some 19, .fieldAddr 1 (.tmp 3), none, []⟩,
 ⟨some 20, .load none (.tmp 19), none, []⟩,
 ⟨some 21, .move (.tmp 4), none, [0, 1]⟩,
 ⟨some 22, .call (.const (.fn (.func 53) [] [])) [.tmp 21], none, [0, 1]⟩,
 ⟨some 23, .build [.nilsl, .int .i64 0] [(0, 1, .tmp 22), (1, 1, .const (.int .i64 1))], none, [0, 1]⟩,
 ⟨some 24, .buildSlice 2 [.tmp 23], none, [0, 1]⟩], 
  [
  ⟨some 25, .append 2 32 true (.tmp 20) (.tmp 24), none, []⟩], 
  [
  ⟨some 26, .fieldAddr 1 (.tmp 3), none, []⟩], 
  [
  ⟨none, .store 1 (.tmp 26) (.tmp 25), none, []⟩]]
theorem k_law06_PumpRows_r5_sg : segs k_law06_PumpRows_r5 = k_law06_PumpRows_r5s := by kernel_rfl
theorem k_law06_PumpRows_r5_st : statOK k_law06_PumpRows_r5 = true := by kernel_rfl
def k_law06_PumpRows_r6 : List AOper := [
  ⟨some 17, .move (.tmp 4), none, []⟩,
 ⟨some 18, .bin .plain .add (.tmp 17) (.const (.int .i64 1)), none, []⟩,
 ⟨some 4, .move (.tmp 18), none, []⟩]
def k_law06_PumpRows_r7 : ACode := (.seq (.seq (.reg k_law06_PumpRows_r4 false) (.cond (.tmp 16) .skip (.exit 0))) (.seq (.block 1 (.reg k_law06_PumpRows_r5 true)) (.reg k_law06_PumpRows_r6 false)))
def k_law06_PumpRows_r8 : List AOper := [
  ⟨some 5, .move (.const (.int .i64 0)), none, []⟩]
def k_law06_PumpRows_r9 : List AOper := [
  ⟨some 27, .move (.tmp 5), none, []⟩,
 ⟨some 28, .bin .plain .shl (.const (.int .i64 1)) (.tmp 27), none, []⟩,
 ⟨some 29, .move (.tmp 0), none, []⟩,
 ⟨some 30, .bin .plain .lss (.tmp 28) (.tmp 29), none, []⟩]
def k_law06_PumpRows_r10 : List AOper := [
  ⟨some 31, .move (.tmp 5), none, []⟩,
 ⟨some 32, .bin .plain .add (.tmp 31) (.const (.int .i64 1)), none, []⟩,
 ⟨some 5, .move (.tmp 32), none, []⟩]
def k_law06_PumpRows_r11 : ACode := (.seq (.seq (.reg k_law06_PumpRows_r9 false) (.cond (.tmp 30) .skip (.exit 2))) (.block 3 (.reg k_law06_PumpRows_r10 false)))
def k_law06_PumpRows_r12 : List AOper := [
  ⟨some 34, .load (some (2)) (.tmp 3), none, []⟩,
 ⟨some 35, .move (.tmp 0), none, [0]⟩,
 ⟨some 36, .call (.const (.fn (.func 53) [] [])) [.tmp 35], none, [0]⟩,
 ⟨some 37, .call (.const (.fn (.func 54) [] [])) [.tmp 34, .tmp 36], none, []⟩,
 ⟨some 33, .move (.tmp 37), none, []⟩,
 ⟨some 38, .extract (.tmp 33) 0, none, []⟩,
 ⟨some 39, .extract (.tmp 33) 1, none, [5]⟩,
 ⟨some 40, .extract (.tmp 33) 2, none, [5, 6]⟩,
 ⟨some 6, .move (.tmp 38), none, [6, 7]⟩,
 ⟨some 7, .move (.tmp 39), none, [7]⟩,
 ⟨some 8, .move (.tmp 40), none, []⟩]
def k_law06_PumpRows_r12s : List (List AOper) := [
  [
  ⟨some 34, .load (some (2)) (.tmp 3), none, []⟩,
 ⟨some 35, .move (.tmp 0), none, [0]⟩,
 ⟨some 36, .call (.const (.fn (.func 53) [] [])) [.tmp 35], none, [0]⟩], 
  [
  ⟨some 37, .call (.const (.fn (.func 54) [] [])) [.tmp 34, .tmp 36], none, []⟩], 
  [
  ⟨some 33, .move (.tmp 37), none, []⟩], 
  [
  ⟨some 38, .extract (.tmp 33) 0, none, []⟩,
 ⟨some 39, .extract (.tmp 33) 1, none, [5]⟩,
 ⟨some 40, .extract (.tmp 33) 2, none, [5, 6]⟩,
 ⟨some 6, .move (.tmp 38), none, [6, 7]⟩,
 ⟨some 7, .move (.tmp 39), none, [7]⟩], 
  [
  ⟨some 8, .move (.tmp 40), none, []⟩]]
theorem k_law06_PumpRows_r12_sg : segs k_law06_PumpRows_r12 = k_law06_PumpRows_r12s := by kernel_rfl
theorem k_law06_PumpRows_r12_st : statOK k_law06_PumpRows_r12 = true := by kernel_rfl
def k_law06_PumpRows_r13 : List AOper := [
  ⟨some 41, .move (.tmp 8), none, []⟩,
 ⟨some 42, .bin .plain .eql (.tmp 41) (.const (.int .i64 0)), none, []⟩,
 ⟨some 43, .move (.tmp 42), none, []⟩,
 ⟨some 44, .move (.tmp 6), (some (43, true)), []⟩,
 ⟨some 45, .move (.tmp 5), (some (43, true)), []⟩,
 ⟨some 46, .bin .plain .eql (.tmp 44) (.tmp 45), (some (43, true)), []⟩,
 ⟨some 47, .pick (.tmp 43) (.tmp 46) (.const (.bool false)), none, []⟩,
 ⟨some 48, .move (.tmp 47), none, []⟩,
 ⟨some 49, .call (.const (.fn (.func 20) [] [])) [], (some (48, true)), []⟩,
 ⟨some 50, .pick (.tmp 48) (.tmp 49) (.const (.bool false)), none, []⟩,
 ⟨some 2, .move (.tmp 50), none, []⟩]
def k_law06_PumpRows : AFun := { params := 1, ntmps := 51, body := (.seq (.reg k_law06_PumpRows_r0 false) (.seq (.reg k_law06_PumpRows_r1 false) (.seq (.reg k_law06_PumpRows_r2 false) (.seq (.seq (.reg k_law06_PumpRows_r3 false) (.block 0 (.loop k_law06_PumpRows_r7))) (.seq (.reg k_law06_PumpRows_r8 false) (.seq (.block 2 (.loop k_law06_PumpRows_r11)) (.seq (.reg k_law06_PumpRows_r12 true) (.seq (.reg k_law06_PumpRows_r13 false) .ret)))))))), res := [.tmp 2] }
theorem k_law06_PumpRows_ok : cfun Try.prog Try.f17 = k_law06_PumpRows := by kernel_rfl

def k_law06_awake_r0 : List AOper := [
  ⟨some 0, .move (.const (.bool false)), none, []⟩]
def k_law06_awake_r1 : List AOper := [
  ⟨some 7, .call (.const (.fn (.func 62) [] [])) [], none, []⟩,
 ⟨some 8, .build [.int .i64 0, .int .i64 0, .nilsl, .bool false] [(0, 1, .const (.int .i64 3))], none, []⟩,
 ⟨some 9, .buildSlice 4 [.tmp 8], none, []⟩,
 ⟨some 10, .call (.const (.fn (.func 44) [] [])) [.tmp 7, .tmp 9], none, []⟩,
 ⟨some 6, .move (.tmp 10), none, []⟩,
 ⟨some 11, .extract (.tmp 6) 0, none, []⟩,
 ⟨some 12, .extract (.tmp 6) 1, none, []⟩,
 ⟨some 1, .box (.const (.agg [.nilsl, .nilsl, .nilsl, .int .i64 0, .bool false])), none, []⟩,
 ⟨none, .store 5 (.tmp 1) (.tmp 11), none, []⟩,
 ⟨some 2, .move (.tmp 12), none, []⟩]
def k_law06_awake_r2 : List AOper := [
  ⟨some 14, .call (.const (.fn (.func 64) [] [])) [], none, []⟩,
 ⟨some 15, .buildSlice 1 [.const (.int .i64 0), .const (.int .i64 1), .const (.int .i64 2), .const (.int .i64 3)], none, []⟩,
 ⟨some 16, .call (.const (.fn (.func 54) [] [])) [.tmp 14, .tmp 15], none, []⟩,
 ⟨some 13, .move (.tmp 16), none, []⟩,
 ⟨some 17, .extract (.tmp 13) 0, none, []⟩,
 ⟨some 18, .extract (.tmp 13) 1, none, []⟩,
 ⟨some 19, .extract (.tmp 13) 2, none, []⟩,
 ⟨some 3, .move (.tmp 17), none, []⟩,
 ⟨some 4, .move (.tmp 18), none, []⟩,
 ⟨some 5, .move (.tmp 19), none, []⟩]
def k_law06_awake_r3 : List AOper := [
  ⟨some 20, .move (.tmp 2), none, []⟩,
 ⟨some 21, .bin .plain .eql (.tmp 20) (.const (.int .i64 0)), none, []⟩,
 ⟨some 22, .move (.tmp 21), none, []⟩,
 ⟨some 23, .move (.tmp 5), (some (22, true)), []⟩,
 ⟨some 24, .bin .plain .eql (.tmp 23) (.const (.int .i64 0)), (some (22, true)), []⟩,
 ⟨some 25, .pick (.tmp 22) (.tmp 24) (.const (.bool false)), none, []⟩,
 ⟨some 26, .move (.tmp 25), none, []⟩,
 ⟨some 27, .fieldAddr 0 (.tmp 1), (some (26, true)), []⟩,
 ⟨some 28, .load none (.tmp 27), (some (26, true)), []⟩,
 ⟨some 29, .call (.const (.fn (.func 63) [] [])) [.const (.int .i64 125)], (some (26, true)), [7, 8]⟩,
 ⟨some 30, .buildSlice 2 [.tmp 29], (some (26, true)), [7, 8]⟩,
 ⟨some 31, .call (.const (.fn (.func 76) [] [])) [.tmp 28, .tmp 30], (some (26, true)), []⟩,
 ⟨some 32, .pick (.tmp 26) (.tmp 31) (.const (.bool false)), none, []⟩,
 ⟨some 33, .move (.tmp 32), none, []⟩,
 ⟨some 34, .move (.tmp 3), (some (33, true)), []⟩,
 ⟨some 35, .bin .plain .eql (.tmp 34) (.const (.int .i64 2)), (some (33, true)), []⟩,
 ⟨some 36, .pick (.tmp 33) (.tmp 35) (.const (.bool false)), none, []⟩,
 ⟨some 37, .move (.tmp 36), none, []⟩,
 ⟨some 38, .move (.tmp 4), (some (37, true)), []⟩,
 ⟨some 39, .bin .plain .eql (.tmp 38) (.const (.int .i64 1)), (some (37, true)), []⟩,
 ⟨some 40, .pick (.tmp 37) (.tmp 39) (.const (.bool false)), none, []⟩,
 ⟨some 0, .move (.tmp 40), none, []⟩]
def k_law06_awake_r3s : List (List AOper) := [
  [
  ⟨some 20, .move (.tmp 2), none, []⟩], 
  [
  ⟨some 21, .bin .plain .eql (.tmp 20) (.const (.int .i64 0)), none, []⟩], 
  [
  ⟨some 22, .move (.tmp 21), none, []⟩], 
  [
  ⟨some 23, .move (.tmp 5), (some (22, true)), []⟩], 
  [
  ⟨some 24, .bin .plain .eql (.tmp 23) (.const (.int .i64 0)), (some (22, true)), []⟩], 
  [
  ⟨some 25, .pick (.tmp 22) (.tmp 24) (.const (.bool false)), none, []⟩], 
  [
  ⟨some 26, .move (.tmp 25), none, []⟩], 
  [
  ⟨some 27, .fieldAddr 0 (.tmp 1), (some (26, true)), []⟩,
 ⟨some 28, .load none (.tmp 27), (some (26, true)), []⟩,
 ⟨some 29, .call (.const (.fn (.func 63) [] [])) [.const (.int .i64 125)], (some (26, true)), [7, 8]⟩,
 ⟨some 30, .buildSlice 2 [.tmp 29], (some (26, true)), [7, 8]⟩], 
  [
  ⟨some 31, .call (.const (.fn (.func 76) [] [])) [.tmp 28, .tmp 30], (some (26, true)), []⟩], 
  [
  ⟨some 32, .pick (.tmp 26) (.tmp 31) (.const (.bool false)), none, []⟩], 
  [
  ⟨some 33, .move (.tmp 32), none, []⟩], 
  [
  ⟨some 34, .move (.tmp 3), (some (33, true)), []⟩], 
  [
  ⟨some 35, .bin .plain .eql (.tmp 34) (.const (.int .i64 2)), (some (33, true)), []⟩], 
  [
  ⟨some 36, .pick (.tmp 33) (.tmp 35) (.const (.bool false)), none, []⟩], 
  [
  ⟨some 37, .move (.tmp 36), none, []⟩], 
  [
  ⟨some 38, .move (.tmp 4), (some (37, true)), []⟩], 
  [
  ⟨some 39, .bin .plain .eql (.tmp 38) (.const (.int .i64 1)), (some (37, true)), []⟩], 
  [
  ⟨some 40, .pick (.tmp 37) (.tmp 39) (.const (.bool false)), none, []⟩], 
  [
  ⟨some 0, .move (.tmp 40), none, []⟩]]
theorem k_law06_awake_r3_sg : segs k_law06_awake_r3 = k_law06_awake_r3s := by kernel_rfl
theorem k_law06_awake_r3_st : statOK k_law06_awake_r3 = true := by kernel_rfl
def k_law06_awake : AFun := { params := 0, ntmps := 41, body := (.seq (.reg k_law06_awake_r0 false) (.seq (.reg k_law06_awake_r1 false) (.seq (.reg k_law06_awake_r2 false) (.seq (.reg k_law06_awake_r3 true) .ret)))), res := [.tmp 0] }
theorem k_law06_awake_ok : cfun Try.prog Try.f20 = k_law06_awake := by kernel_rfl

def k_pump_Check_r0 : List AOper := [
  ⟨some 1, .box (.tmp 0), none, []⟩,
 ⟨some 2, .move (.const (.int .i64 0)), none, []⟩]
def k_pump_Check_r1 : List AOper := [
  ⟨some 3, .load (some (5)) (.tmp 1), none, []⟩,
 ⟨some 4, .buildSlice 1 [.const (.fn (.func 83) [] []), .const (.fn (.func 84) [] []), .const (.fn (.func 85) [] []), .const (.fn (.func 86) [] []), .const (.fn (.func 87) [] [])], none, []⟩,
 ⟨some 5, .call (.const (.fn (.func 82) [] [])) [.tmp 3, .tmp 4], none, []⟩,
 ⟨some 2, .move (.tmp 5), none, []⟩]
def k_pump_Check : AFun := { params := 1, ntmps := 6, body := (.seq (.reg k_pump_Check_r0 false) (.seq (.reg k_pump_Check_r1 false) .ret)), res := [.tmp 2] }
theorem k_pump_Check_ok : cfun Try.prog Try.f25 = k_pump_Check := by kernel_rfl

def k_pump_Run_r0 : List AOper := [
  ⟨some 2, .box (.tmp 0), none, []⟩,
 ⟨some 4, .box (.const (.agg [.nilsl, .nilsl, .nilsl, .int .i64 0, .bool false])), none, []⟩,
 ⟨some 5, .move (.const (.int .i64 0)), none, []⟩]
def k_pump_Run_r1 : List AOper := [
  ⟨some 7, .load (some (5)) (.tmp 2), none, []⟩,
 ⟨some 8, .move (.tmp 1), none, []⟩,
 ⟨some 9, .call (.const (.fn (.func 104) [] [])) [.tmp 7, .tmp 8], none, []⟩,
 ⟨some 6, .move (.tmp 9), none, []⟩]
def k_pump_Run_r2 : List AOper := [
  ⟨some 10, .move (.tmp 6), none, []⟩,
 ⟨some 11, .bin .plain .neq (.tmp 10) (.const (.int .i64 0)), none, []⟩]
def k_pump_Run_r3 : List AOper := [
  ⟨some 12, .build [.nilsl, .nilsl, .nilsl, .int .i64 0, .bool false] [], none, []⟩,
 ⟨some 13, .move (.tmp 6), none, []⟩,
 ⟨none, .store 5 (.tmp 4) (.tmp 12), none, []⟩,
 ⟨some 5, .move (.tmp 13), none, []⟩]
def k_pump_Run_r4 : List AOper := [
  ⟨some 14, .load (some (5)) (.tmp 2), none, []⟩,
 ⟨some 15, .move (.tmp 1), none, []⟩,
 ⟨some 16, .call (.const (.fn (.func 105) [] [])) [.tmp 14, .tmp 15], none, []⟩,
 ⟨none, .store 5 (.tmp 4) (.tmp 16), none, []⟩,
 ⟨some 5, .move (.const (.int .i64 0)), none, []⟩]
def k_pump_Run : AFun := { params := 2, ntmps := 17, body := (.seq (.reg k_pump_Run_r0 false) (.seq (.seq (.reg k_pump_Run_r1 false) (.seq (.reg k_pump_Run_r2 false) (.cond (.tmp 11) (.seq (.reg k_pump_Run_r3 false) .ret) .skip))) (.seq (.reg k_pump_Run_r4 false) .ret))), res := [.cell 4 (some ((some (5)))), .tmp 5] }
theorem k_pump_Run_ok : cfun Try.prog Try.f44 = k_pump_Run := by kernel_rfl

def k_kit_First_r0 : List AOper := [
  ⟨some 2, .move (.const (.nilsl)), none, []⟩]
def k_kit_First_r1 : List AOper := [
  ⟨some 3, .move (.const (.nilsl)), none, []⟩]
def k_kit_First_r2 : List AOper := [
  ⟨some 4, .move (.const (.int .i64 0)), none, []⟩]
def k_kit_First_r3 : List AOper := [
  ⟨some 5, .move (.tmp 4), none, []⟩,
 ⟨some 6, .move (.tmp 0), none, []⟩,
 ⟨some 7, .bin .plain .lss (.tmp 5) (.tmp 6), none, []⟩]
def k_kit_First_r4 : List AOper := [
  ⟨some 10, .move (.tmp 3), none, []⟩,
 ⟨some 11, .move (.tmp 4), none, []⟩,
 ⟨some 12, .buildSlice 1 [.tmp 11], none, []⟩,
 ⟨some 13, .append 1 8 false (.tmp 10) (.tmp 12), none, []⟩,
 ⟨some 3, .move (.tmp 13), none, []⟩]
def k_kit_First_r5 : List AOper := [
  ⟨some 8, .move (.tmp 4), none, []⟩,
 ⟨some 9, .bin .plain .add (.tmp 8) (.const (.int .i64 1)), none, []⟩,
 ⟨some 4, .move (.tmp 9), none, []⟩]
def k_kit_First_r6 : ACode := (.seq (.seq (.reg k_kit_First_r3 false) (.cond (.tmp 7) .skip (.exit 0))) (.seq (.block 1 (.reg k_kit_First_r4 false)) (.reg k_kit_First_r5 false)))
def k_kit_First_r7 : List AOper := [
  ⟨some 14, .move (.tmp 3), none, []⟩,
 ⟨some 2, .move (.tmp 14), none, []⟩]
def k_kit_First : AFun := { params := 1, ntmps := 15, body := (.seq (.reg k_kit_First_r0 false) (.seq (.reg k_kit_First_r1 false) (.seq (.seq (.reg k_kit_First_r2 false) (.block 0 (.loop k_kit_First_r6))) (.seq (.reg k_kit_First_r7 false) .ret)))), res := [.tmp 2] }
theorem k_kit_First_ok : cfun Try.prog Try.f53 = k_kit_First := by kernel_rfl

def k_pump_Worst_r0 : List AOper := [
  ⟨some 2, .box (.tmp 0), none, []⟩,
 ⟨some 4, .move (.const (.int .i64 0)), none, []⟩,
 ⟨some 5, .move (.const (.int .i64 0)), none, []⟩,
 ⟨some 6, .move (.const (.int .i64 0)), none, []⟩]
def k_pump_Worst_r1 : List AOper := [
  ⟨some 10, .load (some (2)) (.tmp 2), none, []⟩,
 ⟨some 11, .call (.const (.fn (.func 58) [] [])) [.tmp 10], none, []⟩,
 ⟨some 7, .move (.tmp 11), none, []⟩]
def k_pump_Worst_r2 : List AOper := [
  ⟨some 12, .move (.tmp 7), none, []⟩,
 ⟨some 13, .bin .plain .neq (.tmp 12) (.const (.int .i64 0)), none, []⟩]
def k_pump_Worst_r3 : List AOper := [
  ⟨some 14, .move (.tmp 7), none, []⟩,
 ⟨some 4, .move (.const (.int .i64 0)), none, []⟩,
 ⟨some 5, .move (.const (.int .i64 0)), none, []⟩,
 ⟨some 6, .move (.tmp 14), none, []⟩]
def k_pump_Worst_r4 : List AOper := [
  ⟨some 15, .move (.tmp 1), none, []⟩,
 ⟨some 16, .len false (.tmp 15), none, []⟩,
 ⟨some 17, .bin .plain .eql (.tmp 16) (.const (.int .i64 0)), none, []⟩]
def k_pump_Worst_r5 : List AOper := [
  ⟨some 4, .move (.const (.int .i64 0)), none, []⟩,
 ⟨some 5, .move (.const (.int .i64 0)), none, []⟩,
 ⟨some 6, .move (.const (.int .i64 6)), none, []⟩]
def k_pump_Worst_r6 : List AOper := [
  ⟨some 18, .move (.tmp 1), none, []⟩,
 ⟨some 19, .fieldAddr 0 (.tmp 2), none, []⟩,
 ⟨some 20, .load none (.tmp 19), none, []⟩,
 ⟨some 21, .call (.const (.fn (.func 109) [] [])) [.tmp 18, .tmp 20], none, []⟩,
 ⟨some 8, .move (.tmp 21), none, []⟩]
def k_pump_Worst_r7 : List AOper := [
  ⟨some 22, .move (.tmp 8), none, []⟩,
 ⟨some 23, .bin .plain .neq (.tmp 22) (.const (.int .i64 0)), none, []⟩]
def k_pump_Worst_r8 : List AOper := [
  ⟨some 24, .move (.tmp 8), none, []⟩,
 ⟨some 4, .move (.const (.int .i64 0)), none, []⟩,
 ⟨some 5, .move (.const (.int .i64 0)), none, []⟩,
 ⟨some 6, .move (.tmp 24), none, []⟩]
def k_pump_Worst_r9 : List AOper := [
  ⟨some 25, .load (some (2)) (.tmp 2), none, []⟩,
 ⟨some 26, .call (.const (.fn (.func 110) [] [])) [.tmp 25], none, []⟩,
 ⟨some 27, .move (.tmp 1), none, []⟩,
 ⟨some 28, .call (.const (.fn (.func 112) [] [])) [.tmp 27], none, []⟩,
 ⟨some 29, .call (.const (.fn (.func 111) [] [])) [.tmp 26, .tmp 28], none, []⟩,
 ⟨some 9, .box (.const (.agg [.bool false, .int .i64 0, .int .i64 0])), none, []⟩,
 ⟨none, .store 3 (.tmp 9) (.tmp 29), none, []⟩]
def k_pump_Worst_r10 : List AOper := [
  ⟨some 30, .fieldAddr 0 (.tmp 9), none, []⟩,
 ⟨some 31, .load none (.tmp 30), none, []⟩,
 ⟨some 32, .not (.tmp 31), none, []⟩]
def k_pump_Worst_r11 : List AOper := [
  ⟨some 4, .move (.const (.int .i64 0)), none, []⟩,
 ⟨some 5, .move (.const (.int .i64 0)), none, []⟩,
 ⟨some 6, .move (.const (.int .i64 15)), none, []⟩]
def k_pump_Worst_r12 : List AOper := [
  ⟨some 33, .fieldAddr 1 (.tmp 9), none, []⟩,
 ⟨some 34, .load none (.tmp 33), none, []⟩,
 ⟨some 35, .fieldAddr 2 (.tmp 9), none, [0, 1]⟩,
 ⟨some 36, .load none (.tmp 35), none, [0, 1]⟩,
 ⟨some 4, .move (.tmp 34), none, [2, 3]⟩,
 ⟨some 5, .move (.tmp 36), none, []⟩,
 ⟨some 6, .move (.const (.int .i64 0)), none, []⟩]
def k_pump_Worst_r12s : List (List AOper) := [
  [
  ⟨some 33, .fieldAddr 1 (.tmp 9), none, []⟩,
 ⟨some 34, .load none (.tmp 33), none, []⟩,
 ⟨some 35, .fieldAddr 2 (.tmp 9), none, [0, 1]⟩,
 ⟨some 36, .load none (.tmp 35), none, [0, 1]⟩,
 ⟨some 4, .move (.tmp 34), none, [2, 3]⟩], 
  [
  ⟨some 5, .move (.tmp 36), none, []⟩], 
  [
  ⟨some 6, .move (.const (.int .i64 0)), none, []⟩]]
theorem k_pump_Worst_r12_sg : segs k_pump_Worst_r12 = k_pump_Worst_r12s := by kernel_rfl
theorem k_pump_Worst_r12_st : statOK k_pump_Worst_r12 = true := by kernel_rfl
def k_pump_Worst : AFun := { params := 2, ntmps := 37, body := (.seq (.reg k_pump_Worst_r0 false) (.seq (.seq (.reg k_pump_Worst_r1 false) (.seq (.reg k_pump_Worst_r2 false) (.cond (.tmp 13) (.seq (.reg k_pump_Worst_r3 false) .ret) .skip))) (.seq (.seq (.reg k_pump_Worst_r4 false) (.cond (.tmp 17) (.seq (.reg k_pump_Worst_r5 false) .ret) .skip)) (.seq (.seq (.reg k_pump_Worst_r6 false) (.seq (.reg k_pump_Worst_r7 false) (.cond (.tmp 23) (.seq (.reg k_pump_Worst_r8 false) .ret) .skip))) (.seq (.reg k_pump_Worst_r9 false) (.seq (.seq (.reg k_pump_Worst_r10 false) (.cond (.tmp 32) (.seq (.reg k_pump_Worst_r11 false) .ret) .skip)) (.seq (.reg k_pump_Worst_r12 true) .ret))))))), res := [.tmp 4, .tmp 5, .tmp 6] }
theorem k_pump_Worst_ok : cfun Try.prog Try.f54 = k_pump_Worst := by kernel_rfl

def k_pump_CheckHunt_r0 : List AOper := [
  ⟨some 1, .box (.tmp 0), none, []⟩,
 ⟨some 2, .move (.const (.int .i64 0)), none, []⟩]
def k_pump_CheckHunt_r1 : List AOper := [
  ⟨some 6, .fieldAddr 0 (.tmp 1), none, []⟩,
 ⟨some 7, .load none (.tmp 6), none, []⟩,
 ⟨some 8, .call (.const (.fn (.func 99) [] [])) [.tmp 7, .const (.int .i64 1), .const (.int .i64 12)], none, []⟩,
 ⟨some 9, .not (.tmp 8), none, []⟩]
def k_pump_CheckHunt_r2 : List AOper := [
  ⟨some 2, .move (.const (.int .i64 2)), none, []⟩]
def k_pump_CheckHunt_r3 : List AOper := [
  ⟨some 10, .fieldAddr 1 (.tmp 1), none, []⟩,
 ⟨some 11, .load none (.tmp 10), none, []⟩,
 ⟨some 12, .len false (.tmp 11), none, []⟩,
 ⟨some 13, .bin .plain .gtr (.tmp 12) (.const (.int .i64 12)), none, []⟩]
def k_pump_CheckHunt_r4 : List AOper := [
  ⟨some 2, .move (.const (.int .i64 8)), none, []⟩]
def k_pump_CheckHunt_r5 : List AOper := [
  ⟨some 14, .fieldAddr 1 (.tmp 1), none, []⟩,
 ⟨some 15, .load none (.tmp 14), none, []⟩,
 ⟨some 16, .len false (.tmp 15), none, []⟩,
 ⟨some 17, .move (.const (.int .i64 0)), none, []⟩]
def k_pump_CheckHunt_r6 : List AOper := [
  ⟨some 18, .bin .plain .lss (.tmp 17) (.tmp 16), none, []⟩]
def k_pump_CheckHunt_r7 : List AOper := [
  ⟨some 19, .indexAddr 2 (.tmp 15) (.tmp 17), none, []⟩,
 ⟨some 20, .load (some (2)) (.tmp 19), none, []⟩,
 ⟨some 4, .box (.const (.agg [.nilsl, .int .i64 0])), none, []⟩,
 ⟨none, .store 2 (.tmp 4) (.tmp 20), none, []⟩]
def k_pump_CheckHunt_r8 : List AOper := [
  ⟨some 21, .fieldAddr 0 (.tmp 4), none, []⟩,
 ⟨some 22, .load none (.tmp 21), none, []⟩,
 ⟨some 23, .fieldAddr 0 (.tmp 1), none, []⟩,
 ⟨some 24, .load none (.tmp 23), none, []⟩,
 ⟨some 25, .call (.const (.fn (.func 109) [] [])) [.tmp 22, .tmp 24], none, []⟩,
 ⟨some 5, .move (.tmp 25), none, []⟩]
def k_pump_CheckHunt_r9 : List AOper := [
  ⟨some 26, .move (.tmp 5), none, []⟩,
 ⟨some 27, .bin .plain .neq (.tmp 26) (.const (.int .i64 0)), none, []⟩]
def k_pump_CheckHunt_r10 : List AOper := [
  ⟨some 28, .move (.tmp 5), none, []⟩,
 ⟨some 2, .move (.tmp 28), none, []⟩]
def k_pump_CheckHunt_r11 : List AOper := [
  ⟨some 29, .fieldAddr 1 (.tmp 4), none, []⟩,
 ⟨some 30, .load none (.tmp 29), none, []⟩,
 ⟨some 31, .call (.const (.fn (.func 99) [] [])) [.tmp 30, .const (.int .i64 0), .const (.int .i64 1000)], none, []⟩,
 ⟨some 32, .not (.tmp 31), none, []⟩]
def k_pump_CheckHunt_r12 : List AOper := [
  ⟨some 2, .move (.const (.int .i64 2)), none, []⟩]
def k_pump_CheckHunt_r13 : List AOper := [
  ⟨some 33, .bin .plain .add (.tmp 17) (.const (.int .i64 1)), none, []⟩,
 ⟨some 17, .move (.tmp 33), none, []⟩]
def k_pump_CheckHunt_r14 : ACode := (.seq (.reg k_pump_CheckHunt_r6 false) (.seq (.cond (.tmp 18) .skip (.exit 0)) (.seq (.block 1 (.seq (.reg k_pump_CheckHunt_r7 false) (.seq (.seq (.reg k_pump_CheckHunt_r8 false) (.seq (.reg k_pump_CheckHunt_r9 false) (.cond (.tmp 27) (.seq (.reg k_pump_CheckHunt_r10 false) .ret) .skip))) (.seq (.reg k_pump_CheckHunt_r11 false) (.cond (.tmp 32) (.seq (.reg k_pump_CheckHunt_r12 false) .ret) .skip))))) (.reg k_pump_CheckHunt_r13 false))))
def k_pump_CheckHunt_r15 : List AOper := [
  ⟨some 2, .move (.const (.int .i64 0)), none, []⟩]
def k_pump_CheckHunt : AFun := { params := 1, ntmps := 34, body := (.seq (.reg k_pump_CheckHunt_r0 false) (.seq (.seq (.reg k_pump_CheckHunt_r1 false) (.cond (.tmp 9) (.seq (.reg k_pump_CheckHunt_r2 false) .ret) .skip)) (.seq (.seq (.reg k_pump_CheckHunt_r3 false) (.cond (.tmp 13) (.seq (.reg k_pump_CheckHunt_r4 false) .ret) .skip)) (.seq (.seq (.reg k_pump_CheckHunt_r5 false) (.block 0 (.loop k_pump_CheckHunt_r14))) (.seq (.reg k_pump_CheckHunt_r15 false) .ret))))), res := [.tmp 2] }
theorem k_pump_CheckHunt_ok : cfun Try.prog Try.f58 = k_pump_CheckHunt := by kernel_rfl

def k_law06_half_r0 : List AOper := [
  ⟨some 0, .box (.const (.agg [.nilsl, .nilsl, .nilsl, .nilsl, .nilsl])), none, []⟩]
def k_law06_half_r1 : List AOper := [
  ⟨some 1, .call (.const (.fn (.func 63) [] [])) [.const (.int .i64 1000)], none, []⟩,
 ⟨some 2, .build [.int .i64 0, .int .i64 0, .int .i64 0, .int .i64 0, .int .i64 0, .nilsl] [(0, 1, .const (.int .i64 10)), (1, 2, .tmp 1)], none, []⟩,
 ⟨some 3, .buildSlice 6 [.tmp 2], none, []⟩,
 ⟨some 4, .call (.const (.fn (.func 63) [] [])) [.const (.int .i64 500000)], none, []⟩,
 ⟨some 5, .build [.int .i64 0, .int .i64 0, .int .i64 0] [(1, 2, .tmp 4)], none, []⟩,
 ⟨some 6, .buildSlice 3 [.tmp 5], none, []⟩,
 ⟨some 7, .build [.nilsl, .nilsl, .nilsl, .nilsl, .nilsl] [(0, 1, .tmp 3), (2, 1, .tmp 6)], none, []⟩,
 ⟨none, .store 5 (.tmp 0) (.tmp 7), none, []⟩]
def k_law06_half : AFun := { params := 0, ntmps := 8, body := (.seq (.reg k_law06_half_r0 false) (.seq (.reg k_law06_half_r1 false) .ret)), res := [.cell 0 (some ((some (5))))] }
theorem k_law06_half_ok : cfun Try.prog Try.f62 = k_law06_half := by kernel_rfl

def k_law06_one_r0 : List AOper := [
  ⟨some 2, .box (.const (.agg [.int .i64 0, .int .i64 0])), none, []⟩]
def k_law06_one_r1 : List AOper := [
  ⟨some 3, .move (.tmp 0), none, []⟩,
 ⟨some 4, .move (.tmp 0), none, []⟩,
 ⟨some 5, .call (.const (.fn (.func 72) [] [])) [.tmp 3, .tmp 4], none, []⟩,
 ⟨none, .store 2 (.tmp 2) (.tmp 5), none, []⟩]
def k_law06_one : AFun := { params := 1, ntmps := 6, body := (.seq (.reg k_law06_one_r0 false) (.seq (.reg k_law06_one_r1 false) .ret)), res := [.cell 2 (some ((some (2))))] }
theorem k_law06_one_ok : cfun Try.prog Try.f63 = k_law06_one := by kernel_rfl

def k_law06_row_r0 : List AOper := [
  ⟨some 0, .box (.const (.agg [.int .i64 0, .nilsl])), none, []⟩]
def k_law06_row_r1 : List AOper := [
  ⟨some 1, .buildSlice 1 [.const (.int .i64 0)], none, []⟩,
 ⟨some 2, .build [.nilsl, .int .i64 0] [(0, 1, .tmp 1), (1, 1, .const (.int .i64 1))], none, []⟩,
 ⟨some 3, .buildSlice 1 [.const (.int .i64 0), .const (.int .i64 1)], none, []⟩,
 ⟨some 4, .build [.nilsl, .int .i64 0] [(0, 1, .tmp 3), (1, 1, .const (.int .i64 1))], none, []⟩,
 ⟨some 5, .buildSlice 1 [.const (.int .i64 0), .const (.int .i64 1), .const (.int .i64 2)], none, []⟩,
 ⟨some 6, .build [.nilsl, .int .i64 0] [(0, 1, .tmp 5), (1, 1, .const (.int .i64 1))], none, []⟩,
 ⟨some 7, .buildSlice 2 [.tmp 2, .tmp 4, .tmp 6], none, []⟩,
 ⟨some 8, .build [.int .i64 0, .nilsl] [(0, 1, .const (.int .i64 4)), (1, 1, .tmp 7)], none, []⟩,
 ⟨none, .store 2 (.tmp 0) (.tmp 8), none, []⟩]
def k_law06_row : AFun := { params := 0, ntmps := 9, body := (.seq (.reg k_law06_row_r0 false) (.seq (.reg k_law06_row_r1 false) .ret)), res := [.cell 0 (some ((some (2))))] }
theorem k_law06_row_ok : cfun Try.prog Try.f64 = k_law06_row := by kernel_rfl

def k_kit_Mod_r0 : List AOper := [
  ⟨some 4, .move (.const (.int .i64 0)), none, []⟩]
def k_kit_Mod_r1 : List AOper := [
  ⟨some 6, .move (.tmp 1), none, []⟩,
 ⟨some 7, .bin .plain .lss (.tmp 6) (.const (.int .i64 1)), none, []⟩]
def k_kit_Mod_r2 : List AOper := [
  ⟨some 4, .move (.const (.int .i64 0)), none, []⟩]
def k_kit_Mod_r3 : List AOper := [
  ⟨some 8, .move (.tmp 0), none, []⟩,
 ⟨some 9, .move (.tmp 1), none, []⟩,
 ⟨some 10, .bin .plain .rem (.tmp 8) (.tmp 9), none, []⟩,
 ⟨some 5, .move (.tmp 10), none, []⟩]
def k_kit_Mod_r4 : List AOper := [
  ⟨some 11, .move (.tmp 5), none, []⟩,
 ⟨some 12, .bin .plain .lss (.tmp 11) (.const (.int .i64 0)), none, []⟩]
def k_kit_Mod_r5 : List AOper := [
  ⟨some 13, .move (.tmp 5), none, []⟩,
 ⟨some 14, .move (.tmp 1), none, []⟩,
 ⟨some 15, .bin .plain .add (.tmp 13) (.tmp 14), none, []⟩,
 ⟨some 4, .move (.tmp 15), none, []⟩]
def k_kit_Mod_r6 : List AOper := [
  ⟨some 16, .move (.tmp 5), none, []⟩,
 ⟨some 4, .move (.tmp 16), none, []⟩]
def k_kit_Mod : AFun := { params := 2, ntmps := 17, body := (.seq (.reg k_kit_Mod_r0 false) (.seq (.seq (.reg k_kit_Mod_r1 false) (.cond (.tmp 7) (.seq (.reg k_kit_Mod_r2 false) .ret) .skip)) (.seq (.reg k_kit_Mod_r3 false) (.seq (.seq (.reg k_kit_Mod_r4 false) (.cond (.tmp 12) (.seq (.reg k_kit_Mod_r5 false) .ret) .skip)) (.seq (.reg k_kit_Mod_r6 false) .ret))))), res := [.tmp 4] }
theorem k_kit_Mod_ok : cfun Try.prog Try.f70 = k_kit_Mod := by kernel_rfl

def k_law06_of_r0 : List AOper := [
  ⟨some 4, .box (.const (.agg [.int .i64 0, .int .i64 0])), none, []⟩]
def k_law06_of_r1 : List AOper := [
  ⟨some 5, .move (.tmp 0), none, []⟩,
 ⟨some 6, .move (.tmp 1), none, []⟩,
 ⟨some 7, .build [.int .i64 0, .int .i64 0] [(0, 1, .tmp 5), (1, 1, .tmp 6)], none, []⟩,
 ⟨none, .store 2 (.tmp 4) (.tmp 7), none, []⟩]
def k_law06_of : AFun := { params := 2, ntmps := 8, body := (.seq (.reg k_law06_of_r0 false) (.seq (.reg k_law06_of_r1 false) .ret)), res := [.cell 4 (some ((some (2))))] }
theorem k_law06_of_ok : cfun Try.prog Try.f72 = k_law06_of := by kernel_rfl

def k_kit_SameRanges_r0 : List AOper := [
  ⟨some 4, .move (.const (.bool false)), none, []⟩]
def k_kit_SameRanges_r1 : List AOper := [
  ⟨some 6, .move (.tmp 0), none, []⟩,
 ⟨some 7, .len false (.tmp 6), none, []⟩,
 ⟨some 8, .move (.tmp 1), none, []⟩,
 ⟨some 9, .len false (.tmp 8), none, []⟩,
 ⟨some 10, .bin .plain .neq (.tmp 7) (.tmp 9), none, []⟩]
def k_kit_SameRanges_r2 : List AOper := [
  ⟨some 4, .move (.const (.bool false)), none, []⟩]
def k_kit_SameRanges_r3 : List AOper := [
  ⟨some 5, .move (.const (.int .i64 0)), none, []⟩]
def k_kit_SameRanges_r4 : List AOper := [
  ⟨some 11, .move (.tmp 5), none, []⟩,
 ⟨some 12, .move (.tmp 0), none, []⟩,
 ⟨some 13, .len false (.tmp 12), none, []⟩,
 ⟨some 14, .bin .plain .lss (.tmp 11) (.tmp 13), none, []⟩]
def k_kit_SameRanges_r5 : List AOper := [
  ⟨some 17, .move (.tmp 0), none, []⟩,
 ⟨some 18, .move (.tmp 5), none, [0]⟩,
 ⟨some 19, .indexAddr 2 (.tmp 17) (.tmp 18), none, []⟩,
 ⟨some 20, .load (some (2)) (.tmp 19), none, []⟩,
 ⟨some 21, .move (.tmp 1), none, [0, 1, 2, 3]⟩,
 ⟨some 22, .move (.tmp 5), none, [0, 1, 2, 3, 4]⟩,
 ⟨some 23, .indexAddr 2 (.tmp 21) (.tmp 22), none, [0, 1, 2, 3]⟩,
 ⟨some 24, .load (some (2)) (.tmp 23), none, [0, 1, 2, 3]⟩,
 ⟨some 25, .eqAgg true [.int, .int] (.tmp 20) (.tmp 24), none, []⟩]
def k_kit_SameRanges_r5s : List (List AOper) := [
  [
  ⟨some 17, .move (.tmp 0), none, []⟩,
 ⟨some 18, .move (.tmp 5), none, [0]⟩,
 ⟨some 19, .indexAddr 2 (.tmp 17) (.tmp 18), none, []⟩,
 ⟨some 20, .load (some (2)) (.tmp 19), none, []⟩,
 ⟨some 21, .move (.tmp 1), none, [0, 1, 2, 3]⟩,
 ⟨some 22, .move (.tmp 5), none, [0, 1, 2, 3, 4]⟩,
 ⟨some 23, .indexAddr 2 (.tmp 21) (.tmp 22), none, [0, 1, 2, 3]⟩,
 ⟨some 24, .load (some (2)) (.tmp 23), none, [0, 1, 2, 3]⟩], 
  [
  ⟨some 25, .eqAgg true [.int, .int] (.tmp 20) (.tmp 24), none, []⟩]]
theorem k_kit_SameRanges_r5_sg : segs k_kit_SameRanges_r5 = k_kit_SameRanges_r5s := by kernel_rfl
theorem k_kit_SameRanges_r5_st : statOK k_kit_SameRanges_r5 = true := by kernel_rfl
def k_kit_SameRanges_r6 : List AOper := [
  ⟨some 4, .move (.const (.bool false)), none, []⟩]
def k_kit_SameRanges_r7 : List AOper := [
  ⟨some 15, .move (.tmp 5), none, []⟩,
 ⟨some 16, .bin .plain .add (.tmp 15) (.const (.int .i64 1)), none, []⟩,
 ⟨some 5, .move (.tmp 16), none, []⟩]
def k_kit_SameRanges_r8 : ACode := (.seq (.seq (.reg k_kit_SameRanges_r4 false) (.cond (.tmp 14) .skip (.exit 0))) (.seq (.block 1 (.seq (.reg k_kit_SameRanges_r5 true) (.cond (.tmp 25) (.seq (.reg k_kit_SameRanges_r6 false) .ret) .skip))) (.reg k_kit_SameRanges_r7 false)))
def k_kit_SameRanges_r9 : List AOper := [
  ⟨some 4, .move (.const (.bool true)), none, []⟩]
def k_kit_SameRanges : AFun := { params := 2, ntmps := 26, body := (.seq (.reg k_kit_SameRanges_r0 false) (.seq (.seq (.reg k_kit_SameRanges_r1 false) (.cond (.tmp 10) (.seq (.reg k_kit_SameRanges_r2 false) .ret) .skip)) (.seq (.seq (.reg k_kit_SameRanges_r3 false) (.block 0 (.loop k_kit_SameRanges_r8))) (.seq (.reg k_kit_SameRanges_r9 false) .ret)))), res := [.tmp 4] }
theorem k_kit_SameRanges_ok : cfun Try.prog Try.f76 = k_kit_SameRanges := by kernel_rfl

def k_pump_begin_r0 : List AOper := [
  ⟨some 1, .box (.tmp 0), none, []⟩,
 ⟨some 2, .box (.const (.agg [.nilsl, .nilsl, .nilsl, .int .i64 0, .bool false])), none, []⟩]
def k_pump_begin_r1 : List AOper := [
  ⟨some 3, .box (.const (.agg [.nilsl, .nilsl, .nilsl, .int .i64 0, .bool false])), none, []⟩]
def k_pump_begin_r2 : List AOper := [
  ⟨some 8, .fieldAddr 0 (.tmp 1), none, []⟩,
 ⟨some 9, .load none (.tmp 8), none, []⟩,
 ⟨some 10, .len false (.tmp 9), none, []⟩,
 ⟨some 11, .move (.const (.int .i64 0)), none, []⟩]
def k_pump_begin_r3 : List AOper := [
  ⟨some 12, .bin .plain .lss (.tmp 11) (.tmp 10), none, []⟩]
def k_pump_begin_r4 : List AOper := [
  ⟨some 13, .indexAddr 6 (.tmp 9) (.tmp 11), none, []⟩,
 ⟨some 14, .load (some (6)) (.tmp 13), none, []⟩,
 ⟨some 5, .box (.const (.agg [.int .i64 0, .int .i64 0, .int .i64 0, .int .i64 0, .int .i64 0, .nilsl])), none, []⟩,
 ⟨none, .store 6 (.tmp 5) (.tmp 14), none, []⟩]
def k_pump_begin_r5 : List AOper := [
  ⟨some 15, .fieldAddr 0 (.tmp 3), none, []⟩,
 ⟨some 16, .load none (.tmp 15), none, []⟩,
 ⟨some 17, .fieldAddr 1 (.tmp 5), none, []⟩,
 ⟨some 18, .load (some (2)) (.tmp 17), none, []⟩,
 ⟨some 19, .buildSlice 2 [.tmp 18], none, []⟩,
 ⟨some 20, .append 2 16 true (.tmp 16) (.tmp 19), none, []⟩,
 ⟨some 21, .fieldAddr 0 (.tmp 3), none, []⟩,
 ⟨none, .store 1 (.tmp 21) (.tmp 20), none, []⟩]
def k_pump_begin_r6 : List AOper := [
  ⟨some 22, .fieldAddr 1 (.tmp 3), none, []⟩,
 ⟨some 23, .load none (.tmp 22), none, []⟩,
 ⟨some 24, .fieldAddr 3 (.tmp 5), none, []⟩,
 ⟨some 25, .load (some (2)) (.tmp 24), none, []⟩,
 ⟨some 26, .buildSlice 2 [.tmp 25], none, []⟩,
 ⟨some 27, .append 2 16 true (.tmp 23) (.tmp 26), none, []⟩,
 ⟨some 28, .fieldAddr 1 (.tmp 3), none, []⟩,
 ⟨none, .store 1 (.tmp 28) (.tmp 27), none, []⟩]
def k_pump_begin_r7 : List AOper := [
  ⟨some 29, .fieldAddr 3 (.tmp 3), none, []⟩,
 ⟨some 30, .load none (.tmp 29), none, []⟩,
 ⟨some 31, .fieldAddr 1 (.tmp 5), none, []⟩,
 ⟨some 32, .fieldAddr 1 (.tmp 31), none, []⟩,
 ⟨some 33, .load none (.tmp 32), none, []⟩,
 ⟨some 34, .fieldAddr 3 (.tmp 5), none, []⟩,
 ⟨some 35, .fieldAddr 1 (.tmp 34), none, []⟩,
 ⟨some 36, .load none (.tmp 35), none, []⟩,
 ⟨some 37, .bin .plain .add (.tmp 33) (.tmp 36), none, []⟩,
 ⟨some 38, .bin .plain .add (.tmp 30) (.tmp 37), none, []⟩,
 ⟨some 39, .fieldAddr 3 (.tmp 3), none, []⟩,
 ⟨none, .store 1 (.tmp 39) (.tmp 38), none, []⟩]
def k_pump_begin_r8 : List AOper := [
  ⟨some 40, .bin .plain .add (.tmp 11) (.const (.int .i64 1)), none, []⟩,
 ⟨some 11, .move (.tmp 40), none, []⟩]
def k_pump_begin_r9 : ACode := (.seq (.reg k_pump_begin_r3 false) (.seq (.cond (.tmp 12) .skip (.exit 0)) (.seq (.block 1 (.seq (.reg k_pump_begin_r4 false) (.seq (.reg k_pump_begin_r5 false) (.seq (.reg k_pump_begin_r6 false) (.reg k_pump_begin_r7 false))))) (.reg k_pump_begin_r8 false))))
def k_pump_begin_r10 : List AOper := [
  ⟨some 41, .fieldAddr 4 (.tmp 1), none, []⟩,
 ⟨some 42, .load none (.tmp 41), none, []⟩,
 ⟨some 43, .len false (.tmp 42), none, []⟩,
 ⟨some 44, .move (.const (.int .i64 0)), none, []⟩]
def k_pump_begin_r11 : List AOper := [
  ⟨some 45, .bin .plain .lss (.tmp 44) (.tmp 43), none, []⟩]
def k_pump_begin_r12 : List AOper := [
  ⟨some 46, .indexAddr 5 (.tmp 42) (.tmp 44), none, []⟩,
 ⟨some 47, .load (some (5)) (.tmp 46), none, []⟩,
 ⟨some 7, .box (.const (.agg [.int .i64 0, .int .i64 0, .int .i64 0, .int .i64 0, .int .i64 0])), none, []⟩,
 ⟨none, .store 5 (.tmp 7) (.tmp 47), none, []⟩]
def k_pump_begin_r13 : List AOper := [
  ⟨some 48, .fieldAddr 2 (.tmp 3), none, []⟩,
 ⟨some 49, .load none (.tmp 48), none, []⟩,
 ⟨some 50, .fieldAddr 3 (.tmp 7), none, []⟩,
 ⟨some 51, .load (some (2)) (.tmp 50), none, []⟩,
 ⟨some 52, .buildSlice 2 [.tmp 51], none, []⟩,
 ⟨some 53, .append 2 16 true (.tmp 49) (.tmp 52), none, []⟩,
 ⟨some 54, .fieldAddr 2 (.tmp 3), none, []⟩,
 ⟨none, .store 1 (.tmp 54) (.tmp 53), none, []⟩]
def k_pump_begin_r14 : List AOper := [
  ⟨some 55, .bin .plain .add (.tmp 44) (.const (.int .i64 1)), none, []⟩,
 ⟨some 44, .move (.tmp 55), none, []⟩]
def k_pump_begin_r15 : ACode := (.seq (.reg k_pump_begin_r11 false) (.seq (.cond (.tmp 45) .skip (.exit 2)) (.seq (.block 3 (.seq (.reg k_pump_begin_r12 false) (.reg k_pump_begin_r13 false))) (.reg k_pump_begin_r14 false))))
def k_pump_begin_r16 : List AOper := [
  ⟨some 56, .load (some (5)) (.tmp 3), none, []⟩,
 ⟨none, .store 5 (.tmp 2) (.tmp 56), none, []⟩]
def k_pump_begin : AFun := { params := 1, ntmps := 57, body := (.seq (.reg k_pump_begin_r0 false) (.seq (.reg k_pump_begin_r1 false) (.seq (.seq (.reg k_pump_begin_r2 false) (.block 0 (.loop k_pump_begin_r9))) (.seq (.seq (.reg k_pump_begin_r10 false) (.block 2 (.loop k_pump_begin_r15))) (.seq (.reg k_pump_begin_r16 false) .ret))))), res := [.cell 2 (some ((some (5))))] }
theorem k_pump_begin_ok : cfun Try.prog Try.f81 = k_pump_begin := by kernel_rfl

def k_pump_firstError_api_Vacuum_r0 : List AOper := [
  ⟨some 2, .box (.tmp 0), none, []⟩,
 ⟨some 4, .move (.const (.int .i64 0)), none, []⟩]
def k_pump_firstError_api_Vacuum_r1 : List AOper := [
  ⟨some 8, .move (.tmp 1), none, []⟩,
 ⟨some 9, .len false (.tmp 8), none, []⟩,
 ⟨some 10, .move (.const (.int .i64 0)), none, []⟩]
def k_pump_firstError_api_Vacuum_r2 : List AOper := [
  ⟨some 11, .bin .plain .lss (.tmp 10) (.tmp 9), none, []⟩]
def k_pump_firstError_api_Vacuum_r3 : List AOper := [
  ⟨some 12, .indexAddr 1 (.tmp 8) (.tmp 10), none, []⟩,
 ⟨some 13, .load none (.tmp 12), none, []⟩,
 ⟨some 6, .move (.tmp 13), none, []⟩]
def k_pump_firstError_api_Vacuum_r4 : List AOper := [
  ⟨some 14, .move (.tmp 6), none, []⟩,
 ⟨some 15, .load (some (5)) (.tmp 2), none, []⟩,
 ⟨some 16, .call (.tmp 14) [.tmp 15], none, []⟩,
 ⟨some 7, .move (.tmp 16), none, []⟩]
def k_pump_firstError_api_Vacuum_r5 : List AOper := [
  ⟨some 17, .move (.tmp 7), none, []⟩,
 ⟨some 18, .bin .plain .neq (.tmp 17) (.const (.int .i64 0)), none, []⟩]
def k_pump_firstError_api_Vacuum_r6 : List AOper := [
  ⟨some 19, .move (.tmp 7), none, []⟩,
 ⟨some 4, .move (.tmp 19), none, []⟩]
def k_pump_firstError_api_Vacuum_r7 : List AOper := [
  ⟨some 20, .bin .plain .add (.tmp 10) (.const (.int .i64 1)), none, []⟩,
 ⟨some 10, .move (.tmp 20), none, []⟩]
def k_pump_firstError_api_Vacuum_r8 : ACode := (.seq (.reg k_pump_firstError_api_Vacuum_r2 false) (.seq (.cond (.tmp 11) .skip (.exit 0)) (.seq (.block 1 (.seq (.reg k_pump_firstError_api_Vacuum_r3 false) (.seq (.reg k_pump_firstError_api_Vacuum_r4 false) (.seq (.reg k_pump_firstError_api_Vacuum_r5 false) (.cond (.tmp 18) (.seq (.reg k_pump_firstError_api_Vacuum_r6 false) .ret) .skip))))) (.reg k_pump_firstError_api_Vacuum_r7 false))))
def k_pump_firstError_api_Vacuum_r9 : List AOper := [
  ⟨some 4, .move (.const (.int .i64 0)), none, []⟩]
def k_pump_firstError_api_Vacuum : AFun := { params := 2, ntmps := 21, body := (.seq (.reg k_pump_firstError_api_Vacuum_r0 false) (.seq (.seq (.reg k_pump_firstError_api_Vacuum_r1 false) (.block 0 (.loop k_pump_firstError_api_Vacuum_r8))) (.seq (.reg k_pump_firstError_api_Vacuum_r9 false) .ret))), res := [.tmp 4] }
theorem k_pump_firstError_api_Vacuum_ok : cfun Try.prog Try.f82 = k_pump_firstError_api_Vacuum := by kernel_rfl

def k_pump_checkCounts_r0 : List AOper := [
  ⟨some 1, .box (.tmp 0), none, []⟩,
 ⟨some 2, .move (.const (.int .i64 0)), none, []⟩]
def k_pump_checkCounts_r1 : List AOper := [
  ⟨some 3, .fieldAddr 0 (.tmp 1), none, []⟩,
 ⟨some 4, .load none (.tmp 3), none, []⟩,
 ⟨some 5, .len false (.tmp 4), none, []⟩,
 ⟨some 6, .bin .plain .eql (.tmp 5) (.const (.int .i64 0)), none, []⟩]
def k_pump_checkCounts_r2 : List AOper := [
  ⟨some 2, .move (.const (.int .i64 6)), none, []⟩]
def k_pump_checkCounts_r3 : List AOper := [
  ⟨some 7, .fieldAddr 0 (.tmp 1), none, []⟩,
 ⟨some 8, .load none (.tmp 7), none, []⟩,
 ⟨some 9, .len false (.tmp 8), none, []⟩,
 ⟨some 10, .bin .plain .gtr (.tmp 9) (.const (.int .i64 8)), none, []⟩,
 ⟨some 11, .move (.tmp 10), none, []⟩,
 ⟨some 12, .fieldAddr 1 (.tmp 1), (some (11, false)), []⟩,
 ⟨some 13, .load none (.tmp 12), (some (11, false)), []⟩,
 ⟨some 14, .len false (.tmp 13), (some (11, false)), []⟩,
 ⟨some 15, .bin .plain .gtr (.tmp 14) (.const (.int .i64 16)), (some (11, false)), []⟩,
 ⟨some 16, .pick (.tmp 11) (.const (.bool true)) (.tmp 15), none, []⟩]
def k_pump_checkCounts_r4 : List AOper := [
  ⟨some 2, .move (.const (.int .i64 8)), none, []⟩]
def k_pump_checkCounts_r5 : List AOper := [
  ⟨some 17, .fieldAddr 2 (.tmp 1), none, []⟩,
 ⟨some 18, .load none (.tmp 17), none, []⟩,
 ⟨some 19, .len false (.tmp 18), none, []⟩,
 ⟨some 20, .fieldAddr 3 (.tmp 1), none, []⟩,
 ⟨some 21, .load none (.tmp 20), none, []⟩,
 ⟨some 22, .len false (.tmp 21), none, []⟩,
 ⟨some 23, .fieldAddr 4 (.tmp 1), none, []⟩,
 ⟨some 24, .load none (.tmp 23), none, []⟩,
 ⟨some 25, .len false (.tmp 24), none, []⟩,
 ⟨some 26, .minmax true [.tmp 19, .tmp 22, .tmp 25], none, []⟩,
 ⟨some 27, .bin .plain .gtr (.tmp 26) (.const (.int .i64 8)), none, []⟩]
def k_pump_checkCounts_r6 : List AOper := [
  ⟨some 2, .move (.const (.int .i64 8)), none, []⟩]
def k_pump_checkCounts_r7 : List AOper := [
  ⟨some 2, .move (.const (.int .i64 0)), none, []⟩]
def k_pump_checkCounts : AFun := { params := 1, ntmps := 28, body := (.seq (.reg k_pump_checkCounts_r0 false) (.seq (.seq (.reg k_pump_checkCounts_r1 false) (.cond (.tmp 6) (.seq (.reg k_pump_checkCounts_r2 false) .ret) .skip)) (.seq (.seq (.reg k_pump_checkCounts_r3 false) (.cond (.tmp 16) (.seq (.reg k_pump_checkCounts_r4 false) .ret) .skip)) (.seq (.seq (.reg k_pump_checkCounts_r5 false) (.cond (.tmp 27) (.seq (.reg k_pump_checkCounts_r6 false) .ret) .skip)) (.seq (.reg k_pump_checkCounts_r7 false) .ret))))), res := [.tmp 2] }
theorem k_pump_checkCounts_ok : cfun Try.prog Try.f83 = k_pump_checkCounts := by kernel_rfl

def k_pump_checkVessels_r0 : List AOper := [
  ⟨some 1, .box (.tmp 0), none, []⟩,
 ⟨some 2, .move (.const (.int .i64 0)), none, []⟩]
def k_pump_checkVessels_r1 : List AOper := [
  ⟨some 7, .fieldAddr 0 (.tmp 1), none, []⟩,
 ⟨some 8, .load none (.tmp 7), none, []⟩,
 ⟨some 9, .len false (.tmp 8), none, []⟩,
 ⟨some 10, .move (.const (.int .i64 0)), none, []⟩]
def k_pump_checkVessels_r2 : List AOper := [
  ⟨some 11, .bin .plain .lss (.tmp 10) (.tmp 9), none, []⟩]
def k_pump_checkVessels_r3 : List AOper := [
  ⟨some 12, .indexAddr 6 (.tmp 8) (.tmp 10), none, []⟩,
 ⟨some 13, .load (some (6)) (.tmp 12), none, []⟩,
 ⟨some 4, .box (.const (.agg [.int .i64 0, .int .i64 0, .int .i64 0, .int .i64 0, .int .i64 0, .nilsl])), none, []⟩,
 ⟨none, .store 6 (.tmp 4) (.tmp 13), none, []⟩]
def k_pump_checkVessels_r4 : List AOper := [
  ⟨some 14, .fieldAddr 0 (.tmp 4), none, []⟩,
 ⟨some 15, .load none (.tmp 14), none, []⟩,
 ⟨some 16, .call (.const (.fn (.func 99) [] [])) [.tmp 15, .const (.int .i64 1), .const (.int .i64 1000000)], none, []⟩,
 ⟨some 17, .not (.tmp 16), none, []⟩]
def k_pump_checkVessels_r5 : List AOper := [
  ⟨some 2, .move (.const (.int .i64 2)), none, []⟩]
def k_pump_checkVessels_r6 : List AOper := [
  ⟨some 18, .fieldAddr 1 (.tmp 4), none, []⟩,
 ⟨some 19, .load (some (2)) (.tmp 18), none, []⟩,
 ⟨some 20, .fieldAddr 3 (.tmp 4), none, []⟩,
 ⟨some 21, .load (some (2)) (.tmp 20), none, []⟩,
 ⟨some 22, .buildSlice 2 [.tmp 19, .tmp 21], none, []⟩,
 ⟨some 23, .call (.const (.fn (.func 97) [] [])) [.const (.int .i64 1000000000), .tmp 22], none, []⟩,
 ⟨some 5, .move (.tmp 23), none, []⟩]
def k_pump_checkVessels_r7 : List AOper := [
  ⟨some 24, .move (.tmp 5), none, []⟩,
 ⟨some 25, .bin .plain .neq (.tmp 24) (.const (.int .i64 0)), none, []⟩]
def k_pump_checkVessels_r8 : List AOper := [
  ⟨some 26, .move (.tmp 5), none, []⟩,
 ⟨some 2, .move (.tmp 26), none, []⟩]
def k_pump_checkVessels_r9 : List AOper := [
  ⟨some 27, .fieldAddr 5 (.tmp 4), none, []⟩,
 ⟨some 28, .load none (.tmp 27), none, []⟩,
 ⟨some 29, .call (.const (.fn (.func 122) [] [])) [.tmp 28], none, []⟩,
 ⟨some 6, .move (.tmp 29), none, []⟩]
def k_pump_checkVessels_r10 : List AOper := [
  ⟨some 30, .move (.tmp 6), none, []⟩,
 ⟨some 31, .bin .plain .neq (.tmp 30) (.const (.int .i64 0)), none, []⟩]
def k_pump_checkVessels_r11 : List AOper := [
  ⟨some 32, .move (.tmp 6), none, []⟩,
 ⟨some 2, .move (.tmp 32), none, []⟩]
def k_pump_checkVessels_r12 : List AOper := [
  ⟨some 33, .bin .plain .add (.tmp 10) (.const (.int .i64 1)), none, []⟩,
 ⟨some 10, .move (.tmp 33), none, []⟩]
def k_pump_checkVessels_r13 : ACode := (.seq (.reg k_pump_checkVessels_r2 false) (.seq (.cond (.tmp 11) .skip (.exit 0)) (.seq (.block 1 (.seq (.reg k_pump_checkVessels_r3 false) (.seq (.seq (.reg k_pump_checkVessels_r4 false) (.cond (.tmp 17) (.seq (.reg k_pump_checkVessels_r5 false) .ret) .skip)) (.seq (.seq (.reg k_pump_checkVessels_r6 false) (.seq (.reg k_pump_checkVessels_r7 false) (.cond (.tmp 25) (.seq (.reg k_pump_checkVessels_r8 false) .ret) .skip))) (.seq (.reg k_pump_checkVessels_r9 false) (.seq (.reg k_pump_checkVessels_r10 false) (.cond (.tmp 31) (.seq (.reg k_pump_checkVessels_r11 false) .ret) .skip))))))) (.reg k_pump_checkVessels_r12 false))))
def k_pump_checkVessels_r14 : List AOper := [
  ⟨some 2, .move (.const (.int .i64 0)), none, []⟩]
def k_pump_checkVessels : AFun := { params := 1, ntmps := 34, body := (.seq (.reg k_pump_checkVessels_r0 false) (.seq (.seq (.reg k_pump_checkVessels_r1 false) (.block 0 (.loop k_pump_checkVessels_r13))) (.seq (.reg k_pump_checkVessels_r14 false) .ret))), res := [.tmp 2] }
theorem k_pump_checkVessels_ok : cfun Try.prog Try.f84 = k_pump_checkVessels := by kernel_rfl

def k_pump_checkPipes_r0 : List AOper := [
  ⟨some 1, .box (.tmp 0), none, []⟩,
 ⟨some 2, .move (.const (.int .i64 0)), none, []⟩]
def k_pump_checkPipes_r1 : List AOper := [
  ⟨some 6, .fieldAddr 1 (.tmp 1), none, []⟩,
 ⟨some 7, .load none (.tmp 6), none, []⟩,
 ⟨some 8, .len false (.tmp 7), none, []⟩,
 ⟨some 9, .move (.const (.int .i64 0)), none, []⟩]
def k_pump_checkPipes_r2 : List AOper := [
  ⟨some 10, .bin .plain .lss (.tmp 9) (.tmp 8), none, []⟩]
def k_pump_checkPipes_r3 : List AOper := [
  ⟨some 11, .indexAddr 6 (.tmp 7) (.tmp 9), none, []⟩,
 ⟨some 12, .load (some (6)) (.tmp 11), none, []⟩,
 ⟨some 4, .box (.const (.agg [.int .i64 0, .int .i64 0, .int .i64 0, .int .i64 0, .int .i64 0, .int .i64 0])), none, []⟩,
 ⟨none, .store 6 (.tmp 4) (.tmp 12), none, []⟩]
def k_pump_checkPipes_r4 : List AOper := [
  ⟨some 13, .load (some (5)) (.tmp 1), none, []⟩,
 ⟨some 14, .fieldAddr 0 (.tmp 4), none, []⟩,
 ⟨some 15, .load none (.tmp 14), none, []⟩,
 ⟨some 16, .call (.const (.fn (.func 93) [] [])) [.tmp 13, .tmp 15], none, []⟩,
 ⟨some 17, .not (.tmp 16), none, []⟩,
 ⟨some 18, .move (.tmp 17), none, []⟩,
 ⟨some 19, .load (some (5)) (.tmp 1), (some (18, false)), []⟩,
 ⟨some 20, .fieldAddr 1 (.tmp 4), (some (18, false)), []⟩,
 ⟨some 21, .load none (.tmp 20), (some (18, false)), []⟩,
 ⟨some 22, .call (.const (.fn (.func 93) [] [])) [.tmp 19, .tmp 21], (some (18, false)), []⟩,
 ⟨some 23, .not (.tmp 22), (some (18, false)), []⟩,
 ⟨some 24, .pick (.tmp 18) (.const (.bool true)) (.tmp 23), none, []⟩]
def k_pump_checkPipes_r5 : List AOper := [
  ⟨some 2, .move (.const (.int .i64 7)), none, []⟩]
def k_pump_checkPipes_r6 : List AOper := [
  ⟨some 25, .fieldAddr 0 (.tmp 4), none, []⟩,
 ⟨some 26, .load none (.tmp 25), none, []⟩,
 ⟨some 27, .fieldAddr 1 (.tmp 4), none, []⟩,
 ⟨some 28, .load none (.tmp 27), none, []⟩,
 ⟨some 29, .bin .plain .eql (.tmp 26) (.tmp 28), none, []⟩]
def k_pump_checkPipes_r7 : List AOper := [
  ⟨some 2, .move (.const (.int .i64 9)), none, []⟩]
def k_pump_checkPipes_r8 : List AOper := [
  ⟨some 30, .fieldAddr 2 (.tmp 4), none, []⟩,
 ⟨some 31, .load (some (2)) (.tmp 30), none, []⟩,
 ⟨some 32, .fieldAddr 4 (.tmp 4), none, []⟩,
 ⟨some 33, .load (some (2)) (.tmp 32), none, []⟩,
 ⟨some 34, .buildSlice 2 [.tmp 31, .tmp 33], none, []⟩,
 ⟨some 35, .call (.const (.fn (.func 97) [] [])) [.const (.int .i64 1000000), .tmp 34], none, []⟩,
 ⟨some 5, .move (.tmp 35), none, []⟩]
def k_pump_checkPipes_r9 : List AOper := [
  ⟨some 36, .move (.tmp 5), none, []⟩,
 ⟨some 37, .bin .plain .neq (.tmp 36) (.const (.int .i64 0)), none, []⟩]
def k_pump_checkPipes_r10 : List AOper := [
  ⟨some 38, .move (.tmp 5), none, []⟩,
 ⟨some 2, .move (.tmp 38), none, []⟩]
def k_pump_checkPipes_r11 : List AOper := [
  ⟨some 39, .bin .plain .add (.tmp 9) (.const (.int .i64 1)), none, []⟩,
 ⟨some 9, .move (.tmp 39), none, []⟩]
def k_pump_checkPipes_r12 : ACode := (.seq (.reg k_pump_checkPipes_r2 false) (.seq (.cond (.tmp 10) .skip (.exit 0)) (.seq (.block 1 (.seq (.reg k_pump_checkPipes_r3 false) (.seq (.seq (.reg k_pump_checkPipes_r4 false) (.cond (.tmp 24) (.seq (.reg k_pump_checkPipes_r5 false) .ret) .skip)) (.seq (.seq (.reg k_pump_checkPipes_r6 false) (.cond (.tmp 29) (.seq (.reg k_pump_checkPipes_r7 false) .ret) .skip)) (.seq (.reg k_pump_checkPipes_r8 false) (.seq (.reg k_pump_checkPipes_r9 false) (.cond (.tmp 37) (.seq (.reg k_pump_checkPipes_r10 false) .ret) .skip))))))) (.reg k_pump_checkPipes_r11 false))))
def k_pump_checkPipes_r13 : List AOper := [
  ⟨some 2, .move (.const (.int .i64 0)), none, []⟩]
def k_pump_checkPipes : AFun := { params := 1, ntmps := 40, body := (.seq (.reg k_pump_checkPipes_r0 false) (.seq (.seq (.reg k_pump_checkPipes_r1 false) (.block 0 (.loop k_pump_checkPipes_r12))) (.seq (.reg k_pump_checkPipes_r13 false) .ret))), res := [.tmp 2] }
theorem k_pump_checkPipes_ok : cfun Try.prog Try.f85 = k_pump_checkPipes := by kernel_rfl

def k_pump_checkBanks_r0 : List AOper := [
  ⟨some 1, .box (.tmp 0), none, []⟩,
 ⟨some 2, .move (.const (.int .i64 0)), none, []⟩]
def k_pump_checkBanks_r1 : List AOper := [
  ⟨some 13, .fieldAddr 2 (.tmp 1), none, []⟩,
 ⟨some 14, .load none (.tmp 13), none, []⟩,
 ⟨some 15, .len false (.tmp 14), none, []⟩,
 ⟨some 16, .move (.const (.int .i64 0)), none, []⟩]
def k_pump_checkBanks_r2 : List AOper := [
  ⟨some 17, .bin .plain .lss (.tmp 16) (.tmp 15), none, []⟩]
def k_pump_checkBanks_r3 : List AOper := [
  ⟨some 18, .indexAddr 3 (.tmp 14) (.tmp 16), none, []⟩,
 ⟨some 19, .load (some (3)) (.tmp 18), none, []⟩,
 ⟨some 4, .box (.const (.agg [.int .i64 0, .int .i64 0, .int .i64 0])), none, []⟩,
 ⟨none, .store 3 (.tmp 4) (.tmp 19), none, []⟩]
def k_pump_checkBanks_r4 : List AOper := [
  ⟨some 20, .load (some (5)) (.tmp 1), none, []⟩,
 ⟨some 21, .fieldAddr 0 (.tmp 4), none, []⟩,
 ⟨some 22, .load none (.tmp 21), none, []⟩,
 ⟨some 23, .fieldAddr 1 (.tmp 4), none, []⟩,
 ⟨some 24, .load (some (2)) (.tmp 23), none, []⟩,
 ⟨some 25, .call (.const (.fn (.func 123) [] [])) [.tmp 20, .tmp 22, .tmp 24, .const (.int .i64 1000000)], none, []⟩,
 ⟨some 5, .move (.tmp 25), none, []⟩]
def k_pump_checkBanks_r5 : List AOper := [
  ⟨some 26, .move (.tmp 5), none, []⟩,
 ⟨some 27, .bin .plain .neq (.tmp 26) (.const (.int .i64 0)), none, []⟩]
def k_pump_checkBanks_r6 : List AOper := [
  ⟨some 28, .move (.tmp 5), none, []⟩,
 ⟨some 2, .move (.tmp 28), none, []⟩]
def k_pump_checkBanks_r7 : List AOper := [
  ⟨some 29, .bin .plain .add (.tmp 16) (.const (.int .i64 1)), none, []⟩,
 ⟨some 16, .move (.tmp 29), none, []⟩]
def k_pump_checkBanks_r8 : ACode := (.seq (.reg k_pump_checkBanks_r2 false) (.seq (.cond (.tmp 17) .skip (.exit 0)) (.seq (.block 1 (.seq (.reg k_pump_checkBanks_r3 false) (.seq (.reg k_pump_checkBanks_r4 false) (.seq (.reg k_pump_checkBanks_r5 false) (.cond (.tmp 27) (.seq (.reg k_pump_checkBanks_r6 false) .ret) .skip))))) (.reg k_pump_checkBanks_r7 false))))
def k_pump_checkBanks_r9 : List AOper := [
  ⟨some 30, .fieldAddr 3 (.tmp 1), none, []⟩,
 ⟨some 31, .load none (.tmp 30), none, []⟩,
 ⟨some 32, .len false (.tmp 31), none, []⟩,
 ⟨some 33, .move (.const (.int .i64 0)), none, []⟩]
def k_pump_checkBanks_r10 : List AOper := [
  ⟨some 34, .bin .plain .lss (.tmp 33) (.tmp 32), none, []⟩]
def k_pump_checkBanks_r11 : List AOper := [
  ⟨some 35, .indexAddr 3 (.tmp 31) (.tmp 33), none, []⟩,
 ⟨some 36, .load (some (3)) (.tmp 35), none, []⟩,
 ⟨some 7, .box (.const (.agg [.int .i64 0, .int .i64 0, .int .i64 0])), none, []⟩,
 ⟨none, .store 3 (.tmp 7) (.tmp 36), none, []⟩]
def k_pump_checkBanks_r12 : List AOper := [
  ⟨some 37, .load (some (5)) (.tmp 1), none, []⟩,
 ⟨some 38, .fieldAddr 0 (.tmp 7), none, []⟩,
 ⟨some 39, .load none (.tmp 38), none, []⟩,
 ⟨some 40, .fieldAddr 1 (.tmp 7), none, []⟩,
 ⟨some 41, .load (some (2)) (.tmp 40), none, []⟩,
 ⟨some 42, .call (.const (.fn (.func 123) [] [])) [.tmp 37, .tmp 39, .tmp 41, .const (.int .i64 100000)], none, []⟩,
 ⟨some 8, .move (.tmp 42), none, []⟩]
def k_pump_checkBanks_r13 : List AOper := [
  ⟨some 43, .move (.tmp 8), none, []⟩,
 ⟨some 44, .bin .plain .neq (.tmp 43) (.const (.int .i64 0)), none, []⟩]
def k_pump_checkBanks_r14 : List AOper := [
  ⟨some 45, .move (.tmp 8), none, []⟩,
 ⟨some 2, .move (.tmp 45), none, []⟩]
def k_pump_checkBanks_r15 : List AOper := [
  ⟨some 46, .bin .plain .add (.tmp 33) (.const (.int .i64 1)), none, []⟩,
 ⟨some 33, .move (.tmp 46), none, []⟩]
def k_pump_checkBanks_r16 : ACode := (.seq (.reg k_pump_checkBanks_r10 false) (.seq (.cond (.tmp 34) .skip (.exit 2)) (.seq (.block 3 (.seq (.reg k_pump_checkBanks_r11 false) (.seq (.reg k_pump_checkBanks_r12 false) (.seq (.reg k_pump_checkBanks_r13 false) (.cond (.tmp 44) (.seq (.reg k_pump_checkBanks_r14 false) .ret) .skip))))) (.reg k_pump_checkBanks_r15 false))))
def k_pump_checkBanks_r17 : List AOper := [
  ⟨some 47, .fieldAddr 4 (.tmp 1), none, []⟩,
 ⟨some 48, .load none (.tmp 47), none, []⟩,
 ⟨some 49, .len false (.tmp 48), none, []⟩,
 ⟨some 50, .move (.const (.int .i64 0)), none, []⟩]
def k_pump_checkBanks_r18 : List AOper := [
  ⟨some 51, .bin .plain .lss (.tmp 50) (.tmp 49), none, []⟩]
def k_pump_checkBanks_r19 : List AOper := [
  ⟨some 52, .indexAddr 5 (.tmp 48) (.tmp 50), none, []⟩,
 ⟨some 53, .load (some (5)) (.tmp 52), none, []⟩,
 ⟨some 10, .box (.const (.agg [.int .i64 0, .int .i64 0, .int .i64 0, .int .i64 0, .int .i64 0])), none, []⟩,
 ⟨none, .store 5 (.tmp 10) (.tmp 53), none, []⟩]
def k_pump_checkBanks_r20 : List AOper := [
  ⟨some 54, .load (some (5)) (.tmp 1), none, []⟩,
 ⟨some 55, .fieldAddr 0 (.tmp 10), none, []⟩,
 ⟨some 56, .load none (.tmp 55), none, []⟩,
 ⟨some 57, .fieldAddr 1 (.tmp 10), none, []⟩,
 ⟨some 58, .load (some (2)) (.tmp 57), none, []⟩,
 ⟨some 59, .call (.const (.fn (.func 123) [] [])) [.tmp 54, .tmp 56, .tmp 58, .const (.int .i64 1000000)], none, []⟩,
 ⟨some 11, .move (.tmp 59), none, []⟩]
def k_pump_checkBanks_r21 : List AOper := [
  ⟨some 60, .move (.tmp 11), none, []⟩,
 ⟨some 61, .bin .plain .neq (.tmp 60) (.const (.int .i64 0)), none, []⟩]
def k_pump_checkBanks_r22 : List AOper := [
  ⟨some 62, .move (.tmp 11), none, []⟩,
 ⟨some 2, .move (.tmp 62), none, []⟩]
def k_pump_checkBanks_r23 : List AOper := [
  ⟨some 63, .fieldAddr 3 (.tmp 10), none, []⟩,
 ⟨some 64, .load (some (2)) (.tmp 63), none, []⟩,
 ⟨some 65, .buildSlice 2 [.tmp 64], none, []⟩,
 ⟨some 66, .call (.const (.fn (.func 97) [] [])) [.const (.int .i64 1000000000), .tmp 65], none, []⟩,
 ⟨some 12, .move (.tmp 66), none, []⟩]
def k_pump_checkBanks_r24 : List AOper := [
  ⟨some 67, .move (.tmp 12), none, []⟩,
 ⟨some 68, .bin .plain .neq (.tmp 67) (.const (.int .i64 0)), none, []⟩]
def k_pump_checkBanks_r25 : List AOper := [
  ⟨some 69, .move (.tmp 12), none, []⟩,
 ⟨some 2, .move (.tmp 69), none, []⟩]
def k_pump_checkBanks_r26 : List AOper := [
  ⟨some 70, .bin .plain .add (.tmp 50) (.const (.int .i64 1)), none, []⟩,
 ⟨some 50, .move (.tmp 70), none, []⟩]
def k_pump_checkBanks_r27 : ACode := (.seq (.reg k_pump_checkBanks_r18 false) (.seq (.cond (.tmp 51) .skip (.exit 4)) (.seq (.block 5 (.seq (.reg k_pump_checkBanks_r19 false) (.seq (.seq (.reg k_pump_checkBanks_r20 false) (.seq (.reg k_pump_checkBanks_r21 false) (.cond (.tmp 61) (.seq (.reg k_pump_checkBanks_r22 false) .ret) .skip))) (.seq (.reg k_pump_checkBanks_r23 false) (.seq (.reg k_pump_checkBanks_r24 false) (.cond (.tmp 68) (.seq (.reg k_pump_checkBanks_r25 false) .ret) .skip)))))) (.reg k_pump_checkBanks_r26 false))))
def k_pump_checkBanks_r28 : List AOper := [
  ⟨some 2, .move (.const (.int .i64 0)), none, []⟩]
def k_pump_checkBanks : AFun := { params := 1, ntmps := 71, body := (.seq (.reg k_pump_checkBanks_r0 false) (.seq (.seq (.reg k_pump_checkBanks_r1 false) (.block 0 (.loop k_pump_checkBanks_r8))) (.seq (.seq (.reg k_pump_checkBanks_r9 false) (.block 2 (.loop k_pump_checkBanks_r16))) (.seq (.seq (.reg k_pump_checkBanks_r17 false) (.block 4 (.loop k_pump_checkBanks_r27))) (.seq (.reg k_pump_checkBanks_r28 false) .ret))))), res := [.tmp 2] }
theorem k_pump_checkBanks_ok : cfun Try.prog Try.f86 = k_pump_checkBanks := by kernel_rfl

def k_pump_checkOut_r0 : List AOper := [
  ⟨some 1, .box (.tmp 0), none, []⟩,
 ⟨some 2, .move (.const (.int .i64 0)), none, []⟩]
def k_pump_checkOut_r1 : List AOper := [
  ⟨some 5, .load (some (5)) (.tmp 1), none, []⟩,
 ⟨some 6, .call (.const (.fn (.func 124) [] [])) [.tmp 5, .const (.nilsl)], none, []⟩,
 ⟨some 3, .move (.tmp 6), none, []⟩]
def k_pump_checkOut_r2 : List AOper := [
  ⟨some 7, .fieldAddr 0 (.tmp 1), none, []⟩,
 ⟨some 8, .load none (.tmp 7), none, []⟩,
 ⟨some 9, .len false (.tmp 8), none, []⟩,
 ⟨some 10, .move (.const (.int .i64 0)), none, []⟩]
def k_pump_checkOut_r3 : List AOper := [
  ⟨some 11, .bin .plain .lss (.tmp 10) (.tmp 9), none, []⟩]
def k_pump_checkOut_r4 : List AOper := [
  ⟨some 12, .move (.tmp 10), none, []⟩,
 ⟨some 4, .move (.tmp 12), none, []⟩]
def k_pump_checkOut_r5 : List AOper := [
  ⟨some 13, .move (.tmp 3), none, []⟩,
 ⟨some 14, .move (.tmp 4), none, []⟩,
 ⟨some 15, .lookup .i64 (.agg [.int .i64 0, .int .i64 0]) false (.tmp 13) (.tmp 14), none, []⟩,
 ⟨some 16, .field none 1 (.tmp 15), none, []⟩,
 ⟨some 17, .bin .plain .gtr (.tmp 16) (.const (.int .i64 1000000)), none, []⟩]
def k_pump_checkOut_r6 : List AOper := [
  ⟨some 2, .move (.const (.int .i64 14)), none, []⟩]
def k_pump_checkOut_r7 : List AOper := [
  ⟨some 18, .bin .plain .add (.tmp 10) (.const (.int .i64 1)), none, []⟩,
 ⟨some 10, .move (.tmp 18), none, []⟩]
def k_pump_checkOut_r8 : ACode := (.seq (.reg k_pump_checkOut_r3 false) (.seq (.cond (.tmp 11) .skip (.exit 0)) (.seq (.block 1 (.seq (.reg k_pump_checkOut_r4 false) (.seq (.reg k_pump_checkOut_r5 false) (.cond (.tmp 17) (.seq (.reg k_pump_checkOut_r6 false) .ret) .skip)))) (.reg k_pump_checkOut_r7 false))))
def k_pump_checkOut_r9 : List AOper := [
  ⟨some 2, .move (.const (.int .i64 0)), none, []⟩]
def k_pump_checkOut : AFun := { params := 1, ntmps := 19, body := (.seq (.reg k_pump_checkOut_r0 false) (.seq (.reg k_pump_checkOut_r1 false) (.seq (.seq (.reg k_pump_checkOut_r2 false) (.block 0 (.loop k_pump_checkOut_r8))) (.seq (.reg k_pump_checkOut_r9 false) .ret)))), res := [.tmp 2] }
theorem k_pump_checkOut_ok : cfun Try.prog Try.f87 = k_pump_checkOut := by kernel_rfl

def k_pump_checkStage_r0 : List AOper := [
  ⟨some 2, .box (.tmp 0), none, []⟩,
 ⟨some 3, .box (.tmp 1), none, []⟩,
 ⟨some 4, .move (.const (.int .i64 0)), none, []⟩]
def k_pump_checkStage_r1 : List AOper := [
  ⟨some 5, .fieldAddr 0 (.tmp 3), none, []⟩,
 ⟨some 6, .load none (.tmp 5), none, []⟩,
 ⟨some 7, .call (.const (.fn (.func 99) [] [])) [.tmp 6, .const (.int .i64 0), .const (.int .i64 2000)], none, []⟩,
 ⟨some 8, .not (.tmp 7), none, []⟩,
 ⟨some 9, .move (.tmp 8), none, []⟩,
 ⟨some 10, .fieldAddr 1 (.tmp 3), (some (9, false)), []⟩,
 ⟨some 11, .load none (.tmp 10), (some (9, false)), []⟩,
 ⟨some 12, .call (.const (.fn (.func 129) [] [])) [.tmp 11], (some (9, false)), []⟩,
 ⟨some 13, .not (.tmp 12), (some (9, false)), []⟩,
 ⟨some 14, .pick (.tmp 9) (.const (.bool true)) (.tmp 13), none, []⟩]
def k_pump_checkStage_r2 : List AOper := [
  ⟨some 4, .move (.const (.int .i64 2)), none, []⟩]
def k_pump_checkStage_r3 : List AOper := [
  ⟨some 15, .fieldAddr 2 (.tmp 3), none, []⟩,
 ⟨some 16, .load none (.tmp 15), none, []⟩,
 ⟨some 17, .fieldAddr 1 (.tmp 2), none, []⟩,
 ⟨some 18, .load none (.tmp 17), none, []⟩,
 ⟨some 19, .len false (.tmp 18), none, []⟩,
 ⟨some 20, .call (.const (.fn (.func 109) [] [])) [.tmp 16, .tmp 19], none, []⟩,
 ⟨some 4, .move (.tmp 20), none, []⟩]
def k_pump_checkStage : AFun := { params := 2, ntmps := 21, body := (.seq (.reg k_pump_checkStage_r0 false) (.seq (.seq (.reg k_pump_checkStage_r1 false) (.cond (.tmp 14) (.seq (.reg k_pump_checkStage_r2 false) .ret) .skip)) (.seq (.reg k_pump_checkStage_r3 false) .ret))), res := [.tmp 4] }
theorem k_pump_checkStage_ok : cfun Try.prog Try.f91 = k_pump_checkStage := by kernel_rfl

def k_pump_isVessel_r0 : List AOper := [
  ⟨some 2, .box (.tmp 0), none, []⟩,
 ⟨some 4, .move (.const (.bool false)), none, []⟩]
def k_pump_isVessel_r1 : List AOper := [
  ⟨some 5, .move (.tmp 1), none, []⟩,
 ⟨some 6, .fieldAddr 0 (.tmp 2), none, []⟩,
 ⟨some 7, .load none (.tmp 6), none, []⟩,
 ⟨some 8, .len false (.tmp 7), none, []⟩,
 ⟨some 9, .bin .plain .sub (.tmp 8) (.const (.int .i64 1)), none, []⟩,
 ⟨some 10, .call (.const (.fn (.func 99) [] [])) [.tmp 5, .const (.int .i64 0), .tmp 9], none, []⟩,
 ⟨some 4, .move (.tmp 10), none, []⟩]
def k_pump_isVessel : AFun := { params := 2, ntmps := 11, body := (.seq (.reg k_pump_isVessel_r0 false) (.seq (.reg k_pump_isVessel_r1 false) .ret)), res := [.tmp 4] }
theorem k_pump_isVessel_ok : cfun Try.prog Try.f93 = k_pump_isVessel := by kernel_rfl

def k_pump_checkRanges_r0 : List AOper := [
  ⟨some 4, .move (.const (.int .i64 0)), none, []⟩]
def k_pump_checkRanges_r1 : List AOper := [
  ⟨some 7, .move (.tmp 1), none, []⟩,
 ⟨some 8, .len false (.tmp 7), none, []⟩,
 ⟨some 9, .move (.const (.int .i64 0)), none, []⟩]
def k_pump_checkRanges_r2 : List AOper := [
  ⟨some 10, .bin .plain .lss (.tmp 9) (.tmp 8), none, []⟩]
def k_pump_checkRanges_r3 : List AOper := [
  ⟨some 11, .indexAddr 2 (.tmp 7) (.tmp 9), none, []⟩,
 ⟨some 12, .load (some (2)) (.tmp 11), none, []⟩,
 ⟨some 6, .box (.const (.agg [.int .i64 0, .int .i64 0])), none, []⟩,
 ⟨none, .store 2 (.tmp 6) (.tmp 12), none, []⟩]
def k_pump_checkRanges_r4 : List AOper := [
  ⟨some 13, .fieldAddr 0 (.tmp 6), none, []⟩,
 ⟨some 14, .load none (.tmp 13), none, []⟩,
 ⟨some 15, .fieldAddr 1 (.tmp 6), none, []⟩,
 ⟨some 16, .load none (.tmp 15), none, []⟩,
 ⟨some 17, .bin .plain .gtr (.tmp 14) (.tmp 16), none, []⟩]
def k_pump_checkRanges_r5 : List AOper := [
  ⟨some 4, .move (.const (.int .i64 11)), none, []⟩]
def k_pump_checkRanges_r6 : List AOper := [
  ⟨some 18, .fieldAddr 0 (.tmp 6), none, []⟩,
 ⟨some 19, .load none (.tmp 18), none, []⟩,
 ⟨some 20, .bin .plain .lss (.tmp 19) (.const (.int .i64 0)), none, []⟩,
 ⟨some 21, .move (.tmp 20), none, []⟩,
 ⟨some 22, .fieldAddr 1 (.tmp 6), (some (21, false)), []⟩,
 ⟨some 23, .load none (.tmp 22), (some (21, false)), []⟩,
 ⟨some 24, .move (.tmp 0), (some (21, false)), []⟩,
 ⟨some 25, .bin .plain .gtr (.tmp 23) (.tmp 24), (some (21, false)), []⟩,
 ⟨some 26, .pick (.tmp 21) (.const (.bool true)) (.tmp 25), none, []⟩]
def k_pump_checkRanges_r7 : List AOper := [
  ⟨some 4, .move (.const (.int .i64 2)), none, []⟩]
def k_pump_checkRanges_r8 : List AOper := [
  ⟨some 27, .bin .plain .add (.tmp 9) (.const (.int .i64 1)), none, []⟩,
 ⟨some 9, .move (.tmp 27), none, []⟩]
def k_pump_checkRanges_r9 : ACode := (.seq (.reg k_pump_checkRanges_r2 false) (.seq (.cond (.tmp 10) .skip (.exit 0)) (.seq (.block 1 (.seq (.reg k_pump_checkRanges_r3 false) (.seq (.seq (.reg k_pump_checkRanges_r4 false) (.cond (.tmp 17) (.seq (.reg k_pump_checkRanges_r5 false) .ret) .skip)) (.seq (.reg k_pump_checkRanges_r6 false) (.cond (.tmp 26) (.seq (.reg k_pump_checkRanges_r7 false) .ret) .skip))))) (.reg k_pump_checkRanges_r8 false))))
def k_pump_checkRanges_r10 : List AOper := [
  ⟨some 4, .move (.const (.int .i64 0)), none, []⟩]
def k_pump_checkRanges : AFun := { params := 2, ntmps := 28, body := (.seq (.reg k_pump_checkRanges_r0 false) (.seq (.seq (.reg k_pump_checkRanges_r1 false) (.block 0 (.loop k_pump_checkRanges_r9))) (.seq (.reg k_pump_checkRanges_r10 false) .ret))), res := [.tmp 4] }
theorem k_pump_checkRanges_ok : cfun Try.prog Try.f97 = k_pump_checkRanges := by kernel_rfl

def k_pump_within_r0 : List AOper := [
  ⟨some 6, .move (.const (.bool false)), none, []⟩]
def k_pump_within_r1 : List AOper := [
  ⟨some 7, .move (.tmp 1), none, []⟩,
 ⟨some 8, .move (.tmp 0), none, []⟩,
 ⟨some 9, .bin .plain .leq (.tmp 7) (.tmp 8), none, []⟩,
 ⟨some 10, .move (.tmp 9), none, []⟩,
 ⟨some 11, .move (.tmp 0), (some (10, true)), []⟩,
 ⟨some 12, .move (.tmp 2), (some (10, true)), []⟩,
 ⟨some 13, .bin .plain .leq (.tmp 11) (.tmp 12), (some (10, true)), []⟩,
 ⟨some 14, .pick (.tmp 10) (.tmp 13) (.const (.bool false)), none, []⟩,
 ⟨some 6, .move (.tmp 14), none, []⟩]
def k_pump_within : AFun := { params := 3, ntmps := 15, body := (.seq (.reg k_pump_within_r0 false) (.seq (.reg k_pump_within_r1 false) .ret)), res := [.tmp 6] }
theorem k_pump_within_ok : cfun Try.prog Try.f99 = k_pump_within := by kernel_rfl

def k_pump_after_r0 : List AOper := [
  ⟨some 3, .box (.tmp 0), none, []⟩,
 ⟨some 4, .box (.tmp 1), none, []⟩,
 ⟨some 5, .box (.tmp 2), none, []⟩,
 ⟨some 6, .box (.const (.agg [.nilsl, .nilsl, .nilsl, .int .i64 0, .bool false])), none, []⟩]
def k_pump_after_r1 : List AOper := [
  ⟨some 10, .fieldAddr 0 (.tmp 4), none, []⟩,
 ⟨some 11, .load none (.tmp 10), none, []⟩,
 ⟨some 12, .call (.const (.fn (.func 131) [] [])) [.tmp 11], none, []⟩,
 ⟨some 13, .fieldAddr 1 (.tmp 4), none, [0, 1, 2]⟩,
 ⟨some 14, .load none (.tmp 13), none, [0, 1, 2]⟩,
 ⟨some 15, .call (.const (.fn (.func 131) [] [])) [.tmp 14], none, []⟩,
 ⟨some 16, .fieldAddr 2 (.tmp 4), none, [0, 1, 2, 3, 4, 5]⟩,
 ⟨some 17, .load none (.tmp 16), none, [0, 1, 2, 3, 4, 5]⟩,
 ⟨some 18, .call (.const (.fn (.func 131) [] [])) [.tmp 17], none, []⟩,
 ⟨some 19, .fieldAddr 0 (.tmp 4), none, [5, 8]⟩,
 ⟨none, .store 1 (.tmp 19) (.tmp 12), none, []⟩,
 ⟨some 20, .fieldAddr 1 (.tmp 4), none, []⟩,
 ⟨none, .store 1 (.tmp 20) (.tmp 15), none, []⟩,
 ⟨some 21, .fieldAddr 2 (.tmp 4), none, []⟩,
 ⟨none, .store 1 (.tmp 21) (.tmp 18), none, []⟩]
def k_pump_after_r1s : List (List AOper) := [
  [
  ⟨some 10, .fieldAddr 0 (.tmp 4), none, []⟩,
 ⟨some 11, .load none (.tmp 10), none, []⟩,
 ⟨some 12, .call (.const (.fn (.func 131) [] [])) [.tmp 11], none, []⟩,
 ⟨some 13, .fieldAddr 1 (.tmp 4), none, [0, 1, 2]⟩,
 ⟨some 14, .load none (.tmp 13), none, [0, 1, 2]⟩,
 ⟨some 15, .call (.const (.fn (.func 131) [] [])) [.tmp 14], none, []⟩,
 ⟨some 16, .fieldAddr 2 (.tmp 4), none, [0, 1, 2, 3, 4, 5]⟩,
 ⟨some 17, .load none (.tmp 16), none, [0, 1, 2, 3, 4, 5]⟩,
 ⟨some 18, .call (.const (.fn (.func 131) [] [])) [.tmp 17], none, []⟩,
 ⟨some 19, .fieldAddr 0 (.tmp 4), none, [5, 8]⟩], 
  [
  ⟨none, .store 1 (.tmp 19) (.tmp 12), none, []⟩], 
  [
  ⟨some 20, .fieldAddr 1 (.tmp 4), none, []⟩], 
  [
  ⟨none, .store 1 (.tmp 20) (.tmp 15), none, []⟩], 
  [
  ⟨some 21, .fieldAddr 2 (.tmp 4), none, []⟩], 
  [
  ⟨none, .store 1 (.tmp 21) (.tmp 18), none, []⟩]]
theorem k_pump_after_r1_sg : segs k_pump_after_r1 = k_pump_after_r1s := by kernel_rfl
theorem k_pump_after_r1_st : statOK k_pump_after_r1 = true := by kernel_rfl
def k_pump_after_r2 : List AOper := [
  ⟨some 22, .load (some (5)) (.tmp 3), none, []⟩,
 ⟨some 23, .load (some (4)) (.tmp 5), none, []⟩,
 ⟨some 24, .load (some (5)) (.tmp 4), none, []⟩,
 ⟨some 25, .build [.nilsl, .nilsl, .nilsl, .nilsl, .nilsl, .int .i64 0, .int .i64 0, .nilsl, .bool false, .nilsl, .nilsl, .nilsl, .int .i64 0, .bool false] [(0, 5, .tmp 22), (5, 4, .tmp 23), (9, 5, .tmp 24)], none, []⟩,
 ⟨some 7, .box (.const (.agg [.nilsl, .nilsl, .nilsl, .nilsl, .nilsl, .int .i64 0, .int .i64 0, .nilsl, .bool false, .nilsl, .nilsl, .nilsl, .int .i64 0, .bool false])), none, []⟩,
 ⟨none, .store 14 (.tmp 7) (.tmp 25), none, []⟩]
def k_pump_after_r3 : List AOper := [
  ⟨some 26, .buildSlice 1 [.const (.fn (.func 132) [] []), .const (.fn (.func 133) [] []), .const (.fn (.func 134) [] []), .const (.fn (.func 135) [] []), .const (.fn (.func 136) [] [])], none, []⟩,
 ⟨some 27, .len false (.tmp 26), none, []⟩,
 ⟨some 28, .move (.const (.int .i64 0)), none, []⟩]
def k_pump_after_r4 : List AOper := [
  ⟨some 29, .bin .plain .lss (.tmp 28) (.tmp 27), none, []⟩]
def k_pump_after_r5 : List AOper := [
  ⟨some 30, .indexAddr 1 (.tmp 26) (.tmp 28), none, []⟩,
 ⟨some 31, .load none (.tmp 30), none, []⟩,
 ⟨some 9, .move (.tmp 31), none, []⟩]
def k_pump_after_r6 : List AOper := [
  ⟨some 32, .move (.tmp 9), none, []⟩,
 ⟨some 33, .call (.tmp 32) [.tmp 7], none, []⟩]
def k_pump_after_r7 : List AOper := [
  ⟨some 34, .bin .plain .add (.tmp 28) (.const (.int .i64 1)), none, []⟩,
 ⟨some 28, .move (.tmp 34), none, []⟩]
def k_pump_after_r8 : ACode := (.seq (.reg k_pump_after_r4 false) (.seq (.cond (.tmp 29) .skip (.exit 0)) (.seq (.block 1 (.seq (.reg k_pump_after_r5 false) (.reg k_pump_after_r6 false))) (.reg k_pump_after_r7 false))))
def k_pump_after_r9 : List AOper := [
  ⟨some 35, .fieldAddr 9 (.tmp 7), none, []⟩,
 ⟨some 36, .load (some (5)) (.tmp 35), none, []⟩,
 ⟨none, .store 5 (.tmp 6) (.tmp 36), none, []⟩]
def k_pump_after : AFun := { params := 3, ntmps := 37, body := (.seq (.reg k_pump_after_r0 false) (.seq (.reg k_pump_after_r1 true) (.seq (.reg k_pump_after_r2 false) (.seq (.seq (.reg k_pump_after_r3 false) (.block 0 (.loop k_pump_after_r8))) (.seq (.reg k_pump_after_r9 false) .ret))))), res := [.cell 6 (some ((some (5))))] }
theorem k_pump_after_ok : cfun Try.prog Try.f102 = k_pump_after := by kernel_rfl

def k_pump_checkRun_r0 : List AOper := [
  ⟨some 2, .box (.tmp 0), none, []⟩,
 ⟨some 4, .move (.const (.int .i64 0)), none, []⟩]
def k_pump_checkRun_r1 : List AOper := [
  ⟨some 10, .load (some (5)) (.tmp 2), none, []⟩,
 ⟨some 11, .call (.const (.fn (.func 25) [] [])) [.tmp 10], none, []⟩,
 ⟨some 5, .move (.tmp 11), none, []⟩]
def k_pump_checkRun_r2 : List AOper := [
  ⟨some 12, .move (.tmp 5), none, []⟩,
 ⟨some 13, .bin .plain .neq (.tmp 12) (.const (.int .i64 0)), none, []⟩]
def k_pump_checkRun_r3 : List AOper := [
  ⟨some 14, .move (.tmp 5), none, []⟩,
 ⟨some 4, .move (.tmp 14), none, []⟩]
def k_pump_checkRun_r4 : List AOper := [
  ⟨some 15, .move (.tmp 1), none, []⟩,
 ⟨some 16, .len false (.tmp 15), none, []⟩,
 ⟨some 17, .bin .plain .gtr (.tmp 16) (.const (.int .i64 20)), none, []⟩]
def k_pump_checkRun_r5 : List AOper := [
  ⟨some 4, .move (.const (.int .i64 8)), none, []⟩]
def k_pump_checkRun_r6 : List AOper := [
  ⟨some 6, .move (.const (.int .i64 0)), none, []⟩]
def k_pump_checkRun_r7 : List AOper := [
  ⟨some 18, .move (.tmp 1), none, []⟩,
 ⟨some 19, .len false (.tmp 18), none, []⟩,
 ⟨some 20, .move (.const (.int .i64 0)), none, []⟩]
def k_pump_checkRun_r8 : List AOper := [
  ⟨some 21, .bin .plain .lss (.tmp 20) (.tmp 19), none, []⟩]
def k_pump_checkRun_r9 : List AOper := [
  ⟨some 22, .indexAddr 4 (.tmp 18) (.tmp 20), none, []⟩,
 ⟨some 23, .load (some (4)) (.tmp 22), none, []⟩,
 ⟨some 8, .box (.const (.agg [.int .i64 0, .int .i64 0, .nilsl, .bool false])), none, []⟩,
 ⟨none, .store 4 (.tmp 8) (.tmp 23), none, []⟩]
def k_pump_checkRun_r10 : List AOper := [
  ⟨some 24, .load (some (5)) (.tmp 2), none, []⟩,
 ⟨some 25, .load (some (4)) (.tmp 8), none, []⟩,
 ⟨some 26, .call (.const (.fn (.func 91) [] [])) [.tmp 24, .tmp 25], none, []⟩,
 ⟨some 9, .move (.tmp 26), none, []⟩]
def k_pump_checkRun_r11 : List AOper := [
  ⟨some 27, .move (.tmp 9), none, []⟩,
 ⟨some 28, .bin .plain .neq (.tmp 27) (.const (.int .i64 0)), none, []⟩]
def k_pump_checkRun_r12 : List AOper := [
  ⟨some 29, .move (.tmp 9), none, []⟩,
 ⟨some 4, .move (.tmp 29), none, []⟩]
def k_pump_checkRun_r13 : List AOper := [
  ⟨some 30, .move (.tmp 6), none, []⟩,
 ⟨some 31, .fieldAddr 0 (.tmp 8), none, []⟩,
 ⟨some 32, .load none (.tmp 31), none, []⟩,
 ⟨some 33, .bin .plain .add (.tmp 30) (.tmp 32), none, []⟩,
 ⟨some 6, .move (.tmp 33), none, []⟩]
def k_pump_checkRun_r14 : List AOper := [
  ⟨some 34, .bin .plain .add (.tmp 20) (.const (.int .i64 1)), none, []⟩,
 ⟨some 20, .move (.tmp 34), none, []⟩]
def k_pump_checkRun_r15 : ACode := (.seq (.reg k_pump_checkRun_r8 false) (.seq (.cond (.tmp 21) .skip (.exit 0)) (.seq (.block 1 (.seq (.reg k_pump_checkRun_r9 false) (.seq (.seq (.reg k_pump_checkRun_r10 false) (.seq (.reg k_pump_checkRun_r11 false) (.cond (.tmp 28) (.seq (.reg k_pump_checkRun_r12 false) .ret) .skip))) (.reg k_pump_checkRun_r13 false)))) (.reg k_pump_checkRun_r14 false))))
def k_pump_checkRun_r16 : List AOper := [
  ⟨some 35, .move (.tmp 6), none, []⟩,
 ⟨some 36, .bin .plain .gtr (.tmp 35) (.const (.int .i64 2000)), none, []⟩]
def k_pump_checkRun_r17 : List AOper := [
  ⟨some 4, .move (.const (.int .i64 14)), none, []⟩]
def k_pump_checkRun_r18 : List AOper := [
  ⟨some 4, .move (.const (.int .i64 0)), none, []⟩]
def k_pump_checkRun : AFun := { params := 2, ntmps := 37, body := (.seq (.reg k_pump_checkRun_r0 false) (.seq (.seq (.reg k_pump_checkRun_r1 false) (.seq (.reg k_pump_checkRun_r2 false) (.cond (.tmp 13) (.seq (.reg k_pump_checkRun_r3 false) .ret) .skip))) (.seq (.seq (.reg k_pump_checkRun_r4 false) (.cond (.tmp 17) (.seq (.reg k_pump_checkRun_r5 false) .ret) .skip)) (.seq (.reg k_pump_checkRun_r6 false) (.seq (.seq (.reg k_pump_checkRun_r7 false) (.block 0 (.loop k_pump_checkRun_r15))) (.seq (.seq (.reg k_pump_checkRun_r16 false) (.cond (.tmp 36) (.seq (.reg k_pump_checkRun_r17 false) .ret) .skip)) (.seq (.reg k_pump_checkRun_r18 false) .ret))))))), res := [.tmp 4] }
theorem k_pump_checkRun_ok : cfun Try.prog Try.f104 = k_pump_checkRun := by kernel_rfl

def k_pump_last_r0 : List AOper := [
  ⟨some 2, .box (.tmp 0), none, []⟩,
 ⟨some 4, .box (.const (.agg [.nilsl, .nilsl, .nilsl, .int .i64 0, .bool false])), none, []⟩]
def k_pump_last_r1 : List AOper := [
  ⟨some 5, .box (.const (.agg [.nilsl, .nilsl, .nilsl, .int .i64 0, .bool false])), none, []⟩]
def k_pump_last_r2 : List AOper := [
  ⟨some 8, .load (some (5)) (.tmp 2), none, []⟩,
 ⟨some 9, .load (some (5)) (.tmp 2), none, [0]⟩,
 ⟨some 10, .call (.const (.fn (.func 81) [] [])) [.tmp 9], none, [0]⟩,
 ⟨some 11, .move (.tmp 1), none, [0, 1, 2]⟩,
 ⟨some 12, .call (.const (.fn (.func 108) [] [])) [.tmp 8, .tmp 10, .tmp 11], none, []⟩]
def k_pump_last_r2s : List (List AOper) := [
  [
  ⟨some 8, .load (some (5)) (.tmp 2), none, []⟩,
 ⟨some 9, .load (some (5)) (.tmp 2), none, [0]⟩,
 ⟨some 10, .call (.const (.fn (.func 81) [] [])) [.tmp 9], none, [0]⟩,
 ⟨some 11, .move (.tmp 1), none, [0, 1, 2]⟩], 
  [
  ⟨some 12, .call (.const (.fn (.func 108) [] [])) [.tmp 8, .tmp 10, .tmp 11], none, []⟩]]
theorem k_pump_last_r2_sg : segs k_pump_last_r2 = k_pump_last_r2s := by kernel_rfl
theorem k_pump_last_r2_st : statOK k_pump_last_r2 = true := by kernel_rfl
def k_pump_last_r3 : List AOper := [
  ⟨some 7, .box (.const (.agg [.nilsl, .nilsl, .nilsl, .int .i64 0, .bool false])), none, []⟩,
 ⟨none, .store 5 (.tmp 7) (.tmp 14), none, []⟩]
def k_pump_last_r4 : List AOper := [
  ⟨some 15, .load (some (5)) (.tmp 7), none, []⟩,
 ⟨none, .store 5 (.tmp 5) (.tmp 15), none, []⟩]
def k_pump_last_r5 : ACode := (.reg k_pump_last_r3 false)
def k_pump_last_r6 : ACode := (.block 1 (.reg k_pump_last_r4 false))
def k_pump_last_r7 : List AOper := [
  ⟨some 16, .load (some (5)) (.tmp 5), none, []⟩,
 ⟨none, .store 5 (.tmp 4) (.tmp 16), none, []⟩]
def k_pump_last : AFun := { params := 2, ntmps := 17, body := (.seq (.reg k_pump_last_r0 false) (.seq (.reg k_pump_last_r1 false) (.seq (.seq (.reg k_pump_last_r2 true) (.block 0 (.rng (.tmp 12) [13, 14] k_pump_last_r5 k_pump_last_r6))) (.seq (.reg k_pump_last_r7 false) .ret)))), res := [.cell 4 (some ((some (5))))] }
theorem k_pump_last_ok : cfun Try.prog Try.f105 = k_pump_last := by kernel_rfl

def k_pump_ticks_r0 : List AOper := [
  ⟨some 3, .box (.tmp 0), none, []⟩,
 ⟨some 4, .box (.tmp 1), none, []⟩,
 ⟨some 5, .box (.tmp 2), none, []⟩,
 ⟨some 6, .move (.const (.nilfn)), none, []⟩]
def k_pump_ticks_r1 : List AOper := [
  ⟨some 7, .makeFunc (.func 142) [] [.tmp 4, .tmp 5, .tmp 3], none, []⟩,
 ⟨some 6, .move (.tmp 7), none, []⟩]
def k_pump_ticks : AFun := { params := 3, ntmps := 8, body := (.seq (.reg k_pump_ticks_r0 false) (.seq (.reg k_pump_ticks_r1 false) .ret)), res := [.tmp 6] }
theorem k_pump_ticks_ok : cfun Try.prog Try.f108 = k_pump_ticks := by kernel_rfl

def k_pump_checkNumbers_r0 : List AOper := [
  ⟨some 4, .move (.const (.int .i64 0)), none, []⟩]
def k_pump_checkNumbers_r1 : List AOper := [
  ⟨some 7, .move (.tmp 0), none, []⟩,
 ⟨some 8, .len false (.tmp 7), none, []⟩,
 ⟨some 9, .move (.const (.int .i64 0)), none, []⟩]
def k_pump_checkNumbers_r2 : List AOper := [
  ⟨some 10, .bin .plain .lss (.tmp 9) (.tmp 8), none, []⟩]
def k_pump_checkNumbers_r3 : List AOper := [
  ⟨some 11, .move (.tmp 9), none, []⟩,
 ⟨some 12, .indexAddr 1 (.tmp 7) (.tmp 9), none, []⟩,
 ⟨some 13, .load none (.tmp 12), none, []⟩,
 ⟨some 5, .move (.tmp 11), none, []⟩,
 ⟨some 6, .move (.tmp 13), none, []⟩]
def k_pump_checkNumbers_r4 : List AOper := [
  ⟨some 14, .move (.tmp 6), none, []⟩,
 ⟨some 15, .move (.tmp 1), none, []⟩,
 ⟨some 16, .bin .plain .sub (.tmp 15) (.const (.int .i64 1)), none, []⟩,
 ⟨some 17, .call (.const (.fn (.func 99) [] [])) [.tmp 14, .const (.int .i64 0), .tmp 16], none, []⟩,
 ⟨some 18, .not (.tmp 17), none, []⟩]
def k_pump_checkNumbers_r5 : List AOper := [
  ⟨some 4, .move (.const (.int .i64 7)), none, []⟩]
def k_pump_checkNumbers_r6 : List AOper := [
  ⟨some 19, .move (.tmp 5), none, []⟩,
 ⟨some 20, .bin .plain .gtr (.tmp 19) (.const (.int .i64 0)), none, []⟩,
 ⟨some 21, .move (.tmp 20), none, []⟩,
 ⟨some 22, .move (.tmp 6), (some (21, true)), []⟩,
 ⟨some 23, .move (.tmp 0), (some (21, true)), []⟩,
 ⟨some 24, .move (.tmp 5), (some (21, true)), []⟩,
 ⟨some 25, .bin .plain .sub (.tmp 24) (.const (.int .i64 1)), (some (21, true)), []⟩,
 ⟨some 26, .indexAddr 1 (.tmp 23) (.tmp 25), (some (21, true)), []⟩,
 ⟨some 27, .load none (.tmp 26), (some (21, true)), []⟩,
 ⟨some 28, .bin .plain .leq (.tmp 22) (.tmp 27), (some (21, true)), []⟩,
 ⟨some 29, .pick (.tmp 21) (.tmp 28) (.const (.bool false)), none, []⟩]
def k_pump_checkNumbers_r7 : List AOper := [
  ⟨some 4, .move (.const (.int .i64 11)), none, []⟩]
def k_pump_checkNumbers_r8 : List AOper := [
  ⟨some 30, .bin .plain .add (.tmp 9) (.const (.int .i64 1)), none, []⟩,
 ⟨some 9, .move (.tmp 30), none, []⟩]
def k_pump_checkNumbers_r9 : ACode := (.seq (.reg k_pump_checkNumbers_r2 false) (.seq (.cond (.tmp 10) .skip (.exit 0)) (.seq (.block 1 (.seq (.reg k_pump_checkNumbers_r3 false) (.seq (.seq (.reg k_pump_checkNumbers_r4 false) (.cond (.tmp 18) (.seq (.reg k_pump_checkNumbers_r5 false) .ret) .skip)) (.seq (.reg k_pump_checkNumbers_r6 false) (.cond (.tmp 29) (.seq (.reg k_pump_checkNumbers_r7 false) .ret) .skip))))) (.reg k_pump_checkNumbers_r8 false))))
def k_pump_checkNumbers_r10 : List AOper := [
  ⟨some 4, .move (.const (.int .i64 0)), none, []⟩]
def k_pump_checkNumbers : AFun := { params := 2, ntmps := 31, body := (.seq (.reg k_pump_checkNumbers_r0 false) (.seq (.seq (.reg k_pump_checkNumbers_r1 false) (.block 0 (.loop k_pump_checkNumbers_r9))) (.seq (.reg k_pump_checkNumbers_r10 false) .ret))), res := [.tmp 4] }
theorem k_pump_checkNumbers_ok : cfun Try.prog Try.f109 = k_pump_checkNumbers := by kernel_rfl

def k_pump_newHunter_r0 : List AOper := [
  ⟨some 1, .box (.tmp 0), none, []⟩,
 ⟨some 2, .box (.const (.agg [.nilsl, .nilsl, .nilmap])), none, []⟩]
def k_pump_newHunter_r1 : List AOper := [
  ⟨some 6, .makeMap .u16, none, []⟩,
 ⟨some 7, .build [.nilsl, .nilsl, .nilmap] [(2, 1, .tmp 6)], none, []⟩,
 ⟨some 3, .box (.const (.agg [.nilsl, .nilsl, .nilmap])), none, []⟩,
 ⟨none, .store 3 (.tmp 3) (.tmp 7), none, []⟩]
def k_pump_newHunter_r2 : List AOper := [
  ⟨some 8, .fieldAddr 1 (.tmp 1), none, []⟩,
 ⟨some 9, .load none (.tmp 8), none, []⟩,
 ⟨some 10, .len false (.tmp 9), none, []⟩,
 ⟨some 11, .move (.const (.int .i64 0)), none, []⟩]
def k_pump_newHunter_r3 : List AOper := [
  ⟨some 12, .bin .plain .lss (.tmp 11) (.tmp 10), none, []⟩]
def k_pump_newHunter_r4 : List AOper := [
  ⟨some 13, .indexAddr 2 (.tmp 9) (.tmp 11), none, []⟩,
 ⟨some 14, .load (some (2)) (.tmp 13), none, []⟩,
 ⟨some 5, .box (.const (.agg [.nilsl, .int .i64 0])), none, []⟩,
 ⟨none, .store 2 (.tmp 5) (.tmp 14), none, []⟩]
def k_pump_newHunter_r5 : List AOper := [
  ⟨some 15, .fieldAddr 0 (.tmp 3), none, []⟩,
 ⟨some 16, .load none (.tmp 15), none, []⟩,
 ⟨some 17, .fieldAddr 0 (.tmp 5), none, [0, 1]⟩,
 ⟨some 18, .load none (.tmp 17), none, [0, 1]⟩,
 ⟨some 19, .call (.const (.fn (.func 112) [] [])) [.tmp 18], none, [0, 1]⟩,
 ⟨some 20, .buildSlice 1 [.tmp 19], none, [0, 1]⟩,
 ⟨some 21, .append 1 2 false (.tmp 16) (.tmp 20), none, []⟩,
 ⟨some 22, .fieldAddr 0 (.tmp 3), none, []⟩,
 ⟨none, .store 1 (.tmp 22) (.tmp 21), none, []⟩]
def k_pump_newHunter_r5s : List (List AOper) := [
  [
  ⟨some 15, .fieldAddr 0 (.tmp 3), none, []⟩,
 ⟨some 16, .load none (.tmp 15), none, []⟩,
 ⟨some 17, .fieldAddr 0 (.tmp 5), none, [0, 1]⟩,
 ⟨some 18, .load none (.tmp 17), none, [0, 1]⟩,
 ⟨some 19, .call (.const (.fn (.func 112) [] [])) [.tmp 18], none, [0, 1]⟩,
 ⟨some 20, .buildSlice 1 [.tmp 19], none, [0, 1]⟩], 
  [
  ⟨some 21, .append 1 2 false (.tmp 16) (.tmp 20), none, []⟩], 
  [
  ⟨some 22, .fieldAddr 0 (.tmp 3), none, []⟩], 
  [
  ⟨none, .store 1 (.tmp 22) (.tmp 21), none, []⟩]]
theorem k_pump_newHunter_r5_sg : segs k_pump_newHunter_r5 = k_pump_newHunter_r5s := by kernel_rfl
theorem k_pump_newHunter_r5_st : statOK k_pump_newHunter_r5 = true := by kernel_rfl
def k_pump_newHunter_r6 : List AOper := [
  ⟨some 23, .fieldAddr 1 (.tmp 3), none, []⟩,
 ⟨some 24, .load none (.tmp 23), none, []⟩,
 ⟨some 25, .fieldAddr 1 (.tmp 5), none, []⟩,
 ⟨some 26, .load none (.tmp 25), none, []⟩,
 ⟨some 27, .buildSlice 1 [.tmp 26], none, []⟩,
 ⟨some 28, .append 1 8 false (.tmp 24) (.tmp 27), none, []⟩,
 ⟨some 29, .fieldAddr 1 (.tmp 3), none, []⟩,
 ⟨none, .store 1 (.tmp 29) (.tmp 28), none, []⟩]
def k_pump_newHunter_r7 : List AOper := [
  ⟨some 30, .bin .plain .add (.tmp 11) (.const (.int .i64 1)), none, []⟩,
 ⟨some 11, .move (.tmp 30), none, []⟩]
def k_pump_newHunter_r8 : ACode := (.seq (.reg k_pump_newHunter_r3 false) (.seq (.cond (.tmp 12) .skip (.exit 0)) (.seq (.block 1 (.seq (.reg k_pump_newHunter_r4 false) (.seq (.reg k_pump_newHunter_r5 true) (.reg k_pump_newHunter_r6 false)))) (.reg k_pump_newHunter_r7 false))))
def k_pump_newHunter_r9 : List AOper := [
  ⟨some 31, .load (some (3)) (.tmp 3), none, []⟩,
 ⟨none, .store 3 (.tmp 2) (.tmp 31), none, []⟩]
def k_pump_newHunter : AFun := { params := 1, ntmps := 32, body := (.seq (.reg k_pump_newHunter_r0 false) (.seq (.reg k_pump_newHunter_r1 false) (.seq (.seq (.reg k_pump_newHunter_r2 false) (.block 0 (.loop k_pump_newHunter_r8))) (.seq (.reg k_pump_newHunter_r9 false) .ret)))), res := [.cell 2 (some ((some (3))))] }
theorem k_pump_newHunter_ok : cfun Try.prog Try.f110 = k_pump_newHunter := by kernel_rfl

def k_pump_hunter_plan_r0 : List AOper := [
  ⟨some 2, .box (.tmp 0), none, []⟩,
 ⟨some 4, .box (.const (.agg [.bool false, .int .i64 0, .int .i64 0])), none, []⟩]
def k_pump_hunter_plan_r1 : List AOper := [
  ⟨some 11, .move (.tmp 1), none, []⟩,
 ⟨some 12, .call (.const (.fn (.func 116) [] [])) [.tmp 11], none, []⟩]
def k_pump_hunter_plan_r2 : List AOper := [
  ⟨some 13, .build [.bool false, .int .i64 0, .int .i64 0] [(0, 1, .const (.bool true)), (2, 1, .const (.int .i64 (-1)))], none, []⟩,
 ⟨none, .store 3 (.tmp 4) (.tmp 13), none, []⟩]
def k_pump_hunter_plan_r3 : List AOper := [
  ⟨some 15, .fieldAddr 2 (.tmp 2), none, []⟩,
 ⟨some 16, .load none (.tmp 15), none, []⟩,
 ⟨some 17, .move (.tmp 1), none, []⟩,
 ⟨some 18, .lookup .u16 (.agg [.bool false, .int .i64 0, .int .i64 0]) true (.tmp 16) (.tmp 17), none, []⟩,
 ⟨some 14, .move (.tmp 18), none, []⟩,
 ⟨some 19, .extract (.tmp 14) 0, none, []⟩,
 ⟨some 20, .extract (.tmp 14) 1, none, []⟩,
 ⟨some 5, .box (.const (.agg [.bool false, .int .i64 0, .int .i64 0])), none, []⟩,
 ⟨none, .store 3 (.tmp 5) (.tmp 19), none, []⟩,
 ⟨some 6, .move (.tmp 20), none, []⟩]
def k_pump_hunter_plan_r4 : List AOper := [
  ⟨some 21, .move (.tmp 6), none, []⟩]
def k_pump_hunter_plan_r5 : List AOper := [
  ⟨some 22, .load (some (3)) (.tmp 5), none, []⟩,
 ⟨none, .store 3 (.tmp 4) (.tmp 22), none, []⟩]
def k_pump_hunter_plan_r6 : List AOper := [
  ⟨some 7, .box (.const (.agg [.bool false, .int .i64 0, .int .i64 0])), none, []⟩]
def k_pump_hunter_plan_r7 : List AOper := [
  ⟨some 23, .fieldAddr 0 (.tmp 2), none, []⟩,
 ⟨some 24, .load none (.tmp 23), none, []⟩,
 ⟨some 25, .len false (.tmp 24), none, []⟩,
 ⟨some 26, .move (.const (.int .i64 0)), none, []⟩]
def k_pump_hunter_plan_r8 : List AOper := [
  ⟨some 27, .bin .plain .lss (.tmp 26) (.tmp 25), none, []⟩]
def k_pump_hunter_plan_r9 : List AOper := [
  ⟨some 28, .move (.tmp 26), none, []⟩,
 ⟨some 8, .move (.tmp 28), none, []⟩]
def k_pump_hunter_plan_r10 : List AOper := [
  ⟨some 30, .load (some (3)) (.tmp 2), none, []⟩,
 ⟨some 31, .move (.tmp 8), none, []⟩,
 ⟨some 32, .move (.tmp 1), none, []⟩,
 ⟨some 33, .call (.const (.fn (.func 143) [] [])) [.tmp 30, .tmp 31, .tmp 32], none, []⟩,
 ⟨some 29, .move (.tmp 33), none, []⟩,
 ⟨some 34, .extract (.tmp 29) 0, none, []⟩,
 ⟨some 35, .extract (.tmp 29) 1, none, []⟩,
 ⟨some 9, .move (.tmp 34), none, []⟩,
 ⟨some 10, .move (.tmp 35), none, []⟩]
def k_pump_hunter_plan_r11 : List AOper := [
  ⟨some 36, .move (.tmp 10), none, []⟩,
 ⟨some 37, .move (.tmp 36), none, []⟩,
 ⟨some 38, .fieldAddr 0 (.tmp 7), (some (37, true)), []⟩,
 ⟨some 39, .load none (.tmp 38), (some (37, true)), []⟩,
 ⟨some 40, .not (.tmp 39), (some (37, true)), []⟩,
 ⟨some 41, .move (.tmp 40), (some (37, true)), []⟩,
 ⟨some 42, .move (.tmp 9), (some (41, false)), []⟩,
 ⟨some 43, .fieldAddr 1 (.tmp 7), (some (41, false)), []⟩,
 ⟨some 44, .load none (.tmp 43), (some (41, false)), []⟩,
 ⟨some 45, .bin .plain .lss (.tmp 42) (.tmp 44), (some (41, false)), []⟩,
 ⟨some 46, .pick (.tmp 41) (.const (.bool true)) (.tmp 45), (some (37, true)), []⟩,
 ⟨some 47, .pick (.tmp 37) (.tmp 46) (.const (.bool false)), none, []⟩]
def k_pump_hunter_plan_r12 : List AOper := [
  ⟨some 48, .move (.tmp 9), none, []⟩,
 ⟨some 49, .move (.tmp 8), none, []⟩,
 ⟨some 50, .build [.bool false, .int .i64 0, .int .i64 0] [(0, 1, .const (.bool true)), (1, 1, .tmp 48), (2, 1, .tmp 49)], none, []⟩,
 ⟨none, .store 3 (.tmp 7) (.tmp 50), none, []⟩]
def k_pump_hunter_plan_r13 : List AOper := [
  ⟨some 51, .bin .plain .add (.tmp 26) (.const (.int .i64 1)), none, []⟩,
 ⟨some 26, .move (.tmp 51), none, []⟩]
def k_pump_hunter_plan_r14 : ACode := (.seq (.reg k_pump_hunter_plan_r8 false) (.seq (.cond (.tmp 27) .skip (.exit 0)) (.seq (.block 1 (.seq (.reg k_pump_hunter_plan_r9 false) (.seq (.reg k_pump_hunter_plan_r10 false) (.seq (.reg k_pump_hunter_plan_r11 false) (.cond (.tmp 47) (.reg k_pump_hunter_plan_r12 false) .skip))))) (.reg k_pump_hunter_plan_r13 false))))
def k_pump_hunter_plan_r15 : List AOper := [
  ⟨some 52, .fieldAddr 2 (.tmp 2), none, []⟩,
 ⟨some 53, .load none (.tmp 52), none, []⟩,
 ⟨some 54, .move (.tmp 1), none, []⟩,
 ⟨some 55, .load (some (3)) (.tmp 7), none, []⟩,
 ⟨none, .mapUpdate .u16 (.tmp 53) (.tmp 54) (.tmp 55), none, []⟩]
def k_pump_hunter_plan_r16 : List AOper := [
  ⟨some 56, .load (some (3)) (.tmp 7), none, []⟩,
 ⟨none, .store 3 (.tmp 4) (.tmp 56), none, []⟩]
def k_pump_hunter_plan : AFun := { params := 2, ntmps := 57, body := (.seq (.reg k_pump_hunter_plan_r0 false) (.seq (.seq (.reg k_pump_hunter_plan_r1 false) (.cond (.tmp 12) (.seq (.reg k_pump_hunter_plan_r2 false) .ret) .skip)) (.seq (.seq (.reg k_pump_hunter_plan_r3 false) (.seq (.reg k_pump_hunter_plan_r4 false) (.cond (.tmp 21) (.seq (.reg k_pump_hunter_plan_r5 false) .ret) .skip))) (.seq (.reg k_pump_hunter_plan_r6 false) (.seq (.seq (.reg k_pump_hunter_plan_r7 false) (.block 0 (.loop k_pump_hunter_plan_r14))) (.seq (.reg k_pump_hunter_plan_r15 false) (.seq (.reg k_pump_hunter_plan_r16 false) .ret))))))), res := [.cell 4 (some ((some (3))))] }
theorem k_pump_hunter_plan_ok : cfun Try.prog Try.f111 = k_pump_hunter_plan := by kernel_rfl

def k_pump_setOf_r0 : List AOper := [
  ⟨some 2, .move (.const (.int .u16 0)), none, []⟩]
def k_pump_setOf_r1 : List AOper := [
  ⟨some 3, .move (.const (.int .u16 0)), none, []⟩]
def k_pump_setOf_r2 : List AOper := [
  ⟨some 6, .move (.tmp 0), none, []⟩,
 ⟨some 7, .len false (.tmp 6), none, []⟩,
 ⟨some 8, .move (.const (.int .i64 0)), none, []⟩]
def k_pump_setOf_r3 : List AOper := [
  ⟨some 9, .bin .plain .lss (.tmp 8) (.tmp 7), none, []⟩]
def k_pump_setOf_r4 : List AOper := [
  ⟨some 10, .indexAddr 1 (.tmp 6) (.tmp 8), none, []⟩,
 ⟨some 11, .load none (.tmp 10), none, []⟩,
 ⟨some 5, .move (.tmp 11), none, []⟩]
def k_pump_setOf_r5 : List AOper := [
  ⟨some 12, .move (.tmp 3), none, []⟩,
 ⟨some 13, .move (.tmp 5), none, []⟩,
 ⟨some 14, .bin .plain .shl (.const (.int .u16 1)) (.tmp 13), none, []⟩,
 ⟨some 15, .bin .plain .or (.tmp 12) (.tmp 14), none, []⟩,
 ⟨some 3, .move (.tmp 15), none, []⟩]
def k_pump_setOf_r6 : List AOper := [
  ⟨some 16, .bin .plain .add (.tmp 8) (.const (.int .i64 1)), none, []⟩,
 ⟨some 8, .move (.tmp 16), none, []⟩]
def k_pump_setOf_r7 : ACode := (.seq (.reg k_pump_setOf_r3 false) (.seq (.cond (.tmp 9) .skip (.exit 0)) (.seq (.block 1 (.seq (.reg k_pump_setOf_r4 false) (.reg k_pump_setOf_r5 false))) (.reg k_pump_setOf_r6 false))))
def k_pump_setOf_r8 : List AOper := [
  ⟨some 17, .move (.tmp 3), none, []⟩,
 ⟨some 2, .move (.tmp 17), none, []⟩]
def k_pump_setOf : AFun := { params := 1, ntmps := 18, body := (.seq (.reg k_pump_setOf_r0 false) (.seq (.reg k_pump_setOf_r1 false) (.seq (.seq (.reg k_pump_setOf_r2 false) (.block 0 (.loop k_pump_setOf_r7))) (.seq (.reg k_pump_setOf_r8 false) .ret)))), res := [.tmp 2] }
theorem k_pump_setOf_ok : cfun Try.prog Try.f112 = k_pump_setOf := by kernel_rfl

def k_pump_set_isOne_r0 : List AOper := [
  ⟨some 2, .move (.const (.bool false)), none, []⟩]
def k_pump_set_isOne_r1 : List AOper := [
  ⟨some 3, .move (.tmp 0), none, []⟩,
 ⟨some 4, .call (.const (.fn (.func 144) [] [])) [.tmp 3], none, []⟩,
 ⟨some 5, .bin .plain .eql (.tmp 4) (.const (.int .i64 1)), none, []⟩,
 ⟨some 2, .move (.tmp 5), none, []⟩]
def k_pump_set_isOne : AFun := { params := 1, ntmps := 6, body := (.seq (.reg k_pump_set_isOne_r0 false) (.seq (.reg k_pump_set_isOne_r1 false) .ret)), res := [.tmp 2] }
theorem k_pump_set_isOne_ok : cfun Try.prog Try.f116 = k_pump_set_isOne := by kernel_rfl

def k_pump_checkBands_r0 : List AOper := [
  ⟨some 2, .move (.const (.int .i64 0)), none, []⟩]
def k_pump_checkBands_r1 : List AOper := [
  ⟨some 6, .move (.tmp 0), none, []⟩,
 ⟨some 7, .len false (.tmp 6), none, []⟩,
 ⟨some 8, .bin .plain .gtr (.tmp 7) (.const (.int .i64 8)), none, []⟩]
def k_pump_checkBands_r2 : List AOper := [
  ⟨some 2, .move (.const (.int .i64 8)), none, []⟩]
def k_pump_checkBands_r3 : List AOper := [
  ⟨some 9, .move (.tmp 0), none, []⟩,
 ⟨some 10, .len false (.tmp 9), none, []⟩,
 ⟨some 11, .move (.const (.int .i64 0)), none, []⟩]
def k_pump_checkBands_r4 : List AOper := [
  ⟨some 12, .bin .plain .lss (.tmp 11) (.tmp 10), none, []⟩]
def k_pump_checkBands_r5 : List AOper := [
  ⟨some 13, .move (.tmp 11), none, []⟩,
 ⟨some 14, .indexAddr 3 (.tmp 9) (.tmp 11), none, []⟩,
 ⟨some 15, .load (some (3)) (.tmp 14), none, []⟩,
 ⟨some 4, .box (.const (.agg [.int .i64 0, .int .i64 0, .int .i64 0])), none, []⟩,
 ⟨some 3, .move (.tmp 13), none, []⟩,
 ⟨none, .store 3 (.tmp 4) (.tmp 15), none, []⟩]
def k_pump_checkBands_r6 : List AOper := [
  ⟨some 16, .fieldAddr 0 (.tmp 4), none, []⟩,
 ⟨some 17, .load none (.tmp 16), none, []⟩,
 ⟨some 18, .call (.const (.fn (.func 129) [] [])) [.tmp 17], none, []⟩,
 ⟨some 19, .not (.tmp 18), none, []⟩]
def k_pump_checkBands_r7 : List AOper := [
  ⟨some 2, .move (.const (.int .i64 2)), none, []⟩]
def k_pump_checkBands_r8 : List AOper := [
  ⟨some 20, .move (.tmp 3), none, []⟩,
 ⟨some 21, .bin .plain .gtr (.tmp 20) (.const (.int .i64 0)), none, []⟩,
 ⟨some 22, .move (.tmp 21), none, []⟩,
 ⟨some 23, .fieldAddr 0 (.tmp 4), (some (22, true)), []⟩,
 ⟨some 24, .load none (.tmp 23), (some (22, true)), []⟩,
 ⟨some 25, .move (.tmp 0), (some (22, true)), [3, 4]⟩,
 ⟨some 26, .move (.tmp 3), (some (22, true)), [3, 4, 5]⟩,
 ⟨some 27, .bin .plain .sub (.tmp 26) (.const (.int .i64 1)), (some (22, true)), [3, 4, 5]⟩,
 ⟨some 28, .indexAddr 3 (.tmp 25) (.tmp 27), (some (22, true)), [3, 4]⟩,
 ⟨some 29, .fieldAddr 0 (.tmp 28), (some (22, true)), [3, 4]⟩,
 ⟨some 30, .load none (.tmp 29), (some (22, true)), [3, 4]⟩,
 ⟨some 31, .bin .plain .leq (.tmp 24) (.tmp 30), (some (22, true)), []⟩,
 ⟨some 32, .pick (.tmp 22) (.tmp 31) (.const (.bool false)), none, []⟩]
def k_pump_checkBands_r8s : List (List AOper) := [
  [
  ⟨some 20, .move (.tmp 3), none, []⟩], 
  [
  ⟨some 21, .bin .plain .gtr (.tmp 20) (.const (.int .i64 0)), none, []⟩], 
  [
  ⟨some 22, .move (.tmp 21), none, []⟩], 
  [
  ⟨some 23, .fieldAddr 0 (.tmp 4), (some (22, true)), []⟩,
 ⟨some 24, .load none (.tmp 23), (some (22, true)), []⟩,
 ⟨some 25, .move (.tmp 0), (some (22, true)), [3, 4]⟩,
 ⟨some 26, .move (.tmp 3), (some (22, true)), [3, 4, 5]⟩,
 ⟨some 27, .bin .plain .sub (.tmp 26) (.const (.int .i64 1)), (some (22, true)), [3, 4, 5]⟩,
 ⟨some 28, .indexAddr 3 (.tmp 25) (.tmp 27), (some (22, true)), [3, 4]⟩,
 ⟨some 29, .fieldAddr 0 (.tmp 28), (some (22, true)), [3, 4]⟩,
 ⟨some 30, .load none (.tmp 29), (some (22, true)), [3, 4]⟩], 
  [
  ⟨some 31, .bin .plain .leq (.tmp 24) (.tmp 30), (some (22, true)), []⟩], 
  [
  ⟨some 32, .pick (.tmp 22) (.tmp 31) (.const (.bool false)), none, []⟩]]
theorem k_pump_checkBands_r8_sg : segs k_pump_checkBands_r8 = k_pump_checkBands_r8s := by kernel_rfl
theorem k_pump_checkBands_r8_st : statOK k_pump_checkBands_r8 = true := by kernel_rfl
def k_pump_checkBands_r9 : List AOper := [
  ⟨some 2, .move (.const (.int .i64 11)), none, []⟩]
def k_pump_checkBands_r10 : List AOper := [
  ⟨some 33, .fieldAddr 1 (.tmp 4), none, []⟩,
 ⟨some 34, .load (some (2)) (.tmp 33), none, []⟩,
 ⟨some 35, .buildSlice 2 [.tmp 34], none, []⟩,
 ⟨some 36, .call (.const (.fn (.func 97) [] [])) [.const (.int .i64 1000000), .tmp 35], none, []⟩,
 ⟨some 5, .move (.tmp 36), none, []⟩]
def k_pump_checkBands_r11 : List AOper := [
  ⟨some 37, .move (.tmp 5), none, []⟩,
 ⟨some 38, .bin .plain .neq (.tmp 37) (.const (.int .i64 0)), none, []⟩]
def k_pump_checkBands_r12 : List AOper := [
  ⟨some 39, .move (.tmp 5), none, []⟩,
 ⟨some 2, .move (.tmp 39), none, []⟩]
def k_pump_checkBands_r13 : List AOper := [
  ⟨some 40, .bin .plain .add (.tmp 11) (.const (.int .i64 1)), none, []⟩,
 ⟨some 11, .move (.tmp 40), none, []⟩]
def k_pump_checkBands_r14 : ACode := (.seq (.reg k_pump_checkBands_r4 false) (.seq (.cond (.tmp 12) .skip (.exit 0)) (.seq (.block 1 (.seq (.reg k_pump_checkBands_r5 false) (.seq (.seq (.reg k_pump_checkBands_r6 false) (.cond (.tmp 19) (.seq (.reg k_pump_checkBands_r7 false) .ret) .skip)) (.seq (.seq (.reg k_pump_checkBands_r8 true) (.cond (.tmp 32) (.seq (.reg k_pump_checkBands_r9 false) .ret) .skip)) (.seq (.reg k_pump_checkBands_r10 false) (.seq (.reg k_pump_checkBands_r11 false) (.cond (.tmp 38) (.seq (.reg k_pump_checkBands_r12 false) .ret) .skip))))))) (.reg k_pump_checkBands_r13 false))))
def k_pump_checkBands_r15 : List AOper := [
  ⟨some 2, .move (.const (.int .i64 0)), none, []⟩]
def k_pump_checkBands : AFun := { params := 1, ntmps := 41, body := (.seq (.reg k_pump_checkBands_r0 false) (.seq (.seq (.reg k_pump_checkBands_r1 false) (.cond (.tmp 8) (.seq (.reg k_pump_checkBands_r2 false) .ret) .skip)) (.seq (.seq (.reg k_pump_checkBands_r3 false) (.block 0 (.loop k_pump_checkBands_r14))) (.seq (.reg k_pump_checkBands_r15 false) .ret)))), res := [.tmp 2] }
theorem k_pump_checkBands_ok : cfun Try.prog Try.f122 = k_pump_checkBands := by kernel_rfl

def k_pump_checkAt_r0 : List AOper := [
  ⟨some 4, .box (.tmp 0), none, []⟩,
 ⟨some 6, .box (.tmp 2), none, []⟩,
 ⟨some 8, .move (.const (.int .i64 0)), none, []⟩]
def k_pump_checkAt_r1 : List AOper := [
  ⟨some 9, .load (some (5)) (.tmp 4), none, []⟩,
 ⟨some 10, .move (.tmp 1), none, []⟩,
 ⟨some 11, .call (.const (.fn (.func 93) [] [])) [.tmp 9, .tmp 10], none, []⟩,
 ⟨some 12, .not (.tmp 11), none, []⟩]
def k_pump_checkAt_r2 : List AOper := [
  ⟨some 8, .move (.const (.int .i64 7)), none, []⟩]
def k_pump_checkAt_r3 : List AOper := [
  ⟨some 13, .move (.tmp 3), none, []⟩,
 ⟨some 14, .load (some (2)) (.tmp 6), none, []⟩,
 ⟨some 15, .buildSlice 2 [.tmp 14], none, []⟩,
 ⟨some 16, .call (.const (.fn (.func 97) [] [])) [.tmp 13, .tmp 15], none, []⟩,
 ⟨some 8, .move (.tmp 16), none, []⟩]
def k_pump_checkAt : AFun := { params := 4, ntmps := 17, body := (.seq (.reg k_pump_checkAt_r0 false) (.seq (.seq (.reg k_pump_checkAt_r1 false) (.cond (.tmp 12) (.seq (.reg k_pump_checkAt_r2 false) .ret) .skip)) (.seq (.reg k_pump_checkAt_r3 false) .ret))), res := [.tmp 8] }
theorem k_pump_checkAt_ok : cfun Try.prog Try.f123 = k_pump_checkAt := by kernel_rfl

def k_pump_goingOut_r0 : List AOper := [
  ⟨some 2, .box (.tmp 0), none, []⟩,
 ⟨some 4, .move (.const (.nilmap)), none, []⟩]
def k_pump_goingOut_r1 : List AOper := [
  ⟨some 7, .makeMap .i64, none, []⟩,
 ⟨some 5, .box (.const (.nilmap)), none, []⟩,
 ⟨none, .store 1 (.tmp 5) (.tmp 7), none, []⟩]
def k_pump_goingOut_r2 : List AOper := [
  ⟨some 8, .load (some (5)) (.tmp 2), none, []⟩,
 ⟨some 9, .move (.tmp 1), none, []⟩,
 ⟨some 10, .call (.const (.fn (.func 146) [] [])) [.tmp 8, .tmp 9], none, []⟩]
def k_pump_goingOut_r3 : List AOper := [
  ⟨some 6, .box (.const (.agg [.int .i64 0, .int .i64 0, .int .i64 0, .int .i64 0])), none, []⟩,
 ⟨none, .store 4 (.tmp 6) (.tmp 11), none, []⟩]
def k_pump_goingOut_r4 : List AOper := [
  ⟨some 12, .load none (.tmp 5), none, []⟩,
 ⟨some 13, .fieldAddr 0 (.tmp 6), none, [0]⟩,
 ⟨some 14, .load none (.tmp 13), none, [0]⟩,
 ⟨some 15, .load none (.tmp 5), none, [0, 1, 2]⟩,
 ⟨some 16, .fieldAddr 0 (.tmp 6), none, [0, 1, 2, 3]⟩,
 ⟨some 17, .load none (.tmp 16), none, [0, 1, 2, 3]⟩,
 ⟨some 18, .lookup .i64 (.agg [.int .i64 0, .int .i64 0]) false (.tmp 15) (.tmp 17), none, [0, 1, 2]⟩,
 ⟨some 19, .fieldAddr 2 (.tmp 6), none, [0, 1, 2, 3, 4, 5, 6]⟩,
 ⟨some 20, .load (some (2)) (.tmp 19), none, [0, 1, 2, 3, 4, 5, 6]⟩,
 ⟨some 21, .call (.const (.fn (.func 147) [] [])) [.tmp 18, .tmp 20], none, [0, 1, 2]⟩,
 ⟨none, .mapUpdate .i64 (.tmp 12) (.tmp 14) (.tmp 21), none, []⟩]
def k_pump_goingOut_r4s : List (List AOper) := [
  [
  ⟨some 12, .load none (.tmp 5), none, []⟩,
 ⟨some 13, .fieldAddr 0 (.tmp 6), none, [0]⟩,
 ⟨some 14, .load none (.tmp 13), none, [0]⟩,
 ⟨some 15, .load none (.tmp 5), none, [0, 1, 2]⟩,
 ⟨some 16, .fieldAddr 0 (.tmp 6), none, [0, 1, 2, 3]⟩,
 ⟨some 17, .load none (.tmp 16), none, [0, 1, 2, 3]⟩,
 ⟨some 18, .lookup .i64 (.agg [.int .i64 0, .int .i64 0]) false (.tmp 15) (.tmp 17), none, [0, 1, 2]⟩,
 ⟨some 19, .fieldAddr 2 (.tmp 6), none, [0, 1, 2, 3, 4, 5, 6]⟩,
 ⟨some 20, .load (some (2)) (.tmp 19), none, [0, 1, 2, 3, 4, 5, 6]⟩,
 ⟨some 21, .call (.const (.fn (.func 147) [] [])) [.tmp 18, .tmp 20], none, [0, 1, 2]⟩], 
  [
  ⟨none, .mapUpdate .i64 (.tmp 12) (.tmp 14) (.tmp 21), none, []⟩]]
theorem k_pump_goingOut_r4_sg : segs k_pump_goingOut_r4 = k_pump_goingOut_r4s := by kernel_rfl
theorem k_pump_goingOut_r4_st : statOK k_pump_goingOut_r4 = true := by kernel_rfl
def k_pump_goingOut_r5 : ACode := (.reg k_pump_goingOut_r3 false)
def k_pump_goingOut_r6 : ACode := (.block 1 (.reg k_pump_goingOut_r4 true))
def k_pump_goingOut_r7 : List AOper := [
  ⟨some 22, .load none (.tmp 5), none, []⟩,
 ⟨some 4, .move (.tmp 22), none, []⟩]
def k_pump_goingOut : AFun := { params := 2, ntmps := 23, body := (.seq (.reg k_pump_goingOut_r0 false) (.seq (.reg k_pump_goingOut_r1 false) (.seq (.seq (.reg k_pump_goingOut_r2 false) (.block 0 (.rng (.tmp 10) [11] k_pump_goingOut_r5 k_pump_goingOut_r6))) (.seq (.reg k_pump_goingOut_r7 false) .ret)))), res := [.tmp 4] }
theorem k_pump_goingOut_ok : cfun Try.prog Try.f124 = k_pump_goingOut := by kernel_rfl

def k_pump_isHeat_r0 : List AOper := [
  ⟨some 2, .move (.const (.bool false)), none, []⟩]
def k_pump_isHeat_r1 : List AOper := [
  ⟨some 3, .move (.tmp 0), none, []⟩,
 ⟨some 4, .call (.const (.fn (.func 99) [] [])) [.tmp 3, .const (.int .i64 0), .const (.int .i64 2000)], none, []⟩,
 ⟨some 2, .move (.tmp 4), none, []⟩]
def k_pump_isHeat : AFun := { params := 1, ntmps := 5, body := (.seq (.reg k_pump_isHeat_r0 false) (.seq (.reg k_pump_isHeat_r1 false) .ret)), res := [.tmp 2] }
theorem k_pump_isHeat_ok : cfun Try.prog Try.f129 = k_pump_isHeat := by kernel_rfl

def k_slices_Clone_api_Range_api_Range_r0 : List AOper := [
  ⟨some 2, .move (.const (.nilsl)), none, []⟩]
def k_slices_Clone_api_Range_api_Range_r1 : List AOper := [
  ⟨some 3, .move (.tmp 0), none, []⟩,
 ⟨some 4, .bin .slice .eql (.tmp 3) (.const (.nilsl)), none, []⟩]
def k_slices_Clone_api_Range_api_Range_r2 : List AOper := [
  ⟨some 2, .move (.const (.nilsl)), none, []⟩]
def k_slices_Clone_api_Range_api_Range_r3 : List AOper := [
  ⟨some 5, .buildSlice 2 [], none, []⟩,
 ⟨some 6, .move (.tmp 0), none, []⟩,
 ⟨some 7, .append 2 16 true (.tmp 5) (.tmp 6), none, []⟩,
 ⟨some 2, .move (.tmp 7), none, []⟩]
def k_slices_Clone_api_Range_api_Range : AFun := { params := 1, ntmps := 8, body := (.seq (.reg k_slices_Clone_api_Range_api_Range_r0 false) (.seq (.seq (.reg k_slices_Clone_api_Range_api_Range_r1 false) (.cond (.tmp 4) (.seq (.reg k_slices_Clone_api_Range_api_Range_r2 false) .ret) .skip)) (.seq (.reg k_slices_Clone_api_Range_api_Range_r3 false) .ret))), res := [.tmp 2] }
theorem k_slices_Clone_api_Range_api_Range_ok : cfun Try.prog Try.f131 = k_slices_Clone_api_Range_api_Range := by kernel_rfl

def k_pump_tick_start_r0 : List AOper := [
  ⟨some 4, .move (.tmp 0), none, []⟩,
 ⟨some 5, .move (.tmp 0), none, []⟩,
 ⟨some 6, .nilCheck (.tmp 5), none, []⟩,
 ⟨some 7, .fieldAddr 9 (.tmp 6), none, []⟩,
 ⟨some 8, .fieldAddr 4 (.tmp 7), none, []⟩,
 ⟨some 9, .load none (.tmp 8), none, []⟩,
 ⟨some 10, .move (.tmp 9), none, []⟩,
 ⟨some 11, .move (.tmp 0), (some (10, false)), []⟩,
 ⟨some 12, .nilCheck (.tmp 11), (some (10, false)), []⟩,
 ⟨some 13, .fieldAddr 5 (.tmp 12), (some (10, false)), []⟩,
 ⟨some 14, .fieldAddr 3 (.tmp 13), (some (10, false)), []⟩,
 ⟨some 15, .load none (.tmp 14), (some (10, false)), []⟩,
 ⟨some 16, .pick (.tmp 10) (.const (.bool true)) (.tmp 15), none, []⟩,
 ⟨some 17, .nilCheck (.tmp 4), none, []⟩,
 ⟨some 18, .fieldAddr 9 (.tmp 17), none, []⟩,
 ⟨some 19, .fieldAddr 4 (.tmp 18), none, []⟩,
 ⟨none, .store 1 (.tmp 19) (.tmp 16), none, []⟩]
def k_pump_tick_start_r1 : List AOper := [
  ⟨some 20, .move (.tmp 0), none, []⟩,
 ⟨some 21, .nilCheck (.tmp 20), none, []⟩,
 ⟨some 22, .fieldAddr 0 (.tmp 21), none, []⟩,
 ⟨some 23, .fieldAddr 3 (.tmp 22), none, []⟩,
 ⟨some 24, .load none (.tmp 23), none, []⟩,
 ⟨some 25, .len false (.tmp 24), none, []⟩,
 ⟨some 26, .move (.const (.int .i64 0)), none, []⟩]
def k_pump_tick_start_r2 : List AOper := [
  ⟨some 27, .bin .plain .lss (.tmp 26) (.tmp 25), none, []⟩]
def k_pump_tick_start_r3 : List AOper := [
  ⟨some 28, .indexAddr 3 (.tmp 24) (.tmp 26), none, []⟩,
 ⟨some 29, .load (some (3)) (.tmp 28), none, []⟩,
 ⟨some 3, .box (.const (.agg [.int .i64 0, .int .i64 0, .int .i64 0])), none, []⟩,
 ⟨none, .store 3 (.tmp 3) (.tmp 29), none, []⟩]
def k_pump_tick_start_r4 : List AOper := [
  ⟨some 30, .move (.tmp 0), none, []⟩,
 ⟨some 31, .nilCheck (.tmp 30), none, []⟩,
 ⟨some 32, .fieldAddr 9 (.tmp 31), none, []⟩,
 ⟨some 33, .fieldAddr 3 (.tmp 32), none, []⟩,
 ⟨some 34, .load none (.tmp 33), none, []⟩,
 ⟨some 35, .fieldAddr 1 (.tmp 3), none, [0, 1, 2, 3, 4]⟩,
 ⟨some 36, .fieldAddr 1 (.tmp 35), none, [0, 1, 2, 3, 4]⟩,
 ⟨some 37, .load none (.tmp 36), none, [0, 1, 2, 3, 4]⟩,
 ⟨some 38, .bin .plain .add (.tmp 34) (.tmp 37), none, []⟩,
 ⟨some 39, .nilCheck (.tmp 30), none, []⟩,
 ⟨some 40, .fieldAddr 9 (.tmp 39), none, []⟩,
 ⟨some 41, .fieldAddr 3 (.tmp 40), none, []⟩,
 ⟨none, .store 1 (.tmp 41) (.tmp 38), none, []⟩]
def k_pump_tick_start_r4s : List (List AOper) := [
  [
  ⟨some 30, .move (.tmp 0), none, []⟩,
 ⟨some 31, .nilCheck (.tmp 30), none, []⟩,
 ⟨some 32, .fieldAddr 9 (.tmp 31), none, []⟩,
 ⟨some 33, .fieldAddr 3 (.tmp 32), none, []⟩,
 ⟨some 34, .load none (.tmp 33), none, []⟩,
 ⟨some 35, .fieldAddr 1 (.tmp 3), none, [0, 1, 2, 3, 4]⟩,
 ⟨some 36, .fieldAddr 1 (.tmp 35), none, [0, 1, 2, 3, 4]⟩,
 ⟨some 37, .load none (.tmp 36), none, [0, 1, 2, 3, 4]⟩], 
  [
  ⟨some 38, .bin .plain .add (.tmp 34) (.tmp 37), none, []⟩], 
  [
  ⟨some 39, .nilCheck (.tmp 30), none, []⟩], 
  [
  ⟨some 40, .fieldAddr 9 (.tmp 39), none, []⟩], 
  [
  ⟨some 41, .fieldAddr 3 (.tmp 40), none, []⟩], 
  [
  ⟨none, .store 1 (.tmp 41) (.tmp 38), none, []⟩]]
theorem k_pump_tick_start_r4_sg : segs k_pump_tick_start_r4 = k_pump_tick_start_r4s := by kernel_rfl
theorem k_pump_tick_start_r4_st : statOK k_pump_tick_start_r4 = true := by kernel_rfl
def k_pump_tick_start_r5 : List AOper := [
  ⟨some 42, .bin .plain .add (.tmp 26) (.const (.int .i64 1)), none, []⟩,
 ⟨some 26, .move (.tmp 42), none, []⟩]
def k_pump_tick_start_r6 : ACode := (.seq (.reg k_pump_tick_start_r2 false) (.seq (.cond (.tmp 27) .skip (.exit 0)) (.seq (.block 1 (.seq (.reg k_pump_tick_start_r3 false) (.reg k_pump_tick_start_r4 true))) (.reg k_pump_tick_start_r5 false))))
def k_pump_tick_start_r7 : List AOper := [
  ⟨some 43, .move (.tmp 0), none, []⟩,
 ⟨some 44, .move (.tmp 0), none, []⟩,
 ⟨some 45, .nilCheck (.tmp 44), none, []⟩,
 ⟨some 46, .fieldAddr 9 (.tmp 45), none, []⟩,
 ⟨some 47, .fieldAddr 3 (.tmp 46), none, []⟩,
 ⟨some 48, .load none (.tmp 47), none, []⟩,
 ⟨some 49, .minmax false [.tmp 48, .const (.int .i64 68719476736)], none, []⟩,
 ⟨some 50, .nilCheck (.tmp 43), none, []⟩,
 ⟨some 51, .fieldAddr 9 (.tmp 50), none, []⟩,
 ⟨some 52, .fieldAddr 3 (.tmp 51), none, []⟩,
 ⟨none, .store 1 (.tmp 52) (.tmp 49), none, []⟩]
def k_pump_tick_start : AFun := { params := 1, ntmps := 53, body := (.seq (.reg k_pump_tick_start_r0 false) (.seq (.seq (.reg k_pump_tick_start_r1 false) (.block 0 (.loop k_pump_tick_start_r6))) (.reg k_pump_tick_start_r7 false))), res := [] }
theorem k_pump_tick_start_ok : cfun Try.prog Try.f132 = k_pump_tick_start := by kernel_rfl

def k_pump_tick_release_r0 : List AOper := [
  ⟨some 6, .move (.tmp 0), none, []⟩,
 ⟨some 7, .nilCheck (.tmp 6), none, []⟩,
 ⟨some 8, .fieldAddr 0 (.tmp 7), none, []⟩,
 ⟨some 9, .fieldAddr 0 (.tmp 8), none, []⟩,
 ⟨some 10, .load none (.tmp 9), none, []⟩,
 ⟨some 11, .len false (.tmp 10), none, []⟩,
 ⟨some 12, .move (.const (.int .i64 0)), none, []⟩]
def k_pump_tick_release_r1 : List AOper := [
  ⟨some 13, .bin .plain .lss (.tmp 12) (.tmp 11), none, []⟩]
def k_pump_tick_release_r2 : List AOper := [
  ⟨some 14, .move (.tmp 12), none, []⟩,
 ⟨some 15, .indexAddr 6 (.tmp 10) (.tmp 12), none, []⟩,
 ⟨some 16, .load (some (6)) (.tmp 15), none, []⟩,
 ⟨some 3, .box (.const (.agg [.int .i64 0, .int .i64 0, .int .i64 0, .int .i64 0, .int .i64 0, .nilsl])), none, []⟩,
 ⟨some 2, .move (.tmp 14), none, []⟩,
 ⟨none, .store 6 (.tmp 3) (.tmp 16), none, []⟩]
def k_pump_tick_release_r3 : List AOper := [
  ⟨some 17, .fieldAddr 5 (.tmp 3), none, []⟩,
 ⟨some 18, .load none (.tmp 17), none, []⟩,
 ⟨some 19, .move (.tmp 0), none, [0, 1]⟩,
 ⟨some 20, .nilCheck (.tmp 19), none, [0, 1]⟩,
 ⟨some 21, .fieldAddr 5 (.tmp 20), none, [0, 1]⟩,
 ⟨some 22, .fieldAddr 1 (.tmp 21), none, [0, 1]⟩,
 ⟨some 23, .load none (.tmp 22), none, [0, 1]⟩,
 ⟨some 24, .call (.const (.fn (.func 148) [] [])) [.tmp 18, .tmp 23], none, []⟩,
 ⟨some 25, .move (.tmp 0), none, [0, 1, 2, 3, 4, 5, 6, 7]⟩,
 ⟨some 26, .nilCheck (.tmp 25), none, [0, 1, 2, 3, 4, 5, 6, 7]⟩,
 ⟨some 27, .fieldAddr 9 (.tmp 26), none, [0, 1, 2, 3, 4, 5, 6, 7]⟩,
 ⟨some 28, .fieldAddr 1 (.tmp 27), none, [0, 1, 2, 3, 4, 5, 6, 7]⟩,
 ⟨some 29, .load none (.tmp 28), none, [0, 1, 2, 3, 4, 5, 6, 7]⟩,
 ⟨some 30, .move (.tmp 2), none, [0, 1, 2, 3, 4, 5, 6, 7, 8, 9, 10, 11, 12]⟩,
 ⟨some 31, .indexAddr 2 (.tmp 29) (.tmp 30), none, [0, 1, 2, 3, 4, 5, 6, 7]⟩,
 ⟨some 32, .load (some (2)) (.tmp 31), none, [0, 1, 2, 3, 4, 5, 6, 7]⟩,
 ⟨some 4, .box (.const (.agg [.int .i64 0, .int .i64 0])), none, [0, 1, 2, 3, 4, 5, 6, 7, 8, 9, 10, 11, 12, 13, 14, 15]⟩,
 ⟨some 5, .box (.const (.agg [.int .i64 0, .int .i64 0])), none, [0, 1, 2, 3, 4, 5, 6, 7, 8, 9, 10, 11, 12, 13, 14, 15, 16]⟩,
 ⟨none, .store 2 (.tmp 4) (.tmp 24), none, [8, 9, 10, 11, 12, 13, 14, 15]⟩,
 ⟨none, .store 2 (.tmp 5) (.tmp 32), none, []⟩]
def k_pump_tick_release_r3s : List (List AOper) := [
  [
  ⟨some 17, .fieldAddr 5 (.tmp 3), none, []⟩,
 ⟨some 18, .load none (.tmp 17), none, []⟩,
 ⟨some 19, .move (.tmp 0), none, [0, 1]⟩,
 ⟨some 20, .nilCheck (.tmp 19), none, [0, 1]⟩,
 ⟨some 21, .fieldAddr 5 (.tmp 20), none, [0, 1]⟩,
 ⟨some 22, .fieldAddr 1 (.tmp 21), none, [0, 1]⟩,
 ⟨some 23, .load none (.tmp 22), none, [0, 1]⟩,
 ⟨some 24, .call (.const (.fn (.func 148) [] [])) [.tmp 18, .tmp 23], none, []⟩,
 ⟨some 25, .move (.tmp 0), none, [0, 1, 2, 3, 4, 5, 6, 7]⟩,
 ⟨some 26, .nilCheck (.tmp 25), none, [0, 1, 2, 3, 4, 5, 6, 7]⟩,
 ⟨some 27, .fieldAddr 9 (.tmp 26), none, [0, 1, 2, 3, 4, 5, 6, 7]⟩,
 ⟨some 28, .fieldAddr 1 (.tmp 27), none, [0, 1, 2, 3, 4, 5, 6, 7]⟩,
 ⟨some 29, .load none (.tmp 28), none, [0, 1, 2, 3, 4, 5, 6, 7]⟩,
 ⟨some 30, .move (.tmp 2), none, [0, 1, 2, 3, 4, 5, 6, 7, 8, 9, 10, 11, 12]⟩,
 ⟨some 31, .indexAddr 2 (.tmp 29) (.tmp 30), none, [0, 1, 2, 3, 4, 5, 6, 7]⟩,
 ⟨some 32, .load (some (2)) (.tmp 31), none, [0, 1, 2, 3, 4, 5, 6, 7]⟩,
 ⟨some 4, .box (.const (.agg [.int .i64 0, .int .i64 0])), none, [0, 1, 2, 3, 4, 5, 6, 7, 8, 9, 10, 11, 12, 13, 14, 15]⟩,
 ⟨some 5, .box (.const (.agg [.int .i64 0, .int .i64 0])), none, [0, 1, 2, 3, 4, 5, 6, 7, 8, 9, 10, 11, 12, 13, 14, 15, 16]⟩,
 ⟨none, .store 2 (.tmp 4) (.tmp 24), none, [8, 9, 10, 11, 12, 13, 14, 15]⟩], 
  [
  ⟨none, .store 2 (.tmp 5) (.tmp 32), none, []⟩]]
theorem k_pump_tick_release_r3_sg : segs k_pump_tick_release_r3 = k_pump_tick_release_r3s := by kernel_rfl
theorem k_pump_tick_release_r3_st : statOK k_pump_tick_release_r3 = true := by kernel_rfl
def k_pump_tick_release_r4 : List AOper := [
  ⟨some 33, .move (.tmp 0), none, []⟩,
 ⟨some 34, .nilCheck (.tmp 33), none, []⟩,
 ⟨some 35, .fieldAddr 9 (.tmp 34), none, []⟩,
 ⟨some 36, .fieldAddr 0 (.tmp 35), none, []⟩,
 ⟨some 37, .load none (.tmp 36), none, []⟩,
 ⟨some 38, .move (.tmp 2), none, [0, 1, 2, 3, 4]⟩,
 ⟨some 39, .move (.tmp 0), none, [0, 1, 2, 3, 4, 5]⟩,
 ⟨some 40, .nilCheck (.tmp 39), none, [0, 1, 2, 3, 4, 5]⟩,
 ⟨some 41, .fieldAddr 9 (.tmp 40), none, [0, 1, 2, 3, 4, 5]⟩,
 ⟨some 42, .fieldAddr 0 (.tmp 41), none, [0, 1, 2, 3, 4, 5]⟩,
 ⟨some 43, .load none (.tmp 42), none, [0, 1, 2, 3, 4, 5]⟩,
 ⟨some 44, .move (.tmp 2), none, [0, 1, 2, 3, 4, 5, 6, 7, 8, 9, 10]⟩,
 ⟨some 45, .indexAddr 2 (.tmp 43) (.tmp 44), none, [0, 1, 2, 3, 4, 5]⟩,
 ⟨some 46, .load (some (2)) (.tmp 45), none, [0, 1, 2, 3, 4, 5]⟩,
 ⟨some 47, .load (some (2)) (.tmp 5), none, [0, 1, 2, 3, 4, 5, 6, 7, 8, 9, 10, 11, 12, 13]⟩,
 ⟨some 48, .load (some (2)) (.tmp 4), none, [0, 1, 2, 3, 4, 5, 6, 7, 8, 9, 10, 11, 12, 13, 14]⟩,
 ⟨some 49, .call (.const (.fn (.func 150) [] [])) [.tmp 47, .tmp 48], none, [0, 1, 2, 3, 4, 5, 6, 7, 8, 9, 10, 11, 12, 13]⟩,
 ⟨some 50, .call (.const (.fn (.func 149) [] [])) [.tmp 49], none, [0, 1, 2, 3, 4, 5, 6, 7, 8, 9, 10, 11, 12, 13]⟩,
 ⟨some 51, .call (.const (.fn (.func 147) [] [])) [.tmp 46, .tmp 50], none, [0, 1, 2, 3, 4, 5]⟩,
 ⟨some 52, .indexAddr 2 (.tmp 37) (.tmp 38), none, []⟩,
 ⟨none, .store 2 (.tmp 52) (.tmp 51), none, []⟩]
def k_pump_tick_release_r4s : List (List AOper) := [
  [
  ⟨some 33, .move (.tmp 0), none, []⟩,
 ⟨some 34, .nilCheck (.tmp 33), none, []⟩,
 ⟨some 35, .fieldAddr 9 (.tmp 34), none, []⟩,
 ⟨some 36, .fieldAddr 0 (.tmp 35), none, []⟩,
 ⟨some 37, .load none (.tmp 36), none, []⟩,
 ⟨some 38, .move (.tmp 2), none, [0, 1, 2, 3, 4]⟩,
 ⟨some 39, .move (.tmp 0), none, [0, 1, 2, 3, 4, 5]⟩,
 ⟨some 40, .nilCheck (.tmp 39), none, [0, 1, 2, 3, 4, 5]⟩,
 ⟨some 41, .fieldAddr 9 (.tmp 40), none, [0, 1, 2, 3, 4, 5]⟩,
 ⟨some 42, .fieldAddr 0 (.tmp 41), none, [0, 1, 2, 3, 4, 5]⟩,
 ⟨some 43, .load none (.tmp 42), none, [0, 1, 2, 3, 4, 5]⟩,
 ⟨some 44, .move (.tmp 2), none, [0, 1, 2, 3, 4, 5, 6, 7, 8, 9, 10]⟩,
 ⟨some 45, .indexAddr 2 (.tmp 43) (.tmp 44), none, [0, 1, 2, 3, 4, 5]⟩,
 ⟨some 46, .load (some (2)) (.tmp 45), none, [0, 1, 2, 3, 4, 5]⟩,
 ⟨some 47, .load (some (2)) (.tmp 5), none, [0, 1, 2, 3, 4, 5, 6, 7, 8, 9, 10, 11, 12, 13]⟩,
 ⟨some 48, .load (some (2)) (.tmp 4), none, [0, 1, 2, 3, 4, 5, 6, 7, 8, 9, 10, 11, 12, 13, 14]⟩,
 ⟨some 49, .call (.const (.fn (.func 150) [] [])) [.tmp 47, .tmp 48], none, [0, 1, 2, 3, 4, 5, 6, 7, 8, 9, 10, 11, 12, 13]⟩,
 ⟨some 50, .call (.const (.fn (.func 149) [] [])) [.tmp 49], none, [0, 1, 2, 3, 4, 5, 6, 7, 8, 9, 10, 11, 12, 13]⟩,
 ⟨some 51, .call (.const (.fn (.func 147) [] [])) [.tmp 46, .tmp 50], none, [0, 1, 2, 3, 4, 5]⟩], 
  [
  ⟨some 52, .indexAddr 2 (.tmp 37) (.tmp 38), none, []⟩], 
  [
  ⟨none, .store 2 (.tmp 52) (.tmp 51), none, []⟩]]
theorem k_pump_tick_release_r4_sg : segs k_pump_tick_release_r4 = k_pump_tick_release_r4s := by kernel_rfl
theorem k_pump_tick_release_r4_st : statOK k_pump_tick_release_r4 = true := by kernel_rfl
def k_pump_tick_release_r5 : List AOper := [
  ⟨some 53, .move (.tmp 0), none, []⟩,
 ⟨some 54, .nilCheck (.tmp 53), none, []⟩,
 ⟨some 55, .fieldAddr 9 (.tmp 54), none, []⟩,
 ⟨some 56, .fieldAddr 1 (.tmp 55), none, []⟩,
 ⟨some 57, .load none (.tmp 56), none, []⟩,
 ⟨some 58, .move (.tmp 2), none, [0, 1, 2, 3, 4]⟩,
 ⟨some 59, .load (some (2)) (.tmp 5), none, [0, 1, 2, 3, 4, 5]⟩,
 ⟨some 60, .load (some (2)) (.tmp 4), none, [0, 1, 2, 3, 4, 5, 6]⟩,
 ⟨some 61, .call (.const (.fn (.func 151) [] [])) [.tmp 60], none, [0, 1, 2, 3, 4, 5, 6]⟩,
 ⟨some 62, .call (.const (.fn (.func 150) [] [])) [.tmp 59, .tmp 61], none, [0, 1, 2, 3, 4, 5]⟩,
 ⟨some 63, .call (.const (.fn (.func 149) [] [])) [.tmp 62], none, [0, 1, 2, 3, 4, 5]⟩,
 ⟨some 64, .indexAddr 2 (.tmp 57) (.tmp 58), none, []⟩,
 ⟨none, .store 2 (.tmp 64) (.tmp 63), none, []⟩]
def k_pump_tick_release_r5s : List (List AOper) := [
  [
  ⟨some 53, .move (.tmp 0), none, []⟩,
 ⟨some 54, .nilCheck (.tmp 53), none, []⟩,
 ⟨some 55, .fieldAddr 9 (.tmp 54), none, []⟩,
 ⟨some 56, .fieldAddr 1 (.tmp 55), none, []⟩,
 ⟨some 57, .load none (.tmp 56), none, []⟩,
 ⟨some 58, .move (.tmp 2), none, [0, 1, 2, 3, 4]⟩,
 ⟨some 59, .load (some (2)) (.tmp 5), none, [0, 1, 2, 3, 4, 5]⟩,
 ⟨some 60, .load (some (2)) (.tmp 4), none, [0, 1, 2, 3, 4, 5, 6]⟩,
 ⟨some 61, .call (.const (.fn (.func 151) [] [])) [.tmp 60], none, [0, 1, 2, 3, 4, 5, 6]⟩,
 ⟨some 62, .call (.const (.fn (.func 150) [] [])) [.tmp 59, .tmp 61], none, [0, 1, 2, 3, 4, 5]⟩,
 ⟨some 63, .call (.const (.fn (.func 149) [] [])) [.tmp 62], none, [0, 1, 2, 3, 4, 5]⟩], 
  [
  ⟨some 64, .indexAddr 2 (.tmp 57) (.tmp 58), none, []⟩], 
  [
  ⟨none, .store 2 (.tmp 64) (.tmp 63), none, []⟩]]
theorem k_pump_tick_release_r5_sg : segs k_pump_tick_release_r5 = k_pump_tick_release_r5s := by kernel_rfl
theorem k_pump_tick_release_r5_st : statOK k_pump_tick_release_r5 = true := by kernel_rfl
def k_pump_tick_release_r6 : List AOper := [
  ⟨some 65, .bin .plain .add (.tmp 12) (.const (.int .i64 1)), none, []⟩,
 ⟨some 12, .move (.tmp 65), none, []⟩]
def k_pump_tick_release_r7 : ACode := (.seq (.reg k_pump_tick_release_r1 false) (.seq (.cond (.tmp 13) .skip (.exit 0)) (.seq (.block 1 (.seq (.reg k_pump_tick_release_r2 false) (.seq (.reg k_pump_tick_release_r3 true) (.seq (.reg k_pump_tick_release_r4 true) (.reg k_pump_tick_release_r5 true))))) (.reg k_pump_tick_release_r6 false))))
def k_pump_tick_release : AFun := { params := 1, ntmps := 66, body := (.seq (.reg k_pump_tick_release_r0 false) (.block 0 (.loop k_pump_tick_release_r7))), res := [] }
theorem k_pump_tick_release_ok : cfun Try.prog Try.f133 = k_pump_tick_release := by kernel_rfl

def k_pump_tick_flow_r0 : List AOper := [
  ⟨some 10, .move (.tmp 0), none, []⟩,
 ⟨some 11, .nilCheck (.tmp 10), none, []⟩,
 ⟨some 12, .fieldAddr 9 (.tmp 11), none, []⟩,
 ⟨some 13, .fieldAddr 0 (.tmp 12), none, []⟩,
 ⟨some 14, .load none (.tmp 13), none, []⟩,
 ⟨some 15, .move (.tmp 0), none, [0, 1, 2, 3, 4]⟩,
 ⟨some 16, .nilCheck (.tmp 15), none, [0, 1, 2, 3, 4]⟩,
 ⟨some 17, .fieldAddr 0 (.tmp 16), none, [0, 1, 2, 3, 4]⟩,
 ⟨some 18, .load (some (5)) (.tmp 17), none, [0, 1, 2, 3, 4]⟩,
 ⟨some 19, .move (.tmp 0), none, [0, 1, 2, 3, 4, 5, 6, 7, 8]⟩,
 ⟨some 20, .nilCheck (.tmp 19), none, [0, 1, 2, 3, 4, 5, 6, 7, 8]⟩,
 ⟨some 21, .fieldAddr 5 (.tmp 20), none, [0, 1, 2, 3, 4, 5, 6, 7, 8]⟩,
 ⟨some 22, .fieldAddr 2 (.tmp 21), none, [0, 1, 2, 3, 4, 5, 6, 7, 8]⟩,
 ⟨some 23, .load none (.tmp 22), none, [0, 1, 2, 3, 4, 5, 6, 7, 8]⟩,
 ⟨some 24, .call (.const (.fn (.func 124) [] [])) [.tmp 18, .tmp 23], none, [0, 1, 2, 3, 4]⟩,
 ⟨some 2, .box (.const (.nilsl)), none, [0, 1, 2, 3, 4, 5, 6, 7, 8, 9, 10, 11, 12, 13, 14]⟩,
 ⟨none, .store 1 (.tmp 2) (.tmp 14), none, []⟩,
 ⟨some 3, .move (.tmp 24), none, []⟩]
def k_pump_tick_flow_r0s : List (List AOper) := [
  [
  ⟨some 10, .move (.tmp 0), none, []⟩,
 ⟨some 11, .nilCheck (.tmp 10), none, []⟩,
 ⟨some 12, .fieldAddr 9 (.tmp 11), none, []⟩,
 ⟨some 13, .fieldAddr 0 (.tmp 12), none, []⟩,
 ⟨some 14, .load none (.tmp 13), none, []⟩,
 ⟨some 15, .move (.tmp 0), none, [0, 1, 2, 3, 4]⟩,
 ⟨some 16, .nilCheck (.tmp 15), none, [0, 1, 2, 3, 4]⟩,
 ⟨some 17, .fieldAddr 0 (.tmp 16), none, [0, 1, 2, 3, 4]⟩,
 ⟨some 18, .load (some (5)) (.tmp 17), none, [0, 1, 2, 3, 4]⟩,
 ⟨some 19, .move (.tmp 0), none, [0, 1, 2, 3, 4, 5, 6, 7, 8]⟩,
 ⟨some 20, .nilCheck (.tmp 19), none, [0, 1, 2, 3, 4, 5, 6, 7, 8]⟩,
 ⟨some 21, .fieldAddr 5 (.tmp 20), none, [0, 1, 2, 3, 4, 5, 6, 7, 8]⟩,
 ⟨some 22, .fieldAddr 2 (.tmp 21), none, [0, 1, 2, 3, 4, 5, 6, 7, 8]⟩,
 ⟨some 23, .load none (.tmp 22), none, [0, 1, 2, 3, 4, 5, 6, 7, 8]⟩,
 ⟨some 24, .call (.const (.fn (.func 124) [] [])) [.tmp 18, .tmp 23], none, [0, 1, 2, 3, 4]⟩,
 ⟨some 2, .box (.const (.nilsl)), none, [0, 1, 2, 3, 4, 5, 6, 7, 8, 9, 10, 11, 12, 13, 14]⟩], 
  [
  ⟨none, .store 1 (.tmp 2) (.tmp 14), none, []⟩], 
  [
  ⟨some 3, .move (.tmp 24), none, []⟩]]
theorem k_pump_tick_flow_r0_sg : segs k_pump_tick_flow_r0 = k_pump_tick_flow_r0s := by kernel_rfl
theorem k_pump_tick_flow_r0_st : statOK k_pump_tick_flow_r0 = true := by kernel_rfl
def k_pump_tick_flow_r1 : List AOper := [
  ⟨some 25, .makeMap .i64, none, []⟩,
 ⟨some 4, .box (.const (.nilmap)), none, []⟩,
 ⟨none, .store 1 (.tmp 4) (.tmp 25), none, []⟩]
def k_pump_tick_flow_r2 : List AOper := [
  ⟨some 26, .load none (.tmp 2), none, []⟩,
 ⟨some 27, .len false (.tmp 26), none, []⟩,
 ⟨some 28, .move (.const (.int .i64 0)), none, []⟩]
def k_pump_tick_flow_r3 : List AOper := [
  ⟨some 29, .bin .plain .lss (.tmp 28) (.tmp 27), none, []⟩]
def k_pump_tick_flow_r4 : List AOper := [
  ⟨some 30, .move (.tmp 28), none, []⟩,
 ⟨some 5, .move (.tmp 30), none, []⟩]
def k_pump_tick_flow_r5 : List AOper := [
  ⟨some 31, .load none (.tmp 4), none, []⟩,
 ⟨some 32, .move (.tmp 5), none, [0]⟩,
 ⟨some 33, .load none (.tmp 2), none, [0, 1]⟩,
 ⟨some 34, .move (.tmp 5), none, [0, 1, 2]⟩,
 ⟨some 35, .indexAddr 2 (.tmp 33) (.tmp 34), none, [0, 1]⟩,
 ⟨some 36, .load (some (2)) (.tmp 35), none, [0, 1]⟩,
 ⟨some 37, .move (.tmp 3), none, [0, 1, 2, 3, 4, 5]⟩,
 ⟨some 38, .move (.tmp 5), none, [0, 1, 2, 3, 4, 5, 6]⟩,
 ⟨some 39, .lookup .i64 (.agg [.int .i64 0, .int .i64 0]) false (.tmp 37) (.tmp 38), none, [0, 1, 2, 3, 4, 5]⟩,
 ⟨some 40, .call (.const (.fn (.func 151) [] [])) [.tmp 39], none, [0, 1, 2, 3, 4, 5]⟩,
 ⟨some 41, .call (.const (.fn (.func 150) [] [])) [.tmp 36, .tmp 40], none, [0, 1]⟩,
 ⟨none, .mapUpdate .i64 (.tmp 31) (.tmp 32) (.tmp 41), none, []⟩]
def k_pump_tick_flow_r5s : List (List AOper) := [
  [
  ⟨some 31, .load none (.tmp 4), none, []⟩,
 ⟨some 32, .move (.tmp 5), none, [0]⟩,
 ⟨some 33, .load none (.tmp 2), none, [0, 1]⟩,
 ⟨some 34, .move (.tmp 5), none, [0, 1, 2]⟩,
 ⟨some 35, .indexAddr 2 (.tmp 33) (.tmp 34), none, [0, 1]⟩,
 ⟨some 36, .load (some (2)) (.tmp 35), none, [0, 1]⟩,
 ⟨some 37, .move (.tmp 3), none, [0, 1, 2, 3, 4, 5]⟩,
 ⟨some 38, .move (.tmp 5), none, [0, 1, 2, 3, 4, 5, 6]⟩,
 ⟨some 39, .lookup .i64 (.agg [.int .i64 0, .int .i64 0]) false (.tmp 37) (.tmp 38), none, [0, 1, 2, 3, 4, 5]⟩,
 ⟨some 40, .call (.const (.fn (.func 151) [] [])) [.tmp 39], none, [0, 1, 2, 3, 4, 5]⟩,
 ⟨some 41, .call (.const (.fn (.func 150) [] [])) [.tmp 36, .tmp 40], none, [0, 1]⟩], 
  [
  ⟨none, .mapUpdate .i64 (.tmp 31) (.tmp 32) (.tmp 41), none, []⟩]]
theorem k_pump_tick_flow_r5_sg : segs k_pump_tick_flow_r5 = k_pump_tick_flow_r5s := by kernel_rfl
theorem k_pump_tick_flow_r5_st : statOK k_pump_tick_flow_r5 = true := by kernel_rfl
def k_pump_tick_flow_r6 : List AOper := [
  ⟨some 42, .bin .plain .add (.tmp 28) (.const (.int .i64 1)), none, []⟩,
 ⟨some 28, .move (.tmp 42), none, []⟩]
def k_pump_tick_flow_r7 : ACode := (.seq (.reg k_pump_tick_flow_r3 false) (.seq (.cond (.tmp 29) .skip (.exit 0)) (.seq (.block 1 (.seq (.reg k_pump_tick_flow_r4 false) (.reg k_pump_tick_flow_r5 true))) (.reg k_pump_tick_flow_r6 false))))
def k_pump_tick_flow_r8 : List AOper := [
  ⟨some 43, .move (.tmp 0), none, []⟩,
 ⟨some 44, .nilCheck (.tmp 43), none, []⟩,
 ⟨some 45, .fieldAddr 0 (.tmp 44), none, []⟩,
 ⟨some 46, .load (some (5)) (.tmp 45), none, []⟩,
 ⟨some 47, .move (.tmp 0), none, [0, 1, 2, 3]⟩,
 ⟨some 48, .nilCheck (.tmp 47), none, [0, 1, 2, 3]⟩,
 ⟨some 49, .fieldAddr 5 (.tmp 48), none, [0, 1, 2, 3]⟩,
 ⟨some 50, .fieldAddr 2 (.tmp 49), none, [0, 1, 2, 3]⟩,
 ⟨some 51, .load none (.tmp 50), none, [0, 1, 2, 3]⟩,
 ⟨some 52, .call (.const (.fn (.func 146) [] [])) [.tmp 46, .tmp 51], none, []⟩]
def k_pump_tick_flow_r8s : List (List AOper) := [
  [
  ⟨some 43, .move (.tmp 0), none, []⟩,
 ⟨some 44, .nilCheck (.tmp 43), none, []⟩,
 ⟨some 45, .fieldAddr 0 (.tmp 44), none, []⟩,
 ⟨some 46, .load (some (5)) (.tmp 45), none, []⟩,
 ⟨some 47, .move (.tmp 0), none, [0, 1, 2, 3]⟩,
 ⟨some 48, .nilCheck (.tmp 47), none, [0, 1, 2, 3]⟩,
 ⟨some 49, .fieldAddr 5 (.tmp 48), none, [0, 1, 2, 3]⟩,
 ⟨some 50, .fieldAddr 2 (.tmp 49), none, [0, 1, 2, 3]⟩,
 ⟨some 51, .load none (.tmp 50), none, [0, 1, 2, 3]⟩], 
  [
  ⟨some 52, .call (.const (.fn (.func 146) [] [])) [.tmp 46, .tmp 51], none, []⟩]]
theorem k_pump_tick_flow_r8_sg : segs k_pump_tick_flow_r8 = k_pump_tick_flow_r8s := by kernel_rfl
theorem k_pump_tick_flow_r8_st : statOK k_pump_tick_flow_r8 = true := by kernel_rfl
def k_pump_tick_flow_r9 : List AOper := [
  ⟨some 6, .box (.const (.agg [.int .i64 0, .int .i64 0, .int .i64 0, .int .i64 0])), none, []⟩,
 ⟨none, .store 4 (.tmp 6) (.tmp 53), none, []⟩]
def k_pump_tick_flow_r10 : List AOper := [
  ⟨some 54, .load none (.tmp 4), none, []⟩,
 ⟨some 55, .fieldAddr 1 (.tmp 6), none, [0]⟩,
 ⟨some 56, .load none (.tmp 55), none, [0]⟩,
 ⟨some 57, .load none (.tmp 4), none, [0, 1, 2]⟩,
 ⟨some 58, .fieldAddr 1 (.tmp 6), none, [0, 1, 2, 3]⟩,
 ⟨some 59, .load none (.tmp 58), none, [0, 1, 2, 3]⟩,
 ⟨some 60, .lookup .i64 (.agg [.int .i64 0, .int .i64 0]) false (.tmp 57) (.tmp 59), none, [0, 1, 2]⟩,
 ⟨some 61, .load none (.tmp 2), none, [0, 1, 2, 3, 4, 5, 6]⟩,
 ⟨some 62, .fieldAddr 0 (.tmp 6), none, [0, 1, 2, 3, 4, 5, 6, 7]⟩,
 ⟨some 63, .load none (.tmp 62), none, [0, 1, 2, 3, 4, 5, 6, 7]⟩,
 ⟨some 64, .indexAddr 2 (.tmp 61) (.tmp 63), none, [0, 1, 2, 3, 4, 5, 6]⟩,
 ⟨some 65, .load (some (2)) (.tmp 64), none, [0, 1, 2, 3, 4, 5, 6]⟩,
 ⟨some 66, .fieldAddr 2 (.tmp 6), none, [0, 1, 2, 3, 4, 5, 6, 7, 8, 9, 10, 11]⟩,
 ⟨some 67, .load (some (2)) (.tmp 66), none, [0, 1, 2, 3, 4, 5, 6, 7, 8, 9, 10, 11]⟩,
 ⟨some 68, .call (.const (.fn (.func 150) [] [])) [.tmp 65, .tmp 67], none, [0, 1, 2, 3, 4, 5, 6]⟩,
 ⟨some 69, .call (.const (.fn (.func 147) [] [])) [.tmp 60, .tmp 68], none, [0, 1, 2]⟩,
 ⟨none, .mapUpdate .i64 (.tmp 54) (.tmp 56) (.tmp 69), none, []⟩]
def k_pump_tick_flow_r10s : List (List AOper) := [
  [
  ⟨some 54, .load none (.tmp 4), none, []⟩,
 ⟨some 55, .fieldAddr 1 (.tmp 6), none, [0]⟩,
 ⟨some 56, .load none (.tmp 55), none, [0]⟩,
 ⟨some 57, .load none (.tmp 4), none, [0, 1, 2]⟩,
 ⟨some 58, .fieldAddr 1 (.tmp 6), none, [0, 1, 2, 3]⟩,
 ⟨some 59, .load none (.tmp 58), none, [0, 1, 2, 3]⟩,
 ⟨some 60, .lookup .i64 (.agg [.int .i64 0, .int .i64 0]) false (.tmp 57) (.tmp 59), none, [0, 1, 2]⟩,
 ⟨some 61, .load none (.tmp 2), none, [0, 1, 2, 3, 4, 5, 6]⟩,
 ⟨some 62, .fieldAddr 0 (.tmp 6), none, [0, 1, 2, 3, 4, 5, 6, 7]⟩,
 ⟨some 63, .load none (.tmp 62), none, [0, 1, 2, 3, 4, 5, 6, 7]⟩,
 ⟨some 64, .indexAddr 2 (.tmp 61) (.tmp 63), none, [0, 1, 2, 3, 4, 5, 6]⟩,
 ⟨some 65, .load (some (2)) (.tmp 64), none, [0, 1, 2, 3, 4, 5, 6]⟩,
 ⟨some 66, .fieldAddr 2 (.tmp 6), none, [0, 1, 2, 3, 4, 5, 6, 7, 8, 9, 10, 11]⟩,
 ⟨some 67, .load (some (2)) (.tmp 66), none, [0, 1, 2, 3, 4, 5, 6, 7, 8, 9, 10, 11]⟩,
 ⟨some 68, .call (.const (.fn (.func 150) [] [])) [.tmp 65, .tmp 67], none, [0, 1, 2, 3, 4, 5, 6]⟩,
 ⟨some 69, .call (.const (.fn (.func 147) [] [])) [.tmp 60, .tmp 68], none, [0, 1, 2]⟩], 
  [
  ⟨none, .mapUpdate .i64 (.tmp 54) (.tmp 56) (.tmp 69), none, []⟩]]
theorem k_pump_tick_flow_r10_sg : segs k_pump_tick_flow_r10 = k_pump_tick_flow_r10s := by kernel_rfl
theorem k_pump_tick_flow_r10_st : statOK k_pump_tick_flow_r10 = true := by kernel_rfl
def k_pump_tick_flow_r11 : ACode := (.reg k_pump_tick_flow_r9 false)
def k_pump_tick_flow_r12 : ACode := (.block 3 (.reg k_pump_tick_flow_r10 true))
def k_pump_tick_flow_r13 : List AOper := [
  ⟨some 70, .load none (.tmp 2), none, []⟩,
 ⟨some 71, .len false (.tmp 70), none, []⟩,
 ⟨some 72, .move (.const (.int .i64 0)), none, []⟩]
def k_pump_tick_flow_r14 : List AOper := [
  ⟨some 73, .bin .plain .lss (.tmp 72) (.tmp 71), none, []⟩]
def k_pump_tick_flow_r15 : List AOper := [
  ⟨some 74, .move (.tmp 72), none, []⟩,
 ⟨some 7, .move (.tmp 74), none, []⟩]
def k_pump_tick_flow_r16 : List AOper := [
  ⟨some 75, .load none (.tmp 2), none, []⟩,
 ⟨some 76, .move (.tmp 7), none, [0]⟩,
 ⟨some 77, .load none (.tmp 4), none, [0, 1]⟩,
 ⟨some 78, .move (.tmp 7), none, [0, 1, 2]⟩,
 ⟨some 79, .lookup .i64 (.agg [.int .i64 0, .int .i64 0]) false (.tmp 77) (.tmp 78), none, [0, 1]⟩,
 ⟨some 80, .call (.const (.fn (.func 149) [] [])) [.tmp 79], none, [0, 1]⟩,
 ⟨some 81, .indexAddr 2 (.tmp 75) (.tmp 76), none, []⟩,
 ⟨none, .store 2 (.tmp 81) (.tmp 80), none, []⟩]
def k_pump_tick_flow_r16s : List (List AOper) := [
  [
  ⟨some 75, .load none (.tmp 2), none, []⟩,
 ⟨some 76, .move (.tmp 7), none, [0]⟩,
 ⟨some 77, .load none (.tmp 4), none, [0, 1]⟩,
 ⟨some 78, .move (.tmp 7), none, [0, 1, 2]⟩,
 ⟨some 79, .lookup .i64 (.agg [.int .i64 0, .int .i64 0]) false (.tmp 77) (.tmp 78), none, [0, 1]⟩,
 ⟨some 80, .call (.const (.fn (.func 149) [] [])) [.tmp 79], none, [0, 1]⟩], 
  [
  ⟨some 81, .indexAddr 2 (.tmp 75) (.tmp 76), none, []⟩], 
  [
  ⟨none, .store 2 (.tmp 81) (.tmp 80), none, []⟩]]
theorem k_pump_tick_flow_r16_sg : segs k_pump_tick_flow_r16 = k_pump_tick_flow_r16s := by kernel_rfl
theorem k_pump_tick_flow_r16_st : statOK k_pump_tick_flow_r16 = true := by kernel_rfl
def k_pump_tick_flow_r17 : List AOper := [
  ⟨some 82, .bin .plain .add (.tmp 72) (.const (.int .i64 1)), none, []⟩,
 ⟨some 72, .move (.tmp 82), none, []⟩]
def k_pump_tick_flow_r18 : ACode := (.seq (.reg k_pump_tick_flow_r14 false) (.seq (.cond (.tmp 73) .skip (.exit 4)) (.seq (.block 5 (.seq (.reg k_pump_tick_flow_r15 false) (.reg k_pump_tick_flow_r16 true))) (.reg k_pump_tick_flow_r17 false))))
def k_pump_tick_flow_r19 : List AOper := [
  ⟨some 83, .move (.tmp 0), none, []⟩,
 ⟨some 84, .nilCheck (.tmp 83), none, []⟩,
 ⟨some 85, .fieldAddr 0 (.tmp 84), none, []⟩,
 ⟨some 86, .fieldAddr 3 (.tmp 85), none, []⟩,
 ⟨some 87, .load none (.tmp 86), none, []⟩,
 ⟨some 88, .len false (.tmp 87), none, []⟩,
 ⟨some 89, .move (.const (.int .i64 0)), none, []⟩]
def k_pump_tick_flow_r20 : List AOper := [
  ⟨some 90, .bin .plain .lss (.tmp 89) (.tmp 88), none, []⟩]
def k_pump_tick_flow_r21 : List AOper := [
  ⟨some 91, .indexAddr 3 (.tmp 87) (.tmp 89), none, []⟩,
 ⟨some 92, .load (some (3)) (.tmp 91), none, []⟩,
 ⟨some 9, .box (.const (.agg [.int .i64 0, .int .i64 0, .int .i64 0])), none, []⟩,
 ⟨none, .store 3 (.tmp 9) (.tmp 92), none, []⟩]
def k_pump_tick_flow_r22 : List AOper := [
  ⟨some 93, .load none (.tmp 2), none, []⟩,
 ⟨some 94, .fieldAddr 0 (.tmp 9), none, [0]⟩,
 ⟨some 95, .load none (.tmp 94), none, [0]⟩,
 ⟨some 96, .load none (.tmp 2), none, [0, 1, 2]⟩,
 ⟨some 97, .fieldAddr 0 (.tmp 9), none, [0, 1, 2, 3]⟩,
 ⟨some 98, .load none (.tmp 97), none, [0, 1, 2, 3]⟩,
 ⟨some 99, .indexAddr 2 (.tmp 96) (.tmp 98), none, [0, 1, 2]⟩,
 ⟨some 100, .load (some (2)) (.tmp 99), none, [0, 1, 2]⟩,
 ⟨some 101, .fieldAddr 1 (.tmp 9), none, [0, 1, 2, 3, 4, 5, 6, 7]⟩,
 ⟨some 102, .load (some (2)) (.tmp 101), none, [0, 1, 2, 3, 4, 5, 6, 7]⟩,
 ⟨some 103, .call (.const (.fn (.func 147) [] [])) [.tmp 100, .tmp 102], none, [0, 1, 2]⟩,
 ⟨some 104, .indexAddr 2 (.tmp 93) (.tmp 95), none, []⟩,
 ⟨none, .store 2 (.tmp 104) (.tmp 103), none, []⟩]
def k_pump_tick_flow_r22s : List (List AOper) := [
  [
  ⟨some 93, .load none (.tmp 2), none, []⟩,
 ⟨some 94, .fieldAddr 0 (.tmp 9), none, [0]⟩,
 ⟨some 95, .load none (.tmp 94), none, [0]⟩,
 ⟨some 96, .load none (.tmp 2), none, [0, 1, 2]⟩,
 ⟨some 97, .fieldAddr 0 (.tmp 9), none, [0, 1, 2, 3]⟩,
 ⟨some 98, .load none (.tmp 97), none, [0, 1, 2, 3]⟩,
 ⟨some 99, .indexAddr 2 (.tmp 96) (.tmp 98), none, [0, 1, 2]⟩,
 ⟨some 100, .load (some (2)) (.tmp 99), none, [0, 1, 2]⟩,
 ⟨some 101, .fieldAddr 1 (.tmp 9), none, [0, 1, 2, 3, 4, 5, 6, 7]⟩,
 ⟨some 102, .load (some (2)) (.tmp 101), none, [0, 1, 2, 3, 4, 5, 6, 7]⟩,
 ⟨some 103, .call (.const (.fn (.func 147) [] [])) [.tmp 100, .tmp 102], none, [0, 1, 2]⟩], 
  [
  ⟨some 104, .indexAddr 2 (.tmp 93) (.tmp 95), none, []⟩], 
  [
  ⟨none, .store 2 (.tmp 104) (.tmp 103), none, []⟩]]
theorem k_pump_tick_flow_r22_sg : segs k_pump_tick_flow_r22 = k_pump_tick_flow_r22s := by kernel_rfl
theorem k_pump_tick_flow_r22_st : statOK k_pump_tick_flow_r22 = true := by kernel_rfl
def k_pump_tick_flow_r23 : List AOper := [
  ⟨some 105, .bin .plain .add (.tmp 89) (.const (.int .i64 1)), none, []⟩,
 ⟨some 89, .move (.tmp 105), none, []⟩]
def k_pump_tick_flow_r24 : ACode := (.seq (.reg k_pump_tick_flow_r20 false) (.seq (.cond (.tmp 90) .skip (.exit 6)) (.seq (.block 7 (.seq (.reg k_pump_tick_flow_r21 false) (.reg k_pump_tick_flow_r22 true))) (.reg k_pump_tick_flow_r23 false))))
def k_pump_tick_flow : AFun := { params := 1, ntmps := 106, body := (.seq (.reg k_pump_tick_flow_r0 true) (.seq (.reg k_pump_tick_flow_r1 false) (.seq (.seq (.reg k_pump_tick_flow_r2 false) (.block 0 (.loop k_pump_tick_flow_r7))) (.seq (.seq (.reg k_pump_tick_flow_r8 true) (.block 2 (.rng (.tmp 52) [53] k_pump_tick_flow_r11 k_pump_tick_flow_r12))) (.seq (.seq (.reg k_pump_tick_flow_r13 false) (.block 4 (.loop k_pump_tick_flow_r18))) (.seq (.reg k_pump_tick_flow_r19 false) (.block 6 (.loop k_pump_tick_flow_r24)))))))), res := [] }
theorem k_pump_tick_flow_ok : cfun Try.prog Try.f134 = k_pump_tick_flow := by kernel_rfl

def k_pump_tick_bind_r0 : List AOper := [
  ⟨some 7, .move (.tmp 0), none, []⟩,
 ⟨some 8, .nilCheck (.tmp 7), none, []⟩,
 ⟨some 9, .fieldAddr 9 (.tmp 8), none, []⟩,
 ⟨some 10, .fieldAddr 4 (.tmp 9), none, []⟩,
 ⟨some 11, .load none (.tmp 10), none, []⟩,
 ⟨some 12, .not (.tmp 11), none, []⟩]
def k_pump_tick_bind_r1 : List AOper := [
  ⟨some 13, .move (.tmp 0), none, []⟩,
 ⟨some 14, .nilCheck (.tmp 13), none, []⟩,
 ⟨some 15, .fieldAddr 0 (.tmp 14), none, []⟩,
 ⟨some 16, .fieldAddr 4 (.tmp 15), none, []⟩,
 ⟨some 17, .load none (.tmp 16), none, []⟩,
 ⟨some 18, .len false (.tmp 17), none, []⟩,
 ⟨some 19, .move (.const (.int .i64 0)), none, []⟩]
def k_pump_tick_bind_r2 : List AOper := [
  ⟨some 20, .bin .plain .lss (.tmp 19) (.tmp 18), none, []⟩]
def k_pump_tick_bind_r3 : List AOper := [
  ⟨some 21, .move (.tmp 19), none, []⟩,
 ⟨some 22, .indexAddr 5 (.tmp 17) (.tmp 19), none, []⟩,
 ⟨some 23, .load (some (5)) (.tmp 22), none, []⟩,
 ⟨some 3, .box (.const (.agg [.int .i64 0, .int .i64 0, .int .i64 0, .int .i64 0, .int .i64 0])), none, []⟩,
 ⟨some 2, .move (.tmp 21), none, []⟩,
 ⟨none, .store 5 (.tmp 3) (.tmp 23), none, []⟩]
def k_pump_tick_bind_r4 : List AOper := [
  ⟨some 24, .move (.tmp 0), none, []⟩,
 ⟨some 25, .nilCheck (.tmp 24), none, []⟩,
 ⟨some 26, .fieldAddr 9 (.tmp 25), none, []⟩,
 ⟨some 27, .fieldAddr 0 (.tmp 26), none, []⟩,
 ⟨some 28, .load none (.tmp 27), none, []⟩,
 ⟨some 29, .fieldAddr 0 (.tmp 3), none, [0, 1, 2, 3, 4]⟩,
 ⟨some 30, .load none (.tmp 29), none, [0, 1, 2, 3, 4]⟩,
 ⟨some 31, .indexAddr 2 (.tmp 28) (.tmp 30), none, []⟩,
 ⟨some 32, .load (some (2)) (.tmp 31), none, []⟩,
 ⟨some 33, .move (.tmp 0), none, [0, 1, 2, 3, 4, 5, 6, 7, 8]⟩,
 ⟨some 34, .nilCheck (.tmp 33), none, [0, 1, 2, 3, 4, 5, 6, 7, 8]⟩,
 ⟨some 35, .fieldAddr 9 (.tmp 34), none, [0, 1, 2, 3, 4, 5, 6, 7, 8]⟩,
 ⟨some 36, .fieldAddr 2 (.tmp 35), none, [0, 1, 2, 3, 4, 5, 6, 7, 8]⟩,
 ⟨some 37, .load none (.tmp 36), none, [0, 1, 2, 3, 4, 5, 6, 7, 8]⟩,
 ⟨some 38, .move (.tmp 2), none, [0, 1, 2, 3, 4, 5, 6, 7, 8, 9, 10, 11, 12, 13]⟩,
 ⟨some 39, .indexAddr 2 (.tmp 37) (.tmp 38), none, [0, 1, 2, 3, 4, 5, 6, 7, 8]⟩,
 ⟨some 40, .load (some (2)) (.tmp 39), none, [0, 1, 2, 3, 4, 5, 6, 7, 8]⟩,
 ⟨some 4, .box (.const (.agg [.int .i64 0, .int .i64 0])), none, [0, 1, 2, 3, 4, 5, 6, 7, 8, 9, 10, 11, 12, 13, 14, 15, 16]⟩,
 ⟨some 5, .box (.const (.agg [.int .i64 0, .int .i64 0])), none, [0, 1, 2, 3, 4, 5, 6, 7, 8, 9, 10, 11, 12, 13, 14, 15, 16, 17]⟩,
 ⟨none, .store 2 (.tmp 4) (.tmp 32), none, [9, 10, 11, 12, 13, 14, 15, 16]⟩,
 ⟨none, .store 2 (.tmp 5) (.tmp 40), none, []⟩]
def k_pump_tick_bind_r4s : List (List AOper) := [
  [
  ⟨some 24, .move (.tmp 0), none, []⟩,
 ⟨some 25, .nilCheck (.tmp 24), none, []⟩,
 ⟨some 26, .fieldAddr 9 (.tmp 25), none, []⟩,
 ⟨some 27, .fieldAddr 0 (.tmp 26), none, []⟩,
 ⟨some 28, .load none (.tmp 27), none, []⟩,
 ⟨some 29, .fieldAddr 0 (.tmp 3), none, [0, 1, 2, 3, 4]⟩,
 ⟨some 30, .load none (.tmp 29), none, [0, 1, 2, 3, 4]⟩,
 ⟨some 31, .indexAddr 2 (.tmp 28) (.tmp 30), none, []⟩,
 ⟨some 32, .load (some (2)) (.tmp 31), none, []⟩,
 ⟨some 33, .move (.tmp 0), none, [0, 1, 2, 3, 4, 5, 6, 7, 8]⟩,
 ⟨some 34, .nilCheck (.tmp 33), none, [0, 1, 2, 3, 4, 5, 6, 7, 8]⟩,
 ⟨some 35, .fieldAddr 9 (.tmp 34), none, [0, 1, 2, 3, 4, 5, 6, 7, 8]⟩,
 ⟨some 36, .fieldAddr 2 (.tmp 35), none, [0, 1, 2, 3, 4, 5, 6, 7, 8]⟩,
 ⟨some 37, .load none (.tmp 36), none, [0, 1, 2, 3, 4, 5, 6, 7, 8]⟩,
 ⟨some 38, .move (.tmp 2), none, [0, 1, 2, 3, 4, 5, 6, 7, 8, 9, 10, 11, 12, 13]⟩,
 ⟨some 39, .indexAddr 2 (.tmp 37) (.tmp 38), none, [0, 1, 2, 3, 4, 5, 6, 7, 8]⟩,
 ⟨some 40, .load (some (2)) (.tmp 39), none, [0, 1, 2, 3, 4, 5, 6, 7, 8]⟩,
 ⟨some 4, .box (.const (.agg [.int .i64 0, .int .i64 0])), none, [0, 1, 2, 3, 4, 5, 6, 7, 8, 9, 10, 11, 12, 13, 14, 15, 16]⟩,
 ⟨some 5, .box (.const (.agg [.int .i64 0, .int .i64 0])), none, [0, 1, 2, 3, 4, 5, 6, 7, 8, 9, 10, 11, 12, 13, 14, 15, 16, 17]⟩,
 ⟨none, .store 2 (.tmp 4) (.tmp 32), none, [9, 10, 11, 12, 13, 14, 15, 16]⟩], 
  [
  ⟨none, .store 2 (.tmp 5) (.tmp 40), none, []⟩]]
theorem k_pump_tick_bind_r4_sg : segs k_pump_tick_bind_r4 = k_pump_tick_bind_r4s := by kernel_rfl
theorem k_pump_tick_bind_r4_st : statOK k_pump_tick_bind_r4 = true := by kernel_rfl
def k_pump_tick_bind_r5 : List AOper := [
  ⟨some 41, .load (some (2)) (.tmp 4), none, []⟩,
 ⟨some 42, .fieldAddr 1 (.tmp 3), none, []⟩,
 ⟨some 43, .load (some (2)) (.tmp 42), none, []⟩,
 ⟨some 44, .call (.const (.fn (.func 150) [] [])) [.tmp 41, .tmp 43], none, []⟩,
 ⟨some 45, .call (.const (.fn (.func 149) [] [])) [.tmp 44], none, []⟩,
 ⟨some 6, .box (.const (.agg [.int .i64 0, .int .i64 0])), none, []⟩,
 ⟨none, .store 2 (.tmp 6) (.tmp 45), none, []⟩]
def k_pump_tick_bind_r6 : List AOper := [
  ⟨some 46, .move (.tmp 0), none, []⟩,
 ⟨some 47, .nilCheck (.tmp 46), none, []⟩,
 ⟨some 48, .fieldAddr 9 (.tmp 47), none, []⟩,
 ⟨some 49, .fieldAddr 2 (.tmp 48), none, []⟩,
 ⟨some 50, .load none (.tmp 49), none, []⟩,
 ⟨some 51, .move (.tmp 2), none, [0, 1, 2, 3, 4]⟩,
 ⟨some 52, .fieldAddr 0 (.tmp 5), none, [0, 1, 2, 3, 4, 5]⟩,
 ⟨some 53, .load none (.tmp 52), none, [0, 1, 2, 3, 4, 5]⟩,
 ⟨some 54, .fieldAddr 1 (.tmp 6), none, [0, 1, 2, 3, 4, 5, 6, 7]⟩,
 ⟨some 55, .load none (.tmp 54), none, [0, 1, 2, 3, 4, 5, 6, 7]⟩,
 ⟨some 56, .bin .plain .sub (.tmp 53) (.tmp 55), none, [0, 1, 2, 3, 4, 5]⟩,
 ⟨some 57, .minmax true [.const (.int .i64 0), .tmp 56], none, [0, 1, 2, 3, 4, 5]⟩,
 ⟨some 58, .fieldAddr 1 (.tmp 5), none, [0, 1, 2, 3, 4, 5, 6, 7, 8, 9, 10, 11]⟩,
 ⟨some 59, .load none (.tmp 58), none, [0, 1, 2, 3, 4, 5, 6, 7, 8, 9, 10, 11]⟩,
 ⟨some 60, .fieldAddr 0 (.tmp 6), none, [0, 1, 2, 3, 4, 5, 6, 7, 8, 9, 10, 11, 12, 13]⟩,
 ⟨some 61, .load none (.tmp 60), none, [0, 1, 2, 3, 4, 5, 6, 7, 8, 9, 10, 11, 12, 13]⟩,
 ⟨some 62, .bin .plain .sub (.tmp 59) (.tmp 61), none, [0, 1, 2, 3, 4, 5, 6, 7, 8, 9, 10, 11]⟩,
 ⟨some 63, .minmax true [.const (.int .i64 0), .tmp 62], none, [0, 1, 2, 3, 4, 5, 6, 7, 8, 9, 10, 11]⟩,
 ⟨some 64, .build [.int .i64 0, .int .i64 0] [(0, 1, .tmp 57), (1, 1, .tmp 63)], none, [0, 1, 2, 3, 4, 5]⟩,
 ⟨some 65, .indexAddr 2 (.tmp 50) (.tmp 51), none, []⟩,
 ⟨none, .store 2 (.tmp 65) (.tmp 64), none, []⟩]
def k_pump_tick_bind_r6s : List (List AOper) := [
  [
  ⟨some 46, .move (.tmp 0), none, []⟩,
 ⟨some 47, .nilCheck (.tmp 46), none, []⟩,
 ⟨some 48, .fieldAddr 9 (.tmp 47), none, []⟩,
 ⟨some 49, .fieldAddr 2 (.tmp 48), none, []⟩,
 ⟨some 50, .load none (.tmp 49), none, []⟩,
 ⟨some 51, .move (.tmp 2), none, [0, 1, 2, 3, 4]⟩,
 ⟨some 52, .fieldAddr 0 (.tmp 5), none, [0, 1, 2, 3, 4, 5]⟩,
 ⟨some 53, .load none (.tmp 52), none, [0, 1, 2, 3, 4, 5]⟩,
 ⟨some 54, .fieldAddr 1 (.tmp 6), none, [0, 1, 2, 3, 4, 5, 6, 7]⟩,
 ⟨some 55, .load none (.tmp 54), none, [0, 1, 2, 3, 4, 5, 6, 7]⟩,
 ⟨some 56, .bin .plain .sub (.tmp 53) (.tmp 55), none, [0, 1, 2, 3, 4, 5]⟩,
 ⟨some 57, .minmax true [.const (.int .i64 0), .tmp 56], none, [0, 1, 2, 3, 4, 5]⟩,
 ⟨some 58, .fieldAddr 1 (.tmp 5), none, [0, 1, 2, 3, 4, 5, 6, 7, 8, 9, 10, 11]⟩,
 ⟨some 59, .load none (.tmp 58), none, [0, 1, 2, 3, 4, 5, 6, 7, 8, 9, 10, 11]⟩,
 ⟨some 60, .fieldAddr 0 (.tmp 6), none, [0, 1, 2, 3, 4, 5, 6, 7, 8, 9, 10, 11, 12, 13]⟩,
 ⟨some 61, .load none (.tmp 60), none, [0, 1, 2, 3, 4, 5, 6, 7, 8, 9, 10, 11, 12, 13]⟩,
 ⟨some 62, .bin .plain .sub (.tmp 59) (.tmp 61), none, [0, 1, 2, 3, 4, 5, 6, 7, 8, 9, 10, 11]⟩,
 ⟨some 63, .minmax true [.const (.int .i64 0), .tmp 62], none, [0, 1, 2, 3, 4, 5, 6, 7, 8, 9, 10, 11]⟩,
 ⟨some 64, .build [.int .i64 0, .int .i64 0] [(0, 1, .tmp 57), (1, 1, .tmp 63)], none, [0, 1, 2, 3, 4, 5]⟩], 
  [
  ⟨some 65, .indexAddr 2 (.tmp 50) (.tmp 51), none, []⟩], 
  [
  ⟨none, .store 2 (.tmp 65) (.tmp 64), none, []⟩]]
theorem k_pump_tick_bind_r6_sg : segs k_pump_tick_bind_r6 = k_pump_tick_bind_r6s := by kernel_rfl
theorem k_pump_tick_bind_r6_st : statOK k_pump_tick_bind_r6 = true := by kernel_rfl
def k_pump_tick_bind_r7 : List AOper := [
  ⟨some 66, .fieldAddr 0 (.tmp 4), none, []⟩,
 ⟨some 67, .load none (.tmp 66), none, []⟩,
 ⟨some 68, .fieldAddr 0 (.tmp 4), none, [0, 1]⟩,
 ⟨some 69, .load none (.tmp 68), none, [0, 1]⟩,
 ⟨some 70, .fieldAddr 1 (.tmp 3), none, [0, 1, 2, 3]⟩,
 ⟨some 71, .fieldAddr 1 (.tmp 70), none, [0, 1, 2, 3]⟩,
 ⟨some 72, .load none (.tmp 71), none, [0, 1, 2, 3]⟩,
 ⟨some 73, .bin .plain .mul (.tmp 69) (.tmp 72), none, [0, 1]⟩,
 ⟨some 74, .call (.const (.fn (.func 152) [] [])) [.tmp 73], none, [0, 1]⟩,
 ⟨some 75, .fieldAddr 1 (.tmp 5), none, [0, 1, 2, 3, 4, 5, 6, 7, 8]⟩,
 ⟨some 76, .load none (.tmp 75), none, [0, 1, 2, 3, 4, 5, 6, 7, 8]⟩,
 ⟨some 77, .minmax false [.tmp 74, .tmp 76], none, [0, 1]⟩,
 ⟨some 78, .bin .plain .sub (.tmp 67) (.tmp 77), none, []⟩,
 ⟨some 79, .fieldAddr 0 (.tmp 4), none, []⟩,
 ⟨none, .store 1 (.tmp 79) (.tmp 78), none, []⟩]
def k_pump_tick_bind_r7s : List (List AOper) := [
  [
  ⟨some 66, .fieldAddr 0 (.tmp 4), none, []⟩,
 ⟨some 67, .load none (.tmp 66), none, []⟩,
 ⟨some 68, .fieldAddr 0 (.tmp 4), none, [0, 1]⟩,
 ⟨some 69, .load none (.tmp 68), none, [0, 1]⟩,
 ⟨some 70, .fieldAddr 1 (.tmp 3), none, [0, 1, 2, 3]⟩,
 ⟨some 71, .fieldAddr 1 (.tmp 70), none, [0, 1, 2, 3]⟩,
 ⟨some 72, .load none (.tmp 71), none, [0, 1, 2, 3]⟩,
 ⟨some 73, .bin .plain .mul (.tmp 69) (.tmp 72), none, [0, 1]⟩,
 ⟨some 74, .call (.const (.fn (.func 152) [] [])) [.tmp 73], none, [0, 1]⟩,
 ⟨some 75, .fieldAddr 1 (.tmp 5), none, [0, 1, 2, 3, 4, 5, 6, 7, 8]⟩,
 ⟨some 76, .load none (.tmp 75), none, [0, 1, 2, 3, 4, 5, 6, 7, 8]⟩,
 ⟨some 77, .minmax false [.tmp 74, .tmp 76], none, [0, 1]⟩], 
  [
  ⟨some 78, .bin .plain .sub (.tmp 67) (.tmp 77), none, []⟩], 
  [
  ⟨some 79, .fieldAddr 0 (.tmp 4), none, []⟩], 
  [
  ⟨none, .store 1 (.tmp 79) (.tmp 78), none, []⟩]]
theorem k_pump_tick_bind_r7_sg : segs k_pump_tick_bind_r7 = k_pump_tick_bind_r7s := by kernel_rfl
theorem k_pump_tick_bind_r7_st : statOK k_pump_tick_bind_r7 = true := by kernel_rfl
def k_pump_tick_bind_r8 : List AOper := [
  ⟨some 80, .fieldAddr 1 (.tmp 4), none, []⟩,
 ⟨some 81, .load none (.tmp 80), none, []⟩,
 ⟨some 82, .fieldAddr 1 (.tmp 4), none, [0, 1]⟩,
 ⟨some 83, .load none (.tmp 82), none, [0, 1]⟩,
 ⟨some 84, .fieldAddr 1 (.tmp 3), none, [0, 1, 2, 3]⟩,
 ⟨some 85, .fieldAddr 0 (.tmp 84), none, [0, 1, 2, 3]⟩,
 ⟨some 86, .load none (.tmp 85), none, [0, 1, 2, 3]⟩,
 ⟨some 87, .bin .plain .mul (.tmp 83) (.tmp 86), none, [0, 1]⟩,
 ⟨some 88, .call (.const (.fn (.func 153) [] [])) [.tmp 87], none, [0, 1]⟩,
 ⟨some 89, .fieldAddr 0 (.tmp 5), none, [0, 1, 2, 3, 4, 5, 6, 7, 8]⟩,
 ⟨some 90, .load none (.tmp 89), none, [0, 1, 2, 3, 4, 5, 6, 7, 8]⟩,
 ⟨some 91, .minmax false [.tmp 88, .tmp 90], none, [0, 1]⟩,
 ⟨some 92, .bin .plain .sub (.tmp 81) (.tmp 91), none, []⟩,
 ⟨some 93, .fieldAddr 1 (.tmp 4), none, []⟩,
 ⟨none, .store 1 (.tmp 93) (.tmp 92), none, []⟩]
def k_pump_tick_bind_r8s : List (List AOper) := [
  [
  ⟨some 80, .fieldAddr 1 (.tmp 4), none, []⟩,
 ⟨some 81, .load none (.tmp 80), none, []⟩,
 ⟨some 82, .fieldAddr 1 (.tmp 4), none, [0, 1]⟩,
 ⟨some 83, .load none (.tmp 82), none, [0, 1]⟩,
 ⟨some 84, .fieldAddr 1 (.tmp 3), none, [0, 1, 2, 3]⟩,
 ⟨some 85, .fieldAddr 0 (.tmp 84), none, [0, 1, 2, 3]⟩,
 ⟨some 86, .load none (.tmp 85), none, [0, 1, 2, 3]⟩,
 ⟨some 87, .bin .plain .mul (.tmp 83) (.tmp 86), none, [0, 1]⟩,
 ⟨some 88, .call (.const (.fn (.func 153) [] [])) [.tmp 87], none, [0, 1]⟩,
 ⟨some 89, .fieldAddr 0 (.tmp 5), none, [0, 1, 2, 3, 4, 5, 6, 7, 8]⟩,
 ⟨some 90, .load none (.tmp 89), none, [0, 1, 2, 3, 4, 5, 6, 7, 8]⟩,
 ⟨some 91, .minmax false [.tmp 88, .tmp 90], none, [0, 1]⟩], 
  [
  ⟨some 92, .bin .plain .sub (.tmp 81) (.tmp 91), none, []⟩], 
  [
  ⟨some 93, .fieldAddr 1 (.tmp 4), none, []⟩], 
  [
  ⟨none, .store 1 (.tmp 93) (.tmp 92), none, []⟩]]
theorem k_pump_tick_bind_r8_sg : segs k_pump_tick_bind_r8 = k_pump_tick_bind_r8s := by kernel_rfl
theorem k_pump_tick_bind_r8_st : statOK k_pump_tick_bind_r8 = true := by kernel_rfl
def k_pump_tick_bind_r9 : List AOper := [
  ⟨some 94, .move (.tmp 0), none, []⟩,
 ⟨some 95, .nilCheck (.tmp 94), none, []⟩,
 ⟨some 96, .fieldAddr 9 (.tmp 95), none, []⟩,
 ⟨some 97, .fieldAddr 0 (.tmp 96), none, []⟩,
 ⟨some 98, .load none (.tmp 97), none, []⟩,
 ⟨some 99, .fieldAddr 0 (.tmp 3), none, [0, 1, 2, 3, 4]⟩,
 ⟨some 100, .load none (.tmp 99), none, [0, 1, 2, 3, 4]⟩,
 ⟨some 101, .load (some (2)) (.tmp 4), none, [0, 1, 2, 3, 4, 5, 6]⟩,
 ⟨some 102, .indexAddr 2 (.tmp 98) (.tmp 100), none, []⟩,
 ⟨none, .store 2 (.tmp 102) (.tmp 101), none, []⟩]
def k_pump_tick_bind_r9s : List (List AOper) := [
  [
  ⟨some 94, .move (.tmp 0), none, []⟩,
 ⟨some 95, .nilCheck (.tmp 94), none, []⟩,
 ⟨some 96, .fieldAddr 9 (.tmp 95), none, []⟩,
 ⟨some 97, .fieldAddr 0 (.tmp 96), none, []⟩,
 ⟨some 98, .load none (.tmp 97), none, []⟩,
 ⟨some 99, .fieldAddr 0 (.tmp 3), none, [0, 1, 2, 3, 4]⟩,
 ⟨some 100, .load none (.tmp 99), none, [0, 1, 2, 3, 4]⟩,
 ⟨some 101, .load (some (2)) (.tmp 4), none, [0, 1, 2, 3, 4, 5, 6]⟩], 
  [
  ⟨some 102, .indexAddr 2 (.tmp 98) (.tmp 100), none, []⟩], 
  [
  ⟨none, .store 2 (.tmp 102) (.tmp 101), none, []⟩]]
theorem k_pump_tick_bind_r9_sg : segs k_pump_tick_bind_r9 = k_pump_tick_bind_r9s := by kernel_rfl
theorem k_pump_tick_bind_r9_st : statOK k_pump_tick_bind_r9 = true := by kernel_rfl
def k_pump_tick_bind_r10 : List AOper := [
  ⟨some 103, .bin .plain .add (.tmp 19) (.const (.int .i64 1)), none, []⟩,
 ⟨some 19, .move (.tmp 103), none, []⟩]
def k_pump_tick_bind_r11 : ACode := (.seq (.reg k_pump_tick_bind_r2 false) (.seq (.cond (.tmp 20) .skip (.exit 0)) (.seq (.block 1 (.seq (.reg k_pump_tick_bind_r3 false) (.seq (.reg k_pump_tick_bind_r4 true) (.seq (.reg k_pump_tick_bind_r5 false) (.seq (.reg k_pump_tick_bind_r6 true) (.seq (.reg k_pump_tick_bind_r7 true) (.seq (.reg k_pump_tick_bind_r8 true) (.reg k_pump_tick_bind_r9 true)))))))) (.reg k_pump_tick_bind_r10 false))))
def k_pump_tick_bind : AFun := { params := 1, ntmps := 104, body := (.seq (.seq (.reg k_pump_tick_bind_r0 false) (.cond (.tmp 12) .ret .skip)) (.seq (.reg k_pump_tick_bind_r1 false) (.block 0 (.loop k_pump_tick_bind_r11)))), res := [] }
theorem k_pump_tick_bind_ok : cfun Try.prog Try.f135 = k_pump_tick_bind := by kernel_rfl

def k_pump_tick_cut_r0 : List AOper := [
  ⟨some 3, .move (.tmp 0), none, []⟩,
 ⟨some 4, .nilCheck (.tmp 3), none, []⟩,
 ⟨some 5, .fieldAddr 0 (.tmp 4), none, []⟩,
 ⟨some 6, .fieldAddr 0 (.tmp 5), none, []⟩,
 ⟨some 7, .load none (.tmp 6), none, []⟩,
 ⟨some 8, .len false (.tmp 7), none, []⟩,
 ⟨some 9, .move (.const (.int .i64 0)), none, []⟩]
def k_pump_tick_cut_r1 : List AOper := [
  ⟨some 10, .bin .plain .lss (.tmp 9) (.tmp 8), none, []⟩]
def k_pump_tick_cut_r2 : List AOper := [
  ⟨some 11, .move (.tmp 9), none, []⟩,
 ⟨some 2, .move (.tmp 11), none, []⟩]
def k_pump_tick_cut_r3 : List AOper := [
  ⟨some 12, .move (.tmp 0), none, []⟩,
 ⟨some 13, .nilCheck (.tmp 12), none, []⟩,
 ⟨some 14, .fieldAddr 9 (.tmp 13), none, []⟩,
 ⟨some 15, .fieldAddr 0 (.tmp 14), none, []⟩,
 ⟨some 16, .load none (.tmp 15), none, []⟩,
 ⟨some 17, .move (.tmp 2), none, [0, 1, 2, 3, 4]⟩,
 ⟨some 18, .move (.tmp 0), none, [0, 1, 2, 3, 4, 5]⟩,
 ⟨some 19, .nilCheck (.tmp 18), none, [0, 1, 2, 3, 4, 5]⟩,
 ⟨some 20, .fieldAddr 9 (.tmp 19), none, [0, 1, 2, 3, 4, 5]⟩,
 ⟨some 21, .fieldAddr 0 (.tmp 20), none, [0, 1, 2, 3, 4, 5]⟩,
 ⟨some 22, .load none (.tmp 21), none, [0, 1, 2, 3, 4, 5]⟩,
 ⟨some 23, .move (.tmp 2), none, [0, 1, 2, 3, 4, 5, 6, 7, 8, 9, 10]⟩,
 ⟨some 24, .indexAddr 2 (.tmp 22) (.tmp 23), none, [0, 1, 2, 3, 4, 5]⟩,
 ⟨some 25, .load (some (2)) (.tmp 24), none, [0, 1, 2, 3, 4, 5]⟩,
 ⟨some 26, .move (.tmp 0), none, [0, 1, 2, 3, 4, 5, 6, 7, 8, 9, 10, 11, 12, 13]⟩,
 ⟨some 27, .nilCheck (.tmp 26), none, [0, 1, 2, 3, 4, 5, 6, 7, 8, 9, 10, 11, 12, 13]⟩,
 ⟨some 28, .fieldAddr 9 (.tmp 27), none, [0, 1, 2, 3, 4, 5, 6, 7, 8, 9, 10, 11, 12, 13]⟩,
 ⟨some 29, .fieldAddr 3 (.tmp 28), none, [0, 1, 2, 3, 4, 5, 6, 7, 8, 9, 10, 11, 12, 13]⟩,
 ⟨some 30, .load none (.tmp 29), none, [0, 1, 2, 3, 4, 5, 6, 7, 8, 9, 10, 11, 12, 13]⟩,
 ⟨some 31, .call (.const (.fn (.func 154) [] [])) [.tmp 25, .tmp 30], none, [0, 1, 2, 3, 4, 5]⟩,
 ⟨some 32, .indexAddr 2 (.tmp 16) (.tmp 17), none, []⟩,
 ⟨none, .store 2 (.tmp 32) (.tmp 31), none, []⟩]
def k_pump_tick_cut_r3s : List (List AOper) := [
  [
  ⟨some 12, .move (.tmp 0), none, []⟩,
 ⟨some 13, .nilCheck (.tmp 12), none, []⟩,
 ⟨some 14, .fieldAddr 9 (.tmp 13), none, []⟩,
 ⟨some 15, .fieldAddr 0 (.tmp 14), none, []⟩,
 ⟨some 16, .load none (.tmp 15), none, []⟩,
 ⟨some 17, .move (.tmp 2), none, [0, 1, 2, 3, 4]⟩,
 ⟨some 18, .move (.tmp 0), none, [0, 1, 2, 3, 4, 5]⟩,
 ⟨some 19, .nilCheck (.tmp 18), none, [0, 1, 2, 3, 4, 5]⟩,
 ⟨some 20, .fieldAddr 9 (.tmp 19), none, [0, 1, 2, 3, 4, 5]⟩,
 ⟨some 21, .fieldAddr 0 (.tmp 20), none, [0, 1, 2, 3, 4, 5]⟩,
 ⟨some 22, .load none (.tmp 21), none, [0, 1, 2, 3, 4, 5]⟩,
 ⟨some 23, .move (.tmp 2), none, [0, 1, 2, 3, 4, 5, 6, 7, 8, 9, 10]⟩,
 ⟨some 24, .indexAddr 2 (.tmp 22) (.tmp 23), none, [0, 1, 2, 3, 4, 5]⟩,
 ⟨some 25, .load (some (2)) (.tmp 24), none, [0, 1, 2, 3, 4, 5]⟩,
 ⟨some 26, .move (.tmp 0), none, [0, 1, 2, 3, 4, 5, 6, 7, 8, 9, 10, 11, 12, 13]⟩,
 ⟨some 27, .nilCheck (.tmp 26), none, [0, 1, 2, 3, 4, 5, 6, 7, 8, 9, 10, 11, 12, 13]⟩,
 ⟨some 28, .fieldAddr 9 (.tmp 27), none, [0, 1, 2, 3, 4, 5, 6, 7, 8, 9, 10, 11, 12, 13]⟩,
 ⟨some 29, .fieldAddr 3 (.tmp 28), none, [0, 1, 2, 3, 4, 5, 6, 7, 8, 9, 10, 11, 12, 13]⟩,
 ⟨some 30, .load none (.tmp 29), none, [0, 1, 2, 3, 4, 5, 6, 7, 8, 9, 10, 11, 12, 13]⟩,
 ⟨some 31, .call (.const (.fn (.func 154) [] [])) [.tmp 25, .tmp 30], none, [0, 1, 2, 3, 4, 5]⟩], 
  [
  ⟨some 32, .indexAddr 2 (.tmp 16) (.tmp 17), none, []⟩], 
  [
  ⟨none, .store 2 (.tmp 32) (.tmp 31), none, []⟩]]
theorem k_pump_tick_cut_r3_sg : segs k_pump_tick_cut_r3 = k_pump_tick_cut_r3s := by kernel_rfl
theorem k_pump_tick_cut_r3_st : statOK k_pump_tick_cut_r3 = true := by kernel_rfl
def k_pump_tick_cut_r4 : List AOper := [
  ⟨some 33, .move (.tmp 0), none, []⟩,
 ⟨some 34, .nilCheck (.tmp 33), none, []⟩,
 ⟨some 35, .fieldAddr 9 (.tmp 34), none, []⟩,
 ⟨some 36, .fieldAddr 1 (.tmp 35), none, []⟩,
 ⟨some 37, .load none (.tmp 36), none, []⟩,
 ⟨some 38, .move (.tmp 2), none, [0, 1, 2, 3, 4]⟩,
 ⟨some 39, .move (.tmp 0), none, [0, 1, 2, 3, 4, 5]⟩,
 ⟨some 40, .nilCheck (.tmp 39), none, [0, 1, 2, 3, 4, 5]⟩,
 ⟨some 41, .fieldAddr 9 (.tmp 40), none, [0, 1, 2, 3, 4, 5]⟩,
 ⟨some 42, .fieldAddr 1 (.tmp 41), none, [0, 1, 2, 3, 4, 5]⟩,
 ⟨some 43, .load none (.tmp 42), none, [0, 1, 2, 3, 4, 5]⟩,
 ⟨some 44, .move (.tmp 2), none, [0, 1, 2, 3, 4, 5, 6, 7, 8, 9, 10]⟩,
 ⟨some 45, .indexAddr 2 (.tmp 43) (.tmp 44), none, [0, 1, 2, 3, 4, 5]⟩,
 ⟨some 46, .load (some (2)) (.tmp 45), none, [0, 1, 2, 3, 4, 5]⟩,
 ⟨some 47, .move (.tmp 0), none, [0, 1, 2, 3, 4, 5, 6, 7, 8, 9, 10, 11, 12, 13]⟩,
 ⟨some 48, .nilCheck (.tmp 47), none, [0, 1, 2, 3, 4, 5, 6, 7, 8, 9, 10, 11, 12, 13]⟩,
 ⟨some 49, .fieldAddr 9 (.tmp 48), none, [0, 1, 2, 3, 4, 5, 6, 7, 8, 9, 10, 11, 12, 13]⟩,
 ⟨some 50, .fieldAddr 3 (.tmp 49), none, [0, 1, 2, 3, 4, 5, 6, 7, 8, 9, 10, 11, 12, 13]⟩,
 ⟨some 51, .load none (.tmp 50), none, [0, 1, 2, 3, 4, 5, 6, 7, 8, 9, 10, 11, 12, 13]⟩,
 ⟨some 52, .call (.const (.fn (.func 154) [] [])) [.tmp 46, .tmp 51], none, [0, 1, 2, 3, 4, 5]⟩,
 ⟨some 53, .indexAddr 2 (.tmp 37) (.tmp 38), none, []⟩,
 ⟨none, .store 2 (.tmp 53) (.tmp 52), none, []⟩]
def k_pump_tick_cut_r4s : List (List AOper) := [
  [
  ⟨some 33, .move (.tmp 0), none, []⟩,
 ⟨some 34, .nilCheck (.tmp 33), none, []⟩,
 ⟨some 35, .fieldAddr 9 (.tmp 34), none, []⟩,
 ⟨some 36, .fieldAddr 1 (.tmp 35), none, []⟩,
 ⟨some 37, .load none (.tmp 36), none, []⟩,
 ⟨some 38, .move (.tmp 2), none, [0, 1, 2, 3, 4]⟩,
 ⟨some 39, .move (.tmp 0), none, [0, 1, 2, 3, 4, 5]⟩,
 ⟨some 40, .nilCheck (.tmp 39), none, [0, 1, 2, 3, 4, 5]⟩,
 ⟨some 41, .fieldAddr 9 (.tmp 40), none, [0, 1, 2, 3, 4, 5]⟩,
 ⟨some 42, .fieldAddr 1 (.tmp 41), none, [0, 1, 2, 3, 4, 5]⟩,
 ⟨some 43, .load none (.tmp 42), none, [0, 1, 2, 3, 4, 5]⟩,
 ⟨some 44, .move (.tmp 2), none, [0, 1, 2, 3, 4, 5, 6, 7, 8, 9, 10]⟩,
 ⟨some 45, .indexAddr 2 (.tmp 43) (.tmp 44), none, [0, 1, 2, 3, 4, 5]⟩,
 ⟨some 46, .load (some (2)) (.tmp 45), none, [0, 1, 2, 3, 4, 5]⟩,
 ⟨some 47, .move (.tmp 0), none, [0, 1, 2, 3, 4, 5, 6, 7, 8, 9, 10, 11, 12, 13]⟩,
 ⟨some 48, .nilCheck (.tmp 47), none, [0, 1, 2, 3, 4, 5, 6, 7, 8, 9, 10, 11, 12, 13]⟩,
 ⟨some 49, .fieldAddr 9 (.tmp 48), none, [0, 1, 2, 3, 4, 5, 6, 7, 8, 9, 10, 11, 12, 13]⟩,
 ⟨some 50, .fieldAddr 3 (.tmp 49), none, [0, 1, 2, 3, 4, 5, 6, 7, 8, 9, 10, 11, 12, 13]⟩,
 ⟨some 51, .load none (.tmp 50), none, [0, 1, 2, 3, 4, 5, 6, 7, 8, 9, 10, 11, 12, 13]⟩,
 ⟨some 52, .call (.const (.fn (.func 154) [] [])) [.tmp 46, .tmp 51], none, [0, 1, 2, 3, 4, 5]⟩], 
  [
  ⟨some 53, .indexAddr 2 (.tmp 37) (.tmp 38), none, []⟩], 
  [
  ⟨none, .store 2 (.tmp 53) (.tmp 52), none, []⟩]]
theorem k_pump_tick_cut_r4_sg : segs k_pump_tick_cut_r4 = k_pump_tick_cut_r4s := by kernel_rfl
theorem k_pump_tick_cut_r4_st : statOK k_pump_tick_cut_r4 = true := by kernel_rfl
def k_pump_tick_cut_r5 : List AOper := [
  ⟨some 54, .bin .plain .add (.tmp 9) (.const (.int .i64 1)), none, []⟩,
 ⟨some 9, .move (.tmp 54), none, []⟩]
def k_pump_tick_cut_r6 : ACode := (.seq (.reg k_pump_tick_cut_r1 false) (.seq (.cond (.tmp 10) .skip (.exit 0)) (.seq (.block 1 (.seq (.reg k_pump_tick_cut_r2 false) (.seq (.reg k_pump_tick_cut_r3 true) (.reg k_pump_tick_cut_r4 true)))) (.reg k_pump_tick_cut_r5 false))))
def k_pump_tick_cut : AFun := { params := 1, ntmps := 55, body := (.seq (.reg k_pump_tick_cut_r0 false) (.block 0 (.loop k_pump_tick_cut_r6))), res := [] }
theorem k_pump_tick_cut_ok : cfun Try.prog Try.f136 = k_pump_tick_cut := by kernel_rfl

def k_pump_ticks_1_r0 : List AOper := [
  ⟨some 8, .move (.tmp 0), none, []⟩,
 ⟨some 9, .load (some (5)) (.tmp 1), none, []⟩,
 ⟨some 10, .call (.tmp 8) [.const (.int .i64 0), .tmp 9], none, []⟩,
 ⟨some 11, .not (.tmp 10), none, []⟩]
def k_pump_ticks_1_r1 : List AOper := [
  ⟨some 5, .move (.const (.int .i64 0)), none, []⟩]
def k_pump_ticks_1_r2 : List AOper := [
  ⟨some 12, .load none (.tmp 2), none, []⟩,
 ⟨some 13, .len false (.tmp 12), none, []⟩,
 ⟨some 14, .move (.const (.int .i64 0)), none, []⟩]
def k_pump_ticks_1_r3 : List AOper := [
  ⟨some 15, .bin .plain .lss (.tmp 14) (.tmp 13), none, []⟩]
def k_pump_ticks_1_r4 : List AOper := [
  ⟨some 16, .indexAddr 4 (.tmp 12) (.tmp 14), none, []⟩,
 ⟨some 17, .load (some (4)) (.tmp 16), none, []⟩,
 ⟨some 7, .box (.const (.agg [.int .i64 0, .int .i64 0, .nilsl, .bool false])), none, []⟩,
 ⟨none, .store 4 (.tmp 7) (.tmp 17), none, []⟩]
def k_pump_ticks_1_r5 : List AOper := [
  ⟨some 18, .fieldAddr 0 (.tmp 7), none, []⟩,
 ⟨some 19, .load none (.tmp 18), none, []⟩,
 ⟨some 20, .move (.const (.int .i64 0)), none, []⟩]
def k_pump_ticks_1_r6 : List AOper := [
  ⟨some 21, .bin .plain .lss (.tmp 20) (.tmp 19), none, []⟩]
def k_pump_ticks_1_r7 : List AOper := [
  ⟨some 22, .move (.tmp 5), none, []⟩,
 ⟨some 23, .bin .plain .add (.tmp 22) (.const (.int .i64 1)), none, []⟩,
 ⟨some 5, .move (.tmp 23), none, []⟩]
def k_pump_ticks_1_r8 : List AOper := [
  ⟨some 24, .load (some (5)) (.tmp 3), none, []⟩,
 ⟨some 25, .load (some (5)) (.tmp 1), none, []⟩,
 ⟨some 26, .load (some (4)) (.tmp 7), none, []⟩,
 ⟨some 27, .call (.const (.fn (.func 102) [] [])) [.tmp 24, .tmp 25, .tmp 26], none, []⟩,
 ⟨none, .store 5 (.tmp 1) (.tmp 27), none, []⟩]
def k_pump_ticks_1_r9 : List AOper := [
  ⟨some 28, .move (.tmp 0), none, []⟩,
 ⟨some 29, .move (.tmp 5), none, []⟩,
 ⟨some 30, .load (some (5)) (.tmp 1), none, []⟩,
 ⟨some 31, .call (.tmp 28) [.tmp 29, .tmp 30], none, []⟩,
 ⟨some 32, .not (.tmp 31), none, []⟩]
def k_pump_ticks_1_r10 : List AOper := [
  ⟨some 33, .bin .plain .add (.tmp 20) (.const (.int .i64 1)), none, []⟩,
 ⟨some 20, .move (.tmp 33), none, []⟩]
def k_pump_ticks_1_r11 : ACode := (.seq (.reg k_pump_ticks_1_r6 false) (.seq (.cond (.tmp 21) .skip (.exit 2)) (.seq (.block 3 (.seq (.reg k_pump_ticks_1_r7 false) (.seq (.reg k_pump_ticks_1_r8 false) (.seq (.reg k_pump_ticks_1_r9 false) (.cond (.tmp 32) .ret .skip))))) (.reg k_pump_ticks_1_r10 false))))
def k_pump_ticks_1_r12 : List AOper := [
  ⟨some 34, .bin .plain .add (.tmp 14) (.const (.int .i64 1)), none, []⟩,
 ⟨some 14, .move (.tmp 34), none, []⟩]
def k_pump_ticks_1_r13 : ACode := (.seq (.reg k_pump_ticks_1_r3 false) (.seq (.cond (.tmp 15) .skip (.exit 0)) (.seq (.block 1 (.seq (.reg k_pump_ticks_1_r4 false) (.seq (.reg k_pump_ticks_1_r5 false) (.block 2 (.loop k_pump_ticks_1_r11))))) (.reg k_pump_ticks_1_r12 false))))
def k_pump_ticks_1 : AFun := { params := 4, ntmps := 35, body := (.seq (.seq (.reg k_pump_ticks_1_r0 false) (.cond (.tmp 11) .ret .skip)) (.seq (.reg k_pump_ticks_1_r1 false) (.seq (.reg k_pump_ticks_1_r2 false) (.block 0 (.loop k_pump_ticks_1_r13))))), res := [] }
theorem k_pump_ticks_1_ok : cfun Try.prog Try.f142 = k_pump_ticks_1 := by kernel_rfl

def k_pump_hunter_with_r0 : List AOper := [
  ⟨some 3, .box (.tmp 0), none, []⟩,
 ⟨some 6, .move (.const (.int .i64 0)), none, []⟩,
 ⟨some 7, .move (.const (.bool false)), none, []⟩]
def k_pump_hunter_with_r1 : List AOper := [
  ⟨some 12, .move (.tmp 2), none, []⟩,
 ⟨some 13, .fieldAddr 0 (.tmp 3), none, [0]⟩,
 ⟨some 14, .load none (.tmp 13), none, [0]⟩,
 ⟨some 15, .move (.tmp 1), none, [0, 1, 2]⟩,
 ⟨some 16, .indexAddr 1 (.tmp 14) (.tmp 15), none, [0]⟩,
 ⟨some 17, .load none (.tmp 16), none, [0]⟩,
 ⟨some 18, .bin .plain .and (.tmp 12) (.tmp 17), none, []⟩,
 ⟨some 19, .move (.tmp 2), none, [0, 1, 2, 3, 4, 5, 6]⟩,
 ⟨some 20, .fieldAddr 0 (.tmp 3), none, [0, 1, 2, 3, 4, 5, 6, 7]⟩,
 ⟨some 21, .load none (.tmp 20), none, [0, 1, 2, 3, 4, 5, 6, 7]⟩,
 ⟨some 22, .move (.tmp 1), none, [0, 1, 2, 3, 4, 5, 6, 7, 8, 9]⟩,
 ⟨some 23, .indexAddr 1 (.tmp 21) (.tmp 22), none, [0, 1, 2, 3, 4, 5, 6, 7]⟩,
 ⟨some 24, .load none (.tmp 23), none, [0, 1, 2, 3, 4, 5, 6, 7]⟩,
 ⟨some 25, .bin .plain .andNot (.tmp 19) (.tmp 24), none, [0, 1, 2, 3, 4, 5, 6]⟩,
 ⟨some 8, .move (.tmp 18), none, [7, 8, 9, 10, 11, 12, 13]⟩,
 ⟨some 9, .move (.tmp 25), none, []⟩]
def k_pump_hunter_with_r1s : List (List AOper) := [
  [
  ⟨some 12, .move (.tmp 2), none, []⟩,
 ⟨some 13, .fieldAddr 0 (.tmp 3), none, [0]⟩,
 ⟨some 14, .load none (.tmp 13), none, [0]⟩,
 ⟨some 15, .move (.tmp 1), none, [0, 1, 2]⟩,
 ⟨some 16, .indexAddr 1 (.tmp 14) (.tmp 15), none, [0]⟩,
 ⟨some 17, .load none (.tmp 16), none, [0]⟩,
 ⟨some 18, .bin .plain .and (.tmp 12) (.tmp 17), none, []⟩,
 ⟨some 19, .move (.tmp 2), none, [0, 1, 2, 3, 4, 5, 6]⟩,
 ⟨some 20, .fieldAddr 0 (.tmp 3), none, [0, 1, 2, 3, 4, 5, 6, 7]⟩,
 ⟨some 21, .load none (.tmp 20), none, [0, 1, 2, 3, 4, 5, 6, 7]⟩,
 ⟨some 22, .move (.tmp 1), none, [0, 1, 2, 3, 4, 5, 6, 7, 8, 9]⟩,
 ⟨some 23, .indexAddr 1 (.tmp 21) (.tmp 22), none, [0, 1, 2, 3, 4, 5, 6, 7]⟩,
 ⟨some 24, .load none (.tmp 23), none, [0, 1, 2, 3, 4, 5, 6, 7]⟩,
 ⟨some 25, .bin .plain .andNot (.tmp 19) (.tmp 24), none, [0, 1, 2, 3, 4, 5, 6]⟩,
 ⟨some 8, .move (.tmp 18), none, [7, 8, 9, 10, 11, 12, 13]⟩], 
  [
  ⟨some 9, .move (.tmp 25), none, []⟩]]
theorem k_pump_hunter_with_r1_sg : segs k_pump_hunter_with_r1 = k_pump_hunter_with_r1s := by kernel_rfl
theorem k_pump_hunter_with_r1_st : statOK k_pump_hunter_with_r1 = true := by kernel_rfl
def k_pump_hunter_with_r2 : List AOper := [
  ⟨some 26, .move (.tmp 8), none, []⟩,
 ⟨some 27, .bin .plain .eql (.tmp 26) (.const (.int .u16 0)), none, []⟩,
 ⟨some 28, .move (.tmp 27), none, []⟩,
 ⟨some 29, .move (.tmp 9), (some (28, false)), []⟩,
 ⟨some 30, .bin .plain .eql (.tmp 29) (.const (.int .u16 0)), (some (28, false)), []⟩,
 ⟨some 31, .pick (.tmp 28) (.const (.bool true)) (.tmp 30), none, []⟩]
def k_pump_hunter_with_r3 : List AOper := [
  ⟨some 6, .move (.const (.int .i64 0)), none, []⟩,
 ⟨some 7, .move (.const (.bool false)), none, []⟩]
def k_pump_hunter_with_r4 : List AOper := [
  ⟨some 32, .load (some (3)) (.tmp 3), none, []⟩,
 ⟨some 33, .move (.tmp 8), none, [0]⟩,
 ⟨some 34, .call (.const (.fn (.func 111) [] [])) [.tmp 32, .tmp 33], none, []⟩,
 ⟨some 35, .load (some (3)) (.tmp 3), none, [0, 1, 2]⟩,
 ⟨some 36, .move (.tmp 9), none, [0, 1, 2, 3]⟩,
 ⟨some 37, .call (.const (.fn (.func 111) [] [])) [.tmp 35, .tmp 36], none, []⟩,
 ⟨some 10, .box (.const (.agg [.bool false, .int .i64 0, .int .i64 0])), none, [0, 1, 2, 3, 4, 5]⟩,
 ⟨some 11, .box (.const (.agg [.bool false, .int .i64 0, .int .i64 0])), none, [0, 1, 2, 3, 4, 5, 6]⟩,
 ⟨none, .store 3 (.tmp 10) (.tmp 34), none, []⟩,
 ⟨none, .store 3 (.tmp 11) (.tmp 37), none, []⟩]
def k_pump_hunter_with_r4s : List (List AOper) := [
  [
  ⟨some 32, .load (some (3)) (.tmp 3), none, []⟩,
 ⟨some 33, .move (.tmp 8), none, [0]⟩,
 ⟨some 34, .call (.const (.fn (.func 111) [] [])) [.tmp 32, .tmp 33], none, []⟩,
 ⟨some 35, .load (some (3)) (.tmp 3), none, [0, 1, 2]⟩,
 ⟨some 36, .move (.tmp 9), none, [0, 1, 2, 3]⟩,
 ⟨some 37, .call (.const (.fn (.func 111) [] [])) [.tmp 35, .tmp 36], none, []⟩,
 ⟨some 10, .box (.const (.agg [.bool false, .int .i64 0, .int .i64 0])), none, [0, 1, 2, 3, 4, 5]⟩,
 ⟨some 11, .box (.const (.agg [.bool false, .int .i64 0, .int .i64 0])), none, [0, 1, 2, 3, 4, 5, 6]⟩], 
  [
  ⟨none, .store 3 (.tmp 10) (.tmp 34), none, []⟩], 
  [
  ⟨none, .store 3 (.tmp 11) (.tmp 37), none, []⟩]]
theorem k_pump_hunter_with_r4_sg : segs k_pump_hunter_with_r4 = k_pump_hunter_with_r4s := by kernel_rfl
theorem k_pump_hunter_with_r4_st : statOK k_pump_hunter_with_r4 = true := by kernel_rfl
def k_pump_hunter_with_r5 : List AOper := [
  ⟨some 38, .fieldAddr 1 (.tmp 3), none, []⟩,
 ⟨some 39, .load none (.tmp 38), none, []⟩,
 ⟨some 40, .move (.tmp 1), none, [0, 1]⟩,
 ⟨some 41, .indexAddr 1 (.tmp 39) (.tmp 40), none, []⟩,
 ⟨some 42, .load none (.tmp 41), none, []⟩,
 ⟨some 43, .fieldAddr 1 (.tmp 10), none, [0, 1, 2, 3, 4]⟩,
 ⟨some 44, .load none (.tmp 43), none, [0, 1, 2, 3, 4]⟩,
 ⟨some 45, .fieldAddr 1 (.tmp 11), none, [0, 1, 2, 3, 4, 5, 6]⟩,
 ⟨some 46, .load none (.tmp 45), none, [0, 1, 2, 3, 4, 5, 6]⟩,
 ⟨some 47, .minmax true [.tmp 44, .tmp 46], none, [0, 1, 2, 3, 4]⟩,
 ⟨some 48, .bin .plain .add (.tmp 42) (.tmp 47), none, []⟩,
 ⟨some 49, .fieldAddr 0 (.tmp 10), none, [0, 1, 2, 3, 4, 5, 6, 7, 8, 9, 10]⟩,
 ⟨some 50, .load none (.tmp 49), none, [0, 1, 2, 3, 4, 5, 6, 7, 8, 9, 10]⟩,
 ⟨some 51, .move (.tmp 50), none, [0, 1, 2, 3, 4, 5, 6, 7, 8, 9, 10]⟩,
 ⟨some 52, .fieldAddr 0 (.tmp 11), (some (51, true)), [0, 1, 2, 3, 4, 5, 6, 7, 8, 9, 10]⟩,
 ⟨some 53, .load none (.tmp 52), (some (51, true)), [0, 1, 2, 3, 4, 5, 6, 7, 8, 9, 10]⟩,
 ⟨some 54, .pick (.tmp 51) (.tmp 53) (.const (.bool false)), none, [0, 1, 2, 3, 4, 5, 6, 7, 8, 9, 10]⟩,
 ⟨some 6, .move (.tmp 48), none, [14, 15, 16]⟩,
 ⟨some 7, .move (.tmp 54), none, []⟩]
def k_pump_hunter_with_r5s : List (List AOper) := [
  [
  ⟨some 38, .fieldAddr 1 (.tmp 3), none, []⟩,
 ⟨some 39, .load none (.tmp 38), none, []⟩,
 ⟨some 40, .move (.tmp 1), none, [0, 1]⟩,
 ⟨some 41, .indexAddr 1 (.tmp 39) (.tmp 40), none, []⟩,
 ⟨some 42, .load none (.tmp 41), none, []⟩,
 ⟨some 43, .fieldAddr 1 (.tmp 10), none, [0, 1, 2, 3, 4]⟩,
 ⟨some 44, .load none (.tmp 43), none, [0, 1, 2, 3, 4]⟩,
 ⟨some 45, .fieldAddr 1 (.tmp 11), none, [0, 1, 2, 3, 4, 5, 6]⟩,
 ⟨some 46, .load none (.tmp 45), none, [0, 1, 2, 3, 4, 5, 6]⟩,
 ⟨some 47, .minmax true [.tmp 44, .tmp 46], none, [0, 1, 2, 3, 4]⟩,
 ⟨some 48, .bin .plain .add (.tmp 42) (.tmp 47), none, []⟩,
 ⟨some 49, .fieldAddr 0 (.tmp 10), none, [0, 1, 2, 3, 4, 5, 6, 7, 8, 9, 10]⟩,
 ⟨some 50, .load none (.tmp 49), none, [0, 1, 2, 3, 4, 5, 6, 7, 8, 9, 10]⟩,
 ⟨some 51, .move (.tmp 50), none, [0, 1, 2, 3, 4, 5, 6, 7, 8, 9, 10]⟩,
 ⟨some 52, .fieldAddr 0 (.tmp 11), (some (51, true)), [0, 1, 2, 3, 4, 5, 6, 7, 8, 9, 10]⟩,
 ⟨some 53, .load none (.tmp 52), (some (51, true)), [0, 1, 2, 3, 4, 5, 6, 7, 8, 9, 10]⟩,
 ⟨some 54, .pick (.tmp 51) (.tmp 53) (.const (.bool false)), none, [0, 1, 2, 3, 4, 5, 6, 7, 8, 9, 10]⟩,
 ⟨some 6, .move (.tmp 48), none, [14, 15, 16]⟩], 
  [
  ⟨some 7, .move (.tmp 54), none, []⟩]]
theorem k_pump_hunter_with_r5_sg : segs k_pump_hunter_with_r5 = k_pump_hunter_with_r5s := by kernel_rfl
theorem k_pump_hunter_with_r5_st : statOK k_pump_hunter_with_r5 = true := by kernel_rfl
def k_pump_hunter_with : AFun := { params := 3, ntmps := 55, body := (.seq (.reg k_pump_hunter_with_r0 false) (.seq (.reg k_pump_hunter_with_r1 true) (.seq (.seq (.reg k_pump_hunter_with_r2 false) (.cond (.tmp 31) (.seq (.reg k_pump_hunter_with_r3 false) .ret) .skip)) (.seq (.reg k_pump_hunter_with_r4 true) (.seq (.reg k_pump_hunter_with_r5 true) .ret))))), res := [.tmp 6, .tmp 7] }
theorem k_pump_hunter_with_ok : cfun Try.prog Try.f143 = k_pump_hunter_with := by kernel_rfl

def k_bits_OnesCount16_r0 : List AOper := [
  ⟨some 2, .move (.const (.int .i64 0)), none, []⟩]
def k_bits_OnesCount16_r1 : List AOper := [
  ⟨some 3, .move (.tmp 0), none, []⟩,
 ⟨some 4, .bin .plain .shr (.tmp 3) (.const (.int .u64 8)), none, []⟩,
 ⟨some 5, .indexStr (.const (.str [0, 1, 1, 2, 1, 2, 2, 3, 1, 2, 2, 3, 2, 3, 3, 4, 1, 2, 2, 3, 2, 3, 3, 4, 2, 3, 3, 4, 3, 4, 4, 5, 1, 2, 2, 3, 2, 3, 3, 4, 2, 3, 3, 4, 3, 4, 4, 5, 2, 3, 3, 4, 3, 4, 4, 5, 3, 4, 4, 5, 4, 5, 5, 6, 1, 2, 2, 3, 2, 3, 3, 4, 2, 3, 3, 4, 3, 4, 4, 5, 2, 3, 3, 4, 3, 4, 4, 5, 3, 4, 4, 5, 4, 5, 5, 6, 2, 3, 3, 4, 3, 4, 4, 5, 3, 4, 4, 5, 4, 5, 5, 6, 3, 4, 4, 5, 4, 5, 5, 6, 4, 5, 5, 6, 5, 6, 6, 7, 1, 2, 2, 3, 2, 3, 3, 4, 2, 3, 3, 4, 3, 4, 4, 5, 2, 3, 3, 4, 3, 4, 4, 5, 3, 4, 4, 5, 4, 5, 5, 6, 2, 3, 3, 4, 3, 4, 4, 5, 3, 4, 4, 5, 4, 5, 5, 6, 3, 4, 4, 5, 4, 5, 5, 6, 4, 5, 5, 6, 5, 6, 6, 7, 2, 3, 3, 4, 3, 4, 4, 5, 3, 4, 4, 5, 4, 5, 5, 6, 3, 4, 4, 5, 4, 5, 5, 6, 4, 5, 5, 6, 5, 6, 6, 7, 3, 4, 4, 5, 4, 5, 5, 6, 4, 5, 5, 6, 5, 6, 6, 7, 4, 5, 5, 6, 5, 6, 6, 7, 5, 6, 6, 7, 6, 7, 7, 8])) (.tmp 4), none, []⟩,
 ⟨some 6, .move (.tmp 0), none, [0, 1, 2]⟩,
 ⟨some 7, .bin .plain .and (.tmp 6) (.const (.int .u16 255)), none, [0, 1, 2]⟩,
 ⟨some 8, .indexStr (.const (.str [0, 1, 1, 2, 1, 2, 2, 3, 1, 2, 2, 3, 2, 3, 3, 4, 1, 2, 2, 3, 2, 3, 3, 4, 2, 3, 3, 4, 3, 4, 4, 5, 1, 2, 2, 3, 2, 3, 3, 4, 2, 3, 3, 4, 3, 4, 4, 5, 2, 3, 3, 4, 3, 4, 4, 5, 3, 4, 4, 5, 4, 5, 5, 6, 1, 2, 2, 3, 2, 3, 3, 4, 2, 3, 3, 4, 3, 4, 4, 5, 2, 3, 3, 4, 3, 4, 4, 5, 3, 4, 4, 5, 4, 5, 5, 6, 2, 3, 3, 4, 3, 4, 4, 5, 3, 4, 4, 5, 4, 5, 5, 6, 3, 4, 4, 5, 4, 5, 5, 6, 4, 5, 5, 6, 5, 6, 6, 7, 1, 2, 2, 3, 2, 3, 3, 4, 2, 3, 3, 4, 3, 4, 4, 5, 2, 3, 3, 4, 3, 4, 4, 5, 3, 4, 4, 5, 4, 5, 5, 6, 2, 3, 3, 4, 3, 4, 4, 5, 3, 4, 4, 5, 4, 5, 5, 6, 3, 4, 4, 5, 4, 5, 5, 6, 4, 5, 5, 6, 5, 6, 6, 7, 2, 3, 3, 4, 3, 4, 4, 5, 3, 4, 4, 5, 4, 5, 5, 6, 3, 4, 4, 5, 4, 5, 5, 6, 4, 5, 5, 6, 5, 6, 6, 7, 3, 4, 4, 5, 4, 5, 5, 6, 4, 5, 5, 6, 5, 6, 6, 7, 4, 5, 5, 6, 5, 6, 6, 7, 5, 6, 6, 7, 6, 7, 7, 8])) (.tmp 7), none, [0, 1, 2]⟩,
 ⟨some 9, .bin .plain .add (.tmp 5) (.tmp 8), none, []⟩,
 ⟨some 10, .toInt .i64 (.tmp 9), none, []⟩,
 ⟨some 2, .move (.tmp 10), none, []⟩]
def k_bits_OnesCount16_r1s : List (List AOper) := [
  [
  ⟨some 3, .move (.tmp 0), none, []⟩,
 ⟨some 4, .bin .plain .shr (.tmp 3) (.const (.int .u64 8)), none, []⟩,
 ⟨some 5, .indexStr (.const (.str [0, 1, 1, 2, 1, 2, 2, 3, 1, 2, 2, 3, 2, 3, 3, 4, 1, 2, 2, 3, 2, 3, 3, 4, 2, 3, 3, 4, 3, 4, 4, 5, 1, 2, 2, 3, 2, 3, 3, 4, 2, 3, 3, 4, 3, 4, 4, 5, 2, 3, 3, 4, 3, 4, 4, 5, 3, 4, 4, 5, 4, 5, 5, 6, 1, 2, 2, 3, 2, 3, 3, 4, 2, 3, 3, 4, 3, 4, 4, 5, 2, 3, 3, 4, 3, 4, 4, 5, 3, 4, 4, 5, 4, 5, 5, 6, 2, 3, 3, 4, 3, 4, 4, 5, 3, 4, 4, 5, 4, 5, 5, 6, 3, 4, 4, 5, 4, 5, 5, 6, 4, 5, 5, 6, 5, 6, 6, 7, 1, 2, 2, 3, 2, 3, 3, 4, 2, 3, 3, 4, 3, 4, 4, 5, 2, 3, 3, 4, 3, 4, 4, 5, 3, 4, 4, 5, 4, 5, 5, 6, 2, 3, 3, 4, 3, 4, 4, 5, 3, 4, 4, 5, 4, 5, 5, 6, 3, 4, 4, 5, 4, 5, 5, 6, 4, 5, 5, 6, 5, 6, 6, 7, 2, 3, 3, 4, 3, 4, 4, 5, 3, 4, 4, 5, 4, 5, 5, 6, 3, 4, 4, 5, 4, 5, 5, 6, 4, 5, 5, 6, 5, 6, 6, 7, 3, 4, 4, 5, 4, 5, 5, 6, 4, 5, 5, 6, 5, 6, 6, 7, 4, 5, 5, 6, 5, 6, 6, 7, 5, 6, 6, 7, 6, 7, 7, 8])) (.tmp 4), none, []⟩,
 ⟨some 6, .move (.tmp 0), none, [0, 1, 2]⟩,
 ⟨some 7, .bin .plain .and (.tmp 6) (.const (.int .u16 255)), none, [0, 1, 2]⟩,
 ⟨some 8, .indexStr (.const (.str [0, 1, 1, 2, 1, 2, 2, 3, 1, 2, 2, 3, 2, 3, 3, 4, 1, 2, 2, 3, 2, 3, 3, 4, 2, 3, 3, 4, 3, 4, 4, 5, 1, 2, 2, 3, 2, 3, 3, 4, 2, 3, 3, 4, 3, 4, 4, 5, 2, 3, 3, 4, 3, 4, 4, 5, 3, 4, 4, 5, 4, 5, 5, 6, 1, 2, 2, 3, 2, 3, 3, 4, 2, 3, 3, 4, 3, 4, 4, 5, 2, 3, 3, 4, 3, 4, 4, 5, 3, 4, 4, 5, 4, 5, 5, 6, 2, 3, 3, 4, 3, 4, 4, 5, 3, 4, 4, 5, 4, 5, 5, 6, 3, 4, 4, 5, 4, 5, 5, 6, 4, 5, 5, 6, 5, 6, 6, 7, 1, 2, 2, 3, 2, 3, 3, 4, 2, 3, 3, 4, 3, 4, 4, 5, 2, 3, 3, 4, 3, 4, 4, 5, 3, 4, 4, 5, 4, 5, 5, 6, 2, 3, 3, 4, 3, 4, 4, 5, 3, 4, 4, 5, 4, 5, 5, 6, 3, 4, 4, 5, 4, 5, 5, 6, 4, 5, 5, 6, 5, 6, 6, 7, 2, 3, 3, 4, 3, 4, 4, 5, 3, 4, 4, 5, 4, 5, 5, 6, 3, 4, 4, 5, 4, 5, 5, 6, 4, 5, 5, 6, 5, 6, 6, 7, 3, 4, 4, 5, 4, 5, 5, 6, 4, 5, 5, 6, 5, 6, 6, 7, 4, 5, 5, 6, 5, 6, 6, 7, 5, 6, 6, 7, 6, 7, 7, 8])) (.tmp 7), none, [0, 1, 2]⟩], 
  [
  ⟨some 9, .bin .plain .add (.tmp 5) (.tmp 8), none, []⟩], 
  [
  ⟨some 10, .toInt .i64 (.tmp 9), none, []⟩], 
  [
  ⟨some 2, .move (.tmp 10), none, []⟩]]
theorem k_bits_OnesCount16_r1_sg : segs k_bits_OnesCount16_r1 = k_bits_OnesCount16_r1s := by kernel_rfl
theorem k_bits_OnesCount16_r1_st : statOK k_bits_OnesCount16_r1 = true := by kernel_rfl
def k_bits_OnesCount16 : AFun := { params := 1, ntmps := 11, body := (.seq (.reg k_bits_OnesCount16_r0 false) (.seq (.reg k_bits_OnesCount16_r1 true) .ret)), res := [.tmp 2] }
theorem k_bits_OnesCount16_ok : cfun Try.prog Try.f144 = k_bits_OnesCount16 := by kernel_rfl

def k_pump_flows_r0 : List AOper := [
  ⟨some 2, .box (.tmp 0), none, []⟩,
 ⟨some 3, .box (.tmp 1), none, []⟩,
 ⟨some 4, .move (.const (.nilfn)), none, []⟩]
def k_pump_flows_r1 : List AOper := [
  ⟨some 5, .makeFunc (.func 158) [] [.tmp 2, .tmp 3], none, []⟩,
 ⟨some 4, .move (.tmp 5), none, []⟩]
def k_pump_flows : AFun := { params := 2, ntmps := 6, body := (.seq (.reg k_pump_flows_r0 false) (.seq (.reg k_pump_flows_r1 false) .ret)), res := [.tmp 4] }
theorem k_pump_flows_ok : cfun Try.prog Try.f146 = k_pump_flows := by kernel_rfl

def k_pump_plus_r0 : List AOper := [
  ⟨some 2, .box (.tmp 0), none, []⟩,
 ⟨some 3, .box (.tmp 1), none, []⟩,
 ⟨some 4, .box (.const (.agg [.int .i64 0, .int .i64 0])), none, []⟩]
def k_pump_plus_r1 : List AOper := [
  ⟨some 5, .fieldAddr 0 (.tmp 2), none, []⟩,
 ⟨some 6, .load none (.tmp 5), none, []⟩,
 ⟨some 7, .fieldAddr 0 (.tmp 3), none, []⟩,
 ⟨some 8, .load none (.tmp 7), none, []⟩,
 ⟨some 9, .bin .plain .add (.tmp 6) (.tmp 8), none, []⟩,
 ⟨some 10, .fieldAddr 1 (.tmp 2), none, []⟩,
 ⟨some 11, .load none (.tmp 10), none, []⟩,
 ⟨some 12, .fieldAddr 1 (.tmp 3), none, []⟩,
 ⟨some 13, .load none (.tmp 12), none, []⟩,
 ⟨some 14, .bin .plain .add (.tmp 11) (.tmp 13), none, []⟩,
 ⟨some 15, .build [.int .i64 0, .int .i64 0] [(0, 1, .tmp 9), (1, 1, .tmp 14)], none, []⟩,
 ⟨none, .store 2 (.tmp 4) (.tmp 15), none, []⟩]
def k_pump_plus : AFun := { params := 2, ntmps := 16, body := (.seq (.reg k_pump_plus_r0 false) (.seq (.reg k_pump_plus_r1 false) .ret)), res := [.cell 4 (some ((some (2))))] }
theorem k_pump_plus_ok : cfun Try.prog Try.f147 = k_pump_plus := by kernel_rfl

def k_pump_rateAt_r0 : List AOper := [
  ⟨some 4, .box (.const (.agg [.int .i64 0, .int .i64 0])), none, []⟩]
def k_pump_rateAt_r1 : List AOper := [
  ⟨some 5, .box (.const (.agg [.int .i64 0, .int .i64 0])), none, []⟩]
def k_pump_rateAt_r2 : List AOper := [
  ⟨some 8, .move (.tmp 0), none, []⟩,
 ⟨some 9, .len false (.tmp 8), none, []⟩,
 ⟨some 10, .move (.const (.int .i64 0)), none, []⟩]
def k_pump_rateAt_r3 : List AOper := [
  ⟨some 11, .bin .plain .lss (.tmp 10) (.tmp 9), none, []⟩]
def k_pump_rateAt_r4 : List AOper := [
  ⟨some 12, .indexAddr 3 (.tmp 8) (.tmp 10), none, []⟩,
 ⟨some 13, .load (some (3)) (.tmp 12), none, []⟩,
 ⟨some 7, .box (.const (.agg [.int .i64 0, .int .i64 0, .int .i64 0])), none, []⟩,
 ⟨none, .store 3 (.tmp 7) (.tmp 13), none, []⟩]
def k_pump_rateAt_r5 : List AOper := [
  ⟨some 14, .fieldAddr 0 (.tmp 7), none, []⟩,
 ⟨some 15, .load none (.tmp 14), none, []⟩,
 ⟨some 16, .move (.tmp 1), none, []⟩,
 ⟨some 17, .bin .plain .leq (.tmp 15) (.tmp 16), none, []⟩]
def k_pump_rateAt_r6 : List AOper := [
  ⟨some 18, .fieldAddr 1 (.tmp 7), none, []⟩,
 ⟨some 19, .load (some (2)) (.tmp 18), none, []⟩,
 ⟨none, .store 2 (.tmp 5) (.tmp 19), none, []⟩]
def k_pump_rateAt_r7 : List AOper := [
  ⟨some 20, .bin .plain .add (.tmp 10) (.const (.int .i64 1)), none, []⟩,
 ⟨some 10, .move (.tmp 20), none, []⟩]
def k_pump_rateAt_r8 : ACode := (.seq (.reg k_pump_rateAt_r3 false) (.seq (.cond (.tmp 11) .skip (.exit 0)) (.seq (.block 1 (.seq (.reg k_pump_rateAt_r4 false) (.seq (.reg k_pump_rateAt_r5 false) (.cond (.tmp 17) (.reg k_pump_rateAt_r6 false) .skip)))) (.reg k_pump_rateAt_r7 false))))
def k_pump_rateAt_r9 : List AOper := [
  ⟨some 21, .load (some (2)) (.tmp 5), none, []⟩,
 ⟨none, .store 2 (.tmp 4) (.tmp 21), none, []⟩]
def k_pump_rateAt : AFun := { params := 2, ntmps := 22, body := (.seq (.reg k_pump_rateAt_r0 false) (.seq (.reg k_pump_rateAt_r1 false) (.seq (.seq (.reg k_pump_rateAt_r2 false) (.block 0 (.loop k_pump_rateAt_r8))) (.seq (.reg k_pump_rateAt_r9 false) .ret)))), res := [.cell 4 (some ((some (2))))] }
theorem k_pump_rateAt_ok : cfun Try.prog Try.f148 = k_pump_rateAt := by kernel_rfl

def k_pump_perMillion_r0 : List AOper := [
  ⟨some 1, .box (.tmp 0), none, []⟩,
 ⟨some 2, .box (.const (.agg [.int .i64 0, .int .i64 0])), none, []⟩]
def k_pump_perMillion_r1 : List AOper := [
  ⟨some 3, .fieldAddr 0 (.tmp 1), none, []⟩,
 ⟨some 4, .load none (.tmp 3), none, []⟩,
 ⟨some 5, .call (.const (.fn (.func 153) [] [])) [.tmp 4], none, []⟩,
 ⟨some 6, .fieldAddr 1 (.tmp 1), none, [0, 1, 2]⟩,
 ⟨some 7, .load none (.tmp 6), none, [0, 1, 2]⟩,
 ⟨some 8, .call (.const (.fn (.func 152) [] [])) [.tmp 7], none, []⟩,
 ⟨some 9, .build [.int .i64 0, .int .i64 0] [(0, 1, .tmp 5), (1, 1, .tmp 8)], none, []⟩,
 ⟨none, .store 2 (.tmp 2) (.tmp 9), none, []⟩]
def k_pump_perMillion_r1s : List (List AOper) := [
  [
  ⟨some 3, .fieldAddr 0 (.tmp 1), none, []⟩,
 ⟨some 4, .load none (.tmp 3), none, []⟩,
 ⟨some 5, .call (.const (.fn (.func 153) [] [])) [.tmp 4], none, []⟩,
 ⟨some 6, .fieldAddr 1 (.tmp 1), none, [0, 1, 2]⟩,
 ⟨some 7, .load none (.tmp 6), none, [0, 1, 2]⟩], 
  [
  ⟨some 8, .call (.const (.fn (.func 152) [] [])) [.tmp 7], none, []⟩], 
  [
  ⟨some 9, .build [.int .i64 0, .int .i64 0] [(0, 1, .tmp 5), (1, 1, .tmp 8)], none, []⟩], 
  [
  ⟨none, .store 2 (.tmp 2) (.tmp 9), none, []⟩]]
theorem k_pump_perMillion_r1_sg : segs k_pump_perMillion_r1 = k_pump_perMillion_r1s := by kernel_rfl
theorem k_pump_perMillion_r1_st : statOK k_pump_perMillion_r1 = true := by kernel_rfl
def k_pump_perMillion : AFun := { params := 1, ntmps := 10, body := (.seq (.reg k_pump_perMillion_r0 false) (.seq (.reg k_pump_perMillion_r1 true) .ret)), res := [.cell 2 (some ((some (2))))] }
theorem k_pump_perMillion_ok : cfun Try.prog Try.f149 = k_pump_perMillion := by kernel_rfl

def k_pump_times_r0 : List AOper := [
  ⟨some 2, .box (.tmp 0), none, []⟩,
 ⟨some 3, .box (.tmp 1), none, []⟩,
 ⟨some 4, .box (.const (.agg [.int .i64 0, .int .i64 0])), none, []⟩]
def k_pump_times_r1 : List AOper := [
  ⟨some 5, .fieldAddr 0 (.tmp 2), none, []⟩,
 ⟨some 6, .load none (.tmp 5), none, []⟩,
 ⟨some 7, .fieldAddr 0 (.tmp 3), none, []⟩,
 ⟨some 8, .load none (.tmp 7), none, []⟩,
 ⟨some 9, .bin .plain .mul (.tmp 6) (.tmp 8), none, []⟩,
 ⟨some 10, .fieldAddr 1 (.tmp 2), none, []⟩,
 ⟨some 11, .load none (.tmp 10), none, []⟩,
 ⟨some 12, .fieldAddr 1 (.tmp 3), none, []⟩,
 ⟨some 13, .load none (.tmp 12), none, []⟩,
 ⟨some 14, .bin .plain .mul (.tmp 11) (.tmp 13), none, []⟩,
 ⟨some 15, .build [.int .i64 0, .int .i64 0] [(0, 1, .tmp 9), (1, 1, .tmp 14)], none, []⟩,
 ⟨none, .store 2 (.tmp 4) (.tmp 15), none, []⟩]
def k_pump_times : AFun := { params := 2, ntmps := 16, body := (.seq (.reg k_pump_times_r0 false) (.seq (.reg k_pump_times_r1 false) .ret)), res := [.cell 4 (some ((some (2))))] }
theorem k_pump_times_ok : cfun Try.prog Try.f150 = k_pump_times := by kernel_rfl

def k_pump_rest_r0 : List AOper := [
  ⟨some 1, .box (.tmp 0), none, []⟩,
 ⟨some 2, .box (.const (.agg [.int .i64 0, .int .i64 0])), none, []⟩]
def k_pump_rest_r1 : List AOper := [
  ⟨some 3, .fieldAddr 1 (.tmp 1), none, []⟩,
 ⟨some 4, .load none (.tmp 3), none, []⟩,
 ⟨some 5, .bin .plain .sub (.const (.int .i64 1000000)) (.tmp 4), none, []⟩,
 ⟨some 6, .fieldAddr 0 (.tmp 1), none, []⟩,
 ⟨some 7, .load none (.tmp 6), none, []⟩,
 ⟨some 8, .bin .plain .sub (.const (.int .i64 1000000)) (.tmp 7), none, []⟩,
 ⟨some 9, .build [.int .i64 0, .int .i64 0] [(0, 1, .tmp 5), (1, 1, .tmp 8)], none, []⟩,
 ⟨none, .store 2 (.tmp 2) (.tmp 9), none, []⟩]
def k_pump_rest : AFun := { params := 1, ntmps := 10, body := (.seq (.reg k_pump_rest_r0 false) (.seq (.reg k_pump_rest_r1 false) .ret)), res := [.cell 2 (some ((some (2))))] }
theorem k_pump_rest_ok : cfun Try.prog Try.f151 = k_pump_rest := by kernel_rfl

def k_pump_up_r0 : List AOper := [
  ⟨some 2, .move (.const (.int .i64 0)), none, []⟩]
def k_pump_up_r1 : List AOper := [
  ⟨some 3, .move (.tmp 0), none, []⟩,
 ⟨some 4, .bin .plain .add (.tmp 3) (.const (.int .i64 1000000)), none, []⟩,
 ⟨some 5, .bin .plain .sub (.tmp 4) (.const (.int .i64 1)), none, []⟩,
 ⟨some 6, .bin .plain .quo (.tmp 5) (.const (.int .i64 1000000)), none, []⟩,
 ⟨some 2, .move (.tmp 6), none, []⟩]
def k_pump_up : AFun := { params := 1, ntmps := 7, body := (.seq (.reg k_pump_up_r0 false) (.seq (.reg k_pump_up_r1 false) .ret)), res := [.tmp 2] }
theorem k_pump_up_ok : cfun Try.prog Try.f152 = k_pump_up := by kernel_rfl

def k_pump_down_r0 : List AOper := [
  ⟨some 2, .move (.const (.int .i64 0)), none, []⟩]
def k_pump_down_r1 : List AOper := [
  ⟨some 3, .move (.tmp 0), none, []⟩,
 ⟨some 4, .bin .plain .quo (.tmp 3) (.const (.int .i64 1000000)), none, []⟩,
 ⟨some 2, .move (.tmp 4), none, []⟩]
def k_pump_down : AFun := { params := 1, ntmps := 5, body := (.seq (.reg k_pump_down_r0 false) (.seq (.reg k_pump_down_r1 false) .ret)), res := [.tmp 2] }
theorem k_pump_down_ok : cfun Try.prog Try.f153 = k_pump_down := by kernel_rfl

def k_pump_atMost_r0 : List AOper := [
  ⟨some 2, .box (.tmp 0), none, []⟩,
 ⟨some 4, .box (.const (.agg [.int .i64 0, .int .i64 0])), none, []⟩]
def k_pump_atMost_r1 : List AOper := [
  ⟨some 5, .fieldAddr 0 (.tmp 2), none, []⟩,
 ⟨some 6, .load none (.tmp 5), none, []⟩,
 ⟨some 7, .move (.tmp 1), none, []⟩,
 ⟨some 8, .minmax false [.tmp 6, .tmp 7], none, []⟩,
 ⟨some 9, .fieldAddr 1 (.tmp 2), none, []⟩,
 ⟨some 10, .load none (.tmp 9), none, []⟩,
 ⟨some 11, .move (.tmp 1), none, []⟩,
 ⟨some 12, .minmax false [.tmp 10, .tmp 11], none, []⟩,
 ⟨some 13, .build [.int .i64 0, .int .i64 0] [(0, 1, .tmp 8), (1, 1, .tmp 12)], none, []⟩,
 ⟨none, .store 2 (.tmp 4) (.tmp 13), none, []⟩]
def k_pump_atMost : AFun := { params := 2, ntmps := 14, body := (.seq (.reg k_pump_atMost_r0 false) (.seq (.reg k_pump_atMost_r1 false) .ret)), res := [.cell 4 (some ((some (2))))] }
theorem k_pump_atMost_ok : cfun Try.prog Try.f154 = k_pump_atMost := by kernel_rfl

def k_pump_flows_1_r0 : List AOper := [
  ⟨some 8, .fieldAddr 1 (.tmp 1), none, []⟩,
 ⟨some 9, .load none (.tmp 8), none, []⟩,
 ⟨some 10, .len false (.tmp 9), none, []⟩,
 ⟨some 11, .move (.const (.int .i64 0)), none, []⟩]
def k_pump_flows_1_r1 : List AOper := [
  ⟨some 12, .bin .plain .lss (.tmp 11) (.tmp 10), none, []⟩]
def k_pump_flows_1_r2 : List AOper := [
  ⟨some 13, .move (.tmp 11), none, []⟩,
 ⟨some 14, .indexAddr 6 (.tmp 9) (.tmp 11), none, []⟩,
 ⟨some 15, .load (some (6)) (.tmp 14), none, []⟩,
 ⟨some 5, .box (.const (.agg [.int .i64 0, .int .i64 0, .int .i64 0, .int .i64 0, .int .i64 0, .int .i64 0])), none, []⟩,
 ⟨some 4, .move (.tmp 13), none, []⟩,
 ⟨none, .store 6 (.tmp 5) (.tmp 15), none, []⟩]
def k_pump_flows_1_r3 : List AOper := [
  ⟨some 16, .load none (.tmp 2), none, []⟩,
 ⟨some 17, .move (.tmp 4), none, []⟩,
 ⟨some 18, .call (.const (.fn (.func 159) [] [])) [.tmp 16, .tmp 17], none, []⟩]
def k_pump_flows_1_r4 : List AOper := [
  ⟨some 19, .move (.tmp 0), none, []⟩,
 ⟨some 20, .fieldAddr 0 (.tmp 5), none, []⟩,
 ⟨some 21, .load none (.tmp 20), none, []⟩,
 ⟨some 22, .fieldAddr 1 (.tmp 5), none, []⟩,
 ⟨some 23, .load none (.tmp 22), none, []⟩,
 ⟨some 24, .fieldAddr 2 (.tmp 5), none, []⟩,
 ⟨some 25, .load (some (2)) (.tmp 24), none, []⟩,
 ⟨some 26, .build [.int .i64 0, .int .i64 0, .int .i64 0, .int .i64 0] [(0, 1, .tmp 21), (1, 1, .tmp 23), (2, 2, .tmp 25)], none, []⟩,
 ⟨some 27, .call (.tmp 19) [.tmp 26], none, []⟩,
 ⟨some 28, .not (.tmp 27), none, []⟩,
 ⟨some 29, .move (.tmp 28), none, []⟩,
 ⟨some 30, .move (.tmp 0), (some (29, false)), []⟩,
 ⟨some 31, .fieldAddr 1 (.tmp 5), (some (29, false)), []⟩,
 ⟨some 32, .load none (.tmp 31), (some (29, false)), []⟩,
 ⟨some 33, .fieldAddr 0 (.tmp 5), (some (29, false)), []⟩,
 ⟨some 34, .load none (.tmp 33), (some (29, false)), []⟩,
 ⟨some 35, .fieldAddr 4 (.tmp 5), (some (29, false)), []⟩,
 ⟨some 36, .load (some (2)) (.tmp 35), (some (29, false)), []⟩,
 ⟨some 37, .build [.int .i64 0, .int .i64 0, .int .i64 0, .int .i64 0] [(0, 1, .tmp 32), (1, 1, .tmp 34), (2, 2, .tmp 36)], (some (29, false)), []⟩,
 ⟨some 38, .call (.tmp 30) [.tmp 37], (some (29, false)), []⟩,
 ⟨some 39, .not (.tmp 38), (some (29, false)), []⟩,
 ⟨some 40, .pick (.tmp 29) (.const (.bool true)) (.tmp 39), none, []⟩]
def k_pump_flows_1_r5 : List AOper := [
  ⟨some 41, .bin .plain .add (.tmp 11) (.const (.int .i64 1)), none, []⟩,
 ⟨some 11, .move (.tmp 41), none, []⟩]
def k_pump_flows_1_r6 : ACode := (.seq (.reg k_pump_flows_1_r1 false) (.seq (.cond (.tmp 12) .skip (.exit 0)) (.seq (.block 1 (.seq (.reg k_pump_flows_1_r2 false) (.seq (.seq (.reg k_pump_flows_1_r3 false) (.cond (.tmp 18) (.exit 1) .skip)) (.seq (.reg k_pump_flows_1_r4 false) (.cond (.tmp 40) .ret .skip))))) (.reg k_pump_flows_1_r5 false))))
def k_pump_flows_1_r7 : List AOper := [
  ⟨some 42, .fieldAddr 2 (.tmp 1), none, []⟩,
 ⟨some 43, .load none (.tmp 42), none, []⟩,
 ⟨some 44, .len false (.tmp 43), none, []⟩,
 ⟨some 45, .move (.const (.int .i64 0)), none, []⟩]
def k_pump_flows_1_r8 : List AOper := [
  ⟨some 46, .bin .plain .lss (.tmp 45) (.tmp 44), none, []⟩]
def k_pump_flows_1_r9 : List AOper := [
  ⟨some 47, .indexAddr 3 (.tmp 43) (.tmp 45), none, []⟩,
 ⟨some 48, .load (some (3)) (.tmp 47), none, []⟩,
 ⟨some 7, .box (.const (.agg [.int .i64 0, .int .i64 0, .int .i64 0])), none, []⟩,
 ⟨none, .store 3 (.tmp 7) (.tmp 48), none, []⟩]
def k_pump_flows_1_r10 : List AOper := [
  ⟨some 49, .move (.tmp 0), none, []⟩,
 ⟨some 50, .fieldAddr 0 (.tmp 7), none, []⟩,
 ⟨some 51, .load none (.tmp 50), none, []⟩,
 ⟨some 52, .fieldAddr 1 (.tmp 7), none, []⟩,
 ⟨some 53, .load (some (2)) (.tmp 52), none, []⟩,
 ⟨some 54, .build [.int .i64 0, .int .i64 0, .int .i64 0, .int .i64 0] [(0, 1, .tmp 51), (1, 1, .const (.int .i64 (-1))), (2, 2, .tmp 53)], none, []⟩,
 ⟨some 55, .call (.tmp 49) [.tmp 54], none, []⟩,
 ⟨some 56, .not (.tmp 55), none, []⟩]
def k_pump_flows_1_r11 : List AOper := [
  ⟨some 57, .bin .plain .add (.tmp 45) (.const (.int .i64 1)), none, []⟩,
 ⟨some 45, .move (.tmp 57), none, []⟩]
def k_pump_flows_1_r12 : ACode := (.seq (.reg k_pump_flows_1_r8 false) (.seq (.cond (.tmp 46) .skip (.exit 2)) (.seq (.block 3 (.seq (.reg k_pump_flows_1_r9 false) (.seq (.reg k_pump_flows_1_r10 false) (.cond (.tmp 56) .ret .skip)))) (.reg k_pump_flows_1_r11 false))))
def k_pump_flows_1 : AFun := { params := 3, ntmps := 58, body := (.seq (.seq (.reg k_pump_flows_1_r0 false) (.block 0 (.loop k_pump_flows_1_r6))) (.seq (.reg k_pump_flows_1_r7 false) (.block 2 (.loop k_pump_flows_1_r12)))), res := [] }
theorem k_pump_flows_1_ok : cfun Try.prog Try.f158 = k_pump_flows_1 := by kernel_rfl

def k_slices_Contains_int_int_r0 : List AOper := [
  ⟨some 4, .move (.const (.bool false)), none, []⟩]
def k_slices_Contains_int_int_r1 : List AOper := [
  ⟨some 5, .move (.tmp 0), none, []⟩,
 ⟨some 6, .move (.tmp 1), none, []⟩,
 ⟨some 7, .call (.const (.fn (.func 160) [] [])) [.tmp 5, .tmp 6], none, []⟩,
 ⟨some 8, .bin .plain .geq (.tmp 7) (.const (.int .i64 0)), none, []⟩,
 ⟨some 4, .move (.tmp 8), none, []⟩]
def k_slices_Contains_int_int : AFun := { params := 2, ntmps := 9, body := (.seq (.reg k_slices_Contains_int_int_r0 false) (.seq (.reg k_slices_Contains_int_int_r1 false) .ret)), res := [.tmp 4] }
theorem k_slices_Contains_int_int_ok : cfun Try.prog Try.f159 = k_slices_Contains_int_int := by kernel_rfl

def k_slices_Index_int_int_r0 : List AOper := [
  ⟨some 4, .move (.const (.int .i64 0)), none, []⟩]
def k_slices_Index_int_int_r1 : List AOper := [
  ⟨some 6, .move (.tmp 0), none, []⟩,
 ⟨some 7, .len false (.tmp 6), none, []⟩,
 ⟨some 8, .move (.const (.int .i64 0)), none, []⟩]
def k_slices_Index_int_int_r2 : List AOper := [
  ⟨some 9, .bin .plain .lss (.tmp 8) (.tmp 7), none, []⟩]
def k_slices_Index_int_int_r3 : List AOper := [
  ⟨some 10, .move (.tmp 8), none, []⟩,
 ⟨some 5, .move (.tmp 10), none, []⟩]
def k_slices_Index_int_int_r4 : List AOper := [
  ⟨some 11, .move (.tmp 1), none, []⟩,
 ⟨some 12, .move (.tmp 0), none, []⟩,
 ⟨some 13, .move (.tmp 5), none, []⟩,
 ⟨some 14, .indexAddr 1 (.tmp 12) (.tmp 13), none, []⟩,
 ⟨some 15, .load none (.tmp 14), none, []⟩,
 ⟨some 16, .bin .plain .eql (.tmp 11) (.tmp 15), none, []⟩]
def k_slices_Index_int_int_r5 : List AOper := [
  ⟨some 17, .move (.tmp 5), none, []⟩,
 ⟨some 4, .move (.tmp 17), none, []⟩]
def k_slices_Index_int_int_r6 : List AOper := [
  ⟨some 18, .bin .plain .add (.tmp 8) (.const (.int .i64 1)), none, []⟩,
 ⟨some 8, .move (.tmp 18), none, []⟩]
def k_slices_Index_int_int_r7 : ACode := (.seq (.reg k_slices_Index_int_int_r2 false) (.seq (.cond (.tmp 9) .skip (.exit 0)) (.seq (.block 1 (.seq (.reg k_slices_Index_int_int_r3 false) (.seq (.reg k_slices_Index_int_int_r4 false) (.cond (.tmp 16) (.seq (.reg k_slices_Index_int_int_r5 false) .ret) .skip)))) (.reg k_slices_Index_int_int_r6 false))))
def k_slices_Index_int_int_r8 : List AOper := [
  ⟨some 4, .move (.const (.int .i64 (-1))), none, []⟩]
def k_slices_Index_int_int : AFun := { params := 2, ntmps := 19, body := (.seq (.reg k_slices_Index_int_int_r0 false) (.seq (.seq (.reg k_slices_Index_int_int_r1 false) (.block 0 (.loop k_slices_Index_int_int_r7))) (.seq (.reg k_slices_Index_int_int_r8 false) .ret))), res := [.tmp 4] }
theorem k_slices_Index_int_int_ok : cfun Try.prog Try.f160 = k_slices_Index_int_int := by kernel_rfl


abbrev n_law06_PumpRows : Nat := 17
theorem e_law06_PumpRows : EntryOK Try.prog n_law06_PumpRows k_law06_PumpRows := ⟨Try.f17, Try.func17, k_law06_PumpRows_ok, by kernel_rfl⟩
abbrev n_law06_awake : Nat := 20
theorem e_law06_awake : EntryOK Try.prog n_law06_awake k_law06_awake := ⟨Try.f20, Try.func20, k_law06_awake_ok, by kernel_rfl⟩
abbrev n_pump_Check : Nat := 25
theorem e_pump_Check : EntryOK Try.prog n_pump_Check k_pump_Check := ⟨Try.f25, Try.func25, k_pump_Check_ok, by kernel_rfl⟩
abbrev n_pump_Run : Nat := 44
theorem e_pump_Run : EntryOK Try.prog n_pump_Run k_pump_Run := ⟨Try.f44, Try.func44, k_pump_Run_ok, by kernel_rfl⟩
abbrev n_kit_First : Nat := 53
theorem e_kit_First : EntryOK Try.prog n_kit_First k_kit_First := ⟨Try.f53, Try.func53, k_kit_First_ok, by kernel_rfl⟩
abbrev n_pump_Worst : Nat := 54
theorem e_pump_Worst : EntryOK Try.prog n_pump_Worst k_pump_Worst := ⟨Try.f54, Try.func54, k_pump_Worst_ok, by kernel_rfl⟩
abbrev n_pump_CheckHunt : Nat := 58
theorem e_pump_CheckHunt : EntryOK Try.prog n_pump_CheckHunt k_pump_CheckHunt := ⟨Try.f58, Try.func58, k_pump_CheckHunt_ok, by kernel_rfl⟩
abbrev n_law06_half : Nat := 62
theorem e_law06_half : EntryOK Try.prog n_law06_half k_law06_half := ⟨Try.f62, Try.func62, k_law06_half_ok, by kernel_rfl⟩
abbrev n_law06_one : Nat := 63
theorem e_law06_one : EntryOK Try.prog n_law06_one k_law06_one := ⟨Try.f63, Try.func63, k_law06_one_ok, by kernel_rfl⟩
abbrev n_law06_row : Nat := 64
theorem e_law06_row : EntryOK Try.prog n_law06_row k_law06_row := ⟨Try.f64, Try.func64, k_law06_row_ok, by kernel_rfl⟩
abbrev n_kit_Mod : Nat := 70
theorem e_kit_Mod : EntryOK Try.prog n_kit_Mod k_kit_Mod := ⟨Try.f70, Try.func70, k_kit_Mod_ok, by kernel_rfl⟩
abbrev n_law06_of : Nat := 72
theorem e_law06_of : EntryOK Try.prog n_law06_of k_law06_of := ⟨Try.f72, Try.func72, k_law06_of_ok, by kernel_rfl⟩
abbrev n_kit_SameRanges : Nat := 76
theorem e_kit_SameRanges : EntryOK Try.prog n_kit_SameRanges k_kit_SameRanges := ⟨Try.f76, Try.func76, k_kit_SameRanges_ok, by kernel_rfl⟩
abbrev n_pump_begin : Nat := 81
theorem e_pump_begin : EntryOK Try.prog n_pump_begin k_pump_begin := ⟨Try.f81, Try.func81, k_pump_begin_ok, by kernel_rfl⟩
abbrev n_pump_firstError_api_Vacuum : Nat := 82
theorem e_pump_firstError_api_Vacuum : EntryOK Try.prog n_pump_firstError_api_Vacuum k_pump_firstError_api_Vacuum := ⟨Try.f82, Try.func82, k_pump_firstError_api_Vacuum_ok, by kernel_rfl⟩
abbrev n_pump_checkCounts : Nat := 83
theorem e_pump_checkCounts : EntryOK Try.prog n_pump_checkCounts k_pump_checkCounts := ⟨Try.f83, Try.func83, k_pump_checkCounts_ok, by kernel_rfl⟩
abbrev n_pump_checkVessels : Nat := 84
theorem e_pump_checkVessels : EntryOK Try.prog n_pump_checkVessels k_pump_checkVessels := ⟨Try.f84, Try.func84, k_pump_checkVessels_ok, by kernel_rfl⟩
abbrev n_pump_checkPipes : Nat := 85
theorem e_pump_checkPipes : EntryOK Try.prog n_pump_checkPipes k_pump_checkPipes := ⟨Try.f85, Try.func85, k_pump_checkPipes_ok, by kernel_rfl⟩
abbrev n_pump_checkBanks : Nat := 86
theorem e_pump_checkBanks : EntryOK Try.prog n_pump_checkBanks k_pump_checkBanks := ⟨Try.f86, Try.func86, k_pump_checkBanks_ok, by kernel_rfl⟩
abbrev n_pump_checkOut : Nat := 87
theorem e_pump_checkOut : EntryOK Try.prog n_pump_checkOut k_pump_checkOut := ⟨Try.f87, Try.func87, k_pump_checkOut_ok, by kernel_rfl⟩
abbrev n_pump_checkStage : Nat := 91
theorem e_pump_checkStage : EntryOK Try.prog n_pump_checkStage k_pump_checkStage := ⟨Try.f91, Try.func91, k_pump_checkStage_ok, by kernel_rfl⟩
abbrev n_pump_isVessel : Nat := 93
theorem e_pump_isVessel : EntryOK Try.prog n_pump_isVessel k_pump_isVessel := ⟨Try.f93, Try.func93, k_pump_isVessel_ok, by kernel_rfl⟩
abbrev n_pump_checkRanges : Nat := 97
theorem e_pump_checkRanges : EntryOK Try.prog n_pump_checkRanges k_pump_checkRanges := ⟨Try.f97, Try.func97, k_pump_checkRanges_ok, by kernel_rfl⟩
abbrev n_pump_within : Nat := 99
theorem e_pump_within : EntryOK Try.prog n_pump_within k_pump_within := ⟨Try.f99, Try.func99, k_pump_within_ok, by kernel_rfl⟩
abbrev n_pump_after : Nat := 102
theorem e_pump_after : EntryOK Try.prog n_pump_after k_pump_after := ⟨Try.f102, Try.func102, k_pump_after_ok, by kernel_rfl⟩
abbrev n_pump_checkRun : Nat := 104
theorem e_pump_checkRun : EntryOK Try.prog n_pump_checkRun k_pump_checkRun := ⟨Try.f104, Try.func104, k_pump_checkRun_ok, by kernel_rfl⟩
abbrev n_pump_last : Nat := 105
theorem e_pump_last : EntryOK Try.prog n_pump_last k_pump_last := ⟨Try.f105, Try.func105, k_pump_last_ok, by kernel_rfl⟩
abbrev n_pump_ticks : Nat := 108
theorem e_pump_ticks : EntryOK Try.prog n_pump_ticks k_pump_ticks := ⟨Try.f108, Try.func108, k_pump_ticks_ok, by kernel_rfl⟩
abbrev n_pump_checkNumbers : Nat := 109
theorem e_pump_checkNumbers : EntryOK Try.prog n_pump_checkNumbers k_pump_checkNumbers := ⟨Try.f109, Try.func109, k_pump_checkNumbers_ok, by kernel_rfl⟩
abbrev n_pump_newHunter : Nat := 110
theorem e_pump_newHunter : EntryOK Try.prog n_pump_newHunter k_pump_newHunter := ⟨Try.f110, Try.func110, k_pump_newHunter_ok, by kernel_rfl⟩
abbrev n_pump_hunter_plan : Nat := 111
theorem e_pump_hunter_plan : EntryOK Try.prog n_pump_hunter_plan k_pump_hunter_plan := ⟨Try.f111, Try.func111, k_pump_hunter_plan_ok, by kernel_rfl⟩
abbrev n_pump_setOf : Nat := 112
theorem e_pump_setOf : EntryOK Try.prog n_pump_setOf k_pump_setOf := ⟨Try.f112, Try.func112, k_pump_setOf_ok, by kernel_rfl⟩
abbrev n_pump_set_isOne : Nat := 116
theorem e_pump_set_isOne : EntryOK Try.prog n_pump_set_isOne k_pump_set_isOne := ⟨Try.f116, Try.func116, k_pump_set_isOne_ok, by kernel_rfl⟩
abbrev n_pump_checkBands : Nat := 122
theorem e_pump_checkBands : EntryOK Try.prog n_pump_checkBands k_pump_checkBands := ⟨Try.f122, Try.func122, k_pump_checkBands_ok, by kernel_rfl⟩
abbrev n_pump_checkAt : Nat := 123
theorem e_pump_checkAt : EntryOK Try.prog n_pump_checkAt k_pump_checkAt := ⟨Try.f123, Try.func123, k_pump_checkAt_ok, by kernel_rfl⟩
abbrev n_pump_goingOut : Nat := 124
theorem e_pump_goingOut : EntryOK Try.prog n_pump_goingOut k_pump_goingOut := ⟨Try.f124, Try.func124, k_pump_goingOut_ok, by kernel_rfl⟩
abbrev n_pump_isHeat : Nat := 129
theorem e_pump_isHeat : EntryOK Try.prog n_pump_isHeat k_pump_isHeat := ⟨Try.f129, Try.func129, k_pump_isHeat_ok, by kernel_rfl⟩
abbrev n_slices_Clone_api_Range_api_Range : Nat := 131
theorem e_slices_Clone_api_Range_api_Range : EntryOK Try.prog n_slices_Clone_api_Range_api_Range k_slices_Clone_api_Range_api_Range := ⟨Try.f131, Try.func131, k_slices_Clone_api_Range_api_Range_ok, by kernel_rfl⟩
abbrev n_pump_tick_start : Nat := 132
theorem e_pump_tick_start : EntryOK Try.prog n_pump_tick_start k_pump_tick_start := ⟨Try.f132, Try.func132, k_pump_tick_start_ok, by kernel_rfl⟩
abbrev n_pump_tick_release : Nat := 133
theorem e_pump_tick_release : EntryOK Try.prog n_pump_tick_release k_pump_tick_release := ⟨Try.f133, Try.func133, k_pump_tick_release_ok, by kernel_rfl⟩
abbrev n_pump_tick_flow : Nat := 134
theorem e_pump_tick_flow : EntryOK Try.prog n_pump_tick_flow k_pump_tick_flow := ⟨Try.f134, Try.func134, k_pump_tick_flow_ok, by kernel_rfl⟩
abbrev n_pump_tick_bind : Nat := 135
theorem e_pump_tick_bind : EntryOK Try.prog n_pump_tick_bind k_pump_tick_bind := ⟨Try.f135, Try.func135, k_pump_tick_bind_ok, by kernel_rfl⟩
abbrev n_pump_tick_cut : Nat := 136
theorem e_pump_tick_cut : EntryOK Try.prog n_pump_tick_cut k_pump_tick_cut := ⟨Try.f136, Try.func136, k_pump_tick_cut_ok, by kernel_rfl⟩
abbrev n_pump_ticks_1 : Nat := 142
theorem e_pump_ticks_1 : EntryOK Try.prog n_pump_ticks_1 k_pump_ticks_1 := ⟨Try.f142, Try.func142, k_pump_ticks_1_ok, by kernel_rfl⟩
abbrev n_pump_hunter_with : Nat := 143
theorem e_pump_hunter_with : EntryOK Try.prog n_pump_hunter_with k_pump_hunter_with := ⟨Try.f143, Try.func143, k_pump_hunter_with_ok, by kernel_rfl⟩
abbrev n_bits_OnesCount16 : Nat := 144
theorem e_bits_OnesCount16 : EntryOK Try.prog n_bits_OnesCount16 k_bits_OnesCount16 := ⟨Try.f144, Try.func144, k_bits_OnesCount16_ok, by kernel_rfl⟩
abbrev n_pump_flows : Nat := 146
theorem e_pump_flows : EntryOK Try.prog n_pump_flows k_pump_flows := ⟨Try.f146, Try.func146, k_pump_flows_ok, by kernel_rfl⟩
abbrev n_pump_plus : Nat := 147
theorem e_pump_plus : EntryOK Try.prog n_pump_plus k_pump_plus := ⟨Try.f147, Try.func147, k_pump_plus_ok, by kernel_rfl⟩
abbrev n_pump_rateAt : Nat := 148
theorem e_pump_rateAt : EntryOK Try.prog n_pump_rateAt k_pump_rateAt := ⟨Try.f148, Try.func148, k_pump_rateAt_ok, by kernel_rfl⟩
abbrev n_pump_perMillion : Nat := 149
theorem e_pump_perMillion : EntryOK Try.prog n_pump_perMillion k_pump_perMillion := ⟨Try.f149, Try.func149, k_pump_perMillion_ok, by kernel_rfl⟩
abbrev n_pump_times : Nat := 150
theorem e_pump_times : EntryOK Try.prog n_pump_times k_pump_times := ⟨Try.f150, Try.func150, k_pump_times_ok, by kernel_rfl⟩
abbrev n_pump_rest : Nat := 151
theorem e_pump_rest : EntryOK Try.prog n_pump_rest k_pump_rest := ⟨Try.f151, Try.func151, k_pump_rest_ok, by kernel_rfl⟩
abbrev n_pump_up : Nat := 152
theorem e_pump_up : EntryOK Try.prog n_pump_up k_pump_up := ⟨Try.f152, Try.func152, k_pump_up_ok, by kernel_rfl⟩
abbrev n_pump_down : Nat := 153
theorem e_pump_down : EntryOK Try.prog n_pump_down k_pump_down := ⟨Try.f153, Try.func153, k_pump_down_ok, by kernel_rfl⟩
abbrev n_pump_atMost : Nat := 154
theorem e_pump_atMost : EntryOK Try.prog n_pump_atMost k_pump_atMost := ⟨Try.f154, Try.func154, k_pump_atMost_ok, by kernel_rfl⟩
abbrev n_pump_flows_1 : Nat := 158
theorem e_pump_flows_1 : EntryOK Try.prog n_pump_flows_1 k_pump_flows_1 := ⟨Try.f158, Try.func158, k_pump_flows_1_ok, by kernel_rfl⟩
abbrev n_slices_Contains_int_int : Nat := 159
theorem e_slices_Contains_int_int : EntryOK Try.prog n_slices_Contains_int_int k_slices_Contains_int_int := ⟨Try.f159, Try.func159, k_slices_Contains_int_int_ok, by kernel_rfl⟩
abbrev n_slices_Index_int_int : Nat := 160
theorem e_slices_Index_int_int : EntryOK Try.prog n_slices_Index_int_int k_slices_Index_int_int := ⟨Try.f160, Try.func160, k_slices_Index_int_int_ok, by kernel_rfl⟩

@[go_sem] theorem mixed : Try.prog.follows .mixedOrders = true := by kernel_rfl
attribute [go_sem] k_law06_PumpRows_r0 k_law06_PumpRows_r1 k_law06_PumpRows_r2 k_law06_PumpRows_r3 k_law06_PumpRows_r4 k_law06_PumpRows_r5s k_law06_PumpRows_r6 k_law06_PumpRows_r8 k_law06_PumpRows_r9 k_law06_PumpRows_r10 k_law06_PumpRows_r12s k_law06_PumpRows_r13
attribute [go_sem] k_law06_awake_r0 k_law06_awake_r1 k_law06_awake_r2 k_law06_awake_r3s k_pump_Check_r0 k_pump_Check_r1 k_pump_Run_r0 k_pump_Run_r1 k_pump_Run_r2 k_pump_Run_r3 k_pump_Run_r4 k_kit_First_r0
attribute [go_sem] k_kit_First_r1 k_kit_First_r2 k_kit_First_r3 k_kit_First_r4 k_kit_First_r5 k_kit_First_r7 k_pump_Worst_r0 k_pump_Worst_r1 k_pump_Worst_r2 k_pump_Worst_r3 k_pump_Worst_r4 k_pump_Worst_r5
attribute [go_sem] k_pump_Worst_r6 k_pump_Worst_r7 k_pump_Worst_r8 k_pump_Worst_r9 k_pump_Worst_r10 k_pump_Worst_r11 k_pump_Worst_r12s k_pump_CheckHunt_r0 k_pump_CheckHunt_r1 k_pump_CheckHunt_r2 k_pump_CheckHunt_r3 k_pump_CheckHunt_r4
attribute [go_sem] k_pump_CheckHunt_r5 k_pump_CheckHunt_r6 k_pump_CheckHunt_r7 k_pump_CheckHunt_r8 k_pump_CheckHunt_r9 k_pump_CheckHunt_r10 k_pump_CheckHunt_r11 k_pump_CheckHunt_r12 k_pump_CheckHunt_r13 k_pump_CheckHunt_r15 k_law06_half_r0 k_law06_half_r1
attribute [go_sem] k_law06_one_r0 k_law06_one_r1 k_law06_row_r0 k_law06_row_r1 k_kit_Mod_r0 k_kit_Mod_r1 k_kit_Mod_r2 k_kit_Mod_r3 k_kit_Mod_r4 k_kit_Mod_r5 k_kit_Mod_r6 k_law06_of_r0
attribute [go_sem] k_law06_of_r1 k_kit_SameRanges_r0 k_kit_SameRanges_r1 k_kit_SameRanges_r2 k_kit_SameRanges_r3 k_kit_SameRanges_r4 k_kit_SameRanges_r5s k_kit_SameRanges_r6 k_kit_SameRanges_r7 k_kit_SameRanges_r9 k_pump_begin_r0 k_pump_begin_r1
attribute [go_sem] k_pump_begin_r2 k_pump_begin_r3 k_pump_begin_r4 k_pump_begin_r5 k_pump_begin_r6 k_pump_begin_r7 k_pump_begin_r8 k_pump_begin_r10 k_pump_begin_r11 k_pump_begin_r12 k_pump_begin_r13 k_pump_begin_r14
attribute [go_sem] k_pump_begin_r16 k_pump_firstError_api_Vacuum_r0 k_pump_firstError_api_Vacuum_r1 k_pump_firstError_api_Vacuum_r2 k_pump_firstError_api_Vacuum_r3 k_pump_firstError_api_Vacuum_r4 k_pump_firstError_api_Vacuum_r5 k_pump_firstError_api_Vacuum_r6 k_pump_firstError_api_Vacuum_r7 k_pump_firstError_api_Vacuum_r9 k_pump_checkCounts_r0 k_pump_checkCounts_r1
attribute [go_sem] k_pump_checkCounts_r2 k_pump_checkCounts_r3 k_pump_checkCounts_r4 k_pump_checkCounts_r5 k_pump_checkCounts_r6 k_pump_checkCounts_r7 k_pump_checkVessels_r0 k_pump_checkVessels_r1 k_pump_checkVessels_r2 k_pump_checkVessels_r3 k_pump_checkVessels_r4 k_pump_checkVessels_r5
attribute [go_sem] k_pump_checkVessels_r6 k_pump_checkVessels_r7 k_pump_checkVessels_r8 k_pump_checkVessels_r9 k_pump_checkVessels_r10 k_pump_checkVessels_r11 k_pump_checkVessels_r12 k_pump_checkVessels_r14 k_pump_checkPipes_r0 k_pump_checkPipes_r1 k_pump_checkPipes_r2 k_pump_checkPipes_r3
attribute [go_sem] k_pump_checkPipes_r4 k_pump_checkPipes_r5 k_pump_checkPipes_r6 k_pump_checkPipes_r7 k_pump_checkPipes_r8 k_pump_checkPipes_r9 k_pump_checkPipes_r10 k_pump_checkPipes_r11 k_pump_checkPipes_r13 k_pump_checkBanks_r0 k_pump_checkBanks_r1 k_pump_checkBanks_r2
attribute [go_sem] k_pump_checkBanks_r3 k_pump_checkBanks_r4 k_pump_checkBanks_r5 k_pump_checkBanks_r6 k_pump_checkBanks_r7 k_pump_checkBanks_r9 k_pump_checkBanks_r10 k_pump_checkBanks_r11 k_pump_checkBanks_r12 k_pump_checkBanks_r13 k_pump_checkBanks_r14 k_pump_checkBanks_r15
attribute [go_sem] k_pump_checkBanks_r17 k_pump_checkBanks_r18 k_pump_checkBanks_r19 k_pump_checkBanks_r20 k_pump_checkBanks_r21 k_pump_checkBanks_r22 k_pump_checkBanks_r23 k_pump_checkBanks_r24 k_pump_checkBanks_r25 k_pump_checkBanks_r26 k_pump_checkBanks_r28 k_pump_checkOut_r0
attribute [go_sem] k_pump_checkOut_r1 k_pump_checkOut_r2 k_pump_checkOut_r3 k_pump_checkOut_r4 k_pump_checkOut_r5 k_pump_checkOut_r6 k_pump_checkOut_r7 k_pump_checkOut_r9 k_pump_checkStage_r0 k_pump_checkStage_r1 k_pump_checkStage_r2 k_pump_checkStage_r3
attribute [go_sem] k_pump_isVessel_r0 k_pump_isVessel_r1 k_pump_checkRanges_r0 k_pump_checkRanges_r1 k_pump_checkRanges_r2 k_pump_checkRanges_r3 k_pump_checkRanges_r4 k_pump_checkRanges_r5 k_pump_checkRanges_r6 k_pump_checkRanges_r7 k_pump_checkRanges_r8 k_pump_checkRanges_r10
attribute [go_sem] k_pump_within_r0 k_pump_within_r1 k_pump_after_r0 k_pump_after_r1s k_pump_after_r2 k_pump_after_r3 k_pump_after_r4 k_pump_after_r5 k_pump_after_r6 k_pump_after_r7 k_pump_after_r9 k_pump_checkRun_r0
attribute [go_sem] k_pump_checkRun_r1 k_pump_checkRun_r2 k_pump_checkRun_r3 k_pump_checkRun_r4 k_pump_checkRun_r5 k_pump_checkRun_r6 k_pump_checkRun_r7 k_pump_checkRun_r8 k_pump_checkRun_r9 k_pump_checkRun_r10 k_pump_checkRun_r11 k_pump_checkRun_r12
attribute [go_sem] k_pump_checkRun_r13 k_pump_checkRun_r14 k_pump_checkRun_r16 k_pump_checkRun_r17 k_pump_checkRun_r18 k_pump_last_r0 k_pump_last_r1 k_pump_last_r2s k_pump_last_r3 k_pump_last_r4 k_pump_last_r7 k_pump_ticks_r0
attribute [go_sem] k_pump_ticks_r1 k_pump_checkNumbers_r0 k_pump_checkNumbers_r1 k_pump_checkNumbers_r2 k_pump_checkNumbers_r3 k_pump_checkNumbers_r4 k_pump_checkNumbers_r5 k_pump_checkNumbers_r6 k_pump_checkNumbers_r7 k_pump_checkNumbers_r8 k_pump_checkNumbers_r10 k_pump_newHunter_r0
attribute [go_sem] k_pump_newHunter_r1 k_pump_newHunter_r2 k_pump_newHunter_r3 k_pump_newHunter_r4 k_pump_newHunter_r5s k_pump_newHunter_r6 k_pump_newHunter_r7 k_pump_newHunter_r9 k_pump_hunter_plan_r0 k_pump_hunter_plan_r1 k_pump_hunter_plan_r2 k_pump_hunter_plan_r3
attribute [go_sem] k_pump_hunter_plan_r4 k_pump_hunter_plan_r5 k_pump_hunter_plan_r6 k_pump_hunter_plan_r7 k_pump_hunter_plan_r8 k_pump_hunter_plan_r9 k_pump_hunter_plan_r10 k_pump_hunter_plan_r11 k_pump_hunter_plan_r12 k_pump_hunter_plan_r13 k_pump_hunter_plan_r15 k_pump_hunter_plan_r16
attribute [go_sem] k_pump_setOf_r0 k_pump_setOf_r1 k_pump_setOf_r2 k_pump_setOf_r3 k_pump_setOf_r4 k_pump_setOf_r5 k_pump_setOf_r6 k_pump_setOf_r8 k_pump_set_isOne_r0 k_pump_set_isOne_r1 k_pump_checkBands_r0 k_pump_checkBands_r1
attribute [go_sem] k_pump_checkBands_r2 k_pump_checkBands_r3 k_pump_checkBands_r4 k_pump_checkBands_r5 k_pump_checkBands_r6 k_pump_checkBands_r7 k_pump_checkBands_r8s k_pump_checkBands_r9 k_pump_checkBands_r10 k_pump_checkBands_r11 k_pump_checkBands_r12 k_pump_checkBands_r13
attribute [go_sem] k_pump_checkBands_r15 k_pump_checkAt_r0 k_pump_checkAt_r1 k_pump_checkAt_r2 k_pump_checkAt_r3 k_pump_goingOut_r0 k_pump_goingOut_r1 k_pump_goingOut_r2 k_pump_goingOut_r3 k_pump_goingOut_r4s k_pump_goingOut_r7 k_pump_isHeat_r0
attribute [go_sem] k_pump_isHeat_r1 k_slices_Clone_api_Range_api_Range_r0 k_slices_Clone_api_Range_api_Range_r1 k_slices_Clone_api_Range_api_Range_r2 k_slices_Clone_api_Range_api_Range_r3 k_pump_tick_start_r0 k_pump_tick_start_r1 k_pump_tick_start_r2 k_pump_tick_start_r3 k_pump_tick_start_r4s k_pump_tick_start_r5 k_pump_tick_start_r7
attribute [go_sem] k_pump_tick_release_r0 k_pump_tick_release_r1 k_pump_tick_release_r2 k_pump_tick_release_r3s k_pump_tick_release_r4s k_pump_tick_release_r5s k_pump_tick_release_r6 k_pump_tick_flow_r0s k_pump_tick_flow_r1 k_pump_tick_flow_r2 k_pump_tick_flow_r3 k_pump_tick_flow_r4
attribute [go_sem] k_pump_tick_flow_r5s k_pump_tick_flow_r6 k_pump_tick_flow_r8s k_pump_tick_flow_r9 k_pump_tick_flow_r10s k_pump_tick_flow_r13 k_pump_tick_flow_r14 k_pump_tick_flow_r15 k_pump_tick_flow_r16s k_pump_tick_flow_r17 k_pump_tick_flow_r19 k_pump_tick_flow_r20
attribute [go_sem] k_pump_tick_flow_r21 k_pump_tick_flow_r22s k_pump_tick_flow_r23 k_pump_tick_bind_r0 k_pump_tick_bind_r1 k_pump_tick_bind_r2 k_pump_tick_bind_r3 k_pump_tick_bind_r4s k_pump_tick_bind_r5 k_pump_tick_bind_r6s k_pump_tick_bind_r7s k_pump_tick_bind_r8s
attribute [go_sem] k_pump_tick_bind_r9s k_pump_tick_bind_r10 k_pump_tick_cut_r0 k_pump_tick_cut_r1 k_pump_tick_cut_r2 k_pump_tick_cut_r3s k_pump_tick_cut_r4s k_pump_tick_cut_r5 k_pump_ticks_1_r0 k_pump_ticks_1_r1 k_pump_ticks_1_r2 k_pump_ticks_1_r3
attribute [go_sem] k_pump_ticks_1_r4 k_pump_ticks_1_r5 k_pump_ticks_1_r6 k_pump_ticks_1_r7 k_pump_ticks_1_r8 k_pump_ticks_1_r9 k_pump_ticks_1_r10 k_pump_ticks_1_r12 k_pump_hunter_with_r0 k_pump_hunter_with_r1s k_pump_hunter_with_r2 k_pump_hunter_with_r3
attribute [go_sem] k_pump_hunter_with_r4s k_pump_hunter_with_r5s k_bits_OnesCount16_r0 k_bits_OnesCount16_r1s k_pump_flows_r0 k_pump_flows_r1 k_pump_plus_r0 k_pump_plus_r1 k_pump_rateAt_r0 k_pump_rateAt_r1 k_pump_rateAt_r2 k_pump_rateAt_r3
attribute [go_sem] k_pump_rateAt_r4 k_pump_rateAt_r5 k_pump_rateAt_r6 k_pump_rateAt_r7 k_pump_rateAt_r9 k_pump_perMillion_r0 k_pump_perMillion_r1s k_pump_times_r0 k_pump_times_r1 k_pump_rest_r0 k_pump_rest_r1 k_pump_up_r0
attribute [go_sem] k_pump_up_r1 k_pump_down_r0 k_pump_down_r1 k_pump_atMost_r0 k_pump_atMost_r1 k_pump_flows_1_r0 k_pump_flows_1_r1 k_pump_flows_1_r2 k_pump_flows_1_r3 k_pump_flows_1_r4 k_pump_flows_1_r5 k_pump_flows_1_r7
attribute [go_sem] k_pump_flows_1_r8 k_pump_flows_1_r9 k_pump_flows_1_r10 k_pump_flows_1_r11 k_slices_Contains_int_int_r0 k_slices_Contains_int_int_r1 k_slices_Index_int_int_r0 k_slices_Index_int_int_r1 k_slices_Index_int_int_r2 k_slices_Index_int_int_r3 k_slices_Index_int_int_r4 k_slices_Index_int_int_r5
attribute [go_sem] k_slices_Index_int_int_r6 k_slices_Index_int_int_r8 k_pump_perMillion_r1_sg k_kit_SameRanges_r5_sg k_pump_tick_flow_r22_sg k_pump_after_r1_sg k_pump_tick_bind_r9_sg k_pump_tick_bind_r8_sg k_pump_tick_bind_r6_sg k_pump_tick_start_r4_sg k_law06_PumpRows_r5_sg k_law06_PumpRows_r12_sg
attribute [go_sem] k_pump_tick_flow_r10_sg k_pump_hunter_with_r1_sg k_pump_checkBands_r8_sg k_pump_last_r2_sg k_bits_OnesCount16_r1_sg k_pump_tick_cut_r3_sg k_pump_tick_cut_r4_sg k_pump_tick_release_r3_sg k_law06_awake_r3_sg k_pump_tick_flow_r5_sg k_pump_tick_release_r4_sg k_pump_tick_bind_r7_sg
attribute [go_sem] k_pump_hunter_with_r5_sg k_pump_tick_release_r5_sg k_pump_hunter_with_r4_sg k_pump_goingOut_r4_sg k_pump_tick_flow_r8_sg k_pump_tick_flow_r16_sg k_pump_tick_bind_r4_sg k_pump_newHunter_r5_sg k_pump_tick_flow_r0_sg k_pump_Worst_r12_sg k_pump_perMillion_r1_st k_kit_SameRanges_r5_st
attribute [go_sem] k_pump_tick_flow_r22_st k_pump_after_r1_st k_pump_tick_bind_r9_st k_pump_tick_bind_r8_st k_pump_tick_bind_r6_st k_pump_tick_start_r4_st k_law06_PumpRows_r5_st k_law06_PumpRows_r12_st k_pump_tick_flow_r10_st k_pump_hunter_with_r1_st k_pump_checkBands_r8_st k_pump_last_r2_st
attribute [go_sem] k_bits_OnesCount16_r1_st k_pump_tick_cut_r3_st k_pump_tick_cut_r4_st k_pump_tick_release_r3_st k_law06_awake_r3_st k_pump_tick_flow_r5_st k_pump_tick_release_r4_st k_pump_tick_bind_r7_st k_pump_hunter_with_r5_st k_pump_tick_release_r5_st k_pump_hunter_with_r4_st k_pump_goingOut_r4_st
attribute [go_sem] k_pump_tick_flow_r8_st k_pump_tick_flow_r16_st k_pump_tick_bind_r4_st k_pump_newHunter_r5_st k_pump_tick_flow_r0_st k_pump_Worst_r12_st k_law06_PumpRows k_law06_awake k_pump_Check k_pump_Run k_kit_First k_pump_Worst
attribute [go_sem] k_pump_CheckHunt k_law06_half k_law06_one k_law06_row k_kit_Mod k_law06_of k_kit_SameRanges k_pump_begin k_pump_firstError_api_Vacuum k_pump_checkCounts k_pump_checkVessels k_pump_checkPipes
attribute [go_sem] k_pump_checkBanks k_pump_checkOut k_pump_checkStage k_pump_isVessel k_pump_checkRanges k_pump_within k_pump_after k_pump_checkRun k_pump_last k_pump_ticks k_pump_checkNumbers k_pump_newHunter
attribute [go_sem] k_pump_hunter_plan k_pump_setOf k_pump_set_isOne k_pump_checkBands k_pump_checkAt k_pump_goingOut k_pump_isHeat k_slices_Clone_api_Range_api_Range k_pump_tick_start k_pump_tick_release k_pump_tick_flow k_pump_tick_bind
attribute [go_sem] k_pump_tick_cut k_pump_ticks_1 k_pump_hunter_with k_bits_OnesCount16 k_pump_flows k_pump_plus k_pump_rateAt k_pump_perMillion k_pump_times k_pump_rest k_pump_up k_pump_down
attribute [go_sem] k_pump_atMost k_pump_flows_1 k_slices_Contains_int_int k_slices_Index_int_int
def tabL : List (Nat × AFun) := [(17, k_law06_PumpRows), (20, k_law06_awake), (25, k_pump_Check), (44, k_pump_Run), (53, k_kit_First), (54, k_pump_Worst), (58, k_pump_CheckHunt), (62, k_law06_half), (63, k_law06_one), (64, k_law06_row), (70, k_kit_Mod), (72, k_law06_of), (76, k_kit_SameRanges), (81, k_pump_begin), (82, k_pump_firstError_api_Vacuum), (83, k_pump_checkCounts), (84, k_pump_checkVessels), (85, k_pump_checkPipes), (86, k_pump_checkBanks), (87, k_pump_checkOut), (91, k_pump_checkStage), (93, k_pump_isVessel), (97, k_pump_checkRanges), (99, k_pump_within), (102, k_pump_after), (104, k_pump_checkRun), (105, k_pump_last), (108, k_pump_ticks), (109, k_pump_checkNumbers), (110, k_pump_newHunter), (111, k_pump_hunter_plan), (112, k_pump_setOf), (116, k_pump_set_isOne), (122, k_pump_checkBands), (123, k_pump_checkAt), (124, k_pump_goingOut), (129, k_pump_isHeat), (131, k_slices_Clone_api_Range_api_Range), (132, k_pump_tick_start), (133, k_pump_tick_release), (134, k_pump_tick_flow), (135, k_pump_tick_bind), (136, k_pump_tick_cut), (142, k_pump_ticks_1), (143, k_pump_hunter_with), (144, k_bits_OnesCount16), (146, k_pump_flows), (147, k_pump_plus), (148, k_pump_rateAt), (149, k_pump_perMillion), (150, k_pump_times), (151, k_pump_rest), (152, k_pump_up), (153, k_pump_down), (154, k_pump_atMost), (158, k_pump_flows_1), (159, k_slices_Contains_int_int), (160, k_slices_Index_int_int)]
def tabGet : List (Nat × AFun) → Nat → Option AFun
  | [], _ => none
  | (n, c) :: l, g => if Nat.beq n g = true then some c else tabGet l g
def tab (g : Nat) : Option AFun := tabGet tabL g
def AllOK : List (Nat × AFun) → Prop
  | [] => True
  | p :: l => EntryOK Try.prog p.1 p.2 ∧ AllOK l
theorem AllOK.get : ∀ {l : List (Nat × AFun)}, AllOK l → ∀ p ∈ l, EntryOK Try.prog p.1 p.2
  | [], _, p, h => by simp at h
  | q :: l, h, p, hp => by
    rcases List.mem_cons.1 hp with rfl | hp
    · exact h.1
    · exact AllOK.get h.2 p hp
theorem tab_all : ∀ p ∈ tabL, EntryOK Try.prog p.1 p.2 := AllOK.get (l := tabL) (⟨e_law06_PumpRows, ⟨e_law06_awake, ⟨e_pump_Check, ⟨e_pump_Run, ⟨e_kit_First, ⟨e_pump_Worst, ⟨e_pump_CheckHunt, ⟨e_law06_half, ⟨e_law06_one, ⟨e_law06_row, ⟨e_kit_Mod, ⟨e_law06_of, ⟨e_kit_SameRanges, ⟨e_pump_begin, ⟨e_pump_firstError_api_Vacuum, ⟨e_pump_checkCounts, ⟨e_pump_checkVessels, ⟨e_pump_checkPipes, ⟨e_pump_checkBanks, ⟨e_pump_checkOut, ⟨e_pump_checkStage, ⟨e_pump_isVessel, ⟨e_pump_checkRanges, ⟨e_pump_within, ⟨e_pump_after, ⟨e_pump_checkRun, ⟨e_pump_last, ⟨e_pump_ticks, ⟨e_pump_checkNumbers, ⟨e_pump_newHunter, ⟨e_pump_hunter_plan, ⟨e_pump_setOf, ⟨e_pump_set_isOne, ⟨e_pump_checkBands, ⟨e_pump_checkAt, ⟨e_pump_goingOut, ⟨e_pump_isHeat, ⟨e_slices_Clone_api_Range_api_Range, ⟨e_pump_tick_start, ⟨e_pump_tick_release, ⟨e_pump_tick_flow, ⟨e_pump_tick_bind, ⟨e_pump_tick_cut, ⟨e_pump_ticks_1, ⟨e_pump_hunter_with, ⟨e_bits_OnesCount16, ⟨e_pump_flows, ⟨e_pump_plus, ⟨e_pump_rateAt, ⟨e_pump_perMillion, ⟨e_pump_times, ⟨e_pump_rest, ⟨e_pump_up, ⟨e_pump_down, ⟨e_pump_atMost, ⟨e_pump_flows_1, ⟨e_slices_Contains_int_int, ⟨e_slices_Index_int_int, trivial⟩⟩⟩⟩⟩⟩⟩⟩⟩⟩⟩⟩⟩⟩⟩⟩⟩⟩⟩⟩⟩⟩⟩⟩⟩⟩⟩⟩⟩⟩⟩⟩⟩⟩⟩⟩⟩⟩⟩⟩⟩⟩⟩⟩⟩⟩⟩⟩⟩⟩⟩⟩⟩⟩⟩⟩⟩⟩)
theorem tabGet_mem : ∀ (l : List (Nat × AFun)) (g : Nat) (c : AFun), tabGet l g = some c → (g, c) ∈ l
  | [], _, _, h => by cases h
  | (n, c') :: l, g, c, h => by
    simp only [tabGet] at h
    split at h
    · rename_i hn
      cases h
      rw [Nat.eq_of_beq_eq_true hn]; exact List.mem_cons_self
    · exact List.mem_cons_of_mem _ (tabGet_mem l g c h)
theorem tab_ok (g : Nat) (af : AFun) (h : tab g = some af) : EntryOK Try.prog g af := by
  have h2 := tab_all _ (tabGet_mem _ _ _ h)
  exact h2
end Go.Proofs

