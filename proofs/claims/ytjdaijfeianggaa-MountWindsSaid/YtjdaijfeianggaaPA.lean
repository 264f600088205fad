/- A part of the proof. -/
import Derived.Test.YtjdaijfeianggaaSxG
import Derived.Test.YtjdaijfeianggaaProg
import Derived.KernelRfl
set_option linter.unusedSimpArgs false
set_option linter.unusedVariables false
namespace Go.Proofs
open Go Go.Sx

def k_law04_MountWinds_r0 : List AOper := [
  ⟨some 2, .box (.tmp 0), none, []⟩,
 ⟨some 4, .move (.const (.bool false)), none, []⟩]
def k_law04_MountWinds_r1 : List AOper := [
  ⟨some 11, .load (some (11)) (.tmp 2), none, []⟩,
 ⟨some 12, .move (.tmp 1), none, [0]⟩,
 ⟨some 13, .call (.const (.fn (.func 20) [] [])) [.tmp 12], none, [0]⟩,
 ⟨some 14, .call (.const (.fn (.func 40) [] [])) [.tmp 13], none, [0]⟩,
 ⟨some 15, .buildSlice 11 [.tmp 11, .tmp 14], none, []⟩,
 ⟨some 5, .move (.tmp 15), none, []⟩]
def k_law04_MountWinds_r1s : List (List AOper) := [
  [
  ⟨some 11, .load (some (11)) (.tmp 2), none, []⟩,
 ⟨some 12, .move (.tmp 1), none, [0]⟩,
 ⟨some 13, .call (.const (.fn (.func 20) [] [])) [.tmp 12], none, [0]⟩,
 ⟨some 14, .call (.const (.fn (.func 40) [] [])) [.tmp 13], none, [0]⟩], 
  [
  ⟨some 15, .buildSlice 11 [.tmp 11, .tmp 14], none, []⟩], 
  [
  ⟨some 5, .move (.tmp 15), none, []⟩]]
theorem k_law04_MountWinds_r1_sg : segs k_law04_MountWinds_r1 = k_law04_MountWinds_r1s := by kernel_rfl
theorem k_law04_MountWinds_r1_st : statOK k_law04_MountWinds_r1 = true := by kernel_rfl
def k_law04_MountWinds_r2 : List AOper := [
  ⟨some 6, .move (.const (.int .i64 0)), none, []⟩]
def k_law04_MountWinds_r3 : List AOper := [
  ⟨some 16, .move (.tmp 6), none, []⟩,
 ⟨some 17, .move (.tmp 5), none, []⟩,
 ⟨some 18, .len false (.tmp 17), none, []⟩,
 ⟨some 19, .bin .plain .lss (.tmp 16) (.tmp 18), none, []⟩]
def k_law04_MountWinds_r4 : List AOper := [
  ⟨some 23, .move (.tmp 5), none, []⟩,
 ⟨some 24, .move (.tmp 6), none, []⟩,
 ⟨some 25, .indexAddr 11 (.tmp 23) (.tmp 24), none, []⟩,
 ⟨some 26, .load (some (11)) (.tmp 25), none, []⟩,
 ⟨some 27, .call (.const (.fn (.func 41) [] [])) [.tmp 26], none, []⟩,
 ⟨some 22, .move (.tmp 27), none, []⟩,
 ⟨some 28, .extract (.tmp 22) 0, none, []⟩,
 ⟨some 29, .extract (.tmp 22) 1, none, []⟩,
 ⟨some 7, .box (.const (.agg [.int .i64 0, .nilsl])), none, []⟩,
 ⟨none, .store 2 (.tmp 7) (.tmp 28), none, []⟩,
 ⟨some 8, .move (.tmp 29), none, []⟩]
def k_law04_MountWinds_r5 : List AOper := [
  ⟨some 31, .move (.tmp 5), none, []⟩,
 ⟨some 32, .move (.tmp 6), none, []⟩,
 ⟨some 33, .indexAddr 11 (.tmp 31) (.tmp 32), none, []⟩,
 ⟨some 34, .load (some (11)) (.tmp 33), none, []⟩,
 ⟨some 35, .call (.const (.fn (.func 42) [] [])) [.tmp 34], none, []⟩,
 ⟨some 30, .move (.tmp 35), none, []⟩,
 ⟨some 36, .extract (.tmp 30) 0, none, []⟩,
 ⟨some 37, .extract (.tmp 30) 1, none, []⟩,
 ⟨some 9, .box (.const (.agg [.int .i64 0, .nilsl])), none, []⟩,
 ⟨none, .store 2 (.tmp 9) (.tmp 36), none, []⟩,
 ⟨some 10, .move (.tmp 37), none, []⟩]
def k_law04_MountWinds_r6 : List AOper := [
  ⟨some 38, .move (.tmp 8), none, []⟩,
 ⟨some 39, .move (.tmp 10), none, []⟩,
 ⟨some 40, .bin .plain .neq (.tmp 38) (.tmp 39), none, []⟩,
 ⟨some 41, .move (.tmp 40), none, []⟩,
 ⟨some 42, .load (some (2)) (.tmp 7), (some (41, false)), []⟩,
 ⟨some 43, .load (some (2)) (.tmp 9), (some (41, false)), []⟩,
 ⟨some 44, .call (.const (.fn (.func 43) [] [])) [.tmp 42, .tmp 43], (some (41, false)), []⟩,
 ⟨some 45, .not (.tmp 44), (some (41, false)), []⟩,
 ⟨some 46, .pick (.tmp 41) (.const (.bool true)) (.tmp 45), none, []⟩]
def k_law04_MountWinds_r7 : List AOper := [
  ⟨some 4, .move (.const (.bool false)), none, []⟩]
def k_law04_MountWinds_r8 : List AOper := [
  ⟨some 20, .move (.tmp 6), none, []⟩,
 ⟨some 21, .bin .plain .add (.tmp 20) (.const (.int .i64 1)), none, []⟩,
 ⟨some 6, .move (.tmp 21), none, []⟩]
def k_law04_MountWinds_r9 : ACode := (.seq (.seq (.reg k_law04_MountWinds_r3 false) (.cond (.tmp 19) .skip (.exit 0))) (.seq (.block 1 (.seq (.reg k_law04_MountWinds_r4 false) (.seq (.reg k_law04_MountWinds_r5 false) (.seq (.reg k_law04_MountWinds_r6 false) (.cond (.tmp 46) (.seq (.reg k_law04_MountWinds_r7 false) .ret) .skip))))) (.reg k_law04_MountWinds_r8 false)))
def k_law04_MountWinds_r10 : List AOper := [
  ⟨some 47, .call (.const (.fn (.func 19) [] [])) [], none, []⟩,
 ⟨some 4, .move (.tmp 47), none, []⟩]
def k_law04_MountWinds : AFun := { params := 2, ntmps := 48, body := (.seq (.reg k_law04_MountWinds_r0 false) (.seq (.reg k_law04_MountWinds_r1 true) (.seq (.seq (.reg k_law04_MountWinds_r2 false) (.block 0 (.loop k_law04_MountWinds_r9))) (.seq (.reg k_law04_MountWinds_r10 false) .ret)))), res := [.tmp 4] }
theorem k_law04_MountWinds_ok : cfun Try.prog Try.f5 = k_law04_MountWinds := by kernel_rfl

def k_law04_awake_r0 : List AOper := [
  ⟨some 0, .move (.const (.bool false)), none, []⟩]
def k_law04_awake_r1 : List AOper := [
  ⟨some 6, .call (.const (.fn (.func 85) [] [])) [], none, []⟩,
 ⟨some 7, .call (.const (.fn (.func 22) [] [])) [.tmp 6], none, []⟩,
 ⟨some 5, .move (.tmp 7), none, []⟩,
 ⟨some 8, .extract (.tmp 5) 0, none, []⟩,
 ⟨some 9, .extract (.tmp 5) 1, none, []⟩,
 ⟨some 1, .move (.tmp 8), none, []⟩,
 ⟨some 2, .move (.tmp 9), none, []⟩]
def k_law04_awake_r2 : List AOper := [
  ⟨some 11, .call (.const (.fn (.func 70) [] [])) [], none, []⟩,
 ⟨some 12, .call (.const (.fn (.func 55) [] [])) [.tmp 11], none, []⟩,
 ⟨some 10, .move (.tmp 12), none, []⟩,
 ⟨some 13, .extract (.tmp 10) 0, none, []⟩,
 ⟨some 14, .extract (.tmp 10) 1, none, []⟩,
 ⟨some 3, .move (.tmp 13), none, []⟩,
 ⟨some 4, .move (.tmp 14), none, []⟩]
def k_law04_awake_r3 : List AOper := [
  ⟨some 15, .move (.tmp 2), none, []⟩,
 ⟨some 16, .bin .plain .eql (.tmp 15) (.const (.int .i64 0)), none, []⟩,
 ⟨some 17, .move (.tmp 16), none, []⟩,
 ⟨some 18, .move (.tmp 1), (some (17, true)), []⟩,
 ⟨some 19, .len false (.tmp 18), (some (17, true)), []⟩,
 ⟨some 20, .bin .plain .eql (.tmp 19) (.const (.int .i64 3)), (some (17, true)), []⟩,
 ⟨some 21, .pick (.tmp 17) (.tmp 20) (.const (.bool false)), none, []⟩,
 ⟨some 22, .move (.tmp 21), none, []⟩,
 ⟨some 23, .move (.tmp 1), (some (22, true)), []⟩,
 ⟨some 24, .indexAddr 1 (.tmp 23) (.const (.int .i64 0)), (some (22, true)), []⟩,
 ⟨some 25, .load none (.tmp 24), (some (22, true)), []⟩,
 ⟨some 26, .build [.int .i64 0, .int .i64 0] [], (some (22, true)), [8, 9, 10]⟩,
 ⟨some 27, .call (.const (.fn (.func 68) [] [])) [.const (.int .i64 10), .const (.int .i64 12)], (some (22, true)), [8, 9, 10, 11]⟩,
 ⟨some 28, .call (.const (.fn (.func 68) [] [])) [.const (.int .i64 17), .const (.int .i64 18)], (some (22, true)), [8, 9, 10, 11]⟩,
 ⟨some 29, .buildSlice 2 [.tmp 26, .tmp 27, .tmp 28], (some (22, true)), [8, 9, 10]⟩,
 ⟨some 30, .call (.const (.fn (.func 86) [] [])) [.tmp 25, .tmp 29], (some (22, true)), []⟩,
 ⟨some 31, .pick (.tmp 22) (.tmp 30) (.const (.bool false)), none, []⟩,
 ⟨some 32, .move (.tmp 31), none, []⟩,
 ⟨some 33, .move (.tmp 3), (some (32, true)), []⟩,
 ⟨some 34, .bin .plain .eql (.tmp 33) (.const (.int .i64 2)), (some (32, true)), []⟩,
 ⟨some 35, .pick (.tmp 32) (.tmp 34) (.const (.bool false)), none, []⟩,
 ⟨some 36, .move (.tmp 35), none, []⟩,
 ⟨some 37, .move (.tmp 4), (some (36, true)), []⟩,
 ⟨some 38, .bin .plain .eql (.tmp 37) (.const (.int .i64 0)), (some (36, true)), []⟩,
 ⟨some 39, .pick (.tmp 36) (.tmp 38) (.const (.bool false)), none, []⟩,
 ⟨some 0, .move (.tmp 39), none, []⟩]
def k_law04_awake_r3s : List (List AOper) := [
  [
  ⟨some 15, .move (.tmp 2), none, []⟩], 
  [
  ⟨some 16, .bin .plain .eql (.tmp 15) (.const (.int .i64 0)), none, []⟩], 
  [
  ⟨some 17, .move (.tmp 16), none, []⟩], 
  [
  ⟨some 18, .move (.tmp 1), (some (17, true)), []⟩], 
  [
  ⟨some 19, .len false (.tmp 18), (some (17, true)), []⟩], 
  [
  ⟨some 20, .bin .plain .eql (.tmp 19) (.const (.int .i64 3)), (some (17, true)), []⟩], 
  [
  ⟨some 21, .pick (.tmp 17) (.tmp 20) (.const (.bool false)), none, []⟩], 
  [
  ⟨some 22, .move (.tmp 21), none, []⟩], 
  [
  ⟨some 23, .move (.tmp 1), (some (22, true)), []⟩,
 ⟨some 24, .indexAddr 1 (.tmp 23) (.const (.int .i64 0)), (some (22, true)), []⟩,
 ⟨some 25, .load none (.tmp 24), (some (22, true)), []⟩,
 ⟨some 26, .build [.int .i64 0, .int .i64 0] [], (some (22, true)), [8, 9, 10]⟩,
 ⟨some 27, .call (.const (.fn (.func 68) [] [])) [.const (.int .i64 10), .const (.int .i64 12)], (some (22, true)), [8, 9, 10, 11]⟩,
 ⟨some 28, .call (.const (.fn (.func 68) [] [])) [.const (.int .i64 17), .const (.int .i64 18)], (some (22, true)), [8, 9, 10, 11]⟩,
 ⟨some 29, .buildSlice 2 [.tmp 26, .tmp 27, .tmp 28], (some (22, true)), [8, 9, 10]⟩], 
  [
  ⟨some 30, .call (.const (.fn (.func 86) [] [])) [.tmp 25, .tmp 29], (some (22, true)), []⟩], 
  [
  ⟨some 31, .pick (.tmp 22) (.tmp 30) (.const (.bool false)), none, []⟩], 
  [
  ⟨some 32, .move (.tmp 31), none, []⟩], 
  [
  ⟨some 33, .move (.tmp 3), (some (32, true)), []⟩], 
  [
  ⟨some 34, .bin .plain .eql (.tmp 33) (.const (.int .i64 2)), (some (32, true)), []⟩], 
  [
  ⟨some 35, .pick (.tmp 32) (.tmp 34) (.const (.bool false)), none, []⟩], 
  [
  ⟨some 36, .move (.tmp 35), none, []⟩], 
  [
  ⟨some 37, .move (.tmp 4), (some (36, true)), []⟩], 
  [
  ⟨some 38, .bin .plain .eql (.tmp 37) (.const (.int .i64 0)), (some (36, true)), []⟩], 
  [
  ⟨some 39, .pick (.tmp 36) (.tmp 38) (.const (.bool false)), none, []⟩], 
  [
  ⟨some 0, .move (.tmp 39), none, []⟩]]
theorem k_law04_awake_r3_sg : segs k_law04_awake_r3 = k_law04_awake_r3s := by kernel_rfl
theorem k_law04_awake_r3_st : statOK k_law04_awake_r3 = true := by kernel_rfl
def k_law04_awake : AFun := { params := 0, ntmps := 40, body := (.seq (.reg k_law04_awake_r0 false) (.seq (.reg k_law04_awake_r1 false) (.seq (.reg k_law04_awake_r2 false) (.seq (.reg k_law04_awake_r3 true) .ret)))), res := [.tmp 0] }
theorem k_law04_awake_ok : cfun Try.prog Try.f19 = k_law04_awake := by kernel_rfl

def k_kit_NewDice_r0 : List AOper := [
  ⟨some 2, .move (.const (.nilptr)), none, []⟩]
def k_kit_NewDice_r1 : List AOper := [
  ⟨some 5, .move (.tmp 0), none, []⟩,
 ⟨some 6, .len false (.tmp 5), none, []⟩,
 ⟨some 7, .toInt .u64 (.tmp 6), none, []⟩,
 ⟨some 8, .bin .plain .add (.tmp 7) (.const (.int .u64 1374496523)), none, []⟩,
 ⟨some 9, .build [.int .u64 0] [(0, 1, .tmp 8)], none, []⟩,
 ⟨some 10, .box (.tmp 9), none, []⟩,
 ⟨some 3, .move (.tmp 10), none, []⟩]
def k_kit_NewDice_r2 : List AOper := [
  ⟨some 4, .move (.const (.int .i64 0)), none, []⟩]
def k_kit_NewDice_r3 : List AOper := [
  ⟨some 11, .move (.tmp 4), none, []⟩,
 ⟨some 12, .move (.tmp 0), none, []⟩,
 ⟨some 13, .len false (.tmp 12), none, []⟩,
 ⟨some 14, .bin .plain .lss (.tmp 11) (.tmp 13), none, []⟩]
def k_kit_NewDice_r4 : List AOper := [
  ⟨some 17, .move (.tmp 3), none, []⟩,
 ⟨some 18, .move (.tmp 3), none, [0]⟩,
 ⟨some 19, .nilCheck (.tmp 18), none, [0]⟩,
 ⟨some 20, .fieldAddr 0 (.tmp 19), none, [0]⟩,
 ⟨some 21, .load none (.tmp 20), none, [0]⟩,
 ⟨some 22, .move (.tmp 0), none, [0, 1, 2, 3, 4]⟩,
 ⟨some 23, .move (.tmp 4), none, [0, 1, 2, 3, 4, 5]⟩,
 ⟨some 24, .indexAddr 1 (.tmp 22) (.tmp 23), none, [0, 1, 2, 3, 4]⟩,
 ⟨some 25, .load none (.tmp 24), none, [0, 1, 2, 3, 4]⟩,
 ⟨some 26, .toInt .u64 (.tmp 25), none, [0, 1, 2, 3, 4]⟩,
 ⟨some 27, .bin .plain .xor (.tmp 21) (.tmp 26), none, [0]⟩,
 ⟨some 28, .nilCheck (.tmp 17), none, []⟩,
 ⟨some 29, .fieldAddr 0 (.tmp 28), none, []⟩,
 ⟨none, .store 1 (.tmp 29) (.tmp 27), none, []⟩]
def k_kit_NewDice_r4s : List (List AOper) := [
  [
  ⟨some 17, .move (.tmp 3), none, []⟩,
 ⟨some 18, .move (.tmp 3), none, [0]⟩,
 ⟨some 19, .nilCheck (.tmp 18), none, [0]⟩,
 ⟨some 20, .fieldAddr 0 (.tmp 19), none, [0]⟩,
 ⟨some 21, .load none (.tmp 20), none, [0]⟩,
 ⟨some 22, .move (.tmp 0), none, [0, 1, 2, 3, 4]⟩,
 ⟨some 23, .move (.tmp 4), none, [0, 1, 2, 3, 4, 5]⟩,
 ⟨some 24, .indexAddr 1 (.tmp 22) (.tmp 23), none, [0, 1, 2, 3, 4]⟩,
 ⟨some 25, .load none (.tmp 24), none, [0, 1, 2, 3, 4]⟩,
 ⟨some 26, .toInt .u64 (.tmp 25), none, [0, 1, 2, 3, 4]⟩,
 ⟨some 27, .bin .plain .xor (.tmp 21) (.tmp 26), none, [0]⟩], 
  [
  ⟨some 28, .nilCheck (.tmp 17), none, []⟩], 
  [
  ⟨some 29, .fieldAddr 0 (.tmp 28), none, []⟩], 
  [
  ⟨none, .store 1 (.tmp 29) (.tmp 27), none, []⟩]]
theorem k_kit_NewDice_r4_sg : segs k_kit_NewDice_r4 = k_kit_NewDice_r4s := by kernel_rfl
theorem k_kit_NewDice_r4_st : statOK k_kit_NewDice_r4 = true := by kernel_rfl
def k_kit_NewDice_r5 : List AOper := [
  ⟨some 30, .move (.tmp 3), none, []⟩,
 ⟨some 31, .call (.const (.fn (.func 87) [] [])) [.tmp 30], none, []⟩]
def k_kit_NewDice_r6 : List AOper := [
  ⟨some 15, .move (.tmp 4), none, []⟩,
 ⟨some 16, .bin .plain .add (.tmp 15) (.const (.int .i64 1)), none, []⟩,
 ⟨some 4, .move (.tmp 16), none, []⟩]
def k_kit_NewDice_r7 : ACode := (.seq (.seq (.reg k_kit_NewDice_r3 false) (.cond (.tmp 14) .skip (.exit 0))) (.seq (.block 1 (.seq (.reg k_kit_NewDice_r4 true) (.reg k_kit_NewDice_r5 false))) (.reg k_kit_NewDice_r6 false)))
def k_kit_NewDice_r8 : List AOper := [
  ⟨some 32, .move (.tmp 3), none, []⟩,
 ⟨some 2, .move (.tmp 32), none, []⟩]
def k_kit_NewDice : AFun := { params := 1, ntmps := 33, body := (.seq (.reg k_kit_NewDice_r0 false) (.seq (.reg k_kit_NewDice_r1 false) (.seq (.seq (.reg k_kit_NewDice_r2 false) (.block 0 (.loop k_kit_NewDice_r7))) (.seq (.reg k_kit_NewDice_r8 false) .ret)))), res := [.tmp 2] }
theorem k_kit_NewDice_ok : cfun Try.prog Try.f20 = k_kit_NewDice := by kernel_rfl

def k_mount_Tight_r0 : List AOper := [
  ⟨some 1, .box (.tmp 0), none, []⟩,
 ⟨some 2, .move (.const (.nilsl)), none, []⟩,
 ⟨some 3, .move (.const (.int .i64 0)), none, []⟩]
def k_mount_Tight_r1 : List AOper := [
  ⟨some 10, .load (some (2)) (.tmp 1), none, []⟩,
 ⟨some 11, .call (.const (.fn (.func 89) [] [])) [.tmp 10], none, []⟩,
 ⟨some 9, .move (.tmp 11), none, []⟩,
 ⟨some 12, .extract (.tmp 9) 0, none, []⟩,
 ⟨some 13, .extract (.tmp 9) 1, none, []⟩,
 ⟨some 4, .box (.const (.agg [.int .i64 0, .int .i64 0, .int .i64 0, .int .i64 0, .int .i64 0, .int .i64 0, .int .i64 0, .int .i64 0, .int .i64 0, .int .i64 0, .int .i64 0, .int .i64 0, .int .i64 0, .int .i64 0, .int .i64 0, .int .i64 0, .int .i64 0, .int .i64 0, .int .i64 0, .int .i64 0, .int .i64 0, .int .i64 0, .int .i64 0, .int .i64 0, .int .i64 0, .int .i64 0, .int .i64 0, .int .i64 0, .int .i64 0, .int .i64 0, .int .i64 0, .int .i64 0, .int .i64 0, .int .i64 0, .int .i64 0, .int .i64 0, .int .i64 0, .int .i64 0, .int .i64 0, .int .i64 0, .int .i64 0, .int .i64 0, .int .i64 0, .int .i64 0, .int .i64 0, .int .i64 0, .int .i64 0, .int .i64 0, .int .i64 0, .int .i64 0, .int .i64 0, .int .i64 0, .int .i64 0, .int .i64 0, .int .i64 0, .int .i64 0, .int .i64 0, .int .i64 0, .int .i64 0, .int .i64 0, .int .i64 0, .int .i64 0, .int .i64 0, .int .i64 0, .int .i64 0, .int .i64 0, .int .i64 0, .int .i64 0, .int .i64 0, .int .i64 0, .int .i64 0, .int .i64 0, .int .i64 0, .int .i64 0, .int .i64 0, .int .i64 0, .int .i64 0, .int .i64 0, .int .i64 0, .int .i64 0, .int .i64 0, .int .i64 0, .int .i64 0, .int .i64 0, .int .i64 0, .int .i64 0, .int .i64 0, .int .i64 0, .int .i64 0, .int .i64 0, .int .i64 0, .int .i64 0, .int .i64 0, .int .i64 0, .int .i64 0, .int .i64 0, .int .i64 0, .int .i64 0, .int .i64 0, .int .i64 0, .int .i64 0, .int .i64 0, .int .i64 0, .int .i64 0, .int .i64 0, .int .i64 0, .int .i64 0, .int .i64 0, .int .i64 0, .int .i64 0, .int .i64 0, .int .i64 0, .int .i64 0, .int .i64 0, .int .i64 0, .int .i64 0, .int .i64 0, .int .i64 0, .int .i64 0, .int .i64 0, .int .i64 0, .int .i64 0, .int .i64 0, .int .i64 0, .int .i64 0, .int .i64 0, .int .i64 0, .int .i64 0, .int .i64 0, .int .i64 0, .int .i64 0, .int .i64 0, .int .i64 0, .int .i64 0, .int .i64 0, .int .i64 0, .int .i64 0, .int .i64 0, .int .i64 0, .int .i64 0, .int .i64 0, .int .i64 0, .int .i64 0, .int .i64 0, .int .i64 0, .int .i64 0, .int .i64 0, .int .i64 0, .int .i64 0, .int .i64 0, .int .i64 0, .int .i64 0, .int .i64 0, .int .i64 0, .int .i64 0, .int .i64 0, .int .i64 0, .int .i64 0, .int .i64 0, .int .i64 0, .int .i64 0, .int .i64 0, .int .i64 0, .int .i64 0, .int .i64 0, .int .i64 0, .int .i64 0, .int .i64 0, .int .i64 0, .int .i64 0, .int .i64 0, .int .i64 0, .int .i64 0, .int .i64 0, .int .i64 0, .int .i64 0, .int .i64 0, .int .i64 0, .int .i64 0, .int .i64 0, .int .i64 0, .int .i64 0, .int .i64 0, .int .i64 0, .int .i64 0, .int .i64 0, .int .i64 0, .int .i64 0, .int .i64 0, .int .i64 0, .int .i64 0, .int .i64 0, .int .i64 0, .int .i64 0, .int .i64 0, .int .i64 0, .int .i64 0, .int .i64 0, .int .i64 0, .int .i64 0, .int .i64 0, .int .i64 0, .int .i64 0, .int .i64 0, .int .i64 0, .int .i64 0, .int .i64 0, .int .i64 0, .int .i64 0, .int .i64 0, .int .i64 0, .int .i64 0, .int .i64 0, .int .i64 0, .int .i64 0, .int .i64 0, .int .i64 0, .int .i64 0, .int .i64 0, .int .i64 0, .int .i64 0, .int .i64 0, .int .i64 0, .int .i64 0, .int .i64 0, .int .i64 0, .int .i64 0, .int .i64 0, .int .i64 0, .int .i64 0, .int .i64 0, .int .i64 0, .int .i64 0, .int .i64 0, .int .i64 0, .int .i64 0, .int .i64 0, .int .i64 0, .int .i64 0, .int .i64 0, .int .i64 0, .int .i64 0, .int .i64 0, .int .i64 0, .int .i64 0, .int .i64 0, .int .i64 0, .int .i64 0, .int .i64 0, .int .i64 0, .int .i64 0, .int .i64 0, .int .i64 0, .int .i64 0, .int .i64 0, .int .i64 0, .int .i64 0, .int .i64 0, .int .i64 0, .int .i64 0, .int .i64 0, .int .i64 0, .int .i64 0, .int .i64 0, .int .i64 0, .int .i64 0, .int .i64 0, .int .i64 0, .int .i64 0, .int .i64 0, .int .i64 0, .int .i64 0, .int .i64 0, .int .i64 0, .int .i64 0, .int .i64 0, .int .i64 0, .int .i64 0, .int .i64 0, .int .i64 0, .int .i64 0, .int .i64 0, .int .i64 0, .int .i64 0, .int .i64 0, .int .i64 0, .int .i64 0, .int .i64 0, .int .i64 0, .int .i64 0, .int .i64 0, .int .i64 0, .int .i64 0, .int .i64 0, .int .i64 0, .int .i64 0, .int .i64 0, .int .i64 0, .int .i64 0, .int .i64 0, .int .i64 0, .int .i64 0, .int .i64 0, .int .i64 0, .int .i64 0, .int .i64 0, .int .i64 0, .int .i64 0, .int .i64 0, .int .i64 0, .int .i64 0, .int .i64 0, .int .i64 0, .int .i64 0, .int .i64 0, .int .i64 0, .int .i64 0, .int .i64 0, .int .i64 0, .int .i64 0, .int .i64 0, .int .i64 0, .int .i64 0, .int .i64 0, .int .i64 0, .int .i64 0, .int .i64 0, .int .i64 0, .int .i64 0, .int .i64 0, .int .i64 0, .int .i64 0, .int .i64 0, .int .i64 0, .int .i64 0, .int .i64 0, .int .i64 0, .int .i64 0, .int .i64 0, .int .i64 0, .int .i64 0, .int .i64 0, .int .i64 0, .int .i64 0, .int .i64 0, .int .i64 0, .int .i64 0, .int .i64 0, .int .i64 0, .int .i64 0, .int .i64 0, .int .i64 0, .int .i64 0, .int .i64 0, .int .i64 0, .int .i64 0, .int .i64 0, .int .i64 0, .int .i64 0, .int .i64 0, .int .i64 0, .int .i64 0, .int .i64 0, .int .i64 0, .int .i64 0, .int .i64 0, .int .i64 0, .int .i64 0, .int .i64 0, .int .i64 0, .int .i64 0, .int .i64 0, .int .i64 0, .int .i64 0, .int .i64 0, .int .i64 0, .int .i64 0, .int .i64 0, .int .i64 0, .int .i64 0, .int .i64 0, .int .i64 0, .int .i64 0, .int .i64 0, .int .i64 0, .int .i64 0, .int .i64 0, .int .i64 0, .int .i64 0, .int .i64 0, .int .i64 0, .int .i64 0, .int .i64 0, .int .i64 0, .int .i64 0, .int .i64 0, .int .i64 0, .int .i64 0, .int .i64 0, .int .i64 0, .int .i64 0, .int .i64 0, .int .i64 0, .int .i64 0, .int .i64 0, .int .i64 0, .int .i64 0, .int .i64 0, .int .i64 0, .int .i64 0, .int .i64 0, .int .i64 0, .int .i64 0, .int .i64 0, .int .i64 0, .int .i64 0, .int .i64 0, .int .i64 0, .int .i64 0, .int .i64 0, .int .i64 0, .int .i64 0, .int .i64 0, .int .i64 0, .int .i64 0, .int .i64 0, .int .i64 0, .int .i64 0, .int .i64 0, .int .i64 0, .int .i64 0, .int .i64 0, .int .i64 0, .int .i64 0, .int .i64 0, .int .i64 0, .int .i64 0, .int .i64 0, .int .i64 0, .int .i64 0, .int .i64 0, .int .i64 0, .int .i64 0, .int .i64 0, .int .i64 0, .int .i64 0, .int .i64 0, .int .i64 0, .int .i64 0, .int .i64 0, .int .i64 0, .int .i64 0, .int .i64 0, .int .i64 0, .int .i64 0, .int .i64 0, .int .i64 0, .int .i64 0, .int .i64 0, .int .i64 0, .int .i64 0, .int .i64 0, .int .i64 0, .int .i64 0, .int .i64 0, .int .i64 0, .int .i64 0, .int .i64 0, .int .i64 0, .int .i64 0, .int .i64 0, .int .i64 0, .int .i64 0, .int .i64 0, .int .i64 0, .int .i64 0, .int .i64 0, .int .i64 0, .int .i64 0, .int .i64 0, .int .i64 0, .int .i64 0, .int .i64 0, .int .i64 0, .int .i64 0, .int .i64 0, .int .i64 0, .int .i64 0, .int .i64 0, .int .i64 0, .int .i64 0, .int .i64 0, .int .i64 0, .int .i64 0, .int .i64 0, .int .i64 0, .int .i64 0, .int .i64 0, .int .i64 0, .int .i64 0, .int .i64 0, .int .i64 0, .int .i64 0, .int .i64 0, .int .i64 0, .int .i64 0, .int .i64 0, .int .i64 0, .int .i64 0, .int .i64 0, .int .i64 0, .int .i64 0, .int .i64 0, .int .i64 0, .int .i64 0, .int .i64 0, .int .i64 0, .int .i64 0, .int .i64 0, .int .i64 0, .int .i64 0, .int .i64 0, .int .i64 0, .int .i64 0, .int .i64 0, .int .i64 0, .int .i64 0, .int .i64 0, .int .i64 0, .int .i64 0, .int .i64 0, .int .i64 0, .int .i64 0, .int .i64 0, .int .i64 0, .int .i64 0, .int .i64 0, .int .i64 0, .int .i64 0, .int .i64 0, .int .i64 0, .int .i64 0, .int .i64 0, .int .i64 0, .int .i64 0, .int .i64 0, .int .i64 0, .int .i64 0, .int .i64 0, .int .i64 0, .int .i64 0, .int .i64 0, .int .i64 0, .int .i64 0, .int .i64 0, .int .i64 0, .int .i64 0, .int .i64 0, .int .i64 0, .int .i64 0, .int .i64 0, .int .i64 0, .int .i64 0, .int .i64 0, .int .i64 0, .int .i64 0, .int .i64 0, .int .i64 0, .int .i64 0, .int .i64 0, .int .i64 0, .int .i64 0, .int .i64 0, .int .i64 0, .int .i64 0, .int .i64 0])), none, []⟩,
 ⟨none, .store 576 (.tmp 4) (.tmp 12), none, []⟩,
 ⟨some 5, .move (.tmp 13), none, []⟩]
def k_mount_Tight_r2 : List AOper := [
  ⟨some 14, .move (.tmp 5), none, []⟩,
 ⟨some 15, .bin .plain .neq (.tmp 14) (.const (.int .i64 0)), none, []⟩]
def k_mount_Tight_r3 : List AOper := [
  ⟨some 16, .move (.tmp 5), none, []⟩,
 ⟨some 2, .move (.const (.nilsl)), none, []⟩,
 ⟨some 3, .move (.tmp 16), none, []⟩]
def k_mount_Tight_r4 : List AOper := [
  ⟨some 17, .fieldAddr 0 (.tmp 1), none, []⟩,
 ⟨some 18, .load none (.tmp 17), none, []⟩,
 ⟨some 19, .makeSlice (.nilsl) 24 (.tmp 18) (.tmp 18), none, []⟩,
 ⟨some 6, .move (.tmp 19), none, []⟩]
def k_mount_Tight_r5 : List AOper := [
  ⟨some 20, .fieldAddr 0 (.tmp 1), none, []⟩,
 ⟨some 21, .load none (.tmp 20), none, []⟩,
 ⟨some 22, .move (.const (.int .i64 0)), none, []⟩]
def k_mount_Tight_r6 : List AOper := [
  ⟨some 23, .bin .plain .lss (.tmp 22) (.tmp 21), none, []⟩]
def k_mount_Tight_r7 : List AOper := [
  ⟨some 24, .move (.tmp 22), none, []⟩,
 ⟨some 7, .move (.tmp 24), none, []⟩]
def k_mount_Tight_r8 : List AOper := [
  ⟨some 25, .fieldAddr 0 (.tmp 1), none, []⟩,
 ⟨some 26, .load none (.tmp 25), none, []⟩,
 ⟨some 27, .move (.const (.int .i64 0)), none, []⟩]
def k_mount_Tight_r9 : List AOper := [
  ⟨some 28, .bin .plain .lss (.tmp 27) (.tmp 26), none, []⟩]
def k_mount_Tight_r10 : List AOper := [
  ⟨some 29, .move (.tmp 27), none, []⟩,
 ⟨some 8, .move (.tmp 29), none, []⟩]
def k_mount_Tight_r11 : List AOper := [
  ⟨some 30, .move (.tmp 6), none, []⟩,
 ⟨some 31, .move (.tmp 7), none, [0]⟩,
 ⟨some 32, .move (.tmp 6), none, [0, 1]⟩,
 ⟨some 33, .move (.tmp 7), none, [0, 1, 2]⟩,
 ⟨some 34, .indexAddr 1 (.tmp 32) (.tmp 33), none, [0, 1]⟩,
 ⟨some 35, .load none (.tmp 34), none, [0, 1]⟩,
 ⟨some 36, .load (some (576)) (.tmp 4), none, [0, 1, 2, 3, 4, 5]⟩,
 ⟨some 37, .move (.tmp 7), none, [0, 1, 2, 3, 4, 5, 6]⟩,
 ⟨some 38, .move (.tmp 8), none, [0, 1, 2, 3, 4, 5, 6, 7]⟩,
 ⟨some 39, .call (.const (.fn (.func 90) [] [])) [.tmp 36, .tmp 37, .tmp 38], none, [0, 1, 2, 3, 4, 5]⟩,
 ⟨some 40, .buildSlice 2 [.tmp 39], none, [0, 1, 2, 3, 4, 5]⟩,
 ⟨some 41, .append 2 16 true (.tmp 35) (.tmp 40), none, [0, 1]⟩,
 ⟨some 42, .indexAddr 1 (.tmp 30) (.tmp 31), none, []⟩,
 ⟨none, .store 1 (.tmp 42) (.tmp 41), none, []⟩]
def k_mount_Tight_r11s : List (List AOper) := [
  [
  ⟨some 30, .move (.tmp 6), none, []⟩,
 ⟨some 31, .move (.tmp 7), none, [0]⟩,
 ⟨some 32, .move (.tmp 6), none, [0, 1]⟩,
 ⟨some 33, .move (.tmp 7), none, [0, 1, 2]⟩,
 ⟨some 34, .indexAddr 1 (.tmp 32) (.tmp 33), none, [0, 1]⟩,
 ⟨some 35, .load none (.tmp 34), none, [0, 1]⟩,
 ⟨some 36, .load (some (576)) (.tmp 4), none, [0, 1, 2, 3, 4, 5]⟩,
 ⟨some 37, .move (.tmp 7), none, [0, 1, 2, 3, 4, 5, 6]⟩,
 ⟨some 38, .move (.tmp 8), none, [0, 1, 2, 3, 4, 5, 6, 7]⟩,
 ⟨some 39, .call (.const (.fn (.func 90) [] [])) [.tmp 36, .tmp 37, .tmp 38], none, [0, 1, 2, 3, 4, 5]⟩,
 ⟨some 40, .buildSlice 2 [.tmp 39], none, [0, 1, 2, 3, 4, 5]⟩,
 ⟨some 41, .append 2 16 true (.tmp 35) (.tmp 40), none, [0, 1]⟩], 
  [
  ⟨some 42, .indexAddr 1 (.tmp 30) (.tmp 31), none, []⟩], 
  [
  ⟨none, .store 1 (.tmp 42) (.tmp 41), none, []⟩]]
theorem k_mount_Tight_r11_sg : segs k_mount_Tight_r11 = k_mount_Tight_r11s := by kernel_rfl
theorem k_mount_Tight_r11_st : statOK k_mount_Tight_r11 = true := by kernel_rfl
def k_mount_Tight_r12 : List AOper := [
  ⟨some 43, .bin .plain .add (.tmp 27) (.const (.int .i64 1)), none, []⟩,
 ⟨some 27, .move (.tmp 43), none, []⟩]
def k_mount_Tight_r13 : ACode := (.seq (.reg k_mount_Tight_r9 false) (.seq (.cond (.tmp 28) .skip (.exit 2)) (.seq (.block 3 (.seq (.reg k_mount_Tight_r10 false) (.reg k_mount_Tight_r11 true))) (.reg k_mount_Tight_r12 false))))
def k_mount_Tight_r14 : List AOper := [
  ⟨some 44, .bin .plain .add (.tmp 22) (.const (.int .i64 1)), none, []⟩,
 ⟨some 22, .move (.tmp 44), none, []⟩]
def k_mount_Tight_r15 : ACode := (.seq (.reg k_mount_Tight_r6 false) (.seq (.cond (.tmp 23) .skip (.exit 0)) (.seq (.block 1 (.seq (.reg k_mount_Tight_r7 false) (.seq (.reg k_mount_Tight_r8 false) (.block 2 (.loop k_mount_Tight_r13))))) (.reg k_mount_Tight_r14 false))))
def k_mount_Tight_r16 : List AOper := [
  ⟨some 45, .move (.tmp 6), none, []⟩,
 ⟨some 2, .move (.tmp 45), none, []⟩,
 ⟨some 3, .move (.const (.int .i64 0)), none, []⟩]
def k_mount_Tight : AFun := { params := 1, ntmps := 46, body := (.seq (.reg k_mount_Tight_r0 false) (.seq (.reg k_mount_Tight_r1 false) (.seq (.seq (.reg k_mount_Tight_r2 false) (.cond (.tmp 15) (.seq (.reg k_mount_Tight_r3 false) .ret) .skip)) (.seq (.reg k_mount_Tight_r4 false) (.seq (.seq (.reg k_mount_Tight_r5 false) (.block 0 (.loop k_mount_Tight_r15))) (.seq (.reg k_mount_Tight_r16 false) .ret)))))), res := [.tmp 2, .tmp 3] }
theorem k_mount_Tight_ok : cfun Try.prog Try.f22 = k_mount_Tight := by kernel_rfl

def k_mount_CheckChain_r0 : List AOper := [
  ⟨some 1, .box (.tmp 0), none, []⟩,
 ⟨some 2, .move (.const (.int .i64 0)), none, []⟩]
def k_mount_CheckChain_r1 : List AOper := [
  ⟨some 6, .fieldAddr 0 (.tmp 1), none, []⟩,
 ⟨some 7, .load none (.tmp 6), none, []⟩,
 ⟨some 8, .call (.const (.fn (.func 91) [] [])) [.tmp 7, .const (.int .i64 1), .const (.int .i64 24)], none, []⟩,
 ⟨some 9, .not (.tmp 8), none, []⟩]
def k_mount_CheckChain_r2 : List AOper := [
  ⟨some 2, .move (.const (.int .i64 2)), none, []⟩]
def k_mount_CheckChain_r3 : List AOper := [
  ⟨some 10, .fieldAddr 1 (.tmp 1), none, []⟩,
 ⟨some 11, .load none (.tmp 10), none, []⟩,
 ⟨some 12, .len false (.tmp 11), none, []⟩,
 ⟨some 13, .bin .plain .gtr (.tmp 12) (.const (.int .i64 80)), none, []⟩]
def k_mount_CheckChain_r4 : List AOper := [
  ⟨some 2, .move (.const (.int .i64 8)), none, []⟩]
def k_mount_CheckChain_r5 : List AOper := [
  ⟨some 14, .fieldAddr 1 (.tmp 1), none, []⟩,
 ⟨some 15, .load none (.tmp 14), none, []⟩,
 ⟨some 16, .len false (.tmp 15), none, []⟩,
 ⟨some 17, .move (.const (.int .i64 0)), none, []⟩]
def k_mount_CheckChain_r6 : List AOper := [
  ⟨some 18, .bin .plain .lss (.tmp 17) (.tmp 16), none, []⟩]
def k_mount_CheckChain_r7 : List AOper := [
  ⟨some 19, .indexAddr 4 (.tmp 15) (.tmp 17), none, []⟩,
 ⟨some 20, .load (some (4)) (.tmp 19), none, []⟩,
 ⟨some 4, .box (.const (.agg [.int .i64 0, .int .i64 0, .int .i64 0, .int .i64 0])), none, []⟩,
 ⟨none, .store 4 (.tmp 4) (.tmp 20), none, []⟩]
def k_mount_CheckChain_r8 : List AOper := [
  ⟨some 21, .load (some (2)) (.tmp 1), none, []⟩,
 ⟨some 22, .load (some (4)) (.tmp 4), none, []⟩,
 ⟨some 23, .call (.const (.fn (.func 92) [] [])) [.tmp 21, .tmp 22], none, []⟩,
 ⟨some 5, .move (.tmp 23), none, []⟩]
def k_mount_CheckChain_r9 : List AOper := [
  ⟨some 24, .move (.tmp 5), none, []⟩,
 ⟨some 25, .bin .plain .neq (.tmp 24) (.const (.int .i64 0)), none, []⟩]
def k_mount_CheckChain_r10 : List AOper := [
  ⟨some 26, .move (.tmp 5), none, []⟩,
 ⟨some 2, .move (.tmp 26), none, []⟩]
def k_mount_CheckChain_r11 : List AOper := [
  ⟨some 27, .bin .plain .add (.tmp 17) (.const (.int .i64 1)), none, []⟩,
 ⟨some 17, .move (.tmp 27), none, []⟩]
def k_mount_CheckChain_r12 : ACode := (.seq (.reg k_mount_CheckChain_r6 false) (.seq (.cond (.tmp 18) .skip (.exit 0)) (.seq (.block 1 (.seq (.reg k_mount_CheckChain_r7 false) (.seq (.reg k_mount_CheckChain_r8 false) (.seq (.reg k_mount_CheckChain_r9 false) (.cond (.tmp 25) (.seq (.reg k_mount_CheckChain_r10 false) .ret) .skip))))) (.reg k_mount_CheckChain_r11 false))))
def k_mount_CheckChain_r13 : List AOper := [
  ⟨some 28, .load (some (2)) (.tmp 1), none, []⟩,
 ⟨some 29, .call (.const (.fn (.func 93) [] [])) [.tmp 28], none, []⟩]
def k_mount_CheckChain_r14 : List AOper := [
  ⟨some 2, .move (.const (.int .i64 13)), none, []⟩]
def k_mount_CheckChain_r15 : List AOper := [
  ⟨some 2, .move (.const (.int .i64 0)), none, []⟩]
def k_mount_CheckChain : AFun := { params := 1, ntmps := 30, body := (.seq (.reg k_mount_CheckChain_r0 false) (.seq (.seq (.reg k_mount_CheckChain_r1 false) (.cond (.tmp 9) (.seq (.reg k_mount_CheckChain_r2 false) .ret) .skip)) (.seq (.seq (.reg k_mount_CheckChain_r3 false) (.cond (.tmp 13) (.seq (.reg k_mount_CheckChain_r4 false) .ret) .skip)) (.seq (.seq (.reg k_mount_CheckChain_r5 false) (.block 0 (.loop k_mount_CheckChain_r12))) (.seq (.seq (.reg k_mount_CheckChain_r13 false) (.cond (.tmp 29) (.seq (.reg k_mount_CheckChain_r14 false) .ret) .skip)) (.seq (.reg k_mount_CheckChain_r15 false) .ret)))))), res := [.tmp 2] }
theorem k_mount_CheckChain_ok : cfun Try.prog Try.f24 = k_mount_CheckChain := by kernel_rfl

def k_kit_Dice_Upto_r0 : List AOper := [
  ⟨some 4, .move (.const (.int .i64 0)), none, []⟩]
def k_kit_Dice_Upto_r1 : List AOper := [
  ⟨some 6, .move (.tmp 0), none, []⟩,
 ⟨some 7, .call (.const (.fn (.func 87) [] [])) [.tmp 6], none, []⟩,
 ⟨some 5, .move (.tmp 7), none, []⟩]
def k_kit_Dice_Upto_r2 : List AOper := [
  ⟨some 8, .move (.tmp 1), none, []⟩,
 ⟨some 9, .bin .plain .lss (.tmp 8) (.const (.int .i64 1)), none, []⟩]
def k_kit_Dice_Upto_r3 : List AOper := [
  ⟨some 4, .move (.const (.int .i64 0)), none, []⟩]
def k_kit_Dice_Upto_r4 : List AOper := [
  ⟨some 10, .move (.tmp 5), none, []⟩,
 ⟨some 11, .move (.tmp 1), none, []⟩,
 ⟨some 12, .toInt .u64 (.tmp 11), none, []⟩,
 ⟨some 13, .bin .plain .rem (.tmp 10) (.tmp 12), none, []⟩,
 ⟨some 14, .toInt .i64 (.tmp 13), none, []⟩,
 ⟨some 4, .move (.tmp 14), none, []⟩]
def k_kit_Dice_Upto : AFun := { params := 2, ntmps := 15, body := (.seq (.reg k_kit_Dice_Upto_r0 false) (.seq (.reg k_kit_Dice_Upto_r1 false) (.seq (.seq (.reg k_kit_Dice_Upto_r2 false) (.cond (.tmp 9) (.seq (.reg k_kit_Dice_Upto_r3 false) .ret) .skip)) (.seq (.reg k_kit_Dice_Upto_r4 false) .ret)))), res := [.tmp 4] }
theorem k_kit_Dice_Upto_ok : cfun Try.prog Try.f35 = k_kit_Dice_Upto := by kernel_rfl

def k_kit_WindingOf_r0 : List AOper := [
  ⟨some 2, .box (.const (.agg [.int .i64 0, .int .i64 0, .int .i64 0, .int .i64 0, .int .i64 0, .int .i64 0, .int .i64 0, .int .i64 0, .int .i64 0, .int .i64 0, .int .i64 0])), none, []⟩]
def k_kit_WindingOf_r1 : List AOper := [
  ⟨some 5, .move (.tmp 0), none, []⟩,
 ⟨some 6, .call (.const (.fn (.func 84) [] [])) [.tmp 5, .const (.int .i64 1), .const (.int .i64 11)], none, []⟩,
 ⟨some 7, .move (.tmp 0), none, []⟩,
 ⟨some 8, .call (.const (.fn (.func 73) [] [])) [.tmp 7, .const (.int .i64 20), .const (.int .i64 60)], none, []⟩,
 ⟨some 9, .move (.tmp 0), none, []⟩,
 ⟨some 10, .call (.const (.fn (.func 73) [] [])) [.tmp 9, .const (.int .i64 150), .const (.int .i64 260)], none, []⟩,
 ⟨some 11, .move (.tmp 0), none, []⟩,
 ⟨some 12, .call (.const (.fn (.func 73) [] [])) [.tmp 11, .const (.int .i64 0), .const (.int .i64 30000)], none, []⟩,
 ⟨some 13, .move (.tmp 0), none, []⟩,
 ⟨some 14, .call (.const (.fn (.func 73) [] [])) [.tmp 13, .const (.int .i64 0), .const (.int .i64 40)], none, []⟩,
 ⟨some 15, .build [.int .i64 0, .int .i64 0, .int .i64 0, .int .i64 0, .int .i64 0, .int .i64 0, .int .i64 0, .int .i64 0, .int .i64 0, .int .i64 0, .int .i64 0] [(0, 1, .tmp 6), (1, 2, .tmp 8), (3, 2, .tmp 10), (5, 2, .tmp 12), (7, 2, .tmp 14)], none, []⟩,
 ⟨some 3, .box (.const (.agg [.int .i64 0, .int .i64 0, .int .i64 0, .int .i64 0, .int .i64 0, .int .i64 0, .int .i64 0, .int .i64 0, .int .i64 0, .int .i64 0, .int .i64 0])), none, []⟩,
 ⟨none, .store 11 (.tmp 3) (.tmp 15), none, []⟩]
def k_kit_WindingOf_r2 : List AOper := [
  ⟨some 16, .fieldAddr 0 (.tmp 3), none, []⟩,
 ⟨some 17, .load none (.tmp 16), none, []⟩,
 ⟨some 18, .bin .plain .sub (.tmp 17) (.const (.int .i64 1)), none, []⟩,
 ⟨some 19, .fieldAddr 3 (.tmp 3), none, []⟩,
 ⟨some 20, .fieldAddr 0 (.tmp 19), none, []⟩,
 ⟨some 21, .load none (.tmp 20), none, []⟩,
 ⟨some 22, .fieldAddr 3 (.tmp 3), none, []⟩,
 ⟨some 23, .fieldAddr 1 (.tmp 22), none, []⟩,
 ⟨some 24, .load none (.tmp 23), none, []⟩,
 ⟨some 25, .bin .plain .add (.tmp 21) (.tmp 24), none, []⟩,
 ⟨some 26, .bin .plain .mul (.tmp 18) (.tmp 25), none, []⟩,
 ⟨some 27, .bin .plain .quo (.tmp 26) (.const (.int .i64 2)), none, []⟩,
 ⟨some 28, .fieldAddr 1 (.tmp 3), none, []⟩,
 ⟨some 29, .fieldAddr 0 (.tmp 28), none, []⟩,
 ⟨some 30, .load none (.tmp 29), none, []⟩,
 ⟨some 31, .bin .plain .add (.tmp 27) (.tmp 30), none, []⟩,
 ⟨some 4, .move (.tmp 31), none, []⟩]
def k_kit_WindingOf_r3 : List AOper := [
  ⟨some 32, .move (.tmp 4), none, []⟩,
 ⟨some 33, .move (.tmp 0), none, []⟩,
 ⟨some 34, .call (.const (.fn (.func 35) [] [])) [.tmp 33, .const (.int .i64 200)], none, []⟩,
 ⟨some 35, .bin .plain .sub (.tmp 32) (.tmp 34), none, []⟩,
 ⟨some 36, .minmax true [.const (.int .i64 0), .tmp 35], none, []⟩,
 ⟨some 37, .move (.tmp 4), none, []⟩,
 ⟨some 38, .move (.tmp 0), none, []⟩,
 ⟨some 39, .call (.const (.fn (.func 35) [] [])) [.tmp 38, .const (.int .i64 300)], none, []⟩,
 ⟨some 40, .bin .plain .add (.tmp 37) (.tmp 39), none, []⟩,
 ⟨some 41, .build [.int .i64 0, .int .i64 0] [(0, 1, .tmp 36), (1, 1, .tmp 40)], none, []⟩,
 ⟨some 42, .fieldAddr 9 (.tmp 3), none, []⟩,
 ⟨none, .store 2 (.tmp 42) (.tmp 41), none, []⟩]
def k_kit_WindingOf_r4 : List AOper := [
  ⟨some 43, .load (some (11)) (.tmp 3), none, []⟩,
 ⟨none, .store 11 (.tmp 2) (.tmp 43), none, []⟩]
def k_kit_WindingOf : AFun := { params := 1, ntmps := 44, body := (.seq (.reg k_kit_WindingOf_r0 false) (.seq (.reg k_kit_WindingOf_r1 false) (.seq (.reg k_kit_WindingOf_r2 false) (.seq (.reg k_kit_WindingOf_r3 false) (.seq (.reg k_kit_WindingOf_r4 false) .ret))))), res := [.cell 2 (some ((some (11))))] }
theorem k_kit_WindingOf_ok : cfun Try.prog Try.f40 = k_kit_WindingOf := by kernel_rfl

def k_mount_Wind_r0 : List AOper := [
  ⟨some 1, .box (.tmp 0), none, []⟩,
 ⟨some 2, .box (.const (.agg [.int .i64 0, .nilsl])), none, []⟩,
 ⟨some 3, .move (.const (.int .i64 0)), none, []⟩]
def k_mount_Wind_r1 : List AOper := [
  ⟨some 9, .load (some (11)) (.tmp 1), none, []⟩,
 ⟨some 10, .call (.const (.fn (.func 107) [] [])) [.tmp 9], none, []⟩,
 ⟨some 4, .move (.tmp 10), none, []⟩]
def k_mount_Wind_r2 : List AOper := [
  ⟨some 11, .move (.tmp 4), none, []⟩,
 ⟨some 12, .bin .plain .neq (.tmp 11) (.const (.int .i64 0)), none, []⟩]
def k_mount_Wind_r3 : List AOper := [
  ⟨some 13, .build [.int .i64 0, .nilsl] [], none, []⟩,
 ⟨some 14, .move (.tmp 4), none, []⟩,
 ⟨none, .store 2 (.tmp 2) (.tmp 13), none, []⟩,
 ⟨some 3, .move (.tmp 14), none, []⟩]
def k_mount_Wind_r4 : List AOper := [
  ⟨some 15, .load (some (11)) (.tmp 1), none, []⟩,
 ⟨some 16, .call (.const (.fn (.func 108) [] [])) [.tmp 15], none, []⟩,
 ⟨some 5, .box (.const (.agg [.int .i64 0, .int .i64 0])), none, []⟩,
 ⟨none, .store 2 (.tmp 5) (.tmp 16), none, []⟩]
def k_mount_Wind_r5 : List AOper := [
  ⟨some 17, .fieldAddr 7 (.tmp 1), none, []⟩,
 ⟨some 18, .load (some (2)) (.tmp 17), none, []⟩,
 ⟨some 19, .call (.const (.fn (.func 109) [] [])) [.const (.int .i64 0), .const (.int .i64 1), .tmp 18], none, []⟩,
 ⟨some 20, .buildSlice 4 [.tmp 19], none, []⟩,
 ⟨some 6, .move (.tmp 20), none, []⟩]
def k_mount_Wind_r6 : List AOper := [
  ⟨some 21, .fieldAddr 0 (.tmp 1), none, []⟩,
 ⟨some 22, .load none (.tmp 21), none, []⟩,
 ⟨some 23, .move (.const (.int .i64 0)), none, []⟩]
def k_mount_Wind_r7 : List AOper := [
  ⟨some 24, .bin .plain .lss (.tmp 23) (.tmp 22), none, []⟩]
def k_mount_Wind_r8 : List AOper := [
  ⟨some 25, .move (.tmp 23), none, []⟩,
 ⟨some 7, .move (.tmp 25), none, []⟩]
def k_mount_Wind_r9 : List AOper := [
  ⟨some 26, .move (.tmp 6), none, []⟩,
 ⟨some 27, .move (.tmp 7), none, []⟩,
 ⟨some 28, .bin .plain .mul (.const (.int .i64 2)) (.tmp 27), none, []⟩,
 ⟨some 29, .bin .plain .add (.tmp 28) (.const (.int .i64 1)), none, []⟩,
 ⟨some 30, .move (.tmp 7), none, []⟩,
 ⟨some 31, .bin .plain .mul (.const (.int .i64 2)) (.tmp 30), none, []⟩,
 ⟨some 32, .bin .plain .add (.tmp 31) (.const (.int .i64 2)), none, []⟩,
 ⟨some 33, .fieldAddr 1 (.tmp 1), none, []⟩,
 ⟨some 34, .load (some (2)) (.tmp 33), none, []⟩,
 ⟨some 35, .call (.const (.fn (.func 109) [] [])) [.tmp 29, .tmp 32, .tmp 34], none, []⟩,
 ⟨some 36, .buildSlice 4 [.tmp 35], none, []⟩,
 ⟨some 37, .append 4 32 true (.tmp 26) (.tmp 36), none, []⟩,
 ⟨some 6, .move (.tmp 37), none, []⟩]
def k_mount_Wind_r10 : List AOper := [
  ⟨some 38, .move (.tmp 7), none, []⟩,
 ⟨some 39, .bin .plain .gtr (.tmp 38) (.const (.int .i64 0)), none, []⟩]
def k_mount_Wind_r11 : List AOper := [
  ⟨some 40, .move (.tmp 6), none, []⟩,
 ⟨some 41, .move (.tmp 7), none, []⟩,
 ⟨some 42, .bin .plain .mul (.const (.int .i64 2)) (.tmp 41), none, []⟩,
 ⟨some 43, .bin .plain .sub (.tmp 42) (.const (.int .i64 1)), none, []⟩,
 ⟨some 44, .move (.tmp 7), none, []⟩,
 ⟨some 45, .bin .plain .mul (.const (.int .i64 2)) (.tmp 44), none, []⟩,
 ⟨some 46, .bin .plain .add (.tmp 45) (.const (.int .i64 1)), none, []⟩,
 ⟨some 47, .load (some (2)) (.tmp 5), none, []⟩,
 ⟨some 48, .call (.const (.fn (.func 109) [] [])) [.tmp 43, .tmp 46, .tmp 47], none, []⟩,
 ⟨some 49, .buildSlice 4 [.tmp 48], none, []⟩,
 ⟨some 50, .append 4 32 true (.tmp 40) (.tmp 49), none, []⟩,
 ⟨some 6, .move (.tmp 50), none, []⟩]
def k_mount_Wind_r12 : List AOper := [
  ⟨some 51, .bin .plain .add (.tmp 23) (.const (.int .i64 1)), none, []⟩,
 ⟨some 23, .move (.tmp 51), none, []⟩]
def k_mount_Wind_r13 : ACode := (.seq (.reg k_mount_Wind_r7 false) (.seq (.cond (.tmp 24) .skip (.exit 0)) (.seq (.block 1 (.seq (.reg k_mount_Wind_r8 false) (.seq (.reg k_mount_Wind_r9 false) (.seq (.reg k_mount_Wind_r10 false) (.cond (.tmp 39) (.reg k_mount_Wind_r11 false) .skip))))) (.reg k_mount_Wind_r12 false))))
def k_mount_Wind_r14 : List AOper := [
  ⟨some 52, .fieldAddr 0 (.tmp 1), none, []⟩,
 ⟨some 53, .load none (.tmp 52), none, []⟩,
 ⟨some 54, .bin .plain .mul (.const (.int .i64 2)) (.tmp 53), none, []⟩,
 ⟨some 8, .move (.tmp 54), none, []⟩]
def k_mount_Wind_r15 : List AOper := [
  ⟨some 55, .fieldAddr 0 (.tmp 1), none, []⟩,
 ⟨some 56, .load none (.tmp 55), none, []⟩,
 ⟨some 57, .bin .plain .gtr (.tmp 56) (.const (.int .i64 1)), none, []⟩]
def k_mount_Wind_r16 : List AOper := [
  ⟨some 58, .move (.tmp 6), none, []⟩,
 ⟨some 59, .move (.tmp 8), none, []⟩,
 ⟨some 60, .fieldAddr 9 (.tmp 1), none, []⟩,
 ⟨some 61, .load (some (2)) (.tmp 60), none, []⟩,
 ⟨some 62, .call (.const (.fn (.func 109) [] [])) [.const (.int .i64 1), .tmp 59, .tmp 61], none, []⟩,
 ⟨some 63, .buildSlice 4 [.tmp 62], none, []⟩,
 ⟨some 64, .append 4 32 true (.tmp 58) (.tmp 63), none, []⟩,
 ⟨some 6, .move (.tmp 64), none, []⟩]
def k_mount_Wind_r17 : List AOper := [
  ⟨some 65, .move (.tmp 8), none, []⟩,
 ⟨some 66, .bin .plain .add (.tmp 65) (.const (.int .i64 1)), none, []⟩,
 ⟨some 67, .move (.tmp 6), none, []⟩,
 ⟨some 68, .build [.int .i64 0, .nilsl] [(0, 1, .tmp 66), (1, 1, .tmp 67)], none, []⟩,
 ⟨none, .store 2 (.tmp 2) (.tmp 68), none, []⟩,
 ⟨some 3, .move (.const (.int .i64 0)), none, []⟩]
def k_mount_Wind : AFun := { params := 1, ntmps := 69, body := (.seq (.reg k_mount_Wind_r0 false) (.seq (.seq (.reg k_mount_Wind_r1 false) (.seq (.reg k_mount_Wind_r2 false) (.cond (.tmp 12) (.seq (.reg k_mount_Wind_r3 false) .ret) .skip))) (.seq (.reg k_mount_Wind_r4 false) (.seq (.reg k_mount_Wind_r5 false) (.seq (.seq (.reg k_mount_Wind_r6 false) (.block 0 (.loop k_mount_Wind_r13))) (.seq (.reg k_mount_Wind_r14 false) (.seq (.seq (.reg k_mount_Wind_r15 false) (.cond (.tmp 57) (.reg k_mount_Wind_r16 false) .skip)) (.seq (.reg k_mount_Wind_r17 false) .ret)))))))), res := [.cell 2 (some ((some (2)))), .tmp 3] }
theorem k_mount_Wind_ok : cfun Try.prog Try.f41 = k_mount_Wind := by kernel_rfl

def k_ref04_Wind_r0 : List AOper := [
  ⟨some 1, .box (.tmp 0), none, []⟩,
 ⟨some 2, .box (.const (.agg [.int .i64 0, .nilsl])), none, []⟩,
 ⟨some 3, .move (.const (.int .i64 0)), none, []⟩]
def k_ref04_Wind_r1 : List AOper := [
  ⟨some 10, .load (some (11)) (.tmp 1), none, []⟩,
 ⟨some 11, .call (.const (.fn (.func 110) [] [])) [.tmp 10], none, []⟩,
 ⟨some 4, .move (.tmp 11), none, []⟩]
def k_ref04_Wind_r2 : List AOper := [
  ⟨some 12, .move (.tmp 4), none, []⟩,
 ⟨some 13, .bin .plain .neq (.tmp 12) (.const (.int .i64 0)), none, []⟩]
def k_ref04_Wind_r3 : List AOper := [
  ⟨some 14, .build [.int .i64 0, .nilsl] [], none, []⟩,
 ⟨some 15, .move (.tmp 4), none, []⟩,
 ⟨none, .store 2 (.tmp 2) (.tmp 14), none, []⟩,
 ⟨some 3, .move (.tmp 15), none, []⟩]
def k_ref04_Wind_r4 : List AOper := [
  ⟨some 16, .fieldAddr 3 (.tmp 1), none, []⟩,
 ⟨some 17, .fieldAddr 0 (.tmp 16), none, []⟩,
 ⟨some 18, .load none (.tmp 17), none, []⟩,
 ⟨some 19, .fieldAddr 5 (.tmp 1), none, [0, 1, 2]⟩,
 ⟨some 20, .fieldAddr 0 (.tmp 19), none, [0, 1, 2]⟩,
 ⟨some 21, .load none (.tmp 20), none, [0, 1, 2]⟩,
 ⟨some 22, .bin .plain .add (.const (.int .i64 1000000)) (.tmp 21), none, [0, 1, 2]⟩,
 ⟨some 23, .bin .plain .mul (.tmp 18) (.tmp 22), none, []⟩,
 ⟨some 24, .fieldAddr 3 (.tmp 1), none, [0, 1, 2, 3, 4, 5, 6, 7]⟩,
 ⟨some 25, .fieldAddr 1 (.tmp 24), none, [0, 1, 2, 3, 4, 5, 6, 7]⟩,
 ⟨some 26, .load none (.tmp 25), none, [0, 1, 2, 3, 4, 5, 6, 7]⟩,
 ⟨some 27, .fieldAddr 5 (.tmp 1), none, [0, 1, 2, 3, 4, 5, 6, 7, 8, 9, 10]⟩,
 ⟨some 28, .fieldAddr 1 (.tmp 27), none, [0, 1, 2, 3, 4, 5, 6, 7, 8, 9, 10]⟩,
 ⟨some 29, .load none (.tmp 28), none, [0, 1, 2, 3, 4, 5, 6, 7, 8, 9, 10]⟩,
 ⟨some 30, .bin .plain .add (.const (.int .i64 1000000)) (.tmp 29), none, [0, 1, 2, 3, 4, 5, 6, 7, 8, 9, 10]⟩,
 ⟨some 31, .bin .plain .mul (.tmp 26) (.tmp 30), none, [0, 1, 2, 3, 4, 5, 6, 7]⟩,
 ⟨some 5, .move (.tmp 23), none, [8, 9, 10, 11, 12, 13, 14, 15]⟩,
 ⟨some 6, .move (.tmp 31), none, []⟩]
def k_ref04_Wind_r4s : List (List AOper) := [
  [
  ⟨some 16, .fieldAddr 3 (.tmp 1), none, []⟩,
 ⟨some 17, .fieldAddr 0 (.tmp 16), none, []⟩,
 ⟨some 18, .load none (.tmp 17), none, []⟩,
 ⟨some 19, .fieldAddr 5 (.tmp 1), none, [0, 1, 2]⟩,
 ⟨some 20, .fieldAddr 0 (.tmp 19), none, [0, 1, 2]⟩,
 ⟨some 21, .load none (.tmp 20), none, [0, 1, 2]⟩,
 ⟨some 22, .bin .plain .add (.const (.int .i64 1000000)) (.tmp 21), none, [0, 1, 2]⟩,
 ⟨some 23, .bin .plain .mul (.tmp 18) (.tmp 22), none, []⟩,
 ⟨some 24, .fieldAddr 3 (.tmp 1), none, [0, 1, 2, 3, 4, 5, 6, 7]⟩,
 ⟨some 25, .fieldAddr 1 (.tmp 24), none, [0, 1, 2, 3, 4, 5, 6, 7]⟩,
 ⟨some 26, .load none (.tmp 25), none, [0, 1, 2, 3, 4, 5, 6, 7]⟩,
 ⟨some 27, .fieldAddr 5 (.tmp 1), none, [0, 1, 2, 3, 4, 5, 6, 7, 8, 9, 10]⟩,
 ⟨some 28, .fieldAddr 1 (.tmp 27), none, [0, 1, 2, 3, 4, 5, 6, 7, 8, 9, 10]⟩,
 ⟨some 29, .load none (.tmp 28), none, [0, 1, 2, 3, 4, 5, 6, 7, 8, 9, 10]⟩,
 ⟨some 30, .bin .plain .add (.const (.int .i64 1000000)) (.tmp 29), none, [0, 1, 2, 3, 4, 5, 6, 7, 8, 9, 10]⟩,
 ⟨some 31, .bin .plain .mul (.tmp 26) (.tmp 30), none, [0, 1, 2, 3, 4, 5, 6, 7]⟩,
 ⟨some 5, .move (.tmp 23), none, [8, 9, 10, 11, 12, 13, 14, 15]⟩], 
  [
  ⟨some 6, .move (.tmp 31), none, []⟩]]
theorem k_ref04_Wind_r4_sg : segs k_ref04_Wind_r4 = k_ref04_Wind_r4s := by kernel_rfl
theorem k_ref04_Wind_r4_st : statOK k_ref04_Wind_r4 = true := by kernel_rfl
def k_ref04_Wind_r5 : List AOper := [
  ⟨some 32, .move (.tmp 5), none, []⟩,
 ⟨some 33, .bin .plain .quo (.tmp 32) (.const (.int .i64 1000000)), none, []⟩,
 ⟨some 34, .move (.tmp 6), none, []⟩,
 ⟨some 35, .bin .plain .add (.tmp 34) (.const (.int .i64 1000000)), none, []⟩,
 ⟨some 36, .bin .plain .sub (.tmp 35) (.const (.int .i64 1)), none, []⟩,
 ⟨some 37, .bin .plain .quo (.tmp 36) (.const (.int .i64 1000000)), none, []⟩,
 ⟨some 38, .build [.int .i64 0, .int .i64 0] [(0, 1, .tmp 33), (1, 1, .tmp 37)], none, []⟩,
 ⟨some 7, .box (.const (.agg [.int .i64 0, .int .i64 0])), none, []⟩,
 ⟨none, .store 2 (.tmp 7) (.tmp 38), none, []⟩]
def k_ref04_Wind_r6 : List AOper := [
  ⟨some 39, .fieldAddr 0 (.tmp 1), none, []⟩,
 ⟨some 40, .load none (.tmp 39), none, []⟩,
 ⟨some 41, .bin .plain .mul (.const (.int .i64 2)) (.tmp 40), none, []⟩,
 ⟨some 42, .bin .plain .add (.tmp 41) (.const (.int .i64 1)), none, []⟩,
 ⟨some 43, .fieldAddr 7 (.tmp 1), none, []⟩,
 ⟨some 44, .load (some (2)) (.tmp 43), none, []⟩,
 ⟨some 45, .build [.int .i64 0, .int .i64 0, .int .i64 0, .int .i64 0] [(0, 1, .const (.int .i64 0)), (1, 1, .const (.int .i64 1)), (2, 2, .tmp 44)], none, []⟩,
 ⟨some 46, .buildSlice 4 [.tmp 45], none, []⟩,
 ⟨some 47, .build [.int .i64 0, .nilsl] [(0, 1, .tmp 42), (1, 1, .tmp 46)], none, []⟩,
 ⟨some 8, .box (.const (.agg [.int .i64 0, .nilsl])), none, []⟩,
 ⟨none, .store 2 (.tmp 8) (.tmp 47), none, []⟩]
def k_ref04_Wind_r7 : List AOper := [
  ⟨some 9, .move (.const (.int .i64 0)), none, []⟩]
def k_ref04_Wind_r8 : List AOper := [
  ⟨some 48, .move (.tmp 9), none, []⟩,
 ⟨some 49, .fieldAddr 0 (.tmp 1), none, []⟩,
 ⟨some 50, .load none (.tmp 49), none, []⟩,
 ⟨some 51, .bin .plain .lss (.tmp 48) (.tmp 50), none, []⟩]
def k_ref04_Wind_r9 : List AOper := [
  ⟨some 54, .fieldAddr 1 (.tmp 8), none, []⟩,
 ⟨some 55, .load none (.tmp 54), none, []⟩,
 ⟨some 56, .move (.tmp 9), none, []⟩,
 ⟨some 57, .bin .plain .mul (.const (.int .i64 2)) (.tmp 56), none, []⟩,
 ⟨some 58, .bin .plain .add (.tmp 57) (.const (.int .i64 1)), none, []⟩,
 ⟨some 59, .move (.tmp 9), none, []⟩,
 ⟨some 60, .bin .plain .mul (.const (.int .i64 2)) (.tmp 59), none, []⟩,
 ⟨some 61, .bin .plain .add (.tmp 60) (.const (.int .i64 2)), none, []⟩,
 ⟨some 62, .fieldAddr 1 (.tmp 1), none, []⟩,
 ⟨some 63, .load (some (2)) (.tmp 62), none, []⟩,
 ⟨some 64, .build [.int .i64 0, .int .i64 0, .int .i64 0, .int .i64 0] [(0, 1, .tmp 58), (1, 1, .tmp 61), (2, 2, .tmp 63)], none, []⟩,
 ⟨some 65, .buildSlice 4 [.tmp 64], none, []⟩,
 ⟨some 66, .append 4 32 true (.tmp 55) (.tmp 65), none, []⟩,
 ⟨some 67, .fieldAddr 1 (.tmp 8), none, []⟩,
 ⟨none, .store 1 (.tmp 67) (.tmp 66), none, []⟩]
def k_ref04_Wind_r10 : List AOper := [
  ⟨some 68, .move (.tmp 9), none, []⟩,
 ⟨some 69, .bin .plain .gtr (.tmp 68) (.const (.int .i64 0)), none, []⟩]
def k_ref04_Wind_r11 : List AOper := [
  ⟨some 70, .fieldAddr 1 (.tmp 8), none, []⟩,
 ⟨some 71, .load none (.tmp 70), none, []⟩,
 ⟨some 72, .move (.tmp 9), none, []⟩,
 ⟨some 73, .bin .plain .mul (.const (.int .i64 2)) (.tmp 72), none, []⟩,
 ⟨some 74, .bin .plain .sub (.tmp 73) (.const (.int .i64 1)), none, []⟩,
 ⟨some 75, .move (.tmp 9), none, []⟩,
 ⟨some 76, .bin .plain .mul (.const (.int .i64 2)) (.tmp 75), none, []⟩,
 ⟨some 77, .bin .plain .add (.tmp 76) (.const (.int .i64 1)), none, []⟩,
 ⟨some 78, .load (some (2)) (.tmp 7), none, []⟩,
 ⟨some 79, .build [.int .i64 0, .int .i64 0, .int .i64 0, .int .i64 0] [(0, 1, .tmp 74), (1, 1, .tmp 77), (2, 2, .tmp 78)], none, []⟩,
 ⟨some 80, .buildSlice 4 [.tmp 79], none, []⟩,
 ⟨some 81, .append 4 32 true (.tmp 71) (.tmp 80), none, []⟩,
 ⟨some 82, .fieldAddr 1 (.tmp 8), none, []⟩,
 ⟨none, .store 1 (.tmp 82) (.tmp 81), none, []⟩]
def k_ref04_Wind_r12 : List AOper := [
  ⟨some 52, .move (.tmp 9), none, []⟩,
 ⟨some 53, .bin .plain .add (.tmp 52) (.const (.int .i64 1)), none, []⟩,
 ⟨some 9, .move (.tmp 53), none, []⟩]
def k_ref04_Wind_r13 : ACode := (.seq (.seq (.reg k_ref04_Wind_r8 false) (.cond (.tmp 51) .skip (.exit 0))) (.seq (.block 1 (.seq (.reg k_ref04_Wind_r9 false) (.seq (.reg k_ref04_Wind_r10 false) (.cond (.tmp 69) (.reg k_ref04_Wind_r11 false) .skip)))) (.reg k_ref04_Wind_r12 false)))
def k_ref04_Wind_r14 : List AOper := [
  ⟨some 83, .fieldAddr 0 (.tmp 1), none, []⟩,
 ⟨some 84, .load none (.tmp 83), none, []⟩,
 ⟨some 85, .bin .plain .gtr (.tmp 84) (.const (.int .i64 1)), none, []⟩]
def k_ref04_Wind_r15 : List AOper := [
  ⟨some 86, .fieldAddr 1 (.tmp 8), none, []⟩,
 ⟨some 87, .load none (.tmp 86), none, []⟩,
 ⟨some 88, .fieldAddr 0 (.tmp 1), none, []⟩,
 ⟨some 89, .load none (.tmp 88), none, []⟩,
 ⟨some 90, .bin .plain .mul (.const (.int .i64 2)) (.tmp 89), none, []⟩,
 ⟨some 91, .fieldAddr 9 (.tmp 1), none, []⟩,
 ⟨some 92, .load (some (2)) (.tmp 91), none, []⟩,
 ⟨some 93, .build [.int .i64 0, .int .i64 0, .int .i64 0, .int .i64 0] [(0, 1, .const (.int .i64 1)), (1, 1, .tmp 90), (2, 2, .tmp 92)], none, []⟩,
 ⟨some 94, .buildSlice 4 [.tmp 93], none, []⟩,
 ⟨some 95, .append 4 32 true (.tmp 87) (.tmp 94), none, []⟩,
 ⟨some 96, .fieldAddr 1 (.tmp 8), none, []⟩,
 ⟨none, .store 1 (.tmp 96) (.tmp 95), none, []⟩]
def k_ref04_Wind_r16 : List AOper := [
  ⟨some 97, .load (some (2)) (.tmp 8), none, []⟩,
 ⟨none, .store 2 (.tmp 2) (.tmp 97), none, []⟩,
 ⟨some 3, .move (.const (.int .i64 0)), none, []⟩]
def k_ref04_Wind : AFun := { params := 1, ntmps := 98, body := (.seq (.reg k_ref04_Wind_r0 false) (.seq (.seq (.reg k_ref04_Wind_r1 false) (.seq (.reg k_ref04_Wind_r2 false) (.cond (.tmp 13) (.seq (.reg k_ref04_Wind_r3 false) .ret) .skip))) (.seq (.reg k_ref04_Wind_r4 true) (.seq (.reg k_ref04_Wind_r5 false) (.seq (.reg k_ref04_Wind_r6 false) (.seq (.seq (.reg k_ref04_Wind_r7 false) (.block 0 (.loop k_ref04_Wind_r13))) (.seq (.seq (.reg k_ref04_Wind_r14 false) (.cond (.tmp 85) (.reg k_ref04_Wind_r15 false) .skip)) (.seq (.reg k_ref04_Wind_r16 false) .ret)))))))), res := [.cell 2 (some ((some (2)))), .tmp 3] }
theorem k_ref04_Wind_ok : cfun Try.prog Try.f42 = k_ref04_Wind := by kernel_rfl

def k_law04_sameChain_r0 : List AOper := [
  ⟨some 2, .box (.tmp 0), none, []⟩,
 ⟨some 3, .box (.tmp 1), none, []⟩,
 ⟨some 4, .move (.const (.bool false)), none, []⟩]
def k_law04_sameChain_r1 : List AOper := [
  ⟨some 6, .fieldAddr 0 (.tmp 2), none, []⟩,
 ⟨some 7, .load none (.tmp 6), none, []⟩,
 ⟨some 8, .fieldAddr 0 (.tmp 3), none, []⟩,
 ⟨some 9, .load none (.tmp 8), none, []⟩,
 ⟨some 10, .bin .plain .neq (.tmp 7) (.tmp 9), none, []⟩,
 ⟨some 11, .move (.tmp 10), none, []⟩,
 ⟨some 12, .fieldAddr 1 (.tmp 2), (some (11, false)), []⟩,
 ⟨some 13, .load none (.tmp 12), (some (11, false)), []⟩,
 ⟨some 14, .len false (.tmp 13), (some (11, false)), []⟩,
 ⟨some 15, .fieldAddr 1 (.tmp 3), (some (11, false)), []⟩,
 ⟨some 16, .load none (.tmp 15), (some (11, false)), []⟩,
 ⟨some 17, .len false (.tmp 16), (some (11, false)), []⟩,
 ⟨some 18, .bin .plain .neq (.tmp 14) (.tmp 17), (some (11, false)), []⟩,
 ⟨some 19, .pick (.tmp 11) (.const (.bool true)) (.tmp 18), none, []⟩]
def k_law04_sameChain_r2 : List AOper := [
  ⟨some 4, .move (.const (.bool false)), none, []⟩]
def k_law04_sameChain_r3 : List AOper := [
  ⟨some 5, .move (.const (.int .i64 0)), none, []⟩]
def k_law04_sameChain_r4 : List AOper := [
  ⟨some 20, .move (.tmp 5), none, []⟩,
 ⟨some 21, .fieldAddr 1 (.tmp 2), none, []⟩,
 ⟨some 22, .load none (.tmp 21), none, []⟩,
 ⟨some 23, .len false (.tmp 22), none, []⟩,
 ⟨some 24, .bin .plain .lss (.tmp 20) (.tmp 23), none, []⟩]
def k_law04_sameChain_r5 : List AOper := [
  ⟨some 27, .fieldAddr 1 (.tmp 2), none, []⟩,
 ⟨some 28, .load none (.tmp 27), none, []⟩,
 ⟨some 29, .move (.tmp 5), none, [0, 1]⟩,
 ⟨some 30, .indexAddr 4 (.tmp 28) (.tmp 29), none, []⟩,
 ⟨some 31, .load (some (4)) (.tmp 30), none, []⟩,
 ⟨some 32, .fieldAddr 1 (.tmp 3), none, [0, 1, 2, 3, 4]⟩,
 ⟨some 33, .load none (.tmp 32), none, [0, 1, 2, 3, 4]⟩,
 ⟨some 34, .move (.tmp 5), none, [0, 1, 2, 3, 4, 5, 6]⟩,
 ⟨some 35, .indexAddr 4 (.tmp 33) (.tmp 34), none, [0, 1, 2, 3, 4]⟩,
 ⟨some 36, .load (some (4)) (.tmp 35), none, [0, 1, 2, 3, 4]⟩,
 ⟨some 37, .eqAgg true [.int, .int, .int, .int] (.tmp 31) (.tmp 36), none, []⟩]
def k_law04_sameChain_r5s : List (List AOper) := [
  [
  ⟨some 27, .fieldAddr 1 (.tmp 2), none, []⟩,
 ⟨some 28, .load none (.tmp 27), none, []⟩,
 ⟨some 29, .move (.tmp 5), none, [0, 1]⟩,
 ⟨some 30, .indexAddr 4 (.tmp 28) (.tmp 29), none, []⟩,
 ⟨some 31, .load (some (4)) (.tmp 30), none, []⟩,
 ⟨some 32, .fieldAddr 1 (.tmp 3), none, [0, 1, 2, 3, 4]⟩,
 ⟨some 33, .load none (.tmp 32), none, [0, 1, 2, 3, 4]⟩,
 ⟨some 34, .move (.tmp 5), none, [0, 1, 2, 3, 4, 5, 6]⟩,
 ⟨some 35, .indexAddr 4 (.tmp 33) (.tmp 34), none, [0, 1, 2, 3, 4]⟩,
 ⟨some 36, .load (some (4)) (.tmp 35), none, [0, 1, 2, 3, 4]⟩], 
  [
  ⟨some 37, .eqAgg true [.int, .int, .int, .int] (.tmp 31) (.tmp 36), none, []⟩]]
theorem k_law04_sameChain_r5_sg : segs k_law04_sameChain_r5 = k_law04_sameChain_r5s := by kernel_rfl
theorem k_law04_sameChain_r5_st : statOK k_law04_sameChain_r5 = true := by kernel_rfl
def k_law04_sameChain_r6 : List AOper := [
  ⟨some 4, .move (.const (.bool false)), none, []⟩]
def k_law04_sameChain_r7 : List AOper := [
  ⟨some 25, .move (.tmp 5), none, []⟩,
 ⟨some 26, .bin .plain .add (.tmp 25) (.const (.int .i64 1)), none, []⟩,
 ⟨some 5, .move (.tmp 26), none, []⟩]
def k_law04_sameChain_r8 : ACode := (.seq (.seq (.reg k_law04_sameChain_r4 false) (.cond (.tmp 24) .skip (.exit 0))) (.seq (.block 1 (.seq (.reg k_law04_sameChain_r5 true) (.cond (.tmp 37) (.seq (.reg k_law04_sameChain_r6 false) .ret) .skip))) (.reg k_law04_sameChain_r7 false)))
def k_law04_sameChain_r9 : List AOper := [
  ⟨some 4, .move (.const (.bool true)), none, []⟩]
def k_law04_sameChain : AFun := { params := 2, ntmps := 38, body := (.seq (.reg k_law04_sameChain_r0 false) (.seq (.seq (.reg k_law04_sameChain_r1 false) (.cond (.tmp 19) (.seq (.reg k_law04_sameChain_r2 false) .ret) .skip)) (.seq (.seq (.reg k_law04_sameChain_r3 false) (.block 0 (.loop k_law04_sameChain_r8))) (.seq (.reg k_law04_sameChain_r9 false) .ret)))), res := [.tmp 4] }
theorem k_law04_sameChain_ok : cfun Try.prog Try.f43 = k_law04_sameChain := by kernel_rfl

def k_mount_CheckKit_r0 : List AOper := [
  ⟨some 1, .box (.tmp 0), none, []⟩,
 ⟨some 2, .move (.const (.int .i64 0)), none, []⟩]
def k_mount_CheckKit_r1 : List AOper := [
  ⟨some 7, .fieldAddr 0 (.tmp 1), none, []⟩,
 ⟨some 8, .load none (.tmp 7), none, []⟩,
 ⟨some 9, .len false (.tmp 8), none, []⟩,
 ⟨some 10, .bin .plain .gtr (.tmp 9) (.const (.int .i64 14)), none, []⟩]
def k_mount_CheckKit_r2 : List AOper := [
  ⟨some 2, .move (.const (.int .i64 8)), none, []⟩]
def k_mount_CheckKit_r3 : List AOper := [
  ⟨some 11, .fieldAddr 1 (.tmp 1), none, []⟩,
 ⟨some 12, .load none (.tmp 11), none, []⟩,
 ⟨some 13, .call (.const (.fn (.func 91) [] [])) [.tmp 12, .const (.int .i64 0), .const (.int .i64 10000)], none, []⟩,
 ⟨some 14, .not (.tmp 13), none, []⟩]
def k_mount_CheckKit_r4 : List AOper := [
  ⟨some 2, .move (.const (.int .i64 2)), none, []⟩]
def k_mount_CheckKit_r5 : List AOper := [
  ⟨some 15, .fieldAddr 0 (.tmp 1), none, []⟩,
 ⟨some 16, .load none (.tmp 15), none, []⟩,
 ⟨some 17, .len false (.tmp 16), none, []⟩,
 ⟨some 18, .move (.const (.int .i64 0)), none, []⟩]
def k_mount_CheckKit_r6 : List AOper := [
  ⟨some 19, .bin .plain .lss (.tmp 18) (.tmp 17), none, []⟩]
def k_mount_CheckKit_r7 : List AOper := [
  ⟨some 20, .move (.tmp 18), none, []⟩,
 ⟨some 21, .indexAddr 4 (.tmp 16) (.tmp 18), none, []⟩,
 ⟨some 22, .load (some (4)) (.tmp 21), none, []⟩,
 ⟨some 4, .box (.const (.agg [.nilsl, .nilsl, .int .i64 0, .int .i64 0])), none, []⟩,
 ⟨some 3, .move (.tmp 20), none, []⟩,
 ⟨none, .store 4 (.tmp 4) (.tmp 22), none, []⟩]
def k_mount_CheckKit_r8 : List AOper := [
  ⟨some 23, .load (some (2)) (.tmp 1), none, []⟩,
 ⟨some 24, .move (.tmp 3), none, []⟩,
 ⟨some 25, .fieldAddr 0 (.tmp 4), none, []⟩,
 ⟨some 26, .load none (.tmp 25), none, []⟩,
 ⟨some 27, .call (.const (.fn (.func 120) [] [])) [.tmp 23, .tmp 24, .tmp 26], none, []⟩,
 ⟨some 5, .move (.tmp 27), none, []⟩]
def k_mount_CheckKit_r9 : List AOper := [
  ⟨some 28, .move (.tmp 5), none, []⟩,
 ⟨some 29, .bin .plain .neq (.tmp 28) (.const (.int .i64 0)), none, []⟩]
def k_mount_CheckKit_r10 : List AOper := [
  ⟨some 30, .move (.tmp 5), none, []⟩,
 ⟨some 2, .move (.tmp 30), none, []⟩]
def k_mount_CheckKit_r11 : List AOper := [
  ⟨some 31, .load (some (2)) (.tmp 1), none, []⟩,
 ⟨some 32, .move (.tmp 3), none, []⟩,
 ⟨some 33, .fieldAddr 1 (.tmp 4), none, []⟩,
 ⟨some 34, .load none (.tmp 33), none, []⟩,
 ⟨some 35, .call (.const (.fn (.func 120) [] [])) [.tmp 31, .tmp 32, .tmp 34], none, []⟩,
 ⟨some 6, .move (.tmp 35), none, []⟩]
def k_mount_CheckKit_r12 : List AOper := [
  ⟨some 36, .move (.tmp 6), none, []⟩,
 ⟨some 37, .bin .plain .neq (.tmp 36) (.const (.int .i64 0)), none, []⟩]
def k_mount_CheckKit_r13 : List AOper := [
  ⟨some 38, .move (.tmp 6), none, []⟩,
 ⟨some 2, .move (.tmp 38), none, []⟩]
def k_mount_CheckKit_r14 : List AOper := [
  ⟨some 39, .fieldAddr 2 (.tmp 4), none, []⟩,
 ⟨some 40, .load none (.tmp 39), none, []⟩,
 ⟨some 41, .call (.const (.fn (.func 91) [] [])) [.tmp 40, .const (.int .i64 0), .const (.int .i64 8)], none, []⟩,
 ⟨some 42, .not (.tmp 41), none, []⟩,
 ⟨some 43, .move (.tmp 42), none, []⟩,
 ⟨some 44, .fieldAddr 3 (.tmp 4), (some (43, false)), []⟩,
 ⟨some 45, .load none (.tmp 44), (some (43, false)), []⟩,
 ⟨some 46, .call (.const (.fn (.func 91) [] [])) [.tmp 45, .const (.int .i64 0), .const (.int .i64 10000)], (some (43, false)), []⟩,
 ⟨some 47, .not (.tmp 46), (some (43, false)), []⟩,
 ⟨some 48, .pick (.tmp 43) (.const (.bool true)) (.tmp 47), none, []⟩]
def k_mount_CheckKit_r15 : List AOper := [
  ⟨some 2, .move (.const (.int .i64 2)), none, []⟩]
def k_mount_CheckKit_r16 : List AOper := [
  ⟨some 49, .bin .plain .add (.tmp 18) (.const (.int .i64 1)), none, []⟩,
 ⟨some 18, .move (.tmp 49), none, []⟩]
def k_mount_CheckKit_r17 : ACode := (.seq (.reg k_mount_CheckKit_r6 false) (.seq (.cond (.tmp 19) .skip (.exit 0)) (.seq (.block 1 (.seq (.reg k_mount_CheckKit_r7 false) (.seq (.seq (.reg k_mount_CheckKit_r8 false) (.seq (.reg k_mount_CheckKit_r9 false) (.cond (.tmp 29) (.seq (.reg k_mount_CheckKit_r10 false) .ret) .skip))) (.seq (.seq (.reg k_mount_CheckKit_r11 false) (.seq (.reg k_mount_CheckKit_r12 false) (.cond (.tmp 37) (.seq (.reg k_mount_CheckKit_r13 false) .ret) .skip))) (.seq (.reg k_mount_CheckKit_r14 false) (.cond (.tmp 48) (.seq (.reg k_mount_CheckKit_r15 false) .ret) .skip)))))) (.reg k_mount_CheckKit_r16 false))))
def k_mount_CheckKit_r18 : List AOper := [
  ⟨some 2, .move (.const (.int .i64 0)), none, []⟩]
def k_mount_CheckKit : AFun := { params := 1, ntmps := 50, body := (.seq (.reg k_mount_CheckKit_r0 false) (.seq (.seq (.reg k_mount_CheckKit_r1 false) (.cond (.tmp 10) (.seq (.reg k_mount_CheckKit_r2 false) .ret) .skip)) (.seq (.seq (.reg k_mount_CheckKit_r3 false) (.cond (.tmp 14) (.seq (.reg k_mount_CheckKit_r4 false) .ret) .skip)) (.seq (.seq (.reg k_mount_CheckKit_r5 false) (.block 0 (.loop k_mount_CheckKit_r17))) (.seq (.reg k_mount_CheckKit_r18 false) .ret))))), res := [.tmp 2] }
theorem k_mount_CheckKit_ok : cfun Try.prog Try.f51 = k_mount_CheckKit := by kernel_rfl

def k_mount_Orders_r0 : List AOper := [
  ⟨some 1, .box (.tmp 0), none, []⟩,
 ⟨some 2, .move (.const (.int .i64 0)), none, []⟩,
 ⟨some 3, .move (.const (.int .i64 0)), none, []⟩]
def k_mount_Orders_r1 : List AOper := [
  ⟨some 5, .load (some (2)) (.tmp 1), none, []⟩,
 ⟨some 6, .call (.const (.fn (.func 51) [] [])) [.tmp 5], none, []⟩,
 ⟨some 4, .move (.tmp 6), none, []⟩]
def k_mount_Orders_r2 : List AOper := [
  ⟨some 7, .move (.tmp 4), none, []⟩,
 ⟨some 8, .bin .plain .neq (.tmp 7) (.const (.int .i64 0)), none, []⟩]
def k_mount_Orders_r3 : List AOper := [
  ⟨some 9, .move (.tmp 4), none, []⟩,
 ⟨some 2, .move (.const (.int .i64 0)), none, []⟩,
 ⟨some 3, .move (.tmp 9), none, []⟩]
def k_mount_Orders_r4 : List AOper := [
  ⟨some 10, .load (some (2)) (.tmp 1), none, []⟩,
 ⟨some 11, .call (.const (.fn (.func 117) [] [])) [.tmp 10], none, []⟩,
 ⟨some 12, .call (.const (.fn (.func 126) [] [])) [.tmp 11, .const (.int .u16 0)], none, []⟩,
 ⟨some 2, .move (.tmp 12), none, []⟩,
 ⟨some 3, .move (.const (.int .i64 0)), none, []⟩]
def k_mount_Orders : AFun := { params := 1, ntmps := 13, body := (.seq (.reg k_mount_Orders_r0 false) (.seq (.seq (.reg k_mount_Orders_r1 false) (.seq (.reg k_mount_Orders_r2 false) (.cond (.tmp 8) (.seq (.reg k_mount_Orders_r3 false) .ret) .skip))) (.seq (.reg k_mount_Orders_r4 false) .ret))), res := [.tmp 2, .tmp 3] }
theorem k_mount_Orders_ok : cfun Try.prog Try.f55 = k_mount_Orders := by kernel_rfl

def k_law04_of_r0 : List AOper := [
  ⟨some 4, .box (.const (.agg [.int .i64 0, .int .i64 0])), none, []⟩]
def k_law04_of_r1 : List AOper := [
  ⟨some 5, .move (.tmp 0), none, []⟩,
 ⟨some 6, .move (.tmp 1), none, []⟩,
 ⟨some 7, .build [.int .i64 0, .int .i64 0] [(0, 1, .tmp 5), (1, 1, .tmp 6)], none, []⟩,
 ⟨none, .store 2 (.tmp 4) (.tmp 7), none, []⟩]
def k_law04_of : AFun := { params := 2, ntmps := 8, body := (.seq (.reg k_law04_of_r0 false) (.seq (.reg k_law04_of_r1 false) .ret)), res := [.cell 4 (some ((some (2))))] }
theorem k_law04_of_ok : cfun Try.prog Try.f68 = k_law04_of := by kernel_rfl

def k_law04_link_r0 : List AOper := [
  ⟨some 8, .box (.const (.agg [.int .i64 0, .int .i64 0, .int .i64 0, .int .i64 0])), none, []⟩]
def k_law04_link_r1 : List AOper := [
  ⟨some 9, .move (.tmp 0), none, []⟩,
 ⟨some 10, .move (.tmp 1), none, []⟩,
 ⟨some 11, .move (.tmp 2), none, []⟩,
 ⟨some 12, .move (.tmp 3), none, []⟩,
 ⟨some 13, .call (.const (.fn (.func 68) [] [])) [.tmp 11, .tmp 12], none, []⟩,
 ⟨some 14, .build [.int .i64 0, .int .i64 0, .int .i64 0, .int .i64 0] [(0, 1, .tmp 9), (1, 1, .tmp 10), (2, 2, .tmp 13)], none, []⟩,
 ⟨none, .store 4 (.tmp 8) (.tmp 14), none, []⟩]
def k_law04_link : AFun := { params := 4, ntmps := 15, body := (.seq (.reg k_law04_link_r0 false) (.seq (.reg k_law04_link_r1 false) .ret)), res := [.cell 8 (some ((some (4))))] }
theorem k_law04_link_ok : cfun Try.prog Try.f69 = k_law04_link := by kernel_rfl

def k_law04_kit_r0 : List AOper := [
  ⟨some 0, .box (.const (.agg [.nilsl, .int .i64 0])), none, []⟩]
def k_law04_kit_r1 : List AOper := [
  ⟨some 1, .build [.nilsl, .nilsl, .int .i64 0, .int .i64 0] [(3, 1, .const (.int .i64 2))], none, []⟩,
 ⟨some 2, .buildSlice 1 [.const (.int .i64 0)], none, []⟩,
 ⟨some 3, .build [.nilsl, .nilsl, .int .i64 0, .int .i64 0] [(0, 1, .tmp 2), (2, 1, .const (.int .i64 1)), (3, 1, .const (.int .i64 3))], none, []⟩,
 ⟨some 4, .buildSlice 1 [.const (.int .i64 1)], none, []⟩,
 ⟨some 5, .build [.nilsl, .nilsl, .int .i64 0, .int .i64 0] [(1, 1, .tmp 4), (3, 1, .const (.int .i64 4))], none, []⟩,
 ⟨some 6, .buildSlice 4 [.tmp 1, .tmp 3, .tmp 5], none, []⟩,
 ⟨some 7, .build [.nilsl, .int .i64 0] [(0, 1, .tmp 6), (1, 1, .const (.int .i64 10))], none, []⟩,
 ⟨none, .store 2 (.tmp 0) (.tmp 7), none, []⟩]
def k_law04_kit : AFun := { params := 0, ntmps := 8, body := (.seq (.reg k_law04_kit_r0 false) (.seq (.reg k_law04_kit_r1 false) .ret)), res := [.cell 0 (some ((some (2))))] }
theorem k_law04_kit_ok : cfun Try.prog Try.f70 = k_law04_kit := by kernel_rfl

def k_kit_Dice_Range_r0 : List AOper := [
  ⟨some 6, .box (.const (.agg [.int .i64 0, .int .i64 0])), none, []⟩]
def k_kit_Dice_Range_r1 : List AOper := [
  ⟨some 9, .move (.tmp 0), none, []⟩,
 ⟨some 10, .move (.tmp 1), none, []⟩,
 ⟨some 11, .move (.tmp 2), none, []⟩,
 ⟨some 12, .call (.const (.fn (.func 84) [] [])) [.tmp 9, .tmp 10, .tmp 11], none, []⟩,
 ⟨some 13, .move (.tmp 0), none, []⟩,
 ⟨some 14, .move (.tmp 1), none, []⟩,
 ⟨some 15, .move (.tmp 2), none, []⟩,
 ⟨some 16, .call (.const (.fn (.func 84) [] [])) [.tmp 13, .tmp 14, .tmp 15], none, []⟩,
 ⟨some 7, .move (.tmp 12), none, []⟩,
 ⟨some 8, .move (.tmp 16), none, []⟩]
def k_kit_Dice_Range_r2 : List AOper := [
  ⟨some 17, .move (.tmp 7), none, []⟩,
 ⟨some 18, .move (.tmp 8), none, []⟩,
 ⟨some 19, .minmax false [.tmp 17, .tmp 18], none, []⟩,
 ⟨some 20, .move (.tmp 7), none, []⟩,
 ⟨some 21, .move (.tmp 8), none, []⟩,
 ⟨some 22, .minmax true [.tmp 20, .tmp 21], none, []⟩,
 ⟨some 23, .build [.int .i64 0, .int .i64 0] [(0, 1, .tmp 19), (1, 1, .tmp 22)], none, []⟩,
 ⟨none, .store 2 (.tmp 6) (.tmp 23), none, []⟩]
def k_kit_Dice_Range : AFun := { params := 3, ntmps := 24, body := (.seq (.reg k_kit_Dice_Range_r0 false) (.seq (.reg k_kit_Dice_Range_r1 false) (.seq (.reg k_kit_Dice_Range_r2 false) .ret))), res := [.cell 6 (some ((some (2))))] }
theorem k_kit_Dice_Range_ok : cfun Try.prog Try.f73 = k_kit_Dice_Range := by kernel_rfl

def k_kit_Dice_Between_r0 : List AOper := [
  ⟨some 6, .move (.const (.int .i64 0)), none, []⟩]
def k_kit_Dice_Between_r1 : List AOper := [
  ⟨some 7, .move (.tmp 1), none, []⟩,
 ⟨some 8, .move (.tmp 0), none, []⟩,
 ⟨some 9, .move (.tmp 2), none, []⟩,
 ⟨some 10, .move (.tmp 1), none, []⟩,
 ⟨some 11, .bin .plain .sub (.tmp 9) (.tmp 10), none, []⟩,
 ⟨some 12, .bin .plain .add (.tmp 11) (.const (.int .i64 1)), none, []⟩,
 ⟨some 13, .call (.const (.fn (.func 35) [] [])) [.tmp 8, .tmp 12], none, []⟩,
 ⟨some 14, .bin .plain .add (.tmp 7) (.tmp 13), none, []⟩,
 ⟨some 6, .move (.tmp 14), none, []⟩]
def k_kit_Dice_Between : AFun := { params := 3, ntmps := 15, body := (.seq (.reg k_kit_Dice_Between_r0 false) (.seq (.reg k_kit_Dice_Between_r1 false) .ret)), res := [.tmp 6] }
theorem k_kit_Dice_Between_ok : cfun Try.prog Try.f84 = k_kit_Dice_Between := by kernel_rfl

def k_law04_chain_r0 : List AOper := [
  ⟨some 0, .box (.const (.agg [.int .i64 0, .nilsl])), none, []⟩]
def k_law04_chain_r1 : List AOper := [
  ⟨some 1, .call (.const (.fn (.func 69) [] [])) [.const (.int .i64 0), .const (.int .i64 1), .const (.int .i64 10), .const (.int .i64 12)], none, []⟩,
 ⟨some 2, .call (.const (.fn (.func 69) [] [])) [.const (.int .i64 1), .const (.int .i64 2), .const (.int .i64 5), .const (.int .i64 8)], none, []⟩,
 ⟨some 3, .call (.const (.fn (.func 69) [] [])) [.const (.int .i64 0), .const (.int .i64 2), .const (.int .i64 17), .const (.int .i64 18)], none, []⟩,
 ⟨some 4, .buildSlice 4 [.tmp 1, .tmp 2, .tmp 3], none, []⟩,
 ⟨some 5, .build [.int .i64 0, .nilsl] [(0, 1, .const (.int .i64 3)), (1, 1, .tmp 4)], none, []⟩,
 ⟨none, .store 2 (.tmp 0) (.tmp 5), none, []⟩]
def k_law04_chain : AFun := { params := 0, ntmps := 6, body := (.seq (.reg k_law04_chain_r0 false) (.seq (.reg k_law04_chain_r1 false) .ret)), res := [.cell 0 (some ((some (2))))] }
theorem k_law04_chain_ok : cfun Try.prog Try.f85 = k_law04_chain := by kernel_rfl

def k_kit_SameRanges_r0 : List AOper := [
  ⟨some 4, .move (.const (.bool false)), none, []⟩]
def k_kit_SameRanges_r1 : List AOper := [
  ⟨some 6, .move (.tmp 0), none, []⟩,
 ⟨some 7, .len false (.tmp 6), none, []⟩,
 ⟨some 8, .move (.tmp 1), none, []⟩,
 ⟨some 9, .len false (.tmp 8), none, []⟩,
 ⟨some 10, .bin .plain .neq (.tmp 7) (.tmp 9), none, []⟩]
def k_kit_SameRanges_r2 : List AOper := [
  ⟨some 4, .move (.const (.bool false)), none, []⟩]
def k_kit_SameRanges_r3 : List AOper := [
  ⟨some 5, .move (.const (.int .i64 0)), none, []⟩]
def k_kit_SameRanges_r4 : List AOper := [
  ⟨some 11, .move (.tmp 5), none, []⟩,
 ⟨some 12, .move (.tmp 0), none, []⟩,
 ⟨some 13, .len false (.tmp 12), none, []⟩,
 ⟨some 14, .bin .plain .lss (.tmp 11) (.tmp 13), none, []⟩]
def k_kit_SameRanges_r5 : List AOper := [
  ⟨some 17, .move (.tmp 0), none, []⟩,
 ⟨some 18, .move (.tmp 5), none, [0]⟩,
 ⟨some 19, .indexAddr 2 (.tmp 17) (.tmp 18), none, []⟩,
 ⟨some 20, .load (some (2)) (.tmp 19), none, []⟩,
 ⟨some 21, .move (.tmp 1), none, [0, 1, 2, 3]⟩,
 ⟨some 22, .move (.tmp 5), none, [0, 1, 2, 3, 4]⟩,
 ⟨some 23, .indexAddr 2 (.tmp 21) (.tmp 22), none, [0, 1, 2, 3]⟩,
 ⟨some 24, .load (some (2)) (.tmp 23), none, [0, 1, 2, 3]⟩,
 ⟨some 25, .eqAgg true [.int, .int] (.tmp 20) (.tmp 24), none, []⟩]
def k_kit_SameRanges_r5s : List (List AOper) := [
  [
  ⟨some 17, .move (.tmp 0), none, []⟩,
 ⟨some 18, .move (.tmp 5), none, [0]⟩,
 ⟨some 19, .indexAddr 2 (.tmp 17) (.tmp 18), none, []⟩,
 ⟨some 20, .load (some (2)) (.tmp 19), none, []⟩,
 ⟨some 21, .move (.tmp 1), none, [0, 1, 2, 3]⟩,
 ⟨some 22, .move (.tmp 5), none, [0, 1, 2, 3, 4]⟩,
 ⟨some 23, .indexAddr 2 (.tmp 21) (.tmp 22), none, [0, 1, 2, 3]⟩,
 ⟨some 24, .load (some (2)) (.tmp 23), none, [0, 1, 2, 3]⟩], 
  [
  ⟨some 25, .eqAgg true [.int, .int] (.tmp 20) (.tmp 24), none, []⟩]]
theorem k_kit_SameRanges_r5_sg : segs k_kit_SameRanges_r5 = k_kit_SameRanges_r5s := by kernel_rfl
theorem k_kit_SameRanges_r5_st : statOK k_kit_SameRanges_r5 = true := by kernel_rfl
def k_kit_SameRanges_r6 : List AOper := [
  ⟨some 4, .move (.const (.bool false)), none, []⟩]
def k_kit_SameRanges_r7 : List AOper := [
  ⟨some 15, .move (.tmp 5), none, []⟩,
 ⟨some 16, .bin .plain .add (.tmp 15) (.const (.int .i64 1)), none, []⟩,
 ⟨some 5, .move (.tmp 16), none, []⟩]
def k_kit_SameRanges_r8 : ACode := (.seq (.seq (.reg k_kit_SameRanges_r4 false) (.cond (.tmp 14) .skip (.exit 0))) (.seq (.block 1 (.seq (.reg k_kit_SameRanges_r5 true) (.cond (.tmp 25) (.seq (.reg k_kit_SameRanges_r6 false) .ret) .skip))) (.reg k_kit_SameRanges_r7 false)))
def k_kit_SameRanges_r9 : List AOper := [
  ⟨some 4, .move (.const (.bool true)), none, []⟩]
def k_kit_SameRanges : AFun := { params := 2, ntmps := 26, body := (.seq (.reg k_kit_SameRanges_r0 false) (.seq (.seq (.reg k_kit_SameRanges_r1 false) (.cond (.tmp 10) (.seq (.reg k_kit_SameRanges_r2 false) .ret) .skip)) (.seq (.seq (.reg k_kit_SameRanges_r3 false) (.block 0 (.loop k_kit_SameRanges_r8))) (.seq (.reg k_kit_SameRanges_r9 false) .ret)))), res := [.tmp 4] }
theorem k_kit_SameRanges_ok : cfun Try.prog Try.f86 = k_kit_SameRanges := by kernel_rfl

def k_kit_Dice_next_r0 : List AOper := [
  ⟨some 2, .move (.const (.int .u64 0)), none, []⟩]
def k_kit_Dice_next_r1 : List AOper := [
  ⟨some 4, .move (.tmp 0), none, []⟩,
 ⟨some 5, .move (.tmp 0), none, []⟩,
 ⟨some 6, .nilCheck (.tmp 5), none, []⟩,
 ⟨some 7, .fieldAddr 0 (.tmp 6), none, []⟩,
 ⟨some 8, .load none (.tmp 7), none, []⟩,
 ⟨some 9, .bin .plain .add (.tmp 8) (.const (.int .u64 11400714819323198485)), none, []⟩,
 ⟨some 10, .nilCheck (.tmp 4), none, []⟩,
 ⟨some 11, .fieldAddr 0 (.tmp 10), none, []⟩,
 ⟨none, .store 1 (.tmp 11) (.tmp 9), none, []⟩]
def k_kit_Dice_next_r2 : List AOper := [
  ⟨some 12, .move (.tmp 0), none, []⟩,
 ⟨some 13, .nilCheck (.tmp 12), none, []⟩,
 ⟨some 14, .fieldAddr 0 (.tmp 13), none, []⟩,
 ⟨some 15, .load none (.tmp 14), none, []⟩,
 ⟨some 3, .move (.tmp 15), none, []⟩]
def k_kit_Dice_next_r3 : List AOper := [
  ⟨some 16, .move (.tmp 3), none, []⟩,
 ⟨some 17, .move (.tmp 3), none, []⟩,
 ⟨some 18, .bin .plain .shr (.tmp 17) (.const (.int .u64 30)), none, []⟩,
 ⟨some 19, .bin .plain .xor (.tmp 16) (.tmp 18), none, []⟩,
 ⟨some 20, .bin .plain .mul (.tmp 19) (.const (.int .u64 13787848793156543929)), none, []⟩,
 ⟨some 3, .move (.tmp 20), none, []⟩]
def k_kit_Dice_next_r4 : List AOper := [
  ⟨some 21, .move (.tmp 3), none, []⟩,
 ⟨some 22, .move (.tmp 3), none, []⟩,
 ⟨some 23, .bin .plain .shr (.tmp 22) (.const (.int .u64 27)), none, []⟩,
 ⟨some 24, .bin .plain .xor (.tmp 21) (.tmp 23), none, []⟩,
 ⟨some 25, .bin .plain .mul (.tmp 24) (.const (.int .u64 10723151780598845931)), none, []⟩,
 ⟨some 3, .move (.tmp 25), none, []⟩]
def k_kit_Dice_next_r5 : List AOper := [
  ⟨some 26, .move (.tmp 3), none, []⟩,
 ⟨some 27, .move (.tmp 3), none, []⟩,
 ⟨some 28, .bin .plain .shr (.tmp 27) (.const (.int .u64 31)), none, []⟩,
 ⟨some 29, .bin .plain .xor (.tmp 26) (.tmp 28), none, []⟩,
 ⟨some 2, .move (.tmp 29), none, []⟩]
def k_kit_Dice_next : AFun := { params := 1, ntmps := 30, body := (.seq (.reg k_kit_Dice_next_r0 false) (.seq (.reg k_kit_Dice_next_r1 false) (.seq (.reg k_kit_Dice_next_r2 false) (.seq (.reg k_kit_Dice_next_r3 false) (.seq (.reg k_kit_Dice_next_r4 false) (.seq (.reg k_kit_Dice_next_r5 false) .ret)))))), res := [.tmp 2] }
theorem k_kit_Dice_next_ok : cfun Try.prog Try.f87 = k_kit_Dice_next := by kernel_rfl

def k_mount_reachesOf_r0 : List AOper := [
  ⟨some 1, .box (.tmp 0), none, []⟩,
 ⟨some 2, .box (.const (.agg [.int .i64 0, .int .i64 0, .int .i64 0, .int .i64 0, .int .i64 0, .int .i64 0, .int .i64 0, .int .i64 0, .int .i64 0, .int .i64 0, .int .i64 0, .int .i64 0, .int .i64 0, .int .i64 0, .int .i64 0, .int .i64 0, .int .i64 0, .int .i64 0, .int .i64 0, .int .i64 0, .int .i64 0, .int .i64 0, .int .i64 0, .int .i64 0, .int .i64 0, .int .i64 0, .int .i64 0, .int .i64 0, .int .i64 0, .int .i64 0, .int .i64 0, .int .i64 0, .int .i64 0, .int .i64 0, .int .i64 0, .int .i64 0, .int .i64 0, .int .i64 0, .int .i64 0, .int .i64 0, .int .i64 0, .int .i64 0, .int .i64 0, .int .i64 0, .int .i64 0, .int .i64 0, .int .i64 0, .int .i64 0, .int .i64 0, .int .i64 0, .int .i64 0, .int .i64 0, .int .i64 0, .int .i64 0, .int .i64 0, .int .i64 0, .int .i64 0, .int .i64 0, .int .i64 0, .int .i64 0, .int .i64 0, .int .i64 0, .int .i64 0, .int .i64 0, .int .i64 0, .int .i64 0, .int .i64 0, .int .i64 0, .int .i64 0, .int .i64 0, .int .i64 0, .int .i64 0, .int .i64 0, .int .i64 0, .int .i64 0, .int .i64 0, .int .i64 0, .int .i64 0, .int .i64 0, .int .i64 0, .int .i64 0, .int .i64 0, .int .i64 0, .int .i64 0, .int .i64 0, .int .i64 0, .int .i64 0, .int .i64 0, .int .i64 0, .int .i64 0, .int .i64 0, .int .i64 0, .int .i64 0, .int .i64 0, .int .i64 0, .int .i64 0, .int .i64 0, .int .i64 0, .int .i64 0, .int .i64 0, .int .i64 0, .int .i64 0, .int .i64 0, .int .i64 0, .int .i64 0, .int .i64 0, .int .i64 0, .int .i64 0, .int .i64 0, .int .i64 0, .int .i64 0, .int .i64 0, .int .i64 0, .int .i64 0, .int .i64 0, .int .i64 0, .int .i64 0, .int .i64 0, .int .i64 0, .int .i64 0, .int .i64 0, .int .i64 0, .int .i64 0, .int .i64 0, .int .i64 0, .int .i64 0, .int .i64 0, .int .i64 0, .int .i64 0, .int .i64 0, .int .i64 0, .int .i64 0, .int .i64 0, .int .i64 0, .int .i64 0, .int .i64 0, .int .i64 0, .int .i64 0, .int .i64 0, .int .i64 0, .int .i64 0, .int .i64 0, .int .i64 0, .int .i64 0, .int .i64 0, .int .i64 0, .int .i64 0, .int .i64 0, .int .i64 0, .int .i64 0, .int .i64 0, .int .i64 0, .int .i64 0, .int .i64 0, .int .i64 0, .int .i64 0, .int .i64 0, .int .i64 0, .int .i64 0, .int .i64 0, .int .i64 0, .int .i64 0, .int .i64 0, .int .i64 0, .int .i64 0, .int .i64 0, .int .i64 0, .int .i64 0, .int .i64 0, .int .i64 0, .int .i64 0, .int .i64 0, .int .i64 0, .int .i64 0, .int .i64 0, .int .i64 0, .int .i64 0, .int .i64 0, .int .i64 0, .int .i64 0, .int .i64 0, .int .i64 0, .int .i64 0, .int .i64 0, .int .i64 0, .int .i64 0, .int .i64 0, .int .i64 0, .int .i64 0, .int .i64 0, .int .i64 0, .int .i64 0, .int .i64 0, .int .i64 0, .int .i64 0, .int .i64 0, .int .i64 0, .int .i64 0, .int .i64 0, .int .i64 0, .int .i64 0, .int .i64 0, .int .i64 0, .int .i64 0, .int .i64 0, .int .i64 0, .int .i64 0, .int .i64 0, .int .i64 0, .int .i64 0, .int .i64 0, .int .i64 0, .int .i64 0, .int .i64 0, .int .i64 0, .int .i64 0, .int .i64 0, .int .i64 0, .int .i64 0, .int .i64 0, .int .i64 0, .int .i64 0, .int .i64 0, .int .i64 0, .int .i64 0, .int .i64 0, .int .i64 0, .int .i64 0, .int .i64 0, .int .i64 0, .int .i64 0, .int .i64 0, .int .i64 0, .int .i64 0, .int .i64 0, .int .i64 0, .int .i64 0, .int .i64 0, .int .i64 0, .int .i64 0, .int .i64 0, .int .i64 0, .int .i64 0, .int .i64 0, .int .i64 0, .int .i64 0, .int .i64 0, .int .i64 0, .int .i64 0, .int .i64 0, .int .i64 0, .int .i64 0, .int .i64 0, .int .i64 0, .int .i64 0, .int .i64 0, .int .i64 0, .int .i64 0, .int .i64 0, .int .i64 0, .int .i64 0, .int .i64 0, .int .i64 0, .int .i64 0, .int .i64 0, .int .i64 0, .int .i64 0, .int .i64 0, .int .i64 0, .int .i64 0, .int .i64 0, .int .i64 0, .int .i64 0, .int .i64 0, .int .i64 0, .int .i64 0, .int .i64 0, .int .i64 0, .int .i64 0, .int .i64 0, .int .i64 0, .int .i64 0, .int .i64 0, .int .i64 0, .int .i64 0, .int .i64 0, .int .i64 0, .int .i64 0, .int .i64 0, .int .i64 0, .int .i64 0, .int .i64 0, .int .i64 0, .int .i64 0, .int .i64 0, .int .i64 0, .int .i64 0, .int .i64 0, .int .i64 0, .int .i64 0, .int .i64 0, .int .i64 0, .int .i64 0, .int .i64 0, .int .i64 0, .int .i64 0, .int .i64 0, .int .i64 0, .int .i64 0, .int .i64 0, .int .i64 0, .int .i64 0, .int .i64 0, .int .i64 0, .int .i64 0, .int .i64 0, .int .i64 0, .int .i64 0, .int .i64 0, .int .i64 0, .int .i64 0, .int .i64 0, .int .i64 0, .int .i64 0, .int .i64 0, .int .i64 0, .int .i64 0, .int .i64 0, .int .i64 0, .int .i64 0, .int .i64 0, .int .i64 0, .int .i64 0, .int .i64 0, .int .i64 0, .int .i64 0, .int .i64 0, .int .i64 0, .int .i64 0, .int .i64 0, .int .i64 0, .int .i64 0, .int .i64 0, .int .i64 0, .int .i64 0, .int .i64 0, .int .i64 0, .int .i64 0, .int .i64 0, .int .i64 0, .int .i64 0, .int .i64 0, .int .i64 0, .int .i64 0, .int .i64 0, .int .i64 0, .int .i64 0, .int .i64 0, .int .i64 0, .int .i64 0, .int .i64 0, .int .i64 0, .int .i64 0, .int .i64 0, .int .i64 0, .int .i64 0, .int .i64 0, .int .i64 0, .int .i64 0, .int .i64 0, .int .i64 0, .int .i64 0, .int .i64 0, .int .i64 0, .int .i64 0, .int .i64 0, .int .i64 0, .int .i64 0, .int .i64 0, .int .i64 0, .int .i64 0, .int .i64 0, .int .i64 0, .int .i64 0, .int .i64 0, .int .i64 0, .int .i64 0, .int .i64 0, .int .i64 0, .int .i64 0, .int .i64 0, .int .i64 0, .int .i64 0, .int .i64 0, .int .i64 0, .int .i64 0, .int .i64 0, .int .i64 0, .int .i64 0, .int .i64 0, .int .i64 0, .int .i64 0, .int .i64 0, .int .i64 0, .int .i64 0, .int .i64 0, .int .i64 0, .int .i64 0, .int .i64 0, .int .i64 0, .int .i64 0, .int .i64 0, .int .i64 0, .int .i64 0, .int .i64 0, .int .i64 0, .int .i64 0, .int .i64 0, .int .i64 0, .int .i64 0, .int .i64 0, .int .i64 0, .int .i64 0, .int .i64 0, .int .i64 0, .int .i64 0, .int .i64 0, .int .i64 0, .int .i64 0, .int .i64 0, .int .i64 0, .int .i64 0, .int .i64 0, .int .i64 0, .int .i64 0, .int .i64 0, .int .i64 0, .int .i64 0, .int .i64 0, .int .i64 0, .int .i64 0, .int .i64 0, .int .i64 0, .int .i64 0, .int .i64 0, .int .i64 0, .int .i64 0, .int .i64 0, .int .i64 0, .int .i64 0, .int .i64 0, .int .i64 0, .int .i64 0, .int .i64 0, .int .i64 0, .int .i64 0, .int .i64 0, .int .i64 0, .int .i64 0, .int .i64 0, .int .i64 0, .int .i64 0, .int .i64 0, .int .i64 0, .int .i64 0, .int .i64 0, .int .i64 0, .int .i64 0, .int .i64 0, .int .i64 0, .int .i64 0, .int .i64 0, .int .i64 0, .int .i64 0, .int .i64 0, .int .i64 0, .int .i64 0, .int .i64 0, .int .i64 0, .int .i64 0, .int .i64 0, .int .i64 0, .int .i64 0, .int .i64 0, .int .i64 0, .int .i64 0, .int .i64 0, .int .i64 0, .int .i64 0, .int .i64 0, .int .i64 0, .int .i64 0, .int .i64 0, .int .i64 0, .int .i64 0, .int .i64 0, .int .i64 0, .int .i64 0, .int .i64 0, .int .i64 0, .int .i64 0, .int .i64 0, .int .i64 0, .int .i64 0, .int .i64 0, .int .i64 0, .int .i64 0, .int .i64 0, .int .i64 0, .int .i64 0, .int .i64 0, .int .i64 0, .int .i64 0, .int .i64 0, .int .i64 0, .int .i64 0, .int .i64 0, .int .i64 0, .int .i64 0, .int .i64 0, .int .i64 0, .int .i64 0, .int .i64 0, .int .i64 0, .int .i64 0, .int .i64 0, .int .i64 0, .int .i64 0, .int .i64 0, .int .i64 0, .int .i64 0, .int .i64 0, .int .i64 0, .int .i64 0, .int .i64 0, .int .i64 0, .int .i64 0, .int .i64 0, .int .i64 0, .int .i64 0, .int .i64 0, .int .i64 0, .int .i64 0, .int .i64 0, .int .i64 0, .int .i64 0, .int .i64 0, .int .i64 0, .int .i64 0, .int .i64 0, .int .i64 0, .int .i64 0, .int .i64 0, .int .i64 0, .int .i64 0, .int .i64 0, .int .i64 0, .int .i64 0, .int .i64 0, .int .i64 0, .int .i64 0, .int .i64 0, .int .i64 0, .int .i64 0, .int .i64 0, .int .i64 0, .int .i64 0, .int .i64 0, .int .i64 0, .int .i64 0, .int .i64 0, .int .i64 0, .int .i64 0, .int .i64 0, .int .i64 0, .int .i64 0])), none, []⟩,
 ⟨some 3, .move (.const (.int .i64 0)), none, []⟩]
def k_mount_reachesOf_r1 : List AOper := [
  ⟨some 7, .load (some (2)) (.tmp 1), none, []⟩,
 ⟨some 8, .call (.const (.fn (.func 24) [] [])) [.tmp 7], none, []⟩,
 ⟨some 4, .move (.tmp 8), none, []⟩]
def k_mount_reachesOf_r2 : List AOper := [
  ⟨some 9, .move (.tmp 4), none, []⟩,
 ⟨some 10, .bin .plain .neq (.tmp 9) (.const (.int .i64 0)), none, []⟩]
def k_mount_reachesOf_r3 : List AOper := [
  ⟨some 11, .build [.int .i64 0, .int .i64 0, .int .i64 0, .int .i64 0, .int .i64 0, .int .i64 0, .int .i64 0, .int .i64 0, .int .i64 0, .int .i64 0, .int .i64 0, .int .i64 0, .int .i64 0, .int .i64 0, .int .i64 0, .int .i64 0, .int .i64 0, .int .i64 0, .int .i64 0, .int .i64 0, .int .i64 0, .int .i64 0, .int .i64 0, .int .i64 0, .int .i64 0, .int .i64 0, .int .i64 0, .int .i64 0, .int .i64 0, .int .i64 0, .int .i64 0, .int .i64 0, .int .i64 0, .int .i64 0, .int .i64 0, .int .i64 0, .int .i64 0, .int .i64 0, .int .i64 0, .int .i64 0, .int .i64 0, .int .i64 0, .int .i64 0, .int .i64 0, .int .i64 0, .int .i64 0, .int .i64 0, .int .i64 0, .int .i64 0, .int .i64 0, .int .i64 0, .int .i64 0, .int .i64 0, .int .i64 0, .int .i64 0, .int .i64 0, .int .i64 0, .int .i64 0, .int .i64 0, .int .i64 0, .int .i64 0, .int .i64 0, .int .i64 0, .int .i64 0, .int .i64 0, .int .i64 0, .int .i64 0, .int .i64 0, .int .i64 0, .int .i64 0, .int .i64 0, .int .i64 0, .int .i64 0, .int .i64 0, .int .i64 0, .int .i64 0, .int .i64 0, .int .i64 0, .int .i64 0, .int .i64 0, .int .i64 0, .int .i64 0, .int .i64 0, .int .i64 0, .int .i64 0, .int .i64 0, .int .i64 0, .int .i64 0, .int .i64 0, .int .i64 0, .int .i64 0, .int .i64 0, .int .i64 0, .int .i64 0, .int .i64 0, .int .i64 0, .int .i64 0, .int .i64 0, .int .i64 0, .int .i64 0, .int .i64 0, .int .i64 0, .int .i64 0, .int .i64 0, .int .i64 0, .int .i64 0, .int .i64 0, .int .i64 0, .int .i64 0, .int .i64 0, .int .i64 0, .int .i64 0, .int .i64 0, .int .i64 0, .int .i64 0, .int .i64 0, .int .i64 0, .int .i64 0, .int .i64 0, .int .i64 0, .int .i64 0, .int .i64 0, .int .i64 0, .int .i64 0, .int .i64 0, .int .i64 0, .int .i64 0, .int .i64 0, .int .i64 0, .int .i64 0, .int .i64 0, .int .i64 0, .int .i64 0, .int .i64 0, .int .i64 0, .int .i64 0, .int .i64 0, .int .i64 0, .int .i64 0, .int .i64 0, .int .i64 0, .int .i64 0, .int .i64 0, .int .i64 0, .int .i64 0, .int .i64 0, .int .i64 0, .int .i64 0, .int .i64 0, .int .i64 0, .int .i64 0, .int .i64 0, .int .i64 0, .int .i64 0, .int .i64 0, .int .i64 0, .int .i64 0, .int .i64 0, .int .i64 0, .int .i64 0, .int .i64 0, .int .i64 0, .int .i64 0, .int .i64 0, .int .i64 0, .int .i64 0, .int .i64 0, .int .i64 0, .int .i64 0, .int .i64 0, .int .i64 0, .int .i64 0, .int .i64 0, .int .i64 0, .int .i64 0, .int .i64 0, .int .i64 0, .int .i64 0, .int .i64 0, .int .i64 0, .int .i64 0, .int .i64 0, .int .i64 0, .int .i64 0, .int .i64 0, .int .i64 0, .int .i64 0, .int .i64 0, .int .i64 0, .int .i64 0, .int .i64 0, .int .i64 0, .int .i64 0, .int .i64 0, .int .i64 0, .int .i64 0, .int .i64 0, .int .i64 0, .int .i64 0, .int .i64 0, .int .i64 0, .int .i64 0, .int .i64 0, .int .i64 0, .int .i64 0, .int .i64 0, .int .i64 0, .int .i64 0, .int .i64 0, .int .i64 0, .int .i64 0, .int .i64 0, .int .i64 0, .int .i64 0, .int .i64 0, .int .i64 0, .int .i64 0, .int .i64 0, .int .i64 0, .int .i64 0, .int .i64 0, .int .i64 0, .int .i64 0, .int .i64 0, .int .i64 0, .int .i64 0, .int .i64 0, .int .i64 0, .int .i64 0, .int .i64 0, .int .i64 0, .int .i64 0, .int .i64 0, .int .i64 0, .int .i64 0, .int .i64 0, .int .i64 0, .int .i64 0, .int .i64 0, .int .i64 0, .int .i64 0, .int .i64 0, .int .i64 0, .int .i64 0, .int .i64 0, .int .i64 0, .int .i64 0, .int .i64 0, .int .i64 0, .int .i64 0, .int .i64 0, .int .i64 0, .int .i64 0, .int .i64 0, .int .i64 0, .int .i64 0, .int .i64 0, .int .i64 0, .int .i64 0, .int .i64 0, .int .i64 0, .int .i64 0, .int .i64 0, .int .i64 0, .int .i64 0, .int .i64 0, .int .i64 0, .int .i64 0, .int .i64 0, .int .i64 0, .int .i64 0, .int .i64 0, .int .i64 0, .int .i64 0, .int .i64 0, .int .i64 0, .int .i64 0, .int .i64 0, .int .i64 0, .int .i64 0, .int .i64 0, .int .i64 0, .int .i64 0, .int .i64 0, .int .i64 0, .int .i64 0, .int .i64 0, .int .i64 0, .int .i64 0, .int .i64 0, .int .i64 0, .int .i64 0, .int .i64 0, .int .i64 0, .int .i64 0, .int .i64 0, .int .i64 0, .int .i64 0, .int .i64 0, .int .i64 0, .int .i64 0, .int .i64 0, .int .i64 0, .int .i64 0, .int .i64 0, .int .i64 0, .int .i64 0, .int .i64 0, .int .i64 0, .int .i64 0, .int .i64 0, .int .i64 0, .int .i64 0, .int .i64 0, .int .i64 0, .int .i64 0, .int .i64 0, .int .i64 0, .int .i64 0, .int .i64 0, .int .i64 0, .int .i64 0, .int .i64 0, .int .i64 0, .int .i64 0, .int .i64 0, .int .i64 0, .int .i64 0, .int .i64 0, .int .i64 0, .int .i64 0, .int .i64 0, .int .i64 0, .int .i64 0, .int .i64 0, .int .i64 0, .int .i64 0, .int .i64 0, .int .i64 0, .int .i64 0, .int .i64 0, .int .i64 0, .int .i64 0, .int .i64 0, .int .i64 0, .int .i64 0, .int .i64 0, .int .i64 0, .int .i64 0, .int .i64 0, .int .i64 0, .int .i64 0, .int .i64 0, .int .i64 0, .int .i64 0, .int .i64 0, .int .i64 0, .int .i64 0, .int .i64 0, .int .i64 0, .int .i64 0, .int .i64 0, .int .i64 0, .int .i64 0, .int .i64 0, .int .i64 0, .int .i64 0, .int .i64 0, .int .i64 0, .int .i64 0, .int .i64 0, .int .i64 0, .int .i64 0, .int .i64 0, .int .i64 0, .int .i64 0, .int .i64 0, .int .i64 0, .int .i64 0, .int .i64 0, .int .i64 0, .int .i64 0, .int .i64 0, .int .i64 0, .int .i64 0, .int .i64 0, .int .i64 0, .int .i64 0, .int .i64 0, .int .i64 0, .int .i64 0, .int .i64 0, .int .i64 0, .int .i64 0, .int .i64 0, .int .i64 0, .int .i64 0, .int .i64 0, .int .i64 0, .int .i64 0, .int .i64 0, .int .i64 0, .int .i64 0, .int .i64 0, .int .i64 0, .int .i64 0, .int .i64 0, .int .i64 0, .int .i64 0, .int .i64 0, .int .i64 0, .int .i64 0, .int .i64 0, .int .i64 0, .int .i64 0, .int .i64 0, .int .i64 0, .int .i64 0, .int .i64 0, .int .i64 0, .int .i64 0, .int .i64 0, .int .i64 0, .int .i64 0, .int .i64 0, .int .i64 0, .int .i64 0, .int .i64 0, .int .i64 0, .int .i64 0, .int .i64 0, .int .i64 0, .int .i64 0, .int .i64 0, .int .i64 0, .int .i64 0, .int .i64 0, .int .i64 0, .int .i64 0, .int .i64 0, .int .i64 0, .int .i64 0, .int .i64 0, .int .i64 0, .int .i64 0, .int .i64 0, .int .i64 0, .int .i64 0, .int .i64 0, .int .i64 0, .int .i64 0, .int .i64 0, .int .i64 0, .int .i64 0, .int .i64 0, .int .i64 0, .int .i64 0, .int .i64 0, .int .i64 0, .int .i64 0, .int .i64 0, .int .i64 0, .int .i64 0, .int .i64 0, .int .i64 0, .int .i64 0, .int .i64 0, .int .i64 0, .int .i64 0, .int .i64 0, .int .i64 0, .int .i64 0, .int .i64 0, .int .i64 0, .int .i64 0, .int .i64 0, .int .i64 0, .int .i64 0, .int .i64 0, .int .i64 0, .int .i64 0, .int .i64 0, .int .i64 0, .int .i64 0, .int .i64 0, .int .i64 0, .int .i64 0, .int .i64 0, .int .i64 0, .int .i64 0, .int .i64 0, .int .i64 0, .int .i64 0, .int .i64 0, .int .i64 0, .int .i64 0, .int .i64 0, .int .i64 0, .int .i64 0, .int .i64 0, .int .i64 0, .int .i64 0, .int .i64 0, .int .i64 0, .int .i64 0, .int .i64 0, .int .i64 0, .int .i64 0, .int .i64 0, .int .i64 0, .int .i64 0, .int .i64 0, .int .i64 0, .int .i64 0, .int .i64 0, .int .i64 0, .int .i64 0, .int .i64 0, .int .i64 0, .int .i64 0, .int .i64 0, .int .i64 0, .int .i64 0, .int .i64 0, .int .i64 0, .int .i64 0, .int .i64 0, .int .i64 0, .int .i64 0, .int .i64 0, .int .i64 0, .int .i64 0, .int .i64 0, .int .i64 0, .int .i64 0, .int .i64 0, .int .i64 0, .int .i64 0, .int .i64 0, .int .i64 0, .int .i64 0, .int .i64 0, .int .i64 0, .int .i64 0, .int .i64 0, .int .i64 0, .int .i64 0, .int .i64 0, .int .i64 0, .int .i64 0, .int .i64 0, .int .i64 0, .int .i64 0, .int .i64 0, .int .i64 0, .int .i64 0, .int .i64 0, .int .i64 0, .int .i64 0, .int .i64 0, .int .i64 0, .int .i64 0, .int .i64 0, .int .i64 0, .int .i64 0, .int .i64 0, .int .i64 0, .int .i64 0, .int .i64 0, .int .i64 0, .int .i64 0, .int .i64 0, .int .i64 0, .int .i64 0, .int .i64 0, .int .i64 0] [], none, []⟩,
 ⟨some 12, .move (.tmp 4), none, []⟩,
 ⟨none, .store 576 (.tmp 2) (.tmp 11), none, []⟩,
 ⟨some 3, .move (.tmp 12), none, []⟩]
def k_mount_reachesOf_r4 : List AOper := [
  ⟨some 13, .load (some (2)) (.tmp 1), none, []⟩,
 ⟨some 14, .call (.const (.fn (.func 141) [] [])) [.tmp 13], none, []⟩,
 ⟨some 5, .box (.const (.agg [.int .i64 0, .int .i64 0, .int .i64 0, .int .i64 0, .int .i64 0, .int .i64 0, .int .i64 0, .int .i64 0, .int .i64 0, .int .i64 0, .int .i64 0, .int .i64 0, .int .i64 0, .int .i64 0, .int .i64 0, .int .i64 0, .int .i64 0, .int .i64 0, .int .i64 0, .int .i64 0, .int .i64 0, .int .i64 0, .int .i64 0, .int .i64 0, .int .i64 0, .int .i64 0, .int .i64 0, .int .i64 0, .int .i64 0, .int .i64 0, .int .i64 0, .int .i64 0, .int .i64 0, .int .i64 0, .int .i64 0, .int .i64 0, .int .i64 0, .int .i64 0, .int .i64 0, .int .i64 0, .int .i64 0, .int .i64 0, .int .i64 0, .int .i64 0, .int .i64 0, .int .i64 0, .int .i64 0, .int .i64 0, .int .i64 0, .int .i64 0, .int .i64 0, .int .i64 0, .int .i64 0, .int .i64 0, .int .i64 0, .int .i64 0, .int .i64 0, .int .i64 0, .int .i64 0, .int .i64 0, .int .i64 0, .int .i64 0, .int .i64 0, .int .i64 0, .int .i64 0, .int .i64 0, .int .i64 0, .int .i64 0, .int .i64 0, .int .i64 0, .int .i64 0, .int .i64 0, .int .i64 0, .int .i64 0, .int .i64 0, .int .i64 0, .int .i64 0, .int .i64 0, .int .i64 0, .int .i64 0, .int .i64 0, .int .i64 0, .int .i64 0, .int .i64 0, .int .i64 0, .int .i64 0, .int .i64 0, .int .i64 0, .int .i64 0, .int .i64 0, .int .i64 0, .int .i64 0, .int .i64 0, .int .i64 0, .int .i64 0, .int .i64 0, .int .i64 0, .int .i64 0, .int .i64 0, .int .i64 0, .int .i64 0, .int .i64 0, .int .i64 0, .int .i64 0, .int .i64 0, .int .i64 0, .int .i64 0, .int .i64 0, .int .i64 0, .int .i64 0, .int .i64 0, .int .i64 0, .int .i64 0, .int .i64 0, .int .i64 0, .int .i64 0, .int .i64 0, .int .i64 0, .int .i64 0, .int .i64 0, .int .i64 0, .int .i64 0, .int .i64 0, .int .i64 0, .int .i64 0, .int .i64 0, .int .i64 0, .int .i64 0, .int .i64 0, .int .i64 0, .int .i64 0, .int .i64 0, .int .i64 0, .int .i64 0, .int .i64 0, .int .i64 0, .int .i64 0, .int .i64 0, .int .i64 0, .int .i64 0, .int .i64 0, .int .i64 0, .int .i64 0, .int .i64 0, .int .i64 0, .int .i64 0, .int .i64 0, .int .i64 0, .int .i64 0, .int .i64 0, .int .i64 0, .int .i64 0, .int .i64 0, .int .i64 0, .int .i64 0, .int .i64 0, .int .i64 0, .int .i64 0, .int .i64 0, .int .i64 0, .int .i64 0, .int .i64 0, .int .i64 0, .int .i64 0, .int .i64 0, .int .i64 0, .int .i64 0, .int .i64 0, .int .i64 0, .int .i64 0, .int .i64 0, .int .i64 0, .int .i64 0, .int .i64 0, .int .i64 0, .int .i64 0, .int .i64 0, .int .i64 0, .int .i64 0, .int .i64 0, .int .i64 0, .int .i64 0, .int .i64 0, .int .i64 0, .int .i64 0, .int .i64 0, .int .i64 0, .int .i64 0, .int .i64 0, .int .i64 0, .int .i64 0, .int .i64 0, .int .i64 0, .int .i64 0, .int .i64 0, .int .i64 0, .int .i64 0, .int .i64 0, .int .i64 0, .int .i64 0, .int .i64 0, .int .i64 0, .int .i64 0, .int .i64 0, .int .i64 0, .int .i64 0, .int .i64 0, .int .i64 0, .int .i64 0, .int .i64 0, .int .i64 0, .int .i64 0, .int .i64 0, .int .i64 0, .int .i64 0, .int .i64 0, .int .i64 0, .int .i64 0, .int .i64 0, .int .i64 0, .int .i64 0, .int .i64 0, .int .i64 0, .int .i64 0, .int .i64 0, .int .i64 0, .int .i64 0, .int .i64 0, .int .i64 0, .int .i64 0, .int .i64 0, .int .i64 0, .int .i64 0, .int .i64 0, .int .i64 0, .int .i64 0, .int .i64 0, .int .i64 0, .int .i64 0, .int .i64 0, .int .i64 0, .int .i64 0, .int .i64 0, .int .i64 0, .int .i64 0, .int .i64 0, .int .i64 0, .int .i64 0, .int .i64 0, .int .i64 0, .int .i64 0, .int .i64 0, .int .i64 0, .int .i64 0, .int .i64 0, .int .i64 0, .int .i64 0, .int .i64 0, .int .i64 0, .int .i64 0, .int .i64 0, .int .i64 0, .int .i64 0, .int .i64 0, .int .i64 0, .int .i64 0, .int .i64 0, .int .i64 0, .int .i64 0, .int .i64 0, .int .i64 0, .int .i64 0, .int .i64 0, .int .i64 0, .int .i64 0, .int .i64 0, .int .i64 0, .int .i64 0, .int .i64 0, .int .i64 0, .int .i64 0, .int .i64 0, .int .i64 0, .int .i64 0, .int .i64 0, .int .i64 0, .int .i64 0, .int .i64 0, .int .i64 0, .int .i64 0, .int .i64 0, .int .i64 0, .int .i64 0, .int .i64 0, .int .i64 0, .int .i64 0, .int .i64 0, .int .i64 0, .int .i64 0, .int .i64 0, .int .i64 0, .int .i64 0, .int .i64 0, .int .i64 0, .int .i64 0, .int .i64 0, .int .i64 0, .int .i64 0, .int .i64 0, .int .i64 0, .int .i64 0, .int .i64 0, .int .i64 0, .int .i64 0, .int .i64 0, .int .i64 0, .int .i64 0, .int .i64 0, .int .i64 0, .int .i64 0, .int .i64 0, .int .i64 0, .int .i64 0, .int .i64 0, .int .i64 0, .int .i64 0, .int .i64 0, .int .i64 0, .int .i64 0, .int .i64 0, .int .i64 0, .int .i64 0, .int .i64 0, .int .i64 0, .int .i64 0, .int .i64 0, .int .i64 0, .int .i64 0, .int .i64 0, .int .i64 0, .int .i64 0, .int .i64 0, .int .i64 0, .int .i64 0, .int .i64 0, .int .i64 0, .int .i64 0, .int .i64 0, .int .i64 0, .int .i64 0, .int .i64 0, .int .i64 0, .int .i64 0, .int .i64 0, .int .i64 0, .int .i64 0, .int .i64 0, .int .i64 0, .int .i64 0, .int .i64 0, .int .i64 0, .int .i64 0, .int .i64 0, .int .i64 0, .int .i64 0, .int .i64 0, .int .i64 0, .int .i64 0, .int .i64 0, .int .i64 0, .int .i64 0, .int .i64 0, .int .i64 0, .int .i64 0, .int .i64 0, .int .i64 0, .int .i64 0, .int .i64 0, .int .i64 0, .int .i64 0, .int .i64 0, .int .i64 0, .int .i64 0, .int .i64 0, .int .i64 0, .int .i64 0, .int .i64 0, .int .i64 0, .int .i64 0, .int .i64 0, .int .i64 0, .int .i64 0, .int .i64 0, .int .i64 0, .int .i64 0, .int .i64 0, .int .i64 0, .int .i64 0, .int .i64 0, .int .i64 0, .int .i64 0, .int .i64 0, .int .i64 0, .int .i64 0, .int .i64 0, .int .i64 0, .int .i64 0, .int .i64 0, .int .i64 0, .int .i64 0, .int .i64 0, .int .i64 0, .int .i64 0, .int .i64 0, .int .i64 0, .int .i64 0, .int .i64 0, .int .i64 0, .int .i64 0, .int .i64 0, .int .i64 0, .int .i64 0, .int .i64 0, .int .i64 0, .int .i64 0, .int .i64 0, .int .i64 0, .int .i64 0, .int .i64 0, .int .i64 0, .int .i64 0, .int .i64 0, .int .i64 0, .int .i64 0, .int .i64 0, .int .i64 0, .int .i64 0, .int .i64 0, .int .i64 0, .int .i64 0, .int .i64 0, .int .i64 0, .int .i64 0, .int .i64 0, .int .i64 0, .int .i64 0, .int .i64 0, .int .i64 0, .int .i64 0, .int .i64 0, .int .i64 0, .int .i64 0, .int .i64 0, .int .i64 0, .int .i64 0, .int .i64 0, .int .i64 0, .int .i64 0, .int .i64 0, .int .i64 0, .int .i64 0, .int .i64 0, .int .i64 0, .int .i64 0, .int .i64 0, .int .i64 0, .int .i64 0, .int .i64 0, .int .i64 0, .int .i64 0, .int .i64 0, .int .i64 0, .int .i64 0, .int .i64 0, .int .i64 0, .int .i64 0, .int .i64 0, .int .i64 0, .int .i64 0, .int .i64 0, .int .i64 0, .int .i64 0, .int .i64 0, .int .i64 0, .int .i64 0, .int .i64 0, .int .i64 0, .int .i64 0, .int .i64 0, .int .i64 0, .int .i64 0, .int .i64 0, .int .i64 0, .int .i64 0, .int .i64 0, .int .i64 0, .int .i64 0, .int .i64 0, .int .i64 0, .int .i64 0, .int .i64 0, .int .i64 0, .int .i64 0, .int .i64 0, .int .i64 0, .int .i64 0, .int .i64 0, .int .i64 0, .int .i64 0, .int .i64 0, .int .i64 0, .int .i64 0, .int .i64 0, .int .i64 0, .int .i64 0, .int .i64 0, .int .i64 0, .int .i64 0, .int .i64 0, .int .i64 0, .int .i64 0, .int .i64 0, .int .i64 0, .int .i64 0, .int .i64 0, .int .i64 0, .int .i64 0, .int .i64 0, .int .i64 0, .int .i64 0, .int .i64 0, .int .i64 0, .int .i64 0, .int .i64 0, .int .i64 0, .int .i64 0, .int .i64 0, .int .i64 0, .int .i64 0, .int .i64 0, .int .i64 0, .int .i64 0, .int .i64 0, .int .i64 0, .int .i64 0, .int .i64 0, .int .i64 0, .int .i64 0, .int .i64 0, .int .i64 0, .int .i64 0, .int .i64 0, .int .i64 0, .int .i64 0, .int .i64 0, .int .i64 0, .int .i64 0, .int .i64 0, .int .i64 0, .int .i64 0, .int .i64 0, .int .i64 0, .int .i64 0, .int .i64 0, .int .i64 0, .int .i64 0, .int .i64 0, .int .i64 0, .int .i64 0, .int .i64 0, .int .i64 0, .int .i64 0, .int .i64 0, .int .i64 0, .int .i64 0, .int .i64 0])), none, []⟩,
 ⟨none, .store 576 (.tmp 5) (.tmp 14), none, []⟩]
def k_mount_reachesOf_r5 : List AOper := [
  ⟨some 15, .fieldAddr 0 (.tmp 1), none, []⟩,
 ⟨some 16, .load none (.tmp 15), none, []⟩,
 ⟨some 17, .move (.const (.int .i64 0)), none, []⟩]
def k_mount_reachesOf_r6 : List AOper := [
  ⟨some 18, .bin .plain .lss (.tmp 17) (.tmp 16), none, []⟩]
def k_mount_reachesOf_r7 : List AOper := [
  ⟨some 19, .move (.tmp 17), none, []⟩,
 ⟨some 6, .move (.tmp 19), none, []⟩]
def k_mount_reachesOf_r8 : List AOper := [
  ⟨some 20, .load (some (576)) (.tmp 5), none, []⟩,
 ⟨some 21, .move (.tmp 6), none, []⟩,
 ⟨some 22, .fieldAddr 0 (.tmp 1), none, []⟩,
 ⟨some 23, .load none (.tmp 22), none, []⟩,
 ⟨some 24, .call (.const (.fn (.func 142) [] [])) [.tmp 20, .tmp 21, .tmp 23], none, []⟩,
 ⟨none, .store 576 (.tmp 5) (.tmp 24), none, []⟩]
def k_mount_reachesOf_r9 : List AOper := [
  ⟨some 25, .load (some (576)) (.tmp 5), none, []⟩,
 ⟨some 26, .fieldAddr 0 (.tmp 1), none, []⟩,
 ⟨some 27, .load none (.tmp 26), none, []⟩,
 ⟨some 28, .call (.const (.fn (.func 143) [] [])) [.tmp 25, .tmp 27], none, []⟩]
def k_mount_reachesOf_r10 : List AOper := [
  ⟨some 29, .build [.int .i64 0, .int .i64 0, .int .i64 0, .int .i64 0, .int .i64 0, .int .i64 0, .int .i64 0, .int .i64 0, .int .i64 0, .int .i64 0, .int .i64 0, .int .i64 0, .int .i64 0, .int .i64 0, .int .i64 0, .int .i64 0, .int .i64 0, .int .i64 0, .int .i64 0, .int .i64 0, .int .i64 0, .int .i64 0, .int .i64 0, .int .i64 0, .int .i64 0, .int .i64 0, .int .i64 0, .int .i64 0, .int .i64 0, .int .i64 0, .int .i64 0, .int .i64 0, .int .i64 0, .int .i64 0, .int .i64 0, .int .i64 0, .int .i64 0, .int .i64 0, .int .i64 0, .int .i64 0, .int .i64 0, .int .i64 0, .int .i64 0, .int .i64 0, .int .i64 0, .int .i64 0, .int .i64 0, .int .i64 0, .int .i64 0, .int .i64 0, .int .i64 0, .int .i64 0, .int .i64 0, .int .i64 0, .int .i64 0, .int .i64 0, .int .i64 0, .int .i64 0, .int .i64 0, .int .i64 0, .int .i64 0, .int .i64 0, .int .i64 0, .int .i64 0, .int .i64 0, .int .i64 0, .int .i64 0, .int .i64 0, .int .i64 0, .int .i64 0, .int .i64 0, .int .i64 0, .int .i64 0, .int .i64 0, .int .i64 0, .int .i64 0, .int .i64 0, .int .i64 0, .int .i64 0, .int .i64 0, .int .i64 0, .int .i64 0, .int .i64 0, .int .i64 0, .int .i64 0, .int .i64 0, .int .i64 0, .int .i64 0, .int .i64 0, .int .i64 0, .int .i64 0, .int .i64 0, .int .i64 0, .int .i64 0, .int .i64 0, .int .i64 0, .int .i64 0, .int .i64 0, .int .i64 0, .int .i64 0, .int .i64 0, .int .i64 0, .int .i64 0, .int .i64 0, .int .i64 0, .int .i64 0, .int .i64 0, .int .i64 0, .int .i64 0, .int .i64 0, .int .i64 0, .int .i64 0, .int .i64 0, .int .i64 0, .int .i64 0, .int .i64 0, .int .i64 0, .int .i64 0, .int .i64 0, .int .i64 0, .int .i64 0, .int .i64 0, .int .i64 0, .int .i64 0, .int .i64 0, .int .i64 0, .int .i64 0, .int .i64 0, .int .i64 0, .int .i64 0, .int .i64 0, .int .i64 0, .int .i64 0, .int .i64 0, .int .i64 0, .int .i64 0, .int .i64 0, .int .i64 0, .int .i64 0, .int .i64 0, .int .i64 0, .int .i64 0, .int .i64 0, .int .i64 0, .int .i64 0, .int .i64 0, .int .i64 0, .int .i64 0, .int .i64 0, .int .i64 0, .int .i64 0, .int .i64 0, .int .i64 0, .int .i64 0, .int .i64 0, .int .i64 0, .int .i64 0, .int .i64 0, .int .i64 0, .int .i64 0, .int .i64 0, .int .i64 0, .int .i64 0, .int .i64 0, .int .i64 0, .int .i64 0, .int .i64 0, .int .i64 0, .int .i64 0, .int .i64 0, .int .i64 0, .int .i64 0, .int .i64 0, .int .i64 0, .int .i64 0, .int .i64 0, .int .i64 0, .int .i64 0, .int .i64 0, .int .i64 0, .int .i64 0, .int .i64 0, .int .i64 0, .int .i64 0, .int .i64 0, .int .i64 0, .int .i64 0, .int .i64 0, .int .i64 0, .int .i64 0, .int .i64 0, .int .i64 0, .int .i64 0, .int .i64 0, .int .i64 0, .int .i64 0, .int .i64 0, .int .i64 0, .int .i64 0, .int .i64 0, .int .i64 0, .int .i64 0, .int .i64 0, .int .i64 0, .int .i64 0, .int .i64 0, .int .i64 0, .int .i64 0, .int .i64 0, .int .i64 0, .int .i64 0, .int .i64 0, .int .i64 0, .int .i64 0, .int .i64 0, .int .i64 0, .int .i64 0, .int .i64 0, .int .i64 0, .int .i64 0, .int .i64 0, .int .i64 0, .int .i64 0, .int .i64 0, .int .i64 0, .int .i64 0, .int .i64 0, .int .i64 0, .int .i64 0, .int .i64 0, .int .i64 0, .int .i64 0, .int .i64 0, .int .i64 0, .int .i64 0, .int .i64 0, .int .i64 0, .int .i64 0, .int .i64 0, .int .i64 0, .int .i64 0, .int .i64 0, .int .i64 0, .int .i64 0, .int .i64 0, .int .i64 0, .int .i64 0, .int .i64 0, .int .i64 0, .int .i64 0, .int .i64 0, .int .i64 0, .int .i64 0, .int .i64 0, .int .i64 0, .int .i64 0, .int .i64 0, .int .i64 0, .int .i64 0, .int .i64 0, .int .i64 0, .int .i64 0, .int .i64 0, .int .i64 0, .int .i64 0, .int .i64 0, .int .i64 0, .int .i64 0, .int .i64 0, .int .i64 0, .int .i64 0, .int .i64 0, .int .i64 0, .int .i64 0, .int .i64 0, .int .i64 0, .int .i64 0, .int .i64 0, .int .i64 0, .int .i64 0, .int .i64 0, .int .i64 0, .int .i64 0, .int .i64 0, .int .i64 0, .int .i64 0, .int .i64 0, .int .i64 0, .int .i64 0, .int .i64 0, .int .i64 0, .int .i64 0, .int .i64 0, .int .i64 0, .int .i64 0, .int .i64 0, .int .i64 0, .int .i64 0, .int .i64 0, .int .i64 0, .int .i64 0, .int .i64 0, .int .i64 0, .int .i64 0, .int .i64 0, .int .i64 0, .int .i64 0, .int .i64 0, .int .i64 0, .int .i64 0, .int .i64 0, .int .i64 0, .int .i64 0, .int .i64 0, .int .i64 0, .int .i64 0, .int .i64 0, .int .i64 0, .int .i64 0, .int .i64 0, .int .i64 0, .int .i64 0, .int .i64 0, .int .i64 0, .int .i64 0, .int .i64 0, .int .i64 0, .int .i64 0, .int .i64 0, .int .i64 0, .int .i64 0, .int .i64 0, .int .i64 0, .int .i64 0, .int .i64 0, .int .i64 0, .int .i64 0, .int .i64 0, .int .i64 0, .int .i64 0, .int .i64 0, .int .i64 0, .int .i64 0, .int .i64 0, .int .i64 0, .int .i64 0, .int .i64 0, .int .i64 0, .int .i64 0, .int .i64 0, .int .i64 0, .int .i64 0, .int .i64 0, .int .i64 0, .int .i64 0, .int .i64 0, .int .i64 0, .int .i64 0, .int .i64 0, .int .i64 0, .int .i64 0, .int .i64 0, .int .i64 0, .int .i64 0, .int .i64 0, .int .i64 0, .int .i64 0, .int .i64 0, .int .i64 0, .int .i64 0, .int .i64 0, .int .i64 0, .int .i64 0, .int .i64 0, .int .i64 0, .int .i64 0, .int .i64 0, .int .i64 0, .int .i64 0, .int .i64 0, .int .i64 0, .int .i64 0, .int .i64 0, .int .i64 0, .int .i64 0, .int .i64 0, .int .i64 0, .int .i64 0, .int .i64 0, .int .i64 0, .int .i64 0, .int .i64 0, .int .i64 0, .int .i64 0, .int .i64 0, .int .i64 0, .int .i64 0, .int .i64 0, .int .i64 0, .int .i64 0, .int .i64 0, .int .i64 0, .int .i64 0, .int .i64 0, .int .i64 0, .int .i64 0, .int .i64 0, .int .i64 0, .int .i64 0, .int .i64 0, .int .i64 0, .int .i64 0, .int .i64 0, .int .i64 0, .int .i64 0, .int .i64 0, .int .i64 0, .int .i64 0, .int .i64 0, .int .i64 0, .int .i64 0, .int .i64 0, .int .i64 0, .int .i64 0, .int .i64 0, .int .i64 0, .int .i64 0, .int .i64 0, .int .i64 0, .int .i64 0, .int .i64 0, .int .i64 0, .int .i64 0, .int .i64 0, .int .i64 0, .int .i64 0, .int .i64 0, .int .i64 0, .int .i64 0, .int .i64 0, .int .i64 0, .int .i64 0, .int .i64 0, .int .i64 0, .int .i64 0, .int .i64 0, .int .i64 0, .int .i64 0, .int .i64 0, .int .i64 0, .int .i64 0, .int .i64 0, .int .i64 0, .int .i64 0, .int .i64 0, .int .i64 0, .int .i64 0, .int .i64 0, .int .i64 0, .int .i64 0, .int .i64 0, .int .i64 0, .int .i64 0, .int .i64 0, .int .i64 0, .int .i64 0, .int .i64 0, .int .i64 0, .int .i64 0, .int .i64 0, .int .i64 0, .int .i64 0, .int .i64 0, .int .i64 0, .int .i64 0, .int .i64 0, .int .i64 0, .int .i64 0, .int .i64 0, .int .i64 0, .int .i64 0, .int .i64 0, .int .i64 0, .int .i64 0, .int .i64 0, .int .i64 0, .int .i64 0, .int .i64 0, .int .i64 0, .int .i64 0, .int .i64 0, .int .i64 0, .int .i64 0, .int .i64 0, .int .i64 0, .int .i64 0, .int .i64 0, .int .i64 0, .int .i64 0, .int .i64 0, .int .i64 0, .int .i64 0, .int .i64 0, .int .i64 0, .int .i64 0, .int .i64 0, .int .i64 0, .int .i64 0, .int .i64 0, .int .i64 0, .int .i64 0, .int .i64 0, .int .i64 0, .int .i64 0, .int .i64 0, .int .i64 0, .int .i64 0, .int .i64 0, .int .i64 0, .int .i64 0, .int .i64 0, .int .i64 0, .int .i64 0, .int .i64 0, .int .i64 0, .int .i64 0, .int .i64 0, .int .i64 0, .int .i64 0, .int .i64 0, .int .i64 0, .int .i64 0, .int .i64 0, .int .i64 0, .int .i64 0, .int .i64 0, .int .i64 0, .int .i64 0, .int .i64 0, .int .i64 0, .int .i64 0, .int .i64 0, .int .i64 0, .int .i64 0, .int .i64 0, .int .i64 0, .int .i64 0, .int .i64 0, .int .i64 0, .int .i64 0, .int .i64 0, .int .i64 0, .int .i64 0, .int .i64 0, .int .i64 0, .int .i64 0, .int .i64 0, .int .i64 0, .int .i64 0, .int .i64 0, .int .i64 0, .int .i64 0, .int .i64 0, .int .i64 0, .int .i64 0, .int .i64 0, .int .i64 0, .int .i64 0, .int .i64 0, .int .i64 0, .int .i64 0, .int .i64 0, .int .i64 0, .int .i64 0, .int .i64 0, .int .i64 0] [], none, []⟩,
 ⟨none, .store 576 (.tmp 2) (.tmp 29), none, []⟩,
 ⟨some 3, .move (.const (.int .i64 12)), none, []⟩]
def k_mount_reachesOf_r11 : List AOper := [
  ⟨some 30, .bin .plain .add (.tmp 17) (.const (.int .i64 1)), none, []⟩,
 ⟨some 17, .move (.tmp 30), none, []⟩]
def k_mount_reachesOf_r12 : ACode := (.seq (.reg k_mount_reachesOf_r6 false) (.seq (.cond (.tmp 18) .skip (.exit 0)) (.seq (.block 1 (.seq (.reg k_mount_reachesOf_r7 false) (.seq (.reg k_mount_reachesOf_r8 false) (.seq (.reg k_mount_reachesOf_r9 false) (.cond (.tmp 28) (.seq (.reg k_mount_reachesOf_r10 false) .ret) .skip))))) (.reg k_mount_reachesOf_r11 false))))
def k_mount_reachesOf_r13 : List AOper := [
  ⟨some 31, .load (some (576)) (.tmp 5), none, []⟩,
 ⟨none, .store 576 (.tmp 2) (.tmp 31), none, []⟩,
 ⟨some 3, .move (.const (.int .i64 0)), none, []⟩]
def k_mount_reachesOf : AFun := { params := 1, ntmps := 32, body := (.seq (.reg k_mount_reachesOf_r0 false) (.seq (.seq (.reg k_mount_reachesOf_r1 false) (.seq (.reg k_mount_reachesOf_r2 false) (.cond (.tmp 10) (.seq (.reg k_mount_reachesOf_r3 false) .ret) .skip))) (.seq (.reg k_mount_reachesOf_r4 false) (.seq (.seq (.reg k_mount_reachesOf_r5 false) (.block 0 (.loop k_mount_reachesOf_r12))) (.seq (.reg k_mount_reachesOf_r13 false) .ret))))), res := [.cell 2 (some ((some (576)))), .tmp 3] }
theorem k_mount_reachesOf_ok : cfun Try.prog Try.f89 = k_mount_reachesOf := by kernel_rfl

def k_mount_reaches_tight_r0 : List AOper := [
  ⟨some 3, .box (.tmp 0), none, []⟩,
 ⟨some 6, .box (.const (.agg [.int .i64 0, .int .i64 0])), none, []⟩]
def k_mount_reaches_tight_r1 : List AOper := [
  ⟨some 7, .move (.tmp 2), none, []⟩,
 ⟨some 8, .move (.tmp 1), none, [0]⟩,
 ⟨some 9, .indexArr 24 24 (.tmp 3) (.tmp 7), none, [1]⟩,
 ⟨some 10, .indexArr 24 1 (.tmp 9) (.tmp 8), none, []⟩,
 ⟨some 11, .load none (.tmp 10), none, []⟩,
 ⟨some 12, .neg (.tmp 11), none, []⟩,
 ⟨some 13, .move (.tmp 1), none, [0, 1, 2, 3, 4, 5]⟩,
 ⟨some 14, .move (.tmp 2), none, [0, 1, 2, 3, 4, 5, 6]⟩,
 ⟨some 15, .indexArr 24 24 (.tmp 3) (.tmp 13), none, [0, 1, 2, 3, 4, 5, 7]⟩,
 ⟨some 16, .indexArr 24 1 (.tmp 15) (.tmp 14), none, [0, 1, 2, 3, 4, 5]⟩,
 ⟨some 17, .load none (.tmp 16), none, [0, 1, 2, 3, 4, 5]⟩,
 ⟨some 18, .build [.int .i64 0, .int .i64 0] [(0, 1, .tmp 12), (1, 1, .tmp 17)], none, []⟩,
 ⟨none, .store 2 (.tmp 6) (.tmp 18), none, []⟩]
def k_mount_reaches_tight_r1s : List (List AOper) := [
  [
  ⟨some 7, .move (.tmp 2), none, []⟩,
 ⟨some 8, .move (.tmp 1), none, [0]⟩,
 ⟨some 9, .indexArr 24 24 (.tmp 3) (.tmp 7), none, [1]⟩,
 ⟨some 10, .indexArr 24 1 (.tmp 9) (.tmp 8), none, []⟩,
 ⟨some 11, .load none (.tmp 10), none, []⟩,
 ⟨some 12, .neg (.tmp 11), none, []⟩,
 ⟨some 13, .move (.tmp 1), none, [0, 1, 2, 3, 4, 5]⟩,
 ⟨some 14, .move (.tmp 2), none, [0, 1, 2, 3, 4, 5, 6]⟩,
 ⟨some 15, .indexArr 24 24 (.tmp 3) (.tmp 13), none, [0, 1, 2, 3, 4, 5, 7]⟩,
 ⟨some 16, .indexArr 24 1 (.tmp 15) (.tmp 14), none, [0, 1, 2, 3, 4, 5]⟩,
 ⟨some 17, .load none (.tmp 16), none, [0, 1, 2, 3, 4, 5]⟩], 
  [
  ⟨some 18, .build [.int .i64 0, .int .i64 0] [(0, 1, .tmp 12), (1, 1, .tmp 17)], none, []⟩], 
  [
  ⟨none, .store 2 (.tmp 6) (.tmp 18), none, []⟩]]
theorem k_mount_reaches_tight_r1_sg : segs k_mount_reaches_tight_r1 = k_mount_reaches_tight_r1s := by kernel_rfl
theorem k_mount_reaches_tight_r1_st : statOK k_mount_reaches_tight_r1 = true := by kernel_rfl
def k_mount_reaches_tight : AFun := { params := 3, ntmps := 19, body := (.seq (.reg k_mount_reaches_tight_r0 false) (.seq (.reg k_mount_reaches_tight_r1 true) .ret)), res := [.cell 6 (some ((some (2))))] }
theorem k_mount_reaches_tight_ok : cfun Try.prog Try.f90 = k_mount_reaches_tight := by kernel_rfl

def k_mount_within_r0 : List AOper := [
  ⟨some 6, .move (.const (.bool false)), none, []⟩]
def k_mount_within_r1 : List AOper := [
  ⟨some 7, .move (.tmp 1), none, []⟩,
 ⟨some 8, .move (.tmp 0), none, []⟩,
 ⟨some 9, .bin .plain .leq (.tmp 7) (.tmp 8), none, []⟩,
 ⟨some 10, .move (.tmp 9), none, []⟩,
 ⟨some 11, .move (.tmp 0), (some (10, true)), []⟩,
 ⟨some 12, .move (.tmp 2), (some (10, true)), []⟩,
 ⟨some 13, .bin .plain .leq (.tmp 11) (.tmp 12), (some (10, true)), []⟩,
 ⟨some 14, .pick (.tmp 10) (.tmp 13) (.const (.bool false)), none, []⟩,
 ⟨some 6, .move (.tmp 14), none, []⟩]
def k_mount_within : AFun := { params := 3, ntmps := 15, body := (.seq (.reg k_mount_within_r0 false) (.seq (.reg k_mount_within_r1 false) .ret)), res := [.tmp 6] }
theorem k_mount_within_ok : cfun Try.prog Try.f91 = k_mount_within := by kernel_rfl

def k_mount_checkLink_r0 : List AOper := [
  ⟨some 2, .box (.tmp 0), none, []⟩,
 ⟨some 3, .box (.tmp 1), none, []⟩,
 ⟨some 4, .move (.const (.int .i64 0)), none, []⟩]
def k_mount_checkLink_r1 : List AOper := [
  ⟨some 5, .load (some (2)) (.tmp 2), none, []⟩,
 ⟨some 6, .fieldAddr 0 (.tmp 3), none, []⟩,
 ⟨some 7, .load none (.tmp 6), none, []⟩,
 ⟨some 8, .call (.const (.fn (.func 144) [] [])) [.tmp 5, .tmp 7], none, []⟩,
 ⟨some 9, .not (.tmp 8), none, []⟩,
 ⟨some 10, .move (.tmp 9), none, []⟩,
 ⟨some 11, .load (some (2)) (.tmp 2), (some (10, false)), []⟩,
 ⟨some 12, .fieldAddr 1 (.tmp 3), (some (10, false)), []⟩,
 ⟨some 13, .load none (.tmp 12), (some (10, false)), []⟩,
 ⟨some 14, .call (.const (.fn (.func 144) [] [])) [.tmp 11, .tmp 13], (some (10, false)), []⟩,
 ⟨some 15, .not (.tmp 14), (some (10, false)), []⟩,
 ⟨some 16, .pick (.tmp 10) (.const (.bool true)) (.tmp 15), none, []⟩]
def k_mount_checkLink_r2 : List AOper := [
  ⟨some 4, .move (.const (.int .i64 7)), none, []⟩]
def k_mount_checkLink_r3 : List AOper := [
  ⟨some 17, .fieldAddr 0 (.tmp 3), none, []⟩,
 ⟨some 18, .load none (.tmp 17), none, []⟩,
 ⟨some 19, .fieldAddr 1 (.tmp 3), none, []⟩,
 ⟨some 20, .load none (.tmp 19), none, []⟩,
 ⟨some 21, .bin .plain .eql (.tmp 18) (.tmp 20), none, []⟩]
def k_mount_checkLink_r4 : List AOper := [
  ⟨some 4, .move (.const (.int .i64 9)), none, []⟩]
def k_mount_checkLink_r5 : List AOper := [
  ⟨some 22, .fieldAddr 2 (.tmp 3), none, []⟩,
 ⟨some 23, .load (some (2)) (.tmp 22), none, []⟩,
 ⟨some 24, .call (.const (.fn (.func 145) [] [])) [.tmp 23, .const (.int .i64 (-1000000)), .const (.int .i64 1000000)], none, []⟩,
 ⟨some 4, .move (.tmp 24), none, []⟩]
def k_mount_checkLink : AFun := { params := 2, ntmps := 25, body := (.seq (.reg k_mount_checkLink_r0 false) (.seq (.seq (.reg k_mount_checkLink_r1 false) (.cond (.tmp 16) (.seq (.reg k_mount_checkLink_r2 false) .ret) .skip)) (.seq (.seq (.reg k_mount_checkLink_r3 false) (.cond (.tmp 21) (.seq (.reg k_mount_checkLink_r4 false) .ret) .skip)) (.seq (.reg k_mount_checkLink_r5 false) .ret)))), res := [.tmp 4] }
theorem k_mount_checkLink_ok : cfun Try.prog Try.f92 = k_mount_checkLink := by kernel_rfl

def k_mount_loose_r0 : List AOper := [
  ⟨some 1, .box (.tmp 0), none, []⟩,
 ⟨some 2, .move (.const (.bool false)), none, []⟩]
def k_mount_loose_r1 : List AOper := [
  ⟨some 3, .box (.const (.agg [.bool false, .bool false, .bool false, .bool false, .bool false, .bool false, .bool false, .bool false, .bool false, .bool false, .bool false, .bool false, .bool false, .bool false, .bool false, .bool false, .bool false, .bool false, .bool false, .bool false, .bool false, .bool false, .bool false, .bool false])), none, []⟩]
def k_mount_loose_r2 : List AOper := [
  ⟨some 7, .indexArr 24 1 (.tmp 3) (.const (.int .i64 0)), none, []⟩,
 ⟨none, .store 1 (.tmp 7) (.const (.bool true)), none, []⟩]
def k_mount_loose_r3 : List AOper := [
  ⟨some 8, .fieldAddr 0 (.tmp 1), none, []⟩,
 ⟨some 9, .load none (.tmp 8), none, []⟩,
 ⟨some 10, .move (.const (.int .i64 0)), none, []⟩]
def k_mount_loose_r4 : List AOper := [
  ⟨some 11, .bin .plain .lss (.tmp 10) (.tmp 9), none, []⟩]
def k_mount_loose_r5 : List AOper := [
  ⟨some 12, .fieldAddr 1 (.tmp 1), none, []⟩,
 ⟨some 13, .load none (.tmp 12), none, []⟩,
 ⟨some 14, .len false (.tmp 13), none, []⟩,
 ⟨some 15, .move (.const (.int .i64 0)), none, []⟩]
def k_mount_loose_r6 : List AOper := [
  ⟨some 16, .bin .plain .lss (.tmp 15) (.tmp 14), none, []⟩]
def k_mount_loose_r7 : List AOper := [
  ⟨some 17, .indexAddr 4 (.tmp 13) (.tmp 15), none, []⟩,
 ⟨some 18, .load (some (4)) (.tmp 17), none, []⟩,
 ⟨some 5, .box (.const (.agg [.int .i64 0, .int .i64 0, .int .i64 0, .int .i64 0])), none, []⟩,
 ⟨none, .store 4 (.tmp 5) (.tmp 18), none, []⟩]
def k_mount_loose_r8 : List AOper := [
  ⟨some 19, .fieldAddr 0 (.tmp 5), none, []⟩,
 ⟨some 20, .load none (.tmp 19), none, []⟩,
 ⟨some 21, .indexArr 24 1 (.tmp 3) (.tmp 20), none, []⟩,
 ⟨some 22, .load none (.tmp 21), none, []⟩,
 ⟨some 23, .move (.tmp 22), none, []⟩,
 ⟨some 24, .fieldAddr 1 (.tmp 5), (some (23, false)), []⟩,
 ⟨some 25, .load none (.tmp 24), (some (23, false)), []⟩,
 ⟨some 26, .indexArr 24 1 (.tmp 3) (.tmp 25), (some (23, false)), []⟩,
 ⟨some 27, .load none (.tmp 26), (some (23, false)), []⟩,
 ⟨some 28, .pick (.tmp 23) (.const (.bool true)) (.tmp 27), none, []⟩]
def k_mount_loose_r9 : List AOper := [
  ⟨some 29, .fieldAddr 0 (.tmp 5), none, []⟩,
 ⟨some 30, .load none (.tmp 29), none, []⟩,
 ⟨some 31, .fieldAddr 1 (.tmp 5), none, [0, 1]⟩,
 ⟨some 32, .load none (.tmp 31), none, [0, 1]⟩,
 ⟨some 33, .indexArr 24 1 (.tmp 3) (.tmp 30), none, [2, 3]⟩,
 ⟨none, .store 1 (.tmp 33) (.const (.bool true)), none, [2, 3]⟩,
 ⟨some 34, .indexArr 24 1 (.tmp 3) (.tmp 32), none, []⟩,
 ⟨none, .store 1 (.tmp 34) (.const (.bool true)), none, []⟩]
def k_mount_loose_r9s : List (List AOper) := [
  [
  ⟨some 29, .fieldAddr 0 (.tmp 5), none, []⟩,
 ⟨some 30, .load none (.tmp 29), none, []⟩,
 ⟨some 31, .fieldAddr 1 (.tmp 5), none, [0, 1]⟩,
 ⟨some 32, .load none (.tmp 31), none, [0, 1]⟩,
 ⟨some 33, .indexArr 24 1 (.tmp 3) (.tmp 30), none, [2, 3]⟩,
 ⟨none, .store 1 (.tmp 33) (.const (.bool true)), none, [2, 3]⟩], 
  [
  ⟨some 34, .indexArr 24 1 (.tmp 3) (.tmp 32), none, []⟩], 
  [
  ⟨none, .store 1 (.tmp 34) (.const (.bool true)), none, []⟩]]
theorem k_mount_loose_r9_sg : segs k_mount_loose_r9 = k_mount_loose_r9s := by kernel_rfl
theorem k_mount_loose_r9_st : statOK k_mount_loose_r9 = true := by kernel_rfl
def k_mount_loose_r10 : List AOper := [
  ⟨some 35, .bin .plain .add (.tmp 15) (.const (.int .i64 1)), none, []⟩,
 ⟨some 15, .move (.tmp 35), none, []⟩]
def k_mount_loose_r11 : ACode := (.seq (.reg k_mount_loose_r6 false) (.seq (.cond (.tmp 16) .skip (.exit 2)) (.seq (.block 3 (.seq (.reg k_mount_loose_r7 false) (.seq (.reg k_mount_loose_r8 false) (.cond (.tmp 28) (.reg k_mount_loose_r9 true) .skip)))) (.reg k_mount_loose_r10 false))))
def k_mount_loose_r12 : List AOper := [
  ⟨some 36, .bin .plain .add (.tmp 10) (.const (.int .i64 1)), none, []⟩,
 ⟨some 10, .move (.tmp 36), none, []⟩]
def k_mount_loose_r13 : ACode := (.seq (.reg k_mount_loose_r4 false) (.seq (.cond (.tmp 11) .skip (.exit 0)) (.seq (.block 1 (.seq (.reg k_mount_loose_r5 false) (.block 2 (.loop k_mount_loose_r11)))) (.reg k_mount_loose_r12 false))))
def k_mount_loose_r14 : List AOper := [
  ⟨some 37, .fieldAddr 0 (.tmp 1), none, []⟩,
 ⟨some 38, .load none (.tmp 37), none, []⟩,
 ⟨some 39, .move (.const (.int .i64 0)), none, []⟩]
def k_mount_loose_r15 : List AOper := [
  ⟨some 40, .bin .plain .lss (.tmp 39) (.tmp 38), none, []⟩]
def k_mount_loose_r16 : List AOper := [
  ⟨some 41, .move (.tmp 39), none, []⟩,
 ⟨some 6, .move (.tmp 41), none, []⟩]
def k_mount_loose_r17 : List AOper := [
  ⟨some 42, .move (.tmp 6), none, []⟩,
 ⟨some 43, .indexArr 24 1 (.tmp 3) (.tmp 42), none, []⟩,
 ⟨some 44, .load none (.tmp 43), none, []⟩,
 ⟨some 45, .not (.tmp 44), none, []⟩]
def k_mount_loose_r18 : List AOper := [
  ⟨some 2, .move (.const (.bool true)), none, []⟩]
def k_mount_loose_r19 : List AOper := [
  ⟨some 46, .bin .plain .add (.tmp 39) (.const (.int .i64 1)), none, []⟩,
 ⟨some 39, .move (.tmp 46), none, []⟩]
def k_mount_loose_r20 : ACode := (.seq (.reg k_mount_loose_r15 false) (.seq (.cond (.tmp 40) .skip (.exit 4)) (.seq (.block 5 (.seq (.reg k_mount_loose_r16 false) (.seq (.reg k_mount_loose_r17 false) (.cond (.tmp 45) (.seq (.reg k_mount_loose_r18 false) .ret) .skip)))) (.reg k_mount_loose_r19 false))))
def k_mount_loose_r21 : List AOper := [
  ⟨some 2, .move (.const (.bool false)), none, []⟩]
def k_mount_loose : AFun := { params := 1, ntmps := 47, body := (.seq (.reg k_mount_loose_r0 false) (.seq (.reg k_mount_loose_r1 false) (.seq (.reg k_mount_loose_r2 false) (.seq (.seq (.reg k_mount_loose_r3 false) (.block 0 (.loop k_mount_loose_r13))) (.seq (.seq (.reg k_mount_loose_r14 false) (.block 4 (.loop k_mount_loose_r20))) (.seq (.reg k_mount_loose_r21 false) .ret)))))), res := [.tmp 2] }
theorem k_mount_loose_ok : cfun Try.prog Try.f93 = k_mount_loose := by kernel_rfl

def k_ref04_within_r0 : List AOper := [
  ⟨some 6, .move (.const (.bool false)), none, []⟩]
def k_ref04_within_r1 : List AOper := [
  ⟨some 7, .move (.tmp 0), none, []⟩,
 ⟨some 8, .move (.tmp 1), none, []⟩,
 ⟨some 9, .bin .plain .geq (.tmp 7) (.tmp 8), none, []⟩,
 ⟨some 10, .move (.tmp 9), none, []⟩,
 ⟨some 11, .move (.tmp 0), (some (10, true)), []⟩,
 ⟨some 12, .move (.tmp 2), (some (10, true)), []⟩,
 ⟨some 13, .bin .plain .leq (.tmp 11) (.tmp 12), (some (10, true)), []⟩,
 ⟨some 14, .pick (.tmp 10) (.tmp 13) (.const (.bool false)), none, []⟩,
 ⟨some 6, .move (.tmp 14), none, []⟩]
def k_ref04_within : AFun := { params := 3, ntmps := 15, body := (.seq (.reg k_ref04_within_r0 false) (.seq (.reg k_ref04_within_r1 false) .ret)), res := [.tmp 6] }
theorem k_ref04_within_ok : cfun Try.prog Try.f94 = k_ref04_within := by kernel_rfl

def k_mount_checkWinding_r0 : List AOper := [
  ⟨some 1, .box (.tmp 0), none, []⟩,
 ⟨some 2, .move (.const (.int .i64 0)), none, []⟩]
def k_mount_checkWinding_r1 : List AOper := [
  ⟨some 6, .fieldAddr 0 (.tmp 1), none, []⟩,
 ⟨some 7, .load none (.tmp 6), none, []⟩,
 ⟨some 8, .call (.const (.fn (.func 91) [] [])) [.tmp 7, .const (.int .i64 1), .const (.int .i64 11)], none, []⟩,
 ⟨some 9, .not (.tmp 8), none, []⟩]
def k_mount_checkWinding_r2 : List AOper := [
  ⟨some 2, .move (.const (.int .i64 2)), none, []⟩]
def k_mount_checkWinding_r3 : List AOper := [
  ⟨some 10, .fieldAddr 1 (.tmp 1), none, []⟩,
 ⟨some 11, .load (some (2)) (.tmp 10), none, []⟩,
 ⟨some 12, .build [.int .i64 0, .int .i64 0, .int .i64 0, .int .i64 0] [(0, 2, .tmp 11), (2, 1, .const (.int .i64 1)), (3, 1, .const (.int .i64 10000))], none, []⟩,
 ⟨some 13, .fieldAddr 3 (.tmp 1), none, []⟩,
 ⟨some 14, .load (some (2)) (.tmp 13), none, []⟩,
 ⟨some 15, .build [.int .i64 0, .int .i64 0, .int .i64 0, .int .i64 0] [(0, 2, .tmp 14), (2, 1, .const (.int .i64 1)), (3, 1, .const (.int .i64 10000))], none, []⟩,
 ⟨some 16, .fieldAddr 5 (.tmp 1), none, []⟩,
 ⟨some 17, .load (some (2)) (.tmp 16), none, []⟩,
 ⟨some 18, .build [.int .i64 0, .int .i64 0, .int .i64 0, .int .i64 0] [(0, 2, .tmp 17), (2, 1, .const (.int .i64 0)), (3, 1, .const (.int .i64 1000000))], none, []⟩,
 ⟨some 19, .fieldAddr 7 (.tmp 1), none, []⟩,
 ⟨some 20, .load (some (2)) (.tmp 19), none, []⟩,
 ⟨some 21, .build [.int .i64 0, .int .i64 0, .int .i64 0, .int .i64 0] [(0, 2, .tmp 20), (2, 1, .const (.int .i64 0)), (3, 1, .const (.int .i64 1000000))], none, []⟩,
 ⟨some 22, .fieldAddr 9 (.tmp 1), none, []⟩,
 ⟨some 23, .load (some (2)) (.tmp 22), none, []⟩,
 ⟨some 24, .build [.int .i64 0, .int .i64 0, .int .i64 0, .int .i64 0] [(0, 2, .tmp 23), (2, 1, .const (.int .i64 0)), (3, 1, .const (.int .i64 1000000))], none, []⟩,
 ⟨some 25, .buildSlice 4 [.tmp 12, .tmp 15, .tmp 18, .tmp 21, .tmp 24], none, []⟩,
 ⟨some 26, .len false (.tmp 25), none, []⟩,
 ⟨some 27, .move (.const (.int .i64 0)), none, []⟩]
def k_mount_checkWinding_r4 : List AOper := [
  ⟨some 28, .bin .plain .lss (.tmp 27) (.tmp 26), none, []⟩]
def k_mount_checkWinding_r5 : List AOper := [
  ⟨some 29, .indexAddr 4 (.tmp 25) (.tmp 27), none, []⟩,
 ⟨some 30, .load (some (4)) (.tmp 29), none, []⟩,
 ⟨some 4, .box (.const (.agg [.int .i64 0, .int .i64 0, .int .i64 0, .int .i64 0])), none, []⟩,
 ⟨none, .store 4 (.tmp 4) (.tmp 30), none, []⟩]
def k_mount_checkWinding_r6 : List AOper := [
  ⟨some 31, .fieldAddr 0 (.tmp 4), none, []⟩,
 ⟨some 32, .load (some (2)) (.tmp 31), none, []⟩,
 ⟨some 33, .fieldAddr 2 (.tmp 4), none, []⟩,
 ⟨some 34, .load none (.tmp 33), none, []⟩,
 ⟨some 35, .fieldAddr 3 (.tmp 4), none, []⟩,
 ⟨some 36, .load none (.tmp 35), none, []⟩,
 ⟨some 37, .call (.const (.fn (.func 145) [] [])) [.tmp 32, .tmp 34, .tmp 36], none, []⟩,
 ⟨some 5, .move (.tmp 37), none, []⟩]
def k_mount_checkWinding_r7 : List AOper := [
  ⟨some 38, .move (.tmp 5), none, []⟩,
 ⟨some 39, .bin .plain .neq (.tmp 38) (.const (.int .i64 0)), none, []⟩]
def k_mount_checkWinding_r8 : List AOper := [
  ⟨some 40, .move (.tmp 5), none, []⟩,
 ⟨some 2, .move (.tmp 40), none, []⟩]
def k_mount_checkWinding_r9 : List AOper := [
  ⟨some 41, .bin .plain .add (.tmp 27) (.const (.int .i64 1)), none, []⟩,
 ⟨some 27, .move (.tmp 41), none, []⟩]
def k_mount_checkWinding_r10 : ACode := (.seq (.reg k_mount_checkWinding_r4 false) (.seq (.cond (.tmp 28) .skip (.exit 0)) (.seq (.block 1 (.seq (.reg k_mount_checkWinding_r5 false) (.seq (.reg k_mount_checkWinding_r6 false) (.seq (.reg k_mount_checkWinding_r7 false) (.cond (.tmp 39) (.seq (.reg k_mount_checkWinding_r8 false) .ret) .skip))))) (.reg k_mount_checkWinding_r9 false))))
def k_mount_checkWinding_r11 : List AOper := [
  ⟨some 2, .move (.const (.int .i64 0)), none, []⟩]
def k_mount_checkWinding : AFun := { params := 1, ntmps := 42, body := (.seq (.reg k_mount_checkWinding_r0 false) (.seq (.seq (.reg k_mount_checkWinding_r1 false) (.cond (.tmp 9) (.seq (.reg k_mount_checkWinding_r2 false) .ret) .skip)) (.seq (.seq (.reg k_mount_checkWinding_r3 false) (.block 0 (.loop k_mount_checkWinding_r10))) (.seq (.reg k_mount_checkWinding_r11 false) .ret)))), res := [.tmp 2] }
theorem k_mount_checkWinding_ok : cfun Try.prog Try.f107 = k_mount_checkWinding := by kernel_rfl

def k_mount_stretched_r0 : List AOper := [
  ⟨some 1, .box (.tmp 0), none, []⟩,
 ⟨some 2, .box (.const (.agg [.int .i64 0, .int .i64 0])), none, []⟩]
def k_mount_stretched_r1 : List AOper := [
  ⟨some 5, .fieldAddr 3 (.tmp 1), none, []⟩,
 ⟨some 6, .fieldAddr 0 (.tmp 5), none, []⟩,
 ⟨some 7, .load none (.tmp 6), none, []⟩,
 ⟨some 8, .fieldAddr 5 (.tmp 1), none, []⟩,
 ⟨some 9, .fieldAddr 0 (.tmp 8), none, []⟩,
 ⟨some 10, .load none (.tmp 9), none, []⟩,
 ⟨some 11, .bin .plain .add (.const (.int .i64 1000000)) (.tmp 10), none, []⟩,
 ⟨some 12, .bin .plain .mul (.tmp 7) (.tmp 11), none, []⟩,
 ⟨some 3, .move (.tmp 12), none, []⟩]
def k_mount_stretched_r2 : List AOper := [
  ⟨some 13, .fieldAddr 3 (.tmp 1), none, []⟩,
 ⟨some 14, .fieldAddr 1 (.tmp 13), none, []⟩,
 ⟨some 15, .load none (.tmp 14), none, []⟩,
 ⟨some 16, .fieldAddr 5 (.tmp 1), none, []⟩,
 ⟨some 17, .fieldAddr 1 (.tmp 16), none, []⟩,
 ⟨some 18, .load none (.tmp 17), none, []⟩,
 ⟨some 19, .bin .plain .add (.const (.int .i64 1000000)) (.tmp 18), none, []⟩,
 ⟨some 20, .bin .plain .mul (.tmp 15) (.tmp 19), none, []⟩,
 ⟨some 4, .move (.tmp 20), none, []⟩]
def k_mount_stretched_r3 : List AOper := [
  ⟨some 21, .move (.tmp 3), none, []⟩,
 ⟨some 22, .bin .plain .quo (.tmp 21) (.const (.int .i64 1000000)), none, []⟩,
 ⟨some 23, .move (.tmp 4), none, []⟩,
 ⟨some 24, .bin .plain .add (.tmp 23) (.const (.int .i64 1000000)), none, []⟩,
 ⟨some 25, .bin .plain .sub (.tmp 24) (.const (.int .i64 1)), none, []⟩,
 ⟨some 26, .bin .plain .quo (.tmp 25) (.const (.int .i64 1000000)), none, []⟩,
 ⟨some 27, .build [.int .i64 0, .int .i64 0] [(0, 1, .tmp 22), (1, 1, .tmp 26)], none, []⟩,
 ⟨none, .store 2 (.tmp 2) (.tmp 27), none, []⟩]
def k_mount_stretched : AFun := { params := 1, ntmps := 28, body := (.seq (.reg k_mount_stretched_r0 false) (.seq (.reg k_mount_stretched_r1 false) (.seq (.reg k_mount_stretched_r2 false) (.seq (.reg k_mount_stretched_r3 false) .ret)))), res := [.cell 2 (some ((some (2))))] }
theorem k_mount_stretched_ok : cfun Try.prog Try.f108 = k_mount_stretched := by kernel_rfl

def k_mount_between_r0 : List AOper := [
  ⟨some 5, .box (.tmp 2), none, []⟩,
 ⟨some 6, .box (.const (.agg [.int .i64 0, .int .i64 0, .int .i64 0, .int .i64 0])), none, []⟩]
def k_mount_between_r1 : List AOper := [
  ⟨some 7, .move (.tmp 0), none, []⟩,
 ⟨some 8, .move (.tmp 1), none, []⟩,
 ⟨some 9, .load (some (2)) (.tmp 5), none, []⟩,
 ⟨some 10, .build [.int .i64 0, .int .i64 0, .int .i64 0, .int .i64 0] [(0, 1, .tmp 7), (1, 1, .tmp 8), (2, 2, .tmp 9)], none, []⟩,
 ⟨none, .store 4 (.tmp 6) (.tmp 10), none, []⟩]
def k_mount_between : AFun := { params := 3, ntmps := 11, body := (.seq (.reg k_mount_between_r0 false) (.seq (.reg k_mount_between_r1 false) .ret)), res := [.cell 6 (some ((some (4))))] }
theorem k_mount_between_ok : cfun Try.prog Try.f109 = k_mount_between := by kernel_rfl

def k_ref04_checkWinding_r0 : List AOper := [
  ⟨some 1, .box (.tmp 0), none, []⟩,
 ⟨some 2, .move (.const (.int .i64 0)), none, []⟩]
def k_ref04_checkWinding_r1 : List AOper := [
  ⟨some 7, .fieldAddr 0 (.tmp 1), none, []⟩,
 ⟨some 8, .load none (.tmp 7), none, []⟩,
 ⟨some 9, .call (.const (.fn (.func 94) [] [])) [.tmp 8, .const (.int .i64 1), .const (.int .i64 11)], none, []⟩,
 ⟨some 10, .not (.tmp 9), none, []⟩]
def k_ref04_checkWinding_r2 : List AOper := [
  ⟨some 2, .move (.const (.int .i64 2)), none, []⟩]
def k_ref04_checkWinding_r3 : List AOper := [
  ⟨some 11, .fieldAddr 1 (.tmp 1), none, []⟩,
 ⟨some 12, .load (some (2)) (.tmp 11), none, []⟩,
 ⟨some 13, .fieldAddr 3 (.tmp 1), none, []⟩,
 ⟨some 14, .load (some (2)) (.tmp 13), none, []⟩,
 ⟨some 15, .fieldAddr 5 (.tmp 1), none, []⟩,
 ⟨some 16, .load (some (2)) (.tmp 15), none, []⟩,
 ⟨some 17, .fieldAddr 7 (.tmp 1), none, []⟩,
 ⟨some 18, .load (some (2)) (.tmp 17), none, []⟩,
 ⟨some 19, .fieldAddr 9 (.tmp 1), none, []⟩,
 ⟨some 20, .load (some (2)) (.tmp 19), none, []⟩,
 ⟨some 21, .buildSlice 2 [.tmp 12, .tmp 14, .tmp 16, .tmp 18, .tmp 20], none, []⟩,
 ⟨some 3, .move (.tmp 21), none, []⟩]
def k_ref04_checkWinding_r4 : List AOper := [
  ⟨some 22, .buildSlice 1 [.const (.int .i64 1), .const (.int .i64 1), .const (.int .i64 0), .const (.int .i64 0), .const (.int .i64 0)], none, []⟩,
 ⟨some 4, .move (.tmp 22), none, []⟩]
def k_ref04_checkWinding_r5 : List AOper := [
  ⟨some 23, .buildSlice 1 [.const (.int .i64 10000), .const (.int .i64 10000), .const (.int .i64 1000000), .const (.int .i64 1000000), .const (.int .i64 1000000)], none, []⟩,
 ⟨some 5, .move (.tmp 23), none, []⟩]
def k_ref04_checkWinding_r6 : List AOper := [
  ⟨some 6, .move (.const (.int .i64 0)), none, []⟩]
def k_ref04_checkWinding_r7 : List AOper := [
  ⟨some 24, .move (.tmp 6), none, []⟩,
 ⟨some 25, .move (.tmp 3), none, []⟩,
 ⟨some 26, .len false (.tmp 25), none, []⟩,
 ⟨some 27, .bin .plain .lss (.tmp 24) (.tmp 26), none, []⟩]
def k_ref04_checkWinding_r8 : List AOper := [
  ⟨some 30, .move (.tmp 3), none, []⟩,
 ⟨some 31, .move (.tmp 6), none, [0]⟩,
 ⟨some 32, .indexAddr 2 (.tmp 30) (.tmp 31), none, []⟩,
 ⟨some 33, .fieldAddr 0 (.tmp 32), none, []⟩,
 ⟨some 34, .load none (.tmp 33), none, []⟩,
 ⟨some 35, .move (.tmp 3), none, [0, 1, 2, 3, 4]⟩,
 ⟨some 36, .move (.tmp 6), none, [0, 1, 2, 3, 4, 5]⟩,
 ⟨some 37, .indexAddr 2 (.tmp 35) (.tmp 36), none, [0, 1, 2, 3, 4]⟩,
 ⟨some 38, .fieldAddr 1 (.tmp 37), none, [0, 1, 2, 3, 4]⟩,
 ⟨some 39, .load none (.tmp 38), none, [0, 1, 2, 3, 4]⟩,
 ⟨some 40, .bin .plain .gtr (.tmp 34) (.tmp 39), none, []⟩]
def k_ref04_checkWinding_r8s : List (List AOper) := [
  [
  ⟨some 30, .move (.tmp 3), none, []⟩,
 ⟨some 31, .move (.tmp 6), none, [0]⟩,
 ⟨some 32, .indexAddr 2 (.tmp 30) (.tmp 31), none, []⟩,
 ⟨some 33, .fieldAddr 0 (.tmp 32), none, []⟩,
 ⟨some 34, .load none (.tmp 33), none, []⟩,
 ⟨some 35, .move (.tmp 3), none, [0, 1, 2, 3, 4]⟩,
 ⟨some 36, .move (.tmp 6), none, [0, 1, 2, 3, 4, 5]⟩,
 ⟨some 37, .indexAddr 2 (.tmp 35) (.tmp 36), none, [0, 1, 2, 3, 4]⟩,
 ⟨some 38, .fieldAddr 1 (.tmp 37), none, [0, 1, 2, 3, 4]⟩,
 ⟨some 39, .load none (.tmp 38), none, [0, 1, 2, 3, 4]⟩], 
  [
  ⟨some 40, .bin .plain .gtr (.tmp 34) (.tmp 39), none, []⟩]]
theorem k_ref04_checkWinding_r8_sg : segs k_ref04_checkWinding_r8 = k_ref04_checkWinding_r8s := by kernel_rfl
theorem k_ref04_checkWinding_r8_st : statOK k_ref04_checkWinding_r8 = true := by kernel_rfl
def k_ref04_checkWinding_r9 : List AOper := [
  ⟨some 2, .move (.const (.int .i64 11)), none, []⟩]
def k_ref04_checkWinding_r10 : List AOper := [
  ⟨some 41, .move (.tmp 3), none, []⟩,
 ⟨some 42, .move (.tmp 6), none, [0]⟩,
 ⟨some 43, .indexAddr 2 (.tmp 41) (.tmp 42), none, []⟩,
 ⟨some 44, .fieldAddr 0 (.tmp 43), none, []⟩,
 ⟨some 45, .load none (.tmp 44), none, []⟩,
 ⟨some 46, .move (.tmp 4), none, [0, 1, 2, 3, 4]⟩,
 ⟨some 47, .move (.tmp 6), none, [0, 1, 2, 3, 4, 5]⟩,
 ⟨some 48, .indexAddr 1 (.tmp 46) (.tmp 47), none, [0, 1, 2, 3, 4]⟩,
 ⟨some 49, .load none (.tmp 48), none, [0, 1, 2, 3, 4]⟩,
 ⟨some 50, .bin .plain .lss (.tmp 45) (.tmp 49), none, []⟩,
 ⟨some 51, .move (.tmp 50), none, []⟩,
 ⟨some 52, .move (.tmp 3), (some (51, false)), []⟩,
 ⟨some 53, .move (.tmp 6), (some (51, false)), [11]⟩,
 ⟨some 54, .indexAddr 2 (.tmp 52) (.tmp 53), (some (51, false)), []⟩,
 ⟨some 55, .fieldAddr 1 (.tmp 54), (some (51, false)), []⟩,
 ⟨some 56, .load none (.tmp 55), (some (51, false)), []⟩,
 ⟨some 57, .move (.tmp 5), (some (51, false)), [11, 12, 13, 14, 15]⟩,
 ⟨some 58, .move (.tmp 6), (some (51, false)), [11, 12, 13, 14, 15, 16]⟩,
 ⟨some 59, .indexAddr 1 (.tmp 57) (.tmp 58), (some (51, false)), [11, 12, 13, 14, 15]⟩,
 ⟨some 60, .load none (.tmp 59), (some (51, false)), [11, 12, 13, 14, 15]⟩,
 ⟨some 61, .bin .plain .gtr (.tmp 56) (.tmp 60), (some (51, false)), []⟩,
 ⟨some 62, .pick (.tmp 51) (.const (.bool true)) (.tmp 61), none, []⟩]
def k_ref04_checkWinding_r10s : List (List AOper) := [
  [
  ⟨some 41, .move (.tmp 3), none, []⟩,
 ⟨some 42, .move (.tmp 6), none, [0]⟩,
 ⟨some 43, .indexAddr 2 (.tmp 41) (.tmp 42), none, []⟩,
 ⟨some 44, .fieldAddr 0 (.tmp 43), none, []⟩,
 ⟨some 45, .load none (.tmp 44), none, []⟩,
 ⟨some 46, .move (.tmp 4), none, [0, 1, 2, 3, 4]⟩,
 ⟨some 47, .move (.tmp 6), none, [0, 1, 2, 3, 4, 5]⟩,
 ⟨some 48, .indexAddr 1 (.tmp 46) (.tmp 47), none, [0, 1, 2, 3, 4]⟩,
 ⟨some 49, .load none (.tmp 48), none, [0, 1, 2, 3, 4]⟩], 
  [
  ⟨some 50, .bin .plain .lss (.tmp 45) (.tmp 49), none, []⟩], 
  [
  ⟨some 51, .move (.tmp 50), none, []⟩], 
  [
  ⟨some 52, .move (.tmp 3), (some (51, false)), []⟩,
 ⟨some 53, .move (.tmp 6), (some (51, false)), [11]⟩,
 ⟨some 54, .indexAddr 2 (.tmp 52) (.tmp 53), (some (51, false)), []⟩,
 ⟨some 55, .fieldAddr 1 (.tmp 54), (some (51, false)), []⟩,
 ⟨some 56, .load none (.tmp 55), (some (51, false)), []⟩,
 ⟨some 57, .move (.tmp 5), (some (51, false)), [11, 12, 13, 14, 15]⟩,
 ⟨some 58, .move (.tmp 6), (some (51, false)), [11, 12, 13, 14, 15, 16]⟩,
 ⟨some 59, .indexAddr 1 (.tmp 57) (.tmp 58), (some (51, false)), [11, 12, 13, 14, 15]⟩,
 ⟨some 60, .load none (.tmp 59), (some (51, false)), [11, 12, 13, 14, 15]⟩], 
  [
  ⟨some 61, .bin .plain .gtr (.tmp 56) (.tmp 60), (some (51, false)), []⟩], 
  [
  ⟨some 62, .pick (.tmp 51) (.const (.bool true)) (.tmp 61), none, []⟩]]
theorem k_ref04_checkWinding_r10_sg : segs k_ref04_checkWinding_r10 = k_ref04_checkWinding_r10s := by kernel_rfl
theorem k_ref04_checkWinding_r10_st : statOK k_ref04_checkWinding_r10 = true := by kernel_rfl
def k_ref04_checkWinding_r11 : List AOper := [
  ⟨some 2, .move (.const (.int .i64 2)), none, []⟩]
def k_ref04_checkWinding_r12 : List AOper := [
  ⟨some 28, .move (.tmp 6), none, []⟩,
 ⟨some 29, .bin .plain .add (.tmp 28) (.const (.int .i64 1)), none, []⟩,
 ⟨some 6, .move (.tmp 29), none, []⟩]
def k_ref04_checkWinding_r13 : ACode := (.seq (.seq (.reg k_ref04_checkWinding_r7 false) (.cond (.tmp 27) .skip (.exit 0))) (.seq (.block 1 (.seq (.seq (.reg k_ref04_checkWinding_r8 true) (.cond (.tmp 40) (.seq (.reg k_ref04_checkWinding_r9 false) .ret) .skip)) (.seq (.reg k_ref04_checkWinding_r10 true) (.cond (.tmp 62) (.seq (.reg k_ref04_checkWinding_r11 false) .ret) .skip)))) (.reg k_ref04_checkWinding_r12 false)))
def k_ref04_checkWinding_r14 : List AOper := [
  ⟨some 2, .move (.const (.int .i64 0)), none, []⟩]
def k_ref04_checkWinding : AFun := { params := 1, ntmps := 63, body := (.seq (.reg k_ref04_checkWinding_r0 false) (.seq (.seq (.reg k_ref04_checkWinding_r1 false) (.cond (.tmp 10) (.seq (.reg k_ref04_checkWinding_r2 false) .ret) .skip)) (.seq (.reg k_ref04_checkWinding_r3 false) (.seq (.reg k_ref04_checkWinding_r4 false) (.seq (.reg k_ref04_checkWinding_r5 false) (.seq (.seq (.reg k_ref04_checkWinding_r6 false) (.block 0 (.loop k_ref04_checkWinding_r13))) (.seq (.reg k_ref04_checkWinding_r14 false) .ret))))))), res := [.tmp 2] }
theorem k_ref04_checkWinding_ok : cfun Try.prog Try.f110 = k_ref04_checkWinding := by kernel_rfl

def k_mount_locksOf_r0 : List AOper := [
  ⟨some 1, .box (.tmp 0), none, []⟩,
 ⟨some 2, .box (.const (.agg [.nilsl, .nilsl])), none, []⟩]
def k_mount_locksOf_r1 : List AOper := [
  ⟨some 3, .box (.const (.agg [.nilsl, .nilsl])), none, []⟩]
def k_mount_locksOf_r2 : List AOper := [
  ⟨some 6, .fieldAddr 0 (.tmp 1), none, []⟩,
 ⟨some 7, .load none (.tmp 6), none, []⟩,
 ⟨some 8, .len false (.tmp 7), none, []⟩,
 ⟨some 9, .move (.const (.int .i64 0)), none, []⟩]
def k_mount_locksOf_r3 : List AOper := [
  ⟨some 10, .bin .plain .lss (.tmp 9) (.tmp 8), none, []⟩]
def k_mount_locksOf_r4 : List AOper := [
  ⟨some 11, .indexAddr 4 (.tmp 7) (.tmp 9), none, []⟩,
 ⟨some 12, .load (some (4)) (.tmp 11), none, []⟩,
 ⟨some 5, .box (.const (.agg [.nilsl, .nilsl, .int .i64 0, .int .i64 0])), none, []⟩,
 ⟨none, .store 4 (.tmp 5) (.tmp 12), none, []⟩]
def k_mount_locksOf_r5 : List AOper := [
  ⟨some 13, .fieldAddr 0 (.tmp 3), none, []⟩,
 ⟨some 14, .load none (.tmp 13), none, []⟩,
 ⟨some 15, .fieldAddr 0 (.tmp 5), none, [0, 1]⟩,
 ⟨some 16, .load none (.tmp 15), none, [0, 1]⟩,
 ⟨some 17, .call (.const (.fn (.func 114) [] [])) [.tmp 16], none, [0, 1]⟩,
 ⟨some 18, .buildSlice 1 [.tmp 17], none, [0, 1]⟩,
 ⟨some 19, .append 1 2 false (.tmp 14) (.tmp 18), none, []⟩,
 ⟨some 20, .fieldAddr 0 (.tmp 3), none, []⟩,
 ⟨none, .store 1 (.tmp 20) (.tmp 19), none, []⟩]
def k_mount_locksOf_r5s : List (List AOper) := [
  [
  ⟨some 13, .fieldAddr 0 (.tmp 3), none, []⟩,
 ⟨some 14, .load none (.tmp 13), none, []⟩,
 ⟨some 15, .fieldAddr 0 (.tmp 5), none, [0, 1]⟩,
 ⟨some 16, .load none (.tmp 15), none, [0, 1]⟩,
 ⟨some 17, .call (.const (.fn (.func 114) [] [])) [.tmp 16], none, [0, 1]⟩,
 ⟨some 18, .buildSlice 1 [.tmp 17], none, [0, 1]⟩], 
  [
  ⟨some 19, .append 1 2 false (.tmp 14) (.tmp 18), none, []⟩], 
  [
  ⟨some 20, .fieldAddr 0 (.tmp 3), none, []⟩], 
  [
  ⟨none, .store 1 (.tmp 20) (.tmp 19), none, []⟩]]
theorem k_mount_locksOf_r5_sg : segs k_mount_locksOf_r5 = k_mount_locksOf_r5s := by kernel_rfl
theorem k_mount_locksOf_r5_st : statOK k_mount_locksOf_r5 = true := by kernel_rfl
def k_mount_locksOf_r6 : List AOper := [
  ⟨some 21, .fieldAddr 1 (.tmp 3), none, []⟩,
 ⟨some 22, .load none (.tmp 21), none, []⟩,
 ⟨some 23, .fieldAddr 1 (.tmp 5), none, [0, 1]⟩,
 ⟨some 24, .load none (.tmp 23), none, [0, 1]⟩,
 ⟨some 25, .call (.const (.fn (.func 114) [] [])) [.tmp 24], none, [0, 1]⟩,
 ⟨some 26, .buildSlice 1 [.tmp 25], none, [0, 1]⟩,
 ⟨some 27, .append 1 2 false (.tmp 22) (.tmp 26), none, []⟩,
 ⟨some 28, .fieldAddr 1 (.tmp 3), none, []⟩,
 ⟨none, .store 1 (.tmp 28) (.tmp 27), none, []⟩]
def k_mount_locksOf_r6s : List (List AOper) := [
  [
  ⟨some 21, .fieldAddr 1 (.tmp 3), none, []⟩,
 ⟨some 22, .load none (.tmp 21), none, []⟩,
 ⟨some 23, .fieldAddr 1 (.tmp 5), none, [0, 1]⟩,
 ⟨some 24, .load none (.tmp 23), none, [0, 1]⟩,
 ⟨some 25, .call (.const (.fn (.func 114) [] [])) [.tmp 24], none, [0, 1]⟩,
 ⟨some 26, .buildSlice 1 [.tmp 25], none, [0, 1]⟩], 
  [
  ⟨some 27, .append 1 2 false (.tmp 22) (.tmp 26), none, []⟩], 
  [
  ⟨some 28, .fieldAddr 1 (.tmp 3), none, []⟩], 
  [
  ⟨none, .store 1 (.tmp 28) (.tmp 27), none, []⟩]]
theorem k_mount_locksOf_r6_sg : segs k_mount_locksOf_r6 = k_mount_locksOf_r6s := by kernel_rfl
theorem k_mount_locksOf_r6_st : statOK k_mount_locksOf_r6 = true := by kernel_rfl
def k_mount_locksOf_r7 : List AOper := [
  ⟨some 29, .bin .plain .add (.tmp 9) (.const (.int .i64 1)), none, []⟩,
 ⟨some 9, .move (.tmp 29), none, []⟩]
def k_mount_locksOf_r8 : ACode := (.seq (.reg k_mount_locksOf_r3 false) (.seq (.cond (.tmp 10) .skip (.exit 0)) (.seq (.block 1 (.seq (.reg k_mount_locksOf_r4 false) (.seq (.reg k_mount_locksOf_r5 true) (.reg k_mount_locksOf_r6 true)))) (.reg k_mount_locksOf_r7 false))))
def k_mount_locksOf_r9 : List AOper := [
  ⟨some 30, .load (some (2)) (.tmp 3), none, []⟩,
 ⟨none, .store 2 (.tmp 2) (.tmp 30), none, []⟩]
def k_mount_locksOf : AFun := { params := 1, ntmps := 31, body := (.seq (.reg k_mount_locksOf_r0 false) (.seq (.reg k_mount_locksOf_r1 false) (.seq (.seq (.reg k_mount_locksOf_r2 false) (.block 0 (.loop k_mount_locksOf_r8))) (.seq (.reg k_mount_locksOf_r9 false) .ret)))), res := [.cell 2 (some ((some (2))))] }
theorem k_mount_locksOf_ok : cfun Try.prog Try.f112 = k_mount_locksOf := by kernel_rfl

def k_mount_locks_may_r0 : List AOper := [
  ⟨some 2, .box (.tmp 0), none, []⟩,
 ⟨some 3, .box (.tmp 1), none, []⟩,
 ⟨some 4, .move (.const (.nilsl)), none, []⟩]
def k_mount_locks_may_r1 : List AOper := [
  ⟨some 5, .load (some (2)) (.tmp 2), none, []⟩,
 ⟨some 6, .makeFunc (.func 152) [] [.tmp 3, .tmp 2], none, []⟩,
 ⟨some 7, .call (.const (.fn (.func 151) [] [])) [.tmp 5, .tmp 6], none, []⟩,
 ⟨some 4, .move (.tmp 7), none, []⟩]
def k_mount_locks_may : AFun := { params := 2, ntmps := 8, body := (.seq (.reg k_mount_locks_may_r0 false) (.seq (.reg k_mount_locks_may_r1 false) .ret)), res := [.tmp 4] }
theorem k_mount_locks_may_ok : cfun Try.prog Try.f113 = k_mount_locks_may := by kernel_rfl

def k_mount_setOf_r0 : List AOper := [
  ⟨some 2, .move (.const (.int .u16 0)), none, []⟩]
def k_mount_setOf_r1 : List AOper := [
  ⟨some 3, .move (.const (.int .u16 0)), none, []⟩]
def k_mount_setOf_r2 : List AOper := [
  ⟨some 6, .move (.tmp 0), none, []⟩,
 ⟨some 7, .len false (.tmp 6), none, []⟩,
 ⟨some 8, .move (.const (.int .i64 0)), none, []⟩]
def k_mount_setOf_r3 : List AOper := [
  ⟨some 9, .bin .plain .lss (.tmp 8) (.tmp 7), none, []⟩]
def k_mount_setOf_r4 : List AOper := [
  ⟨some 10, .indexAddr 1 (.tmp 6) (.tmp 8), none, []⟩,
 ⟨some 11, .load none (.tmp 10), none, []⟩,
 ⟨some 5, .move (.tmp 11), none, []⟩]
def k_mount_setOf_r5 : List AOper := [
  ⟨some 12, .move (.tmp 3), none, []⟩,
 ⟨some 13, .move (.tmp 5), none, []⟩,
 ⟨some 14, .call (.const (.fn (.func 123) [] [])) [.tmp 12, .tmp 13], none, []⟩,
 ⟨some 3, .move (.tmp 14), none, []⟩]
def k_mount_setOf_r6 : List AOper := [
  ⟨some 15, .bin .plain .add (.tmp 8) (.const (.int .i64 1)), none, []⟩,
 ⟨some 8, .move (.tmp 15), none, []⟩]
def k_mount_setOf_r7 : ACode := (.seq (.reg k_mount_setOf_r3 false) (.seq (.cond (.tmp 9) .skip (.exit 0)) (.seq (.block 1 (.seq (.reg k_mount_setOf_r4 false) (.reg k_mount_setOf_r5 false))) (.reg k_mount_setOf_r6 false))))
def k_mount_setOf_r8 : List AOper := [
  ⟨some 16, .move (.tmp 3), none, []⟩,
 ⟨some 2, .move (.tmp 16), none, []⟩]
def k_mount_setOf : AFun := { params := 1, ntmps := 17, body := (.seq (.reg k_mount_setOf_r0 false) (.seq (.reg k_mount_setOf_r1 false) (.seq (.seq (.reg k_mount_setOf_r2 false) (.block 0 (.loop k_mount_setOf_r7))) (.seq (.reg k_mount_setOf_r8 false) .ret)))), res := [.tmp 2] }
theorem k_mount_setOf_ok : cfun Try.prog Try.f114 = k_mount_setOf := by kernel_rfl

def k_mount_newCounter_r0 : List AOper := [
  ⟨some 1, .box (.tmp 0), none, []⟩,
 ⟨some 2, .box (.const (.agg [.nilsl, .nilsl, .nilmap])), none, []⟩]
def k_mount_newCounter_r1 : List AOper := [
  ⟨some 3, .load (some (2)) (.tmp 1), none, []⟩,
 ⟨some 4, .call (.const (.fn (.func 112) [] [])) [.tmp 3], none, []⟩,
 ⟨some 5, .makeMap .u16, none, []⟩,
 ⟨some 6, .build [.nilsl, .nilsl, .nilmap] [(0, 2, .tmp 4), (2, 1, .tmp 5)], none, []⟩,
 ⟨none, .store 3 (.tmp 2) (.tmp 6), none, []⟩]
def k_mount_newCounter : AFun := { params := 1, ntmps := 7, body := (.seq (.reg k_mount_newCounter_r0 false) (.seq (.reg k_mount_newCounter_r1 false) .ret)), res := [.cell 2 (some ((some (3))))] }
theorem k_mount_newCounter_ok : cfun Try.prog Try.f117 = k_mount_newCounter := by kernel_rfl

def k_mount_checkOthers_r0 : List AOper := [
  ⟨some 3, .box (.tmp 0), none, []⟩,
 ⟨some 6, .move (.const (.int .i64 0)), none, []⟩]
def k_mount_checkOthers_r1 : List AOper := [
  ⟨some 9, .move (.tmp 2), none, []⟩,
 ⟨some 10, .len false (.tmp 9), none, []⟩,
 ⟨some 11, .move (.const (.int .i64 0)), none, []⟩]
def k_mount_checkOthers_r2 : List AOper := [
  ⟨some 12, .bin .plain .lss (.tmp 11) (.tmp 10), none, []⟩]
def k_mount_checkOthers_r3 : List AOper := [
  ⟨some 13, .move (.tmp 11), none, []⟩,
 ⟨some 14, .indexAddr 1 (.tmp 9) (.tmp 11), none, []⟩,
 ⟨some 15, .load none (.tmp 14), none, []⟩,
 ⟨some 7, .move (.tmp 13), none, []⟩,
 ⟨some 8, .move (.tmp 15), none, []⟩]
def k_mount_checkOthers_r4 : List AOper := [
  ⟨some 17, .load (some (2)) (.tmp 3), none, []⟩,
 ⟨some 18, .move (.tmp 8), none, []⟩,
 ⟨some 19, .call (.const (.fn (.func 150) [] [])) [.tmp 17, .tmp 18], none, []⟩,
 ⟨some 20, .not (.tmp 19), none, []⟩,
 ⟨some 16, .move (.tmp 20), none, []⟩]
def k_mount_checkOthers_r5 : List AOper := [
  ⟨some 6, .move (.const (.int .i64 7)), none, []⟩]
def k_mount_checkOthers_r6 : List AOper := [
  ⟨some 22, .move (.tmp 8), none, []⟩,
 ⟨some 23, .move (.tmp 1), none, []⟩,
 ⟨some 24, .bin .plain .eql (.tmp 22) (.tmp 23), none, []⟩,
 ⟨some 21, .move (.tmp 24), none, []⟩]
def k_mount_checkOthers_r7 : List AOper := [
  ⟨some 6, .move (.const (.int .i64 9)), none, []⟩]
def k_mount_checkOthers_r8 : List AOper := [
  ⟨some 26, .move (.tmp 7), none, []⟩,
 ⟨some 27, .bin .plain .gtr (.tmp 26) (.const (.int .i64 0)), none, []⟩,
 ⟨some 28, .move (.tmp 27), none, []⟩,
 ⟨some 29, .move (.tmp 8), (some (28, true)), []⟩,
 ⟨some 30, .move (.tmp 2), (some (28, true)), []⟩,
 ⟨some 31, .move (.tmp 7), (some (28, true)), []⟩,
 ⟨some 32, .bin .plain .sub (.tmp 31) (.const (.int .i64 1)), (some (28, true)), []⟩,
 ⟨some 33, .indexAddr 1 (.tmp 30) (.tmp 32), (some (28, true)), []⟩,
 ⟨some 34, .load none (.tmp 33), (some (28, true)), []⟩,
 ⟨some 35, .bin .plain .leq (.tmp 29) (.tmp 34), (some (28, true)), []⟩,
 ⟨some 36, .pick (.tmp 28) (.tmp 35) (.const (.bool false)), none, []⟩,
 ⟨some 25, .move (.tmp 36), none, []⟩]
def k_mount_checkOthers_r9 : List AOper := [
  ⟨some 6, .move (.const (.int .i64 11)), none, []⟩]
def k_mount_checkOthers_r10 : List AOper := [
  ⟨some 37, .bin .plain .add (.tmp 11) (.const (.int .i64 1)), none, []⟩,
 ⟨some 11, .move (.tmp 37), none, []⟩]
def k_mount_checkOthers_r11 : ACode := (.seq (.reg k_mount_checkOthers_r2 false) (.seq (.cond (.tmp 12) .skip (.exit 0)) (.seq (.block 1 (.seq (.reg k_mount_checkOthers_r3 false) (.block 2 (.seq (.reg k_mount_checkOthers_r4 false) (.cond (.tmp 16) (.seq (.reg k_mount_checkOthers_r5 false) .ret) (.seq (.reg k_mount_checkOthers_r6 false) (.cond (.tmp 21) (.seq (.reg k_mount_checkOthers_r7 false) .ret) (.seq (.reg k_mount_checkOthers_r8 false) (.cond (.tmp 25) (.seq (.reg k_mount_checkOthers_r9 false) .ret) .skip))))))))) (.reg k_mount_checkOthers_r10 false))))
def k_mount_checkOthers_r12 : List AOper := [
  ⟨some 6, .move (.const (.int .i64 0)), none, []⟩]
def k_mount_checkOthers : AFun := { params := 3, ntmps := 38, body := (.seq (.reg k_mount_checkOthers_r0 false) (.seq (.seq (.reg k_mount_checkOthers_r1 false) (.block 0 (.loop k_mount_checkOthers_r11))) (.seq (.reg k_mount_checkOthers_r12 false) .ret))), res := [.tmp 6] }
theorem k_mount_checkOthers_ok : cfun Try.prog Try.f120 = k_mount_checkOthers := by kernel_rfl

def k_mount_locks_isWhole_r0 : List AOper := [
  ⟨some 2, .box (.tmp 0), none, []⟩,
 ⟨some 4, .move (.const (.bool false)), none, []⟩]
def k_mount_locks_isWhole_r1 : List AOper := [
  ⟨some 5, .move (.tmp 1), none, []⟩,
 ⟨some 6, .fieldAddr 0 (.tmp 2), none, []⟩,
 ⟨some 7, .load none (.tmp 6), none, []⟩,
 ⟨some 8, .len false (.tmp 7), none, []⟩,
 ⟨some 9, .bin .plain .shl (.const (.int .u16 1)) (.tmp 8), none, []⟩,
 ⟨some 10, .bin .plain .sub (.tmp 9) (.const (.int .u16 1)), none, []⟩,
 ⟨some 11, .bin .plain .eql (.tmp 5) (.tmp 10), none, []⟩,
 ⟨some 4, .move (.tmp 11), none, []⟩]
def k_mount_locks_isWhole : AFun := { params := 2, ntmps := 12, body := (.seq (.reg k_mount_locks_isWhole_r0 false) (.seq (.reg k_mount_locks_isWhole_r1 false) .ret)), res := [.tmp 4] }
theorem k_mount_locks_isWhole_ok : cfun Try.prog Try.f122 = k_mount_locks_isWhole := by kernel_rfl

def k_mount_set_with_r0 : List AOper := [
  ⟨some 4, .move (.const (.int .u16 0)), none, []⟩]
def k_mount_set_with_r1 : List AOper := [
  ⟨some 5, .move (.tmp 0), none, []⟩,
 ⟨some 6, .move (.tmp 1), none, []⟩,
 ⟨some 7, .bin .plain .shl (.const (.int .u16 1)) (.tmp 6), none, []⟩,
 ⟨some 8, .bin .plain .or (.tmp 5) (.tmp 7), none, []⟩,
 ⟨some 4, .move (.tmp 8), none, []⟩]
def k_mount_set_with : AFun := { params := 2, ntmps := 9, body := (.seq (.reg k_mount_set_with_r0 false) (.seq (.reg k_mount_set_with_r1 false) .ret)), res := [.tmp 4] }
theorem k_mount_set_with_ok : cfun Try.prog Try.f123 = k_mount_set_with := by kernel_rfl

def k_mount_counter_count_r0 : List AOper := [
  ⟨some 2, .box (.tmp 0), none, []⟩,
 ⟨some 4, .move (.const (.int .i64 0)), none, []⟩]
def k_mount_counter_count_r1 : List AOper := [
  ⟨some 10, .fieldAddr 0 (.tmp 2), none, []⟩,
 ⟨some 11, .load (some (2)) (.tmp 10), none, []⟩,
 ⟨some 12, .move (.tmp 1), none, []⟩,
 ⟨some 13, .call (.const (.fn (.func 122) [] [])) [.tmp 11, .tmp 12], none, []⟩]
def k_mount_counter_count_r2 : List AOper := [
  ⟨some 4, .move (.const (.int .i64 1)), none, []⟩]
def k_mount_counter_count_r3 : List AOper := [
  ⟨some 15, .fieldAddr 2 (.tmp 2), none, []⟩,
 ⟨some 16, .load none (.tmp 15), none, []⟩,
 ⟨some 17, .move (.tmp 1), none, []⟩,
 ⟨some 18, .lookup .u16 (.int .i64 0) true (.tmp 16) (.tmp 17), none, []⟩,
 ⟨some 14, .move (.tmp 18), none, []⟩,
 ⟨some 19, .extract (.tmp 14) 0, none, []⟩,
 ⟨some 20, .extract (.tmp 14) 1, none, []⟩,
 ⟨some 5, .move (.tmp 19), none, []⟩,
 ⟨some 6, .move (.tmp 20), none, []⟩]
def k_mount_counter_count_r4 : List AOper := [
  ⟨some 21, .move (.tmp 6), none, []⟩]
def k_mount_counter_count_r5 : List AOper := [
  ⟨some 22, .move (.tmp 5), none, []⟩,
 ⟨some 4, .move (.tmp 22), none, []⟩]
def k_mount_counter_count_r6 : List AOper := [
  ⟨some 7, .move (.const (.int .i64 0)), none, []⟩]
def k_mount_counter_count_r7 : List AOper := [
  ⟨some 23, .fieldAddr 0 (.tmp 2), none, []⟩,
 ⟨some 24, .load (some (2)) (.tmp 23), none, []⟩,
 ⟨some 25, .move (.tmp 1), none, []⟩,
 ⟨some 26, .call (.const (.fn (.func 113) [] [])) [.tmp 24, .tmp 25], none, []⟩,
 ⟨some 27, .len false (.tmp 26), none, []⟩,
 ⟨some 28, .move (.const (.int .i64 0)), none, []⟩]
def k_mount_counter_count_r8 : List AOper := [
  ⟨some 29, .bin .plain .lss (.tmp 28) (.tmp 27), none, []⟩]
def k_mount_counter_count_r9 : List AOper := [
  ⟨some 30, .indexAddr 1 (.tmp 26) (.tmp 28), none, []⟩,
 ⟨some 31, .load none (.tmp 30), none, []⟩,
 ⟨some 9, .move (.tmp 31), none, []⟩]
def k_mount_counter_count_r10 : List AOper := [
  ⟨some 32, .move (.tmp 7), none, []⟩,
 ⟨some 33, .load (some (3)) (.tmp 2), none, [0]⟩,
 ⟨some 34, .move (.tmp 1), none, [0, 1]⟩,
 ⟨some 35, .move (.tmp 9), none, [0, 1, 2]⟩,
 ⟨some 36, .call (.const (.fn (.func 123) [] [])) [.tmp 34, .tmp 35], none, [0, 1]⟩,
 ⟨some 37, .call (.const (.fn (.func 126) [] [])) [.tmp 33, .tmp 36], none, [0]⟩,
 ⟨some 38, .bin .plain .add (.tmp 32) (.tmp 37), none, []⟩,
 ⟨some 7, .move (.tmp 38), none, []⟩]
def k_mount_counter_count_r10s : List (List AOper) := [
  [
  ⟨some 32, .move (.tmp 7), none, []⟩,
 ⟨some 33, .load (some (3)) (.tmp 2), none, [0]⟩,
 ⟨some 34, .move (.tmp 1), none, [0, 1]⟩,
 ⟨some 35, .move (.tmp 9), none, [0, 1, 2]⟩,
 ⟨some 36, .call (.const (.fn (.func 123) [] [])) [.tmp 34, .tmp 35], none, [0, 1]⟩,
 ⟨some 37, .call (.const (.fn (.func 126) [] [])) [.tmp 33, .tmp 36], none, [0]⟩], 
  [
  ⟨some 38, .bin .plain .add (.tmp 32) (.tmp 37), none, []⟩], 
  [
  ⟨some 7, .move (.tmp 38), none, []⟩]]
theorem k_mount_counter_count_r10_sg : segs k_mount_counter_count_r10 = k_mount_counter_count_r10s := by kernel_rfl
theorem k_mount_counter_count_r10_st : statOK k_mount_counter_count_r10 = true := by kernel_rfl
def k_mount_counter_count_r11 : List AOper := [
  ⟨some 39, .bin .plain .add (.tmp 28) (.const (.int .i64 1)), none, []⟩,
 ⟨some 28, .move (.tmp 39), none, []⟩]
def k_mount_counter_count_r12 : ACode := (.seq (.reg k_mount_counter_count_r8 false) (.seq (.cond (.tmp 29) .skip (.exit 0)) (.seq (.block 1 (.seq (.reg k_mount_counter_count_r9 false) (.reg k_mount_counter_count_r10 true))) (.reg k_mount_counter_count_r11 false))))
def k_mount_counter_count_r13 : List AOper := [
  ⟨some 40, .fieldAddr 2 (.tmp 2), none, []⟩,
 ⟨some 41, .load none (.tmp 40), none, []⟩,
 ⟨some 42, .move (.tmp 1), none, []⟩,
 ⟨some 43, .move (.tmp 7), none, []⟩,
 ⟨none, .mapUpdate .u16 (.tmp 41) (.tmp 42) (.tmp 43), none, []⟩]
def k_mount_counter_count_r14 : List AOper := [
  ⟨some 44, .move (.tmp 7), none, []⟩,
 ⟨some 4, .move (.tmp 44), none, []⟩]
def k_mount_counter_count : AFun := { params := 2, ntmps := 45, body := (.seq (.reg k_mount_counter_count_r0 false) (.seq (.seq (.reg k_mount_counter_count_r1 false) (.cond (.tmp 13) (.seq (.reg k_mount_counter_count_r2 false) .ret) .skip)) (.seq (.seq (.reg k_mount_counter_count_r3 false) (.seq (.reg k_mount_counter_count_r4 false) (.cond (.tmp 21) (.seq (.reg k_mount_counter_count_r5 false) .ret) .skip))) (.seq (.reg k_mount_counter_count_r6 false) (.seq (.seq (.reg k_mount_counter_count_r7 false) (.block 0 (.loop k_mount_counter_count_r12))) (.seq (.reg k_mount_counter_count_r13 false) (.seq (.reg k_mount_counter_count_r14 false) .ret))))))), res := [.tmp 4] }
theorem k_mount_counter_count_ok : cfun Try.prog Try.f126 = k_mount_counter_count := by kernel_rfl

def k_mount_direct_r0 : List AOper := [
  ⟨some 1, .box (.tmp 0), none, []⟩,
 ⟨some 2, .box (.const (.agg [.int .i64 0, .int .i64 0, .int .i64 0, .int .i64 0, .int .i64 0, .int .i64 0, .int .i64 0, .int .i64 0, .int .i64 0, .int .i64 0, .int .i64 0, .int .i64 0, .int .i64 0, .int .i64 0, .int .i64 0, .int .i64 0, .int .i64 0, .int .i64 0, .int .i64 0, .int .i64 0, .int .i64 0, .int .i64 0, .int .i64 0, .int .i64 0, .int .i64 0, .int .i64 0, .int .i64 0, .int .i64 0, .int .i64 0, .int .i64 0, .int .i64 0, .int .i64 0, .int .i64 0, .int .i64 0, .int .i64 0, .int .i64 0, .int .i64 0, .int .i64 0, .int .i64 0, .int .i64 0, .int .i64 0, .int .i64 0, .int .i64 0, .int .i64 0, .int .i64 0, .int .i64 0, .int .i64 0, .int .i64 0, .int .i64 0, .int .i64 0, .int .i64 0, .int .i64 0, .int .i64 0, .int .i64 0, .int .i64 0, .int .i64 0, .int .i64 0, .int .i64 0, .int .i64 0, .int .i64 0, .int .i64 0, .int .i64 0, .int .i64 0, .int .i64 0, .int .i64 0, .int .i64 0, .int .i64 0, .int .i64 0, .int .i64 0, .int .i64 0, .int .i64 0, .int .i64 0, .int .i64 0, .int .i64 0, .int .i64 0, .int .i64 0, .int .i64 0, .int .i64 0, .int .i64 0, .int .i64 0, .int .i64 0, .int .i64 0, .int .i64 0, .int .i64 0, .int .i64 0, .int .i64 0, .int .i64 0, .int .i64 0, .int .i64 0, .int .i64 0, .int .i64 0, .int .i64 0, .int .i64 0, .int .i64 0, .int .i64 0, .int .i64 0, .int .i64 0, .int .i64 0, .int .i64 0, .int .i64 0, .int .i64 0, .int .i64 0, .int .i64 0, .int .i64 0, .int .i64 0, .int .i64 0, .int .i64 0, .int .i64 0, .int .i64 0, .int .i64 0, .int .i64 0, .int .i64 0, .int .i64 0, .int .i64 0, .int .i64 0, .int .i64 0, .int .i64 0, .int .i64 0, .int .i64 0, .int .i64 0, .int .i64 0, .int .i64 0, .int .i64 0, .int .i64 0, .int .i64 0, .int .i64 0, .int .i64 0, .int .i64 0, .int .i64 0, .int .i64 0, .int .i64 0, .int .i64 0, .int .i64 0, .int .i64 0, .int .i64 0, .int .i64 0, .int .i64 0, .int .i64 0, .int .i64 0, .int .i64 0, .int .i64 0, .int .i64 0, .int .i64 0, .int .i64 0, .int .i64 0, .int .i64 0, .int .i64 0, .int .i64 0, .int .i64 0, .int .i64 0, .int .i64 0, .int .i64 0, .int .i64 0, .int .i64 0, .int .i64 0, .int .i64 0, .int .i64 0, .int .i64 0, .int .i64 0, .int .i64 0, .int .i64 0, .int .i64 0, .int .i64 0, .int .i64 0, .int .i64 0, .int .i64 0, .int .i64 0, .int .i64 0, .int .i64 0, .int .i64 0, .int .i64 0, .int .i64 0, .int .i64 0, .int .i64 0, .int .i64 0, .int .i64 0, .int .i64 0, .int .i64 0, .int .i64 0, .int .i64 0, .int .i64 0, .int .i64 0, .int .i64 0, .int .i64 0, .int .i64 0, .int .i64 0, .int .i64 0, .int .i64 0, .int .i64 0, .int .i64 0, .int .i64 0, .int .i64 0, .int .i64 0, .int .i64 0, .int .i64 0, .int .i64 0, .int .i64 0, .int .i64 0, .int .i64 0, .int .i64 0, .int .i64 0, .int .i64 0, .int .i64 0, .int .i64 0, .int .i64 0, .int .i64 0, .int .i64 0, .int .i64 0, .int .i64 0, .int .i64 0, .int .i64 0, .int .i64 0, .int .i64 0, .int .i64 0, .int .i64 0, .int .i64 0, .int .i64 0, .int .i64 0, .int .i64 0, .int .i64 0, .int .i64 0, .int .i64 0, .int .i64 0, .int .i64 0, .int .i64 0, .int .i64 0, .int .i64 0, .int .i64 0, .int .i64 0, .int .i64 0, .int .i64 0, .int .i64 0, .int .i64 0, .int .i64 0, .int .i64 0, .int .i64 0, .int .i64 0, .int .i64 0, .int .i64 0, .int .i64 0, .int .i64 0, .int .i64 0, .int .i64 0, .int .i64 0, .int .i64 0, .int .i64 0, .int .i64 0, .int .i64 0, .int .i64 0, .int .i64 0, .int .i64 0, .int .i64 0, .int .i64 0, .int .i64 0, .int .i64 0, .int .i64 0, .int .i64 0, .int .i64 0, .int .i64 0, .int .i64 0, .int .i64 0, .int .i64 0, .int .i64 0, .int .i64 0, .int .i64 0, .int .i64 0, .int .i64 0, .int .i64 0, .int .i64 0, .int .i64 0, .int .i64 0, .int .i64 0, .int .i64 0, .int .i64 0, .int .i64 0, .int .i64 0, .int .i64 0, .int .i64 0, .int .i64 0, .int .i64 0, .int .i64 0, .int .i64 0, .int .i64 0, .int .i64 0, .int .i64 0, .int .i64 0, .int .i64 0, .int .i64 0, .int .i64 0, .int .i64 0, .int .i64 0, .int .i64 0, .int .i64 0, .int .i64 0, .int .i64 0, .int .i64 0, .int .i64 0, .int .i64 0, .int .i64 0, .int .i64 0, .int .i64 0, .int .i64 0, .int .i64 0, .int .i64 0, .int .i64 0, .int .i64 0, .int .i64 0, .int .i64 0, .int .i64 0, .int .i64 0, .int .i64 0, .int .i64 0, .int .i64 0, .int .i64 0, .int .i64 0, .int .i64 0, .int .i64 0, .int .i64 0, .int .i64 0, .int .i64 0, .int .i64 0, .int .i64 0, .int .i64 0, .int .i64 0, .int .i64 0, .int .i64 0, .int .i64 0, .int .i64 0, .int .i64 0, .int .i64 0, .int .i64 0, .int .i64 0, .int .i64 0, .int .i64 0, .int .i64 0, .int .i64 0, .int .i64 0, .int .i64 0, .int .i64 0, .int .i64 0, .int .i64 0, .int .i64 0, .int .i64 0, .int .i64 0, .int .i64 0, .int .i64 0, .int .i64 0, .int .i64 0, .int .i64 0, .int .i64 0, .int .i64 0, .int .i64 0, .int .i64 0, .int .i64 0, .int .i64 0, .int .i64 0, .int .i64 0, .int .i64 0, .int .i64 0, .int .i64 0, .int .i64 0, .int .i64 0, .int .i64 0, .int .i64 0, .int .i64 0, .int .i64 0, .int .i64 0, .int .i64 0, .int .i64 0, .int .i64 0, .int .i64 0, .int .i64 0, .int .i64 0, .int .i64 0, .int .i64 0, .int .i64 0, .int .i64 0, .int .i64 0, .int .i64 0, .int .i64 0, .int .i64 0, .int .i64 0, .int .i64 0, .int .i64 0, .int .i64 0, .int .i64 0, .int .i64 0, .int .i64 0, .int .i64 0, .int .i64 0, .int .i64 0, .int .i64 0, .int .i64 0, .int .i64 0, .int .i64 0, .int .i64 0, .int .i64 0, .int .i64 0, .int .i64 0, .int .i64 0, .int .i64 0, .int .i64 0, .int .i64 0, .int .i64 0, .int .i64 0, .int .i64 0, .int .i64 0, .int .i64 0, .int .i64 0, .int .i64 0, .int .i64 0, .int .i64 0, .int .i64 0, .int .i64 0, .int .i64 0, .int .i64 0, .int .i64 0, .int .i64 0, .int .i64 0, .int .i64 0, .int .i64 0, .int .i64 0, .int .i64 0, .int .i64 0, .int .i64 0, .int .i64 0, .int .i64 0, .int .i64 0, .int .i64 0, .int .i64 0, .int .i64 0, .int .i64 0, .int .i64 0, .int .i64 0, .int .i64 0, .int .i64 0, .int .i64 0, .int .i64 0, .int .i64 0, .int .i64 0, .int .i64 0, .int .i64 0, .int .i64 0, .int .i64 0, .int .i64 0, .int .i64 0, .int .i64 0, .int .i64 0, .int .i64 0, .int .i64 0, .int .i64 0, .int .i64 0, .int .i64 0, .int .i64 0, .int .i64 0, .int .i64 0, .int .i64 0, .int .i64 0, .int .i64 0, .int .i64 0, .int .i64 0, .int .i64 0, .int .i64 0, .int .i64 0, .int .i64 0, .int .i64 0, .int .i64 0, .int .i64 0, .int .i64 0, .int .i64 0, .int .i64 0, .int .i64 0, .int .i64 0, .int .i64 0, .int .i64 0, .int .i64 0, .int .i64 0, .int .i64 0, .int .i64 0, .int .i64 0, .int .i64 0, .int .i64 0, .int .i64 0, .int .i64 0, .int .i64 0, .int .i64 0, .int .i64 0, .int .i64 0, .int .i64 0, .int .i64 0, .int .i64 0, .int .i64 0, .int .i64 0, .int .i64 0, .int .i64 0, .int .i64 0, .int .i64 0, .int .i64 0, .int .i64 0, .int .i64 0, .int .i64 0, .int .i64 0, .int .i64 0, .int .i64 0, .int .i64 0, .int .i64 0, .int .i64 0, .int .i64 0, .int .i64 0, .int .i64 0, .int .i64 0, .int .i64 0, .int .i64 0, .int .i64 0, .int .i64 0, .int .i64 0, .int .i64 0, .int .i64 0, .int .i64 0, .int .i64 0, .int .i64 0, .int .i64 0, .int .i64 0, .int .i64 0, .int .i64 0, .int .i64 0, .int .i64 0, .int .i64 0, .int .i64 0, .int .i64 0, .int .i64 0, .int .i64 0, .int .i64 0, .int .i64 0, .int .i64 0, .int .i64 0, .int .i64 0, .int .i64 0, .int .i64 0, .int .i64 0, .int .i64 0, .int .i64 0, .int .i64 0, .int .i64 0, .int .i64 0, .int .i64 0, .int .i64 0, .int .i64 0, .int .i64 0, .int .i64 0, .int .i64 0, .int .i64 0, .int .i64 0, .int .i64 0, .int .i64 0, .int .i64 0, .int .i64 0, .int .i64 0, .int .i64 0, .int .i64 0, .int .i64 0, .int .i64 0, .int .i64 0, .int .i64 0, .int .i64 0, .int .i64 0, .int .i64 0, .int .i64 0, .int .i64 0, .int .i64 0, .int .i64 0, .int .i64 0, .int .i64 0, .int .i64 0, .int .i64 0, .int .i64 0])), none, []⟩]
def k_mount_direct_r1 : List AOper := [
  ⟨some 3, .box (.const (.agg [.int .i64 0, .int .i64 0, .int .i64 0, .int .i64 0, .int .i64 0, .int .i64 0, .int .i64 0, .int .i64 0, .int .i64 0, .int .i64 0, .int .i64 0, .int .i64 0, .int .i64 0, .int .i64 0, .int .i64 0, .int .i64 0, .int .i64 0, .int .i64 0, .int .i64 0, .int .i64 0, .int .i64 0, .int .i64 0, .int .i64 0, .int .i64 0, .int .i64 0, .int .i64 0, .int .i64 0, .int .i64 0, .int .i64 0, .int .i64 0, .int .i64 0, .int .i64 0, .int .i64 0, .int .i64 0, .int .i64 0, .int .i64 0, .int .i64 0, .int .i64 0, .int .i64 0, .int .i64 0, .int .i64 0, .int .i64 0, .int .i64 0, .int .i64 0, .int .i64 0, .int .i64 0, .int .i64 0, .int .i64 0, .int .i64 0, .int .i64 0, .int .i64 0, .int .i64 0, .int .i64 0, .int .i64 0, .int .i64 0, .int .i64 0, .int .i64 0, .int .i64 0, .int .i64 0, .int .i64 0, .int .i64 0, .int .i64 0, .int .i64 0, .int .i64 0, .int .i64 0, .int .i64 0, .int .i64 0, .int .i64 0, .int .i64 0, .int .i64 0, .int .i64 0, .int .i64 0, .int .i64 0, .int .i64 0, .int .i64 0, .int .i64 0, .int .i64 0, .int .i64 0, .int .i64 0, .int .i64 0, .int .i64 0, .int .i64 0, .int .i64 0, .int .i64 0, .int .i64 0, .int .i64 0, .int .i64 0, .int .i64 0, .int .i64 0, .int .i64 0, .int .i64 0, .int .i64 0, .int .i64 0, .int .i64 0, .int .i64 0, .int .i64 0, .int .i64 0, .int .i64 0, .int .i64 0, .int .i64 0, .int .i64 0, .int .i64 0, .int .i64 0, .int .i64 0, .int .i64 0, .int .i64 0, .int .i64 0, .int .i64 0, .int .i64 0, .int .i64 0, .int .i64 0, .int .i64 0, .int .i64 0, .int .i64 0, .int .i64 0, .int .i64 0, .int .i64 0, .int .i64 0, .int .i64 0, .int .i64 0, .int .i64 0, .int .i64 0, .int .i64 0, .int .i64 0, .int .i64 0, .int .i64 0, .int .i64 0, .int .i64 0, .int .i64 0, .int .i64 0, .int .i64 0, .int .i64 0, .int .i64 0, .int .i64 0, .int .i64 0, .int .i64 0, .int .i64 0, .int .i64 0, .int .i64 0, .int .i64 0, .int .i64 0, .int .i64 0, .int .i64 0, .int .i64 0, .int .i64 0, .int .i64 0, .int .i64 0, .int .i64 0, .int .i64 0, .int .i64 0, .int .i64 0, .int .i64 0, .int .i64 0, .int .i64 0, .int .i64 0, .int .i64 0, .int .i64 0, .int .i64 0, .int .i64 0, .int .i64 0, .int .i64 0, .int .i64 0, .int .i64 0, .int .i64 0, .int .i64 0, .int .i64 0, .int .i64 0, .int .i64 0, .int .i64 0, .int .i64 0, .int .i64 0, .int .i64 0, .int .i64 0, .int .i64 0, .int .i64 0, .int .i64 0, .int .i64 0, .int .i64 0, .int .i64 0, .int .i64 0, .int .i64 0, .int .i64 0, .int .i64 0, .int .i64 0, .int .i64 0, .int .i64 0, .int .i64 0, .int .i64 0, .int .i64 0, .int .i64 0, .int .i64 0, .int .i64 0, .int .i64 0, .int .i64 0, .int .i64 0, .int .i64 0, .int .i64 0, .int .i64 0, .int .i64 0, .int .i64 0, .int .i64 0, .int .i64 0, .int .i64 0, .int .i64 0, .int .i64 0, .int .i64 0, .int .i64 0, .int .i64 0, .int .i64 0, .int .i64 0, .int .i64 0, .int .i64 0, .int .i64 0, .int .i64 0, .int .i64 0, .int .i64 0, .int .i64 0, .int .i64 0, .int .i64 0, .int .i64 0, .int .i64 0, .int .i64 0, .int .i64 0, .int .i64 0, .int .i64 0, .int .i64 0, .int .i64 0, .int .i64 0, .int .i64 0, .int .i64 0, .int .i64 0, .int .i64 0, .int .i64 0, .int .i64 0, .int .i64 0, .int .i64 0, .int .i64 0, .int .i64 0, .int .i64 0, .int .i64 0, .int .i64 0, .int .i64 0, .int .i64 0, .int .i64 0, .int .i64 0, .int .i64 0, .int .i64 0, .int .i64 0, .int .i64 0, .int .i64 0, .int .i64 0, .int .i64 0, .int .i64 0, .int .i64 0, .int .i64 0, .int .i64 0, .int .i64 0, .int .i64 0, .int .i64 0, .int .i64 0, .int .i64 0, .int .i64 0, .int .i64 0, .int .i64 0, .int .i64 0, .int .i64 0, .int .i64 0, .int .i64 0, .int .i64 0, .int .i64 0, .int .i64 0, .int .i64 0, .int .i64 0, .int .i64 0, .int .i64 0, .int .i64 0, .int .i64 0, .int .i64 0, .int .i64 0, .int .i64 0, .int .i64 0, .int .i64 0, .int .i64 0, .int .i64 0, .int .i64 0, .int .i64 0, .int .i64 0, .int .i64 0, .int .i64 0, .int .i64 0, .int .i64 0, .int .i64 0, .int .i64 0, .int .i64 0, .int .i64 0, .int .i64 0, .int .i64 0, .int .i64 0, .int .i64 0, .int .i64 0, .int .i64 0, .int .i64 0, .int .i64 0, .int .i64 0, .int .i64 0, .int .i64 0, .int .i64 0, .int .i64 0, .int .i64 0, .int .i64 0, .int .i64 0, .int .i64 0, .int .i64 0, .int .i64 0, .int .i64 0, .int .i64 0, .int .i64 0, .int .i64 0, .int .i64 0, .int .i64 0, .int .i64 0, .int .i64 0, .int .i64 0, .int .i64 0, .int .i64 0, .int .i64 0, .int .i64 0, .int .i64 0, .int .i64 0, .int .i64 0, .int .i64 0, .int .i64 0, .int .i64 0, .int .i64 0, .int .i64 0, .int .i64 0, .int .i64 0, .int .i64 0, .int .i64 0, .int .i64 0, .int .i64 0, .int .i64 0, .int .i64 0, .int .i64 0, .int .i64 0, .int .i64 0, .int .i64 0, .int .i64 0, .int .i64 0, .int .i64 0, .int .i64 0, .int .i64 0, .int .i64 0, .int .i64 0, .int .i64 0, .int .i64 0, .int .i64 0, .int .i64 0, .int .i64 0, .int .i64 0, .int .i64 0, .int .i64 0, .int .i64 0, .int .i64 0, .int .i64 0, .int .i64 0, .int .i64 0, .int .i64 0, .int .i64 0, .int .i64 0, .int .i64 0, .int .i64 0, .int .i64 0, .int .i64 0, .int .i64 0, .int .i64 0, .int .i64 0, .int .i64 0, .int .i64 0, .int .i64 0, .int .i64 0, .int .i64 0, .int .i64 0, .int .i64 0, .int .i64 0, .int .i64 0, .int .i64 0, .int .i64 0, .int .i64 0, .int .i64 0, .int .i64 0, .int .i64 0, .int .i64 0, .int .i64 0, .int .i64 0, .int .i64 0, .int .i64 0, .int .i64 0, .int .i64 0, .int .i64 0, .int .i64 0, .int .i64 0, .int .i64 0, .int .i64 0, .int .i64 0, .int .i64 0, .int .i64 0, .int .i64 0, .int .i64 0, .int .i64 0, .int .i64 0, .int .i64 0, .int .i64 0, .int .i64 0, .int .i64 0, .int .i64 0, .int .i64 0, .int .i64 0, .int .i64 0, .int .i64 0, .int .i64 0, .int .i64 0, .int .i64 0, .int .i64 0, .int .i64 0, .int .i64 0, .int .i64 0, .int .i64 0, .int .i64 0, .int .i64 0, .int .i64 0, .int .i64 0, .int .i64 0, .int .i64 0, .int .i64 0, .int .i64 0, .int .i64 0, .int .i64 0, .int .i64 0, .int .i64 0, .int .i64 0, .int .i64 0, .int .i64 0, .int .i64 0, .int .i64 0, .int .i64 0, .int .i64 0, .int .i64 0, .int .i64 0, .int .i64 0, .int .i64 0, .int .i64 0, .int .i64 0, .int .i64 0, .int .i64 0, .int .i64 0, .int .i64 0, .int .i64 0, .int .i64 0, .int .i64 0, .int .i64 0, .int .i64 0, .int .i64 0, .int .i64 0, .int .i64 0, .int .i64 0, .int .i64 0, .int .i64 0, .int .i64 0, .int .i64 0, .int .i64 0, .int .i64 0, .int .i64 0, .int .i64 0, .int .i64 0, .int .i64 0, .int .i64 0, .int .i64 0, .int .i64 0, .int .i64 0, .int .i64 0, .int .i64 0, .int .i64 0, .int .i64 0, .int .i64 0, .int .i64 0, .int .i64 0, .int .i64 0, .int .i64 0, .int .i64 0, .int .i64 0, .int .i64 0, .int .i64 0, .int .i64 0, .int .i64 0, .int .i64 0, .int .i64 0, .int .i64 0, .int .i64 0, .int .i64 0, .int .i64 0, .int .i64 0, .int .i64 0, .int .i64 0, .int .i64 0, .int .i64 0, .int .i64 0, .int .i64 0, .int .i64 0, .int .i64 0, .int .i64 0, .int .i64 0, .int .i64 0, .int .i64 0, .int .i64 0, .int .i64 0, .int .i64 0, .int .i64 0, .int .i64 0, .int .i64 0, .int .i64 0, .int .i64 0, .int .i64 0, .int .i64 0, .int .i64 0, .int .i64 0, .int .i64 0, .int .i64 0, .int .i64 0, .int .i64 0, .int .i64 0, .int .i64 0, .int .i64 0, .int .i64 0, .int .i64 0, .int .i64 0, .int .i64 0, .int .i64 0, .int .i64 0, .int .i64 0, .int .i64 0, .int .i64 0, .int .i64 0, .int .i64 0, .int .i64 0, .int .i64 0, .int .i64 0, .int .i64 0, .int .i64 0, .int .i64 0, .int .i64 0, .int .i64 0, .int .i64 0, .int .i64 0, .int .i64 0, .int .i64 0, .int .i64 0, .int .i64 0, .int .i64 0, .int .i64 0, .int .i64 0, .int .i64 0, .int .i64 0, .int .i64 0, .int .i64 0, .int .i64 0, .int .i64 0, .int .i64 0, .int .i64 0, .int .i64 0, .int .i64 0, .int .i64 0, .int .i64 0, .int .i64 0, .int .i64 0, .int .i64 0])), none, []⟩]
def k_mount_direct_r2 : List AOper := [
  ⟨some 8, .fieldAddr 0 (.tmp 1), none, []⟩,
 ⟨some 9, .load none (.tmp 8), none, []⟩,
 ⟨some 10, .move (.const (.int .i64 0)), none, []⟩]
def k_mount_direct_r3 : List AOper := [
  ⟨some 11, .bin .plain .lss (.tmp 10) (.tmp 9), none, []⟩]
def k_mount_direct_r4 : List AOper := [
  ⟨some 12, .move (.tmp 10), none, []⟩,
 ⟨some 4, .move (.tmp 12), none, []⟩]
def k_mount_direct_r5 : List AOper := [
  ⟨some 13, .fieldAddr 0 (.tmp 1), none, []⟩,
 ⟨some 14, .load none (.tmp 13), none, []⟩,
 ⟨some 15, .move (.const (.int .i64 0)), none, []⟩]
def k_mount_direct_r6 : List AOper := [
  ⟨some 16, .bin .plain .lss (.tmp 15) (.tmp 14), none, []⟩]
def k_mount_direct_r7 : List AOper := [
  ⟨some 17, .move (.tmp 15), none, []⟩,
 ⟨some 5, .move (.tmp 17), none, []⟩]
def k_mount_direct_r8 : List AOper := [
  ⟨some 18, .move (.tmp 4), none, []⟩,
 ⟨some 19, .move (.tmp 5), none, []⟩,
 ⟨some 20, .bin .plain .neq (.tmp 18) (.tmp 19), none, []⟩]
def k_mount_direct_r9 : List AOper := [
  ⟨some 21, .move (.tmp 4), none, []⟩,
 ⟨some 22, .move (.tmp 5), none, []⟩,
 ⟨some 23, .indexArr 24 24 (.tmp 3) (.tmp 21), none, []⟩,
 ⟨some 24, .indexArr 24 1 (.tmp 23) (.tmp 22), none, []⟩,
 ⟨none, .store 1 (.tmp 24) (.const (.int .i64 24000000)), none, []⟩]
def k_mount_direct_r10 : List AOper := [
  ⟨some 25, .bin .plain .add (.tmp 15) (.const (.int .i64 1)), none, []⟩,
 ⟨some 15, .move (.tmp 25), none, []⟩]
def k_mount_direct_r11 : ACode := (.seq (.reg k_mount_direct_r6 false) (.seq (.cond (.tmp 16) .skip (.exit 2)) (.seq (.block 3 (.seq (.reg k_mount_direct_r7 false) (.seq (.reg k_mount_direct_r8 false) (.cond (.tmp 20) (.reg k_mount_direct_r9 false) .skip)))) (.reg k_mount_direct_r10 false))))
def k_mount_direct_r12 : List AOper := [
  ⟨some 26, .bin .plain .add (.tmp 10) (.const (.int .i64 1)), none, []⟩,
 ⟨some 10, .move (.tmp 26), none, []⟩]
def k_mount_direct_r13 : ACode := (.seq (.reg k_mount_direct_r3 false) (.seq (.cond (.tmp 11) .skip (.exit 0)) (.seq (.block 1 (.seq (.reg k_mount_direct_r4 false) (.seq (.reg k_mount_direct_r5 false) (.block 2 (.loop k_mount_direct_r11))))) (.reg k_mount_direct_r12 false))))
def k_mount_direct_r14 : List AOper := [
  ⟨some 27, .fieldAddr 1 (.tmp 1), none, []⟩,
 ⟨some 28, .load none (.tmp 27), none, []⟩,
 ⟨some 29, .len false (.tmp 28), none, []⟩,
 ⟨some 30, .move (.const (.int .i64 0)), none, []⟩]
def k_mount_direct_r15 : List AOper := [
  ⟨some 31, .bin .plain .lss (.tmp 30) (.tmp 29), none, []⟩]
def k_mount_direct_r16 : List AOper := [
  ⟨some 32, .indexAddr 4 (.tmp 28) (.tmp 30), none, []⟩,
 ⟨some 33, .load (some (4)) (.tmp 32), none, []⟩,
 ⟨some 7, .box (.const (.agg [.int .i64 0, .int .i64 0, .int .i64 0, .int .i64 0])), none, []⟩,
 ⟨none, .store 4 (.tmp 7) (.tmp 33), none, []⟩]
def k_mount_direct_r17 : List AOper := [
  ⟨some 34, .fieldAddr 0 (.tmp 7), none, []⟩,
 ⟨some 35, .load none (.tmp 34), none, []⟩,
 ⟨some 36, .fieldAddr 1 (.tmp 7), none, [0, 1]⟩,
 ⟨some 37, .load none (.tmp 36), none, [0, 1]⟩,
 ⟨some 38, .fieldAddr 0 (.tmp 7), none, [0, 1, 2, 3]⟩,
 ⟨some 39, .load none (.tmp 38), none, [0, 1, 2, 3]⟩,
 ⟨some 40, .fieldAddr 1 (.tmp 7), none, [0, 1, 2, 3, 4, 5]⟩,
 ⟨some 41, .load none (.tmp 40), none, [0, 1, 2, 3, 4, 5]⟩,
 ⟨some 42, .indexArr 24 24 (.tmp 3) (.tmp 39), none, [0, 1, 2, 3, 6, 7]⟩,
 ⟨some 43, .indexArr 24 1 (.tmp 42) (.tmp 41), none, [0, 1, 2, 3]⟩,
 ⟨some 44, .load none (.tmp 43), none, [0, 1, 2, 3]⟩,
 ⟨some 45, .fieldAddr 2 (.tmp 7), none, [0, 1, 2, 3, 4, 5, 6, 7, 8, 9, 10]⟩,
 ⟨some 46, .fieldAddr 1 (.tmp 45), none, [0, 1, 2, 3, 4, 5, 6, 7, 8, 9, 10]⟩,
 ⟨some 47, .load none (.tmp 46), none, [0, 1, 2, 3, 4, 5, 6, 7, 8, 9, 10]⟩,
 ⟨some 48, .minmax false [.tmp 44, .tmp 47], none, [0, 1, 2, 3]⟩,
 ⟨some 49, .indexArr 24 24 (.tmp 3) (.tmp 35), none, [2, 3, 4, 5, 6, 7, 8, 9, 10, 11, 12, 13, 14]⟩,
 ⟨some 50, .indexArr 24 1 (.tmp 49) (.tmp 37), none, []⟩,
 ⟨none, .store 1 (.tmp 50) (.tmp 48), none, []⟩]
def k_mount_direct_r17s : List (List AOper) := [
  [
  ⟨some 34, .fieldAddr 0 (.tmp 7), none, []⟩,
 ⟨some 35, .load none (.tmp 34), none, []⟩,
 ⟨some 36, .fieldAddr 1 (.tmp 7), none, [0, 1]⟩,
 ⟨some 37, .load none (.tmp 36), none, [0, 1]⟩,
 ⟨some 38, .fieldAddr 0 (.tmp 7), none, [0, 1, 2, 3]⟩,
 ⟨some 39, .load none (.tmp 38), none, [0, 1, 2, 3]⟩,
 ⟨some 40, .fieldAddr 1 (.tmp 7), none, [0, 1, 2, 3, 4, 5]⟩,
 ⟨some 41, .load none (.tmp 40), none, [0, 1, 2, 3, 4, 5]⟩,
 ⟨some 42, .indexArr 24 24 (.tmp 3) (.tmp 39), none, [0, 1, 2, 3, 6, 7]⟩,
 ⟨some 43, .indexArr 24 1 (.tmp 42) (.tmp 41), none, [0, 1, 2, 3]⟩,
 ⟨some 44, .load none (.tmp 43), none, [0, 1, 2, 3]⟩,
 ⟨some 45, .fieldAddr 2 (.tmp 7), none, [0, 1, 2, 3, 4, 5, 6, 7, 8, 9, 10]⟩,
 ⟨some 46, .fieldAddr 1 (.tmp 45), none, [0, 1, 2, 3, 4, 5, 6, 7, 8, 9, 10]⟩,
 ⟨some 47, .load none (.tmp 46), none, [0, 1, 2, 3, 4, 5, 6, 7, 8, 9, 10]⟩,
 ⟨some 48, .minmax false [.tmp 44, .tmp 47], none, [0, 1, 2, 3]⟩,
 ⟨some 49, .indexArr 24 24 (.tmp 3) (.tmp 35), none, [2, 3, 4, 5, 6, 7, 8, 9, 10, 11, 12, 13, 14]⟩], 
  [
  ⟨some 50, .indexArr 24 1 (.tmp 49) (.tmp 37), none, []⟩], 
  [
  ⟨none, .store 1 (.tmp 50) (.tmp 48), none, []⟩]]
theorem k_mount_direct_r17_sg : segs k_mount_direct_r17 = k_mount_direct_r17s := by kernel_rfl
theorem k_mount_direct_r17_st : statOK k_mount_direct_r17 = true := by kernel_rfl
def k_mount_direct_r18 : List AOper := [
  ⟨some 51, .fieldAddr 1 (.tmp 7), none, []⟩,
 ⟨some 52, .load none (.tmp 51), none, []⟩,
 ⟨some 53, .fieldAddr 0 (.tmp 7), none, [0, 1]⟩,
 ⟨some 54, .load none (.tmp 53), none, [0, 1]⟩,
 ⟨some 55, .fieldAddr 1 (.tmp 7), none, [0, 1, 2, 3]⟩,
 ⟨some 56, .load none (.tmp 55), none, [0, 1, 2, 3]⟩,
 ⟨some 57, .fieldAddr 0 (.tmp 7), none, [0, 1, 2, 3, 4, 5]⟩,
 ⟨some 58, .load none (.tmp 57), none, [0, 1, 2, 3, 4, 5]⟩,
 ⟨some 59, .indexArr 24 24 (.tmp 3) (.tmp 56), none, [0, 1, 2, 3, 6, 7]⟩,
 ⟨some 60, .indexArr 24 1 (.tmp 59) (.tmp 58), none, [0, 1, 2, 3]⟩,
 ⟨some 61, .load none (.tmp 60), none, [0, 1, 2, 3]⟩,
 ⟨some 62, .fieldAddr 2 (.tmp 7), none, [0, 1, 2, 3, 4, 5, 6, 7, 8, 9, 10]⟩,
 ⟨some 63, .fieldAddr 0 (.tmp 62), none, [0, 1, 2, 3, 4, 5, 6, 7, 8, 9, 10]⟩,
 ⟨some 64, .load none (.tmp 63), none, [0, 1, 2, 3, 4, 5, 6, 7, 8, 9, 10]⟩,
 ⟨some 65, .neg (.tmp 64), none, [0, 1, 2, 3, 4, 5, 6, 7, 8, 9, 10]⟩,
 ⟨some 66, .minmax false [.tmp 61, .tmp 65], none, [0, 1, 2, 3]⟩,
 ⟨some 67, .indexArr 24 24 (.tmp 3) (.tmp 52), none, [2, 3, 4, 5, 6, 7, 8, 9, 10, 11, 12, 13, 14, 15]⟩,
 ⟨some 68, .indexArr 24 1 (.tmp 67) (.tmp 54), none, []⟩,
 ⟨none, .store 1 (.tmp 68) (.tmp 66), none, []⟩]
def k_mount_direct_r18s : List (List AOper) := [
  [
  ⟨some 51, .fieldAddr 1 (.tmp 7), none, []⟩,
 ⟨some 52, .load none (.tmp 51), none, []⟩,
 ⟨some 53, .fieldAddr 0 (.tmp 7), none, [0, 1]⟩,
 ⟨some 54, .load none (.tmp 53), none, [0, 1]⟩,
 ⟨some 55, .fieldAddr 1 (.tmp 7), none, [0, 1, 2, 3]⟩,
 ⟨some 56, .load none (.tmp 55), none, [0, 1, 2, 3]⟩,
 ⟨some 57, .fieldAddr 0 (.tmp 7), none, [0, 1, 2, 3, 4, 5]⟩,
 ⟨some 58, .load none (.tmp 57), none, [0, 1, 2, 3, 4, 5]⟩,
 ⟨some 59, .indexArr 24 24 (.tmp 3) (.tmp 56), none, [0, 1, 2, 3, 6, 7]⟩,
 ⟨some 60, .indexArr 24 1 (.tmp 59) (.tmp 58), none, [0, 1, 2, 3]⟩,
 ⟨some 61, .load none (.tmp 60), none, [0, 1, 2, 3]⟩,
 ⟨some 62, .fieldAddr 2 (.tmp 7), none, [0, 1, 2, 3, 4, 5, 6, 7, 8, 9, 10]⟩,
 ⟨some 63, .fieldAddr 0 (.tmp 62), none, [0, 1, 2, 3, 4, 5, 6, 7, 8, 9, 10]⟩,
 ⟨some 64, .load none (.tmp 63), none, [0, 1, 2, 3, 4, 5, 6, 7, 8, 9, 10]⟩,
 ⟨some 65, .neg (.tmp 64), none, [0, 1, 2, 3, 4, 5, 6, 7, 8, 9, 10]⟩,
 ⟨some 66, .minmax false [.tmp 61, .tmp 65], none, [0, 1, 2, 3]⟩,
 ⟨some 67, .indexArr 24 24 (.tmp 3) (.tmp 52), none, [2, 3, 4, 5, 6, 7, 8, 9, 10, 11, 12, 13, 14, 15]⟩], 
  [
  ⟨some 68, .indexArr 24 1 (.tmp 67) (.tmp 54), none, []⟩], 
  [
  ⟨none, .store 1 (.tmp 68) (.tmp 66), none, []⟩]]
theorem k_mount_direct_r18_sg : segs k_mount_direct_r18 = k_mount_direct_r18s := by kernel_rfl
theorem k_mount_direct_r18_st : statOK k_mount_direct_r18 = true := by kernel_rfl
def k_mount_direct_r19 : List AOper := [
  ⟨some 69, .bin .plain .add (.tmp 30) (.const (.int .i64 1)), none, []⟩,
 ⟨some 30, .move (.tmp 69), none, []⟩]
def k_mount_direct_r20 : ACode := (.seq (.reg k_mount_direct_r15 false) (.seq (.cond (.tmp 31) .skip (.exit 4)) (.seq (.block 5 (.seq (.reg k_mount_direct_r16 false) (.seq (.reg k_mount_direct_r17 true) (.reg k_mount_direct_r18 true)))) (.reg k_mount_direct_r19 false))))
def k_mount_direct_r21 : List AOper := [
  ⟨some 70, .load (some (576)) (.tmp 3), none, []⟩,
 ⟨none, .store 576 (.tmp 2) (.tmp 70), none, []⟩]
def k_mount_direct : AFun := { params := 1, ntmps := 71, body := (.seq (.reg k_mount_direct_r0 false) (.seq (.reg k_mount_direct_r1 false) (.seq (.seq (.reg k_mount_direct_r2 false) (.block 0 (.loop k_mount_direct_r13))) (.seq (.seq (.reg k_mount_direct_r14 false) (.block 4 (.loop k_mount_direct_r20))) (.seq (.reg k_mount_direct_r21 false) .ret))))), res := [.cell 2 (some ((some (576))))] }
theorem k_mount_direct_ok : cfun Try.prog Try.f141 = k_mount_direct := by kernel_rfl

def k_mount_reaches_through_r0 : List AOper := [
  ⟨some 3, .box (.tmp 0), none, []⟩,
 ⟨some 6, .box (.const (.agg [.int .i64 0, .int .i64 0, .int .i64 0, .int .i64 0, .int .i64 0, .int .i64 0, .int .i64 0, .int .i64 0, .int .i64 0, .int .i64 0, .int .i64 0, .int .i64 0, .int .i64 0, .int .i64 0, .int .i64 0, .int .i64 0, .int .i64 0, .int .i64 0, .int .i64 0, .int .i64 0, .int .i64 0, .int .i64 0, .int .i64 0, .int .i64 0, .int .i64 0, .int .i64 0, .int .i64 0, .int .i64 0, .int .i64 0, .int .i64 0, .int .i64 0, .int .i64 0, .int .i64 0, .int .i64 0, .int .i64 0, .int .i64 0, .int .i64 0, .int .i64 0, .int .i64 0, .int .i64 0, .int .i64 0, .int .i64 0, .int .i64 0, .int .i64 0, .int .i64 0, .int .i64 0, .int .i64 0, .int .i64 0, .int .i64 0, .int .i64 0, .int .i64 0, .int .i64 0, .int .i64 0, .int .i64 0, .int .i64 0, .int .i64 0, .int .i64 0, .int .i64 0, .int .i64 0, .int .i64 0, .int .i64 0, .int .i64 0, .int .i64 0, .int .i64 0, .int .i64 0, .int .i64 0, .int .i64 0, .int .i64 0, .int .i64 0, .int .i64 0, .int .i64 0, .int .i64 0, .int .i64 0, .int .i64 0, .int .i64 0, .int .i64 0, .int .i64 0, .int .i64 0, .int .i64 0, .int .i64 0, .int .i64 0, .int .i64 0, .int .i64 0, .int .i64 0, .int .i64 0, .int .i64 0, .int .i64 0, .int .i64 0, .int .i64 0, .int .i64 0, .int .i64 0, .int .i64 0, .int .i64 0, .int .i64 0, .int .i64 0, .int .i64 0, .int .i64 0, .int .i64 0, .int .i64 0, .int .i64 0, .int .i64 0, .int .i64 0, .int .i64 0, .int .i64 0, .int .i64 0, .int .i64 0, .int .i64 0, .int .i64 0, .int .i64 0, .int .i64 0, .int .i64 0, .int .i64 0, .int .i64 0, .int .i64 0, .int .i64 0, .int .i64 0, .int .i64 0, .int .i64 0, .int .i64 0, .int .i64 0, .int .i64 0, .int .i64 0, .int .i64 0, .int .i64 0, .int .i64 0, .int .i64 0, .int .i64 0, .int .i64 0, .int .i64 0, .int .i64 0, .int .i64 0, .int .i64 0, .int .i64 0, .int .i64 0, .int .i64 0, .int .i64 0, .int .i64 0, .int .i64 0, .int .i64 0, .int .i64 0, .int .i64 0, .int .i64 0, .int .i64 0, .int .i64 0, .int .i64 0, .int .i64 0, .int .i64 0, .int .i64 0, .int .i64 0, .int .i64 0, .int .i64 0, .int .i64 0, .int .i64 0, .int .i64 0, .int .i64 0, .int .i64 0, .int .i64 0, .int .i64 0, .int .i64 0, .int .i64 0, .int .i64 0, .int .i64 0, .int .i64 0, .int .i64 0, .int .i64 0, .int .i64 0, .int .i64 0, .int .i64 0, .int .i64 0, .int .i64 0, .int .i64 0, .int .i64 0, .int .i64 0, .int .i64 0, .int .i64 0, .int .i64 0, .int .i64 0, .int .i64 0, .int .i64 0, .int .i64 0, .int .i64 0, .int .i64 0, .int .i64 0, .int .i64 0, .int .i64 0, .int .i64 0, .int .i64 0, .int .i64 0, .int .i64 0, .int .i64 0, .int .i64 0, .int .i64 0, .int .i64 0, .int .i64 0, .int .i64 0, .int .i64 0, .int .i64 0, .int .i64 0, .int .i64 0, .int .i64 0, .int .i64 0, .int .i64 0, .int .i64 0, .int .i64 0, .int .i64 0, .int .i64 0, .int .i64 0, .int .i64 0, .int .i64 0, .int .i64 0, .int .i64 0, .int .i64 0, .int .i64 0, .int .i64 0, .int .i64 0, .int .i64 0, .int .i64 0, .int .i64 0, .int .i64 0, .int .i64 0, .int .i64 0, .int .i64 0, .int .i64 0, .int .i64 0, .int .i64 0, .int .i64 0, .int .i64 0, .int .i64 0, .int .i64 0, .int .i64 0, .int .i64 0, .int .i64 0, .int .i64 0, .int .i64 0, .int .i64 0, .int .i64 0, .int .i64 0, .int .i64 0, .int .i64 0, .int .i64 0, .int .i64 0, .int .i64 0, .int .i64 0, .int .i64 0, .int .i64 0, .int .i64 0, .int .i64 0, .int .i64 0, .int .i64 0, .int .i64 0, .int .i64 0, .int .i64 0, .int .i64 0, .int .i64 0, .int .i64 0, .int .i64 0, .int .i64 0, .int .i64 0, .int .i64 0, .int .i64 0, .int .i64 0, .int .i64 0, .int .i64 0, .int .i64 0, .int .i64 0, .int .i64 0, .int .i64 0, .int .i64 0, .int .i64 0, .int .i64 0, .int .i64 0, .int .i64 0, .int .i64 0, .int .i64 0, .int .i64 0, .int .i64 0, .int .i64 0, .int .i64 0, .int .i64 0, .int .i64 0, .int .i64 0, .int .i64 0, .int .i64 0, .int .i64 0, .int .i64 0, .int .i64 0, .int .i64 0, .int .i64 0, .int .i64 0, .int .i64 0, .int .i64 0, .int .i64 0, .int .i64 0, .int .i64 0, .int .i64 0, .int .i64 0, .int .i64 0, .int .i64 0, .int .i64 0, .int .i64 0, .int .i64 0, .int .i64 0, .int .i64 0, .int .i64 0, .int .i64 0, .int .i64 0, .int .i64 0, .int .i64 0, .int .i64 0, .int .i64 0, .int .i64 0, .int .i64 0, .int .i64 0, .int .i64 0, .int .i64 0, .int .i64 0, .int .i64 0, .int .i64 0, .int .i64 0, .int .i64 0, .int .i64 0, .int .i64 0, .int .i64 0, .int .i64 0, .int .i64 0, .int .i64 0, .int .i64 0, .int .i64 0, .int .i64 0, .int .i64 0, .int .i64 0, .int .i64 0, .int .i64 0, .int .i64 0, .int .i64 0, .int .i64 0, .int .i64 0, .int .i64 0, .int .i64 0, .int .i64 0, .int .i64 0, .int .i64 0, .int .i64 0, .int .i64 0, .int .i64 0, .int .i64 0, .int .i64 0, .int .i64 0, .int .i64 0, .int .i64 0, .int .i64 0, .int .i64 0, .int .i64 0, .int .i64 0, .int .i64 0, .int .i64 0, .int .i64 0, .int .i64 0, .int .i64 0, .int .i64 0, .int .i64 0, .int .i64 0, .int .i64 0, .int .i64 0, .int .i64 0, .int .i64 0, .int .i64 0, .int .i64 0, .int .i64 0, .int .i64 0, .int .i64 0, .int .i64 0, .int .i64 0, .int .i64 0, .int .i64 0, .int .i64 0, .int .i64 0, .int .i64 0, .int .i64 0, .int .i64 0, .int .i64 0, .int .i64 0, .int .i64 0, .int .i64 0, .int .i64 0, .int .i64 0, .int .i64 0, .int .i64 0, .int .i64 0, .int .i64 0, .int .i64 0, .int .i64 0, .int .i64 0, .int .i64 0, .int .i64 0, .int .i64 0, .int .i64 0, .int .i64 0, .int .i64 0, .int .i64 0, .int .i64 0, .int .i64 0, .int .i64 0, .int .i64 0, .int .i64 0, .int .i64 0, .int .i64 0, .int .i64 0, .int .i64 0, .int .i64 0, .int .i64 0, .int .i64 0, .int .i64 0, .int .i64 0, .int .i64 0, .int .i64 0, .int .i64 0, .int .i64 0, .int .i64 0, .int .i64 0, .int .i64 0, .int .i64 0, .int .i64 0, .int .i64 0, .int .i64 0, .int .i64 0, .int .i64 0, .int .i64 0, .int .i64 0, .int .i64 0, .int .i64 0, .int .i64 0, .int .i64 0, .int .i64 0, .int .i64 0, .int .i64 0, .int .i64 0, .int .i64 0, .int .i64 0, .int .i64 0, .int .i64 0, .int .i64 0, .int .i64 0, .int .i64 0, .int .i64 0, .int .i64 0, .int .i64 0, .int .i64 0, .int .i64 0, .int .i64 0, .int .i64 0, .int .i64 0, .int .i64 0, .int .i64 0, .int .i64 0, .int .i64 0, .int .i64 0, .int .i64 0, .int .i64 0, .int .i64 0, .int .i64 0, .int .i64 0, .int .i64 0, .int .i64 0, .int .i64 0, .int .i64 0, .int .i64 0, .int .i64 0, .int .i64 0, .int .i64 0, .int .i64 0, .int .i64 0, .int .i64 0, .int .i64 0, .int .i64 0, .int .i64 0, .int .i64 0, .int .i64 0, .int .i64 0, .int .i64 0, .int .i64 0, .int .i64 0, .int .i64 0, .int .i64 0, .int .i64 0, .int .i64 0, .int .i64 0, .int .i64 0, .int .i64 0, .int .i64 0, .int .i64 0, .int .i64 0, .int .i64 0, .int .i64 0, .int .i64 0, .int .i64 0, .int .i64 0, .int .i64 0, .int .i64 0, .int .i64 0, .int .i64 0, .int .i64 0, .int .i64 0, .int .i64 0, .int .i64 0, .int .i64 0, .int .i64 0, .int .i64 0, .int .i64 0, .int .i64 0, .int .i64 0, .int .i64 0, .int .i64 0, .int .i64 0, .int .i64 0, .int .i64 0, .int .i64 0, .int .i64 0, .int .i64 0, .int .i64 0, .int .i64 0, .int .i64 0, .int .i64 0, .int .i64 0, .int .i64 0, .int .i64 0, .int .i64 0, .int .i64 0, .int .i64 0, .int .i64 0, .int .i64 0, .int .i64 0, .int .i64 0, .int .i64 0, .int .i64 0, .int .i64 0, .int .i64 0, .int .i64 0, .int .i64 0, .int .i64 0, .int .i64 0, .int .i64 0, .int .i64 0, .int .i64 0, .int .i64 0, .int .i64 0, .int .i64 0, .int .i64 0, .int .i64 0, .int .i64 0, .int .i64 0, .int .i64 0, .int .i64 0, .int .i64 0, .int .i64 0, .int .i64 0, .int .i64 0, .int .i64 0, .int .i64 0, .int .i64 0, .int .i64 0, .int .i64 0, .int .i64 0, .int .i64 0, .int .i64 0, .int .i64 0, .int .i64 0, .int .i64 0, .int .i64 0, .int .i64 0, .int .i64 0, .int .i64 0, .int .i64 0, .int .i64 0, .int .i64 0, .int .i64 0])), none, []⟩]
def k_mount_reaches_through_r1 : List AOper := [
  ⟨some 10, .load (some (576)) (.tmp 3), none, []⟩,
 ⟨some 7, .box (.const (.agg [.int .i64 0, .int .i64 0, .int .i64 0, .int .i64 0, .int .i64 0, .int .i64 0, .int .i64 0, .int .i64 0, .int .i64 0, .int .i64 0, .int .i64 0, .int .i64 0, .int .i64 0, .int .i64 0, .int .i64 0, .int .i64 0, .int .i64 0, .int .i64 0, .int .i64 0, .int .i64 0, .int .i64 0, .int .i64 0, .int .i64 0, .int .i64 0, .int .i64 0, .int .i64 0, .int .i64 0, .int .i64 0, .int .i64 0, .int .i64 0, .int .i64 0, .int .i64 0, .int .i64 0, .int .i64 0, .int .i64 0, .int .i64 0, .int .i64 0, .int .i64 0, .int .i64 0, .int .i64 0, .int .i64 0, .int .i64 0, .int .i64 0, .int .i64 0, .int .i64 0, .int .i64 0, .int .i64 0, .int .i64 0, .int .i64 0, .int .i64 0, .int .i64 0, .int .i64 0, .int .i64 0, .int .i64 0, .int .i64 0, .int .i64 0, .int .i64 0, .int .i64 0, .int .i64 0, .int .i64 0, .int .i64 0, .int .i64 0, .int .i64 0, .int .i64 0, .int .i64 0, .int .i64 0, .int .i64 0, .int .i64 0, .int .i64 0, .int .i64 0, .int .i64 0, .int .i64 0, .int .i64 0, .int .i64 0, .int .i64 0, .int .i64 0, .int .i64 0, .int .i64 0, .int .i64 0, .int .i64 0, .int .i64 0, .int .i64 0, .int .i64 0, .int .i64 0, .int .i64 0, .int .i64 0, .int .i64 0, .int .i64 0, .int .i64 0, .int .i64 0, .int .i64 0, .int .i64 0, .int .i64 0, .int .i64 0, .int .i64 0, .int .i64 0, .int .i64 0, .int .i64 0, .int .i64 0, .int .i64 0, .int .i64 0, .int .i64 0, .int .i64 0, .int .i64 0, .int .i64 0, .int .i64 0, .int .i64 0, .int .i64 0, .int .i64 0, .int .i64 0, .int .i64 0, .int .i64 0, .int .i64 0, .int .i64 0, .int .i64 0, .int .i64 0, .int .i64 0, .int .i64 0, .int .i64 0, .int .i64 0, .int .i64 0, .int .i64 0, .int .i64 0, .int .i64 0, .int .i64 0, .int .i64 0, .int .i64 0, .int .i64 0, .int .i64 0, .int .i64 0, .int .i64 0, .int .i64 0, .int .i64 0, .int .i64 0, .int .i64 0, .int .i64 0, .int .i64 0, .int .i64 0, .int .i64 0, .int .i64 0, .int .i64 0, .int .i64 0, .int .i64 0, .int .i64 0, .int .i64 0, .int .i64 0, .int .i64 0, .int .i64 0, .int .i64 0, .int .i64 0, .int .i64 0, .int .i64 0, .int .i64 0, .int .i64 0, .int .i64 0, .int .i64 0, .int .i64 0, .int .i64 0, .int .i64 0, .int .i64 0, .int .i64 0, .int .i64 0, .int .i64 0, .int .i64 0, .int .i64 0, .int .i64 0, .int .i64 0, .int .i64 0, .int .i64 0, .int .i64 0, .int .i64 0, .int .i64 0, .int .i64 0, .int .i64 0, .int .i64 0, .int .i64 0, .int .i64 0, .int .i64 0, .int .i64 0, .int .i64 0, .int .i64 0, .int .i64 0, .int .i64 0, .int .i64 0, .int .i64 0, .int .i64 0, .int .i64 0, .int .i64 0, .int .i64 0, .int .i64 0, .int .i64 0, .int .i64 0, .int .i64 0, .int .i64 0, .int .i64 0, .int .i64 0, .int .i64 0, .int .i64 0, .int .i64 0, .int .i64 0, .int .i64 0, .int .i64 0, .int .i64 0, .int .i64 0, .int .i64 0, .int .i64 0, .int .i64 0, .int .i64 0, .int .i64 0, .int .i64 0, .int .i64 0, .int .i64 0, .int .i64 0, .int .i64 0, .int .i64 0, .int .i64 0, .int .i64 0, .int .i64 0, .int .i64 0, .int .i64 0, .int .i64 0, .int .i64 0, .int .i64 0, .int .i64 0, .int .i64 0, .int .i64 0, .int .i64 0, .int .i64 0, .int .i64 0, .int .i64 0, .int .i64 0, .int .i64 0, .int .i64 0, .int .i64 0, .int .i64 0, .int .i64 0, .int .i64 0, .int .i64 0, .int .i64 0, .int .i64 0, .int .i64 0, .int .i64 0, .int .i64 0, .int .i64 0, .int .i64 0, .int .i64 0, .int .i64 0, .int .i64 0, .int .i64 0, .int .i64 0, .int .i64 0, .int .i64 0, .int .i64 0, .int .i64 0, .int .i64 0, .int .i64 0, .int .i64 0, .int .i64 0, .int .i64 0, .int .i64 0, .int .i64 0, .int .i64 0, .int .i64 0, .int .i64 0, .int .i64 0, .int .i64 0, .int .i64 0, .int .i64 0, .int .i64 0, .int .i64 0, .int .i64 0, .int .i64 0, .int .i64 0, .int .i64 0, .int .i64 0, .int .i64 0, .int .i64 0, .int .i64 0, .int .i64 0, .int .i64 0, .int .i64 0, .int .i64 0, .int .i64 0, .int .i64 0, .int .i64 0, .int .i64 0, .int .i64 0, .int .i64 0, .int .i64 0, .int .i64 0, .int .i64 0, .int .i64 0, .int .i64 0, .int .i64 0, .int .i64 0, .int .i64 0, .int .i64 0, .int .i64 0, .int .i64 0, .int .i64 0, .int .i64 0, .int .i64 0, .int .i64 0, .int .i64 0, .int .i64 0, .int .i64 0, .int .i64 0, .int .i64 0, .int .i64 0, .int .i64 0, .int .i64 0, .int .i64 0, .int .i64 0, .int .i64 0, .int .i64 0, .int .i64 0, .int .i64 0, .int .i64 0, .int .i64 0, .int .i64 0, .int .i64 0, .int .i64 0, .int .i64 0, .int .i64 0, .int .i64 0, .int .i64 0, .int .i64 0, .int .i64 0, .int .i64 0, .int .i64 0, .int .i64 0, .int .i64 0, .int .i64 0, .int .i64 0, .int .i64 0, .int .i64 0, .int .i64 0, .int .i64 0, .int .i64 0, .int .i64 0, .int .i64 0, .int .i64 0, .int .i64 0, .int .i64 0, .int .i64 0, .int .i64 0, .int .i64 0, .int .i64 0, .int .i64 0, .int .i64 0, .int .i64 0, .int .i64 0, .int .i64 0, .int .i64 0, .int .i64 0, .int .i64 0, .int .i64 0, .int .i64 0, .int .i64 0, .int .i64 0, .int .i64 0, .int .i64 0, .int .i64 0, .int .i64 0, .int .i64 0, .int .i64 0, .int .i64 0, .int .i64 0, .int .i64 0, .int .i64 0, .int .i64 0, .int .i64 0, .int .i64 0, .int .i64 0, .int .i64 0, .int .i64 0, .int .i64 0, .int .i64 0, .int .i64 0, .int .i64 0, .int .i64 0, .int .i64 0, .int .i64 0, .int .i64 0, .int .i64 0, .int .i64 0, .int .i64 0, .int .i64 0, .int .i64 0, .int .i64 0, .int .i64 0, .int .i64 0, .int .i64 0, .int .i64 0, .int .i64 0, .int .i64 0, .int .i64 0, .int .i64 0, .int .i64 0, .int .i64 0, .int .i64 0, .int .i64 0, .int .i64 0, .int .i64 0, .int .i64 0, .int .i64 0, .int .i64 0, .int .i64 0, .int .i64 0, .int .i64 0, .int .i64 0, .int .i64 0, .int .i64 0, .int .i64 0, .int .i64 0, .int .i64 0, .int .i64 0, .int .i64 0, .int .i64 0, .int .i64 0, .int .i64 0, .int .i64 0, .int .i64 0, .int .i64 0, .int .i64 0, .int .i64 0, .int .i64 0, .int .i64 0, .int .i64 0, .int .i64 0, .int .i64 0, .int .i64 0, .int .i64 0, .int .i64 0, .int .i64 0, .int .i64 0, .int .i64 0, .int .i64 0, .int .i64 0, .int .i64 0, .int .i64 0, .int .i64 0, .int .i64 0, .int .i64 0, .int .i64 0, .int .i64 0, .int .i64 0, .int .i64 0, .int .i64 0, .int .i64 0, .int .i64 0, .int .i64 0, .int .i64 0, .int .i64 0, .int .i64 0, .int .i64 0, .int .i64 0, .int .i64 0, .int .i64 0, .int .i64 0, .int .i64 0, .int .i64 0, .int .i64 0, .int .i64 0, .int .i64 0, .int .i64 0, .int .i64 0, .int .i64 0, .int .i64 0, .int .i64 0, .int .i64 0, .int .i64 0, .int .i64 0, .int .i64 0, .int .i64 0, .int .i64 0, .int .i64 0, .int .i64 0, .int .i64 0, .int .i64 0, .int .i64 0, .int .i64 0, .int .i64 0, .int .i64 0, .int .i64 0, .int .i64 0, .int .i64 0, .int .i64 0, .int .i64 0, .int .i64 0, .int .i64 0, .int .i64 0, .int .i64 0, .int .i64 0, .int .i64 0, .int .i64 0, .int .i64 0, .int .i64 0, .int .i64 0, .int .i64 0, .int .i64 0, .int .i64 0, .int .i64 0, .int .i64 0, .int .i64 0, .int .i64 0, .int .i64 0, .int .i64 0, .int .i64 0, .int .i64 0, .int .i64 0, .int .i64 0, .int .i64 0, .int .i64 0, .int .i64 0, .int .i64 0, .int .i64 0, .int .i64 0, .int .i64 0, .int .i64 0, .int .i64 0, .int .i64 0, .int .i64 0, .int .i64 0, .int .i64 0, .int .i64 0, .int .i64 0, .int .i64 0, .int .i64 0, .int .i64 0, .int .i64 0, .int .i64 0, .int .i64 0, .int .i64 0, .int .i64 0, .int .i64 0, .int .i64 0, .int .i64 0, .int .i64 0, .int .i64 0, .int .i64 0, .int .i64 0, .int .i64 0, .int .i64 0, .int .i64 0, .int .i64 0, .int .i64 0, .int .i64 0, .int .i64 0, .int .i64 0, .int .i64 0, .int .i64 0, .int .i64 0, .int .i64 0, .int .i64 0, .int .i64 0, .int .i64 0, .int .i64 0, .int .i64 0, .int .i64 0, .int .i64 0, .int .i64 0, .int .i64 0, .int .i64 0, .int .i64 0, .int .i64 0, .int .i64 0, .int .i64 0, .int .i64 0, .int .i64 0, .int .i64 0, .int .i64 0, .int .i64 0, .int .i64 0, .int .i64 0, .int .i64 0])), none, []⟩,
 ⟨none, .store 576 (.tmp 7) (.tmp 10), none, []⟩]
def k_mount_reaches_through_r2 : List AOper := [
  ⟨some 11, .move (.tmp 2), none, []⟩,
 ⟨some 12, .move (.const (.int .i64 0)), none, []⟩]
def k_mount_reaches_through_r3 : List AOper := [
  ⟨some 13, .bin .plain .lss (.tmp 12) (.tmp 11), none, []⟩]
def k_mount_reaches_through_r4 : List AOper := [
  ⟨some 14, .move (.tmp 12), none, []⟩,
 ⟨some 8, .move (.tmp 14), none, []⟩]
def k_mount_reaches_through_r5 : List AOper := [
  ⟨some 15, .move (.tmp 2), none, []⟩,
 ⟨some 16, .move (.const (.int .i64 0)), none, []⟩]
def k_mount_reaches_through_r6 : List AOper := [
  ⟨some 17, .bin .plain .lss (.tmp 16) (.tmp 15), none, []⟩]
def k_mount_reaches_through_r7 : List AOper := [
  ⟨some 18, .move (.tmp 16), none, []⟩,
 ⟨some 9, .move (.tmp 18), none, []⟩]
def k_mount_reaches_through_r8 : List AOper := [
  ⟨some 19, .move (.tmp 8), none, []⟩,
 ⟨some 20, .move (.tmp 9), none, [0]⟩,
 ⟨some 21, .move (.tmp 8), none, [0, 1]⟩,
 ⟨some 22, .move (.tmp 9), none, [0, 1, 2]⟩,
 ⟨some 23, .indexArr 24 24 (.tmp 3) (.tmp 21), none, [0, 1, 3]⟩,
 ⟨some 24, .indexArr 24 1 (.tmp 23) (.tmp 22), none, [0, 1]⟩,
 ⟨some 25, .load none (.tmp 24), none, [0, 1]⟩,
 ⟨some 26, .move (.tmp 8), none, [0, 1, 2, 3, 4, 5, 6]⟩,
 ⟨some 27, .move (.tmp 1), none, [0, 1, 2, 3, 4, 5, 6, 7]⟩,
 ⟨some 28, .indexArr 24 24 (.tmp 3) (.tmp 26), none, [0, 1, 2, 3, 4, 5, 6, 8]⟩,
 ⟨some 29, .indexArr 24 1 (.tmp 28) (.tmp 27), none, [0, 1, 2, 3, 4, 5, 6]⟩,
 ⟨some 30, .load none (.tmp 29), none, [0, 1, 2, 3, 4, 5, 6]⟩,
 ⟨some 31, .move (.tmp 1), none, [0, 1, 2, 3, 4, 5, 6, 7, 8, 9, 10, 11]⟩,
 ⟨some 32, .move (.tmp 9), none, [0, 1, 2, 3, 4, 5, 6, 7, 8, 9, 10, 11, 12]⟩,
 ⟨some 33, .indexArr 24 24 (.tmp 3) (.tmp 31), none, [0, 1, 2, 3, 4, 5, 6, 7, 8, 9, 10, 11, 13]⟩,
 ⟨some 34, .indexArr 24 1 (.tmp 33) (.tmp 32), none, [0, 1, 2, 3, 4, 5, 6, 7, 8, 9, 10, 11]⟩,
 ⟨some 35, .load none (.tmp 34), none, [0, 1, 2, 3, 4, 5, 6, 7, 8, 9, 10, 11]⟩,
 ⟨some 36, .bin .plain .add (.tmp 30) (.tmp 35), none, [0, 1, 2, 3, 4, 5, 6]⟩,
 ⟨some 37, .minmax false [.tmp 25, .tmp 36], none, [0, 1]⟩,
 ⟨some 38, .indexArr 24 24 (.tmp 7) (.tmp 19), none, [1, 2, 3, 4, 5, 6, 7, 8, 9, 10, 11, 12, 13, 14, 15, 16, 17, 18]⟩,
 ⟨some 39, .indexArr 24 1 (.tmp 38) (.tmp 20), none, []⟩,
 ⟨none, .store 1 (.tmp 39) (.tmp 37), none, []⟩]
def k_mount_reaches_through_r8s : List (List AOper) := [
  [
  ⟨some 19, .move (.tmp 8), none, []⟩,
 ⟨some 20, .move (.tmp 9), none, [0]⟩,
 ⟨some 21, .move (.tmp 8), none, [0, 1]⟩,
 ⟨some 22, .move (.tmp 9), none, [0, 1, 2]⟩,
 ⟨some 23, .indexArr 24 24 (.tmp 3) (.tmp 21), none, [0, 1, 3]⟩,
 ⟨some 24, .indexArr 24 1 (.tmp 23) (.tmp 22), none, [0, 1]⟩,
 ⟨some 25, .load none (.tmp 24), none, [0, 1]⟩,
 ⟨some 26, .move (.tmp 8), none, [0, 1, 2, 3, 4, 5, 6]⟩,
 ⟨some 27, .move (.tmp 1), none, [0, 1, 2, 3, 4, 5, 6, 7]⟩,
 ⟨some 28, .indexArr 24 24 (.tmp 3) (.tmp 26), none, [0, 1, 2, 3, 4, 5, 6, 8]⟩,
 ⟨some 29, .indexArr 24 1 (.tmp 28) (.tmp 27), none, [0, 1, 2, 3, 4, 5, 6]⟩,
 ⟨some 30, .load none (.tmp 29), none, [0, 1, 2, 3, 4, 5, 6]⟩,
 ⟨some 31, .move (.tmp 1), none, [0, 1, 2, 3, 4, 5, 6, 7, 8, 9, 10, 11]⟩,
 ⟨some 32, .move (.tmp 9), none, [0, 1, 2, 3, 4, 5, 6, 7, 8, 9, 10, 11, 12]⟩,
 ⟨some 33, .indexArr 24 24 (.tmp 3) (.tmp 31), none, [0, 1, 2, 3, 4, 5, 6, 7, 8, 9, 10, 11, 13]⟩,
 ⟨some 34, .indexArr 24 1 (.tmp 33) (.tmp 32), none, [0, 1, 2, 3, 4, 5, 6, 7, 8, 9, 10, 11]⟩,
 ⟨some 35, .load none (.tmp 34), none, [0, 1, 2, 3, 4, 5, 6, 7, 8, 9, 10, 11]⟩,
 ⟨some 36, .bin .plain .add (.tmp 30) (.tmp 35), none, [0, 1, 2, 3, 4, 5, 6]⟩,
 ⟨some 37, .minmax false [.tmp 25, .tmp 36], none, [0, 1]⟩,
 ⟨some 38, .indexArr 24 24 (.tmp 7) (.tmp 19), none, [1, 2, 3, 4, 5, 6, 7, 8, 9, 10, 11, 12, 13, 14, 15, 16, 17, 18]⟩], 
  [
  ⟨some 39, .indexArr 24 1 (.tmp 38) (.tmp 20), none, []⟩], 
  [
  ⟨none, .store 1 (.tmp 39) (.tmp 37), none, []⟩]]
theorem k_mount_reaches_through_r8_sg : segs k_mount_reaches_through_r8 = k_mount_reaches_through_r8s := by kernel_rfl
theorem k_mount_reaches_through_r8_st : statOK k_mount_reaches_through_r8 = true := by kernel_rfl
def k_mount_reaches_through_r9 : List AOper := [
  ⟨some 40, .bin .plain .add (.tmp 16) (.const (.int .i64 1)), none, []⟩,
 ⟨some 16, .move (.tmp 40), none, []⟩]
def k_mount_reaches_through_r10 : ACode := (.seq (.reg k_mount_reaches_through_r6 false) (.seq (.cond (.tmp 17) .skip (.exit 2)) (.seq (.block 3 (.seq (.reg k_mount_reaches_through_r7 false) (.reg k_mount_reaches_through_r8 true))) (.reg k_mount_reaches_through_r9 false))))
def k_mount_reaches_through_r11 : List AOper := [
  ⟨some 41, .bin .plain .add (.tmp 12) (.const (.int .i64 1)), none, []⟩,
 ⟨some 12, .move (.tmp 41), none, []⟩]
def k_mount_reaches_through_r12 : ACode := (.seq (.reg k_mount_reaches_through_r3 false) (.seq (.cond (.tmp 13) .skip (.exit 0)) (.seq (.block 1 (.seq (.reg k_mount_reaches_through_r4 false) (.seq (.reg k_mount_reaches_through_r5 false) (.block 2 (.loop k_mount_reaches_through_r10))))) (.reg k_mount_reaches_through_r11 false))))
def k_mount_reaches_through_r13 : List AOper := [
  ⟨some 42, .load (some (576)) (.tmp 7), none, []⟩,
 ⟨none, .store 576 (.tmp 6) (.tmp 42), none, []⟩]
def k_mount_reaches_through : AFun := { params := 3, ntmps := 43, body := (.seq (.reg k_mount_reaches_through_r0 false) (.seq (.reg k_mount_reaches_through_r1 false) (.seq (.seq (.reg k_mount_reaches_through_r2 false) (.block 0 (.loop k_mount_reaches_through_r12))) (.seq (.reg k_mount_reaches_through_r13 false) .ret)))), res := [.cell 6 (some ((some (576))))] }
theorem k_mount_reaches_through_ok : cfun Try.prog Try.f142 = k_mount_reaches_through := by kernel_rfl

def k_mount_reaches_clashes_r0 : List AOper := [
  ⟨some 2, .box (.tmp 0), none, []⟩,
 ⟨some 4, .move (.const (.bool false)), none, []⟩]
def k_mount_reaches_clashes_r1 : List AOper := [
  ⟨some 6, .move (.tmp 1), none, []⟩,
 ⟨some 7, .move (.const (.int .i64 0)), none, []⟩]
def k_mount_reaches_clashes_r2 : List AOper := [
  ⟨some 8, .bin .plain .lss (.tmp 7) (.tmp 6), none, []⟩]
def k_mount_reaches_clashes_r3 : List AOper := [
  ⟨some 9, .move (.tmp 7), none, []⟩,
 ⟨some 5, .move (.tmp 9), none, []⟩]
def k_mount_reaches_clashes_r4 : List AOper := [
  ⟨some 10, .move (.tmp 5), none, []⟩,
 ⟨some 11, .move (.tmp 5), none, []⟩,
 ⟨some 12, .indexArr 24 24 (.tmp 2) (.tmp 10), none, []⟩,
 ⟨some 13, .indexArr 24 1 (.tmp 12) (.tmp 11), none, []⟩,
 ⟨some 14, .load none (.tmp 13), none, []⟩,
 ⟨some 15, .bin .plain .lss (.tmp 14) (.const (.int .i64 0)), none, []⟩]
def k_mount_reaches_clashes_r5 : List AOper := [
  ⟨some 4, .move (.const (.bool true)), none, []⟩]
def k_mount_reaches_clashes_r6 : List AOper := [
  ⟨some 16, .bin .plain .add (.tmp 7) (.const (.int .i64 1)), none, []⟩,
 ⟨some 7, .move (.tmp 16), none, []⟩]
def k_mount_reaches_clashes_r7 : ACode := (.seq (.reg k_mount_reaches_clashes_r2 false) (.seq (.cond (.tmp 8) .skip (.exit 0)) (.seq (.block 1 (.seq (.reg k_mount_reaches_clashes_r3 false) (.seq (.reg k_mount_reaches_clashes_r4 false) (.cond (.tmp 15) (.seq (.reg k_mount_reaches_clashes_r5 false) .ret) .skip)))) (.reg k_mount_reaches_clashes_r6 false))))
def k_mount_reaches_clashes_r8 : List AOper := [
  ⟨some 4, .move (.const (.bool false)), none, []⟩]
def k_mount_reaches_clashes : AFun := { params := 2, ntmps := 17, body := (.seq (.reg k_mount_reaches_clashes_r0 false) (.seq (.seq (.reg k_mount_reaches_clashes_r1 false) (.block 0 (.loop k_mount_reaches_clashes_r7))) (.seq (.reg k_mount_reaches_clashes_r8 false) .ret))), res := [.tmp 4] }
theorem k_mount_reaches_clashes_ok : cfun Try.prog Try.f143 = k_mount_reaches_clashes := by kernel_rfl

def k_mount_isPoint_r0 : List AOper := [
  ⟨some 2, .box (.tmp 0), none, []⟩,
 ⟨some 4, .move (.const (.bool false)), none, []⟩]
def k_mount_isPoint_r1 : List AOper := [
  ⟨some 5, .move (.tmp 1), none, []⟩,
 ⟨some 6, .fieldAddr 0 (.tmp 2), none, []⟩,
 ⟨some 7, .load none (.tmp 6), none, []⟩,
 ⟨some 8, .bin .plain .sub (.tmp 7) (.const (.int .i64 1)), none, []⟩,
 ⟨some 9, .call (.const (.fn (.func 91) [] [])) [.tmp 5, .const (.int .i64 0), .tmp 8], none, []⟩,
 ⟨some 4, .move (.tmp 9), none, []⟩]
def k_mount_isPoint : AFun := { params := 2, ntmps := 10, body := (.seq (.reg k_mount_isPoint_r0 false) (.seq (.reg k_mount_isPoint_r1 false) .ret)), res := [.tmp 4] }
theorem k_mount_isPoint_ok : cfun Try.prog Try.f144 = k_mount_isPoint := by kernel_rfl

def k_mount_checkRange_r0 : List AOper := [
  ⟨some 3, .box (.tmp 0), none, []⟩,
 ⟨some 6, .move (.const (.int .i64 0)), none, []⟩]
def k_mount_checkRange_r1 : List AOper := [
  ⟨some 7, .fieldAddr 0 (.tmp 3), none, []⟩,
 ⟨some 8, .load none (.tmp 7), none, []⟩,
 ⟨some 9, .fieldAddr 1 (.tmp 3), none, []⟩,
 ⟨some 10, .load none (.tmp 9), none, []⟩,
 ⟨some 11, .bin .plain .gtr (.tmp 8) (.tmp 10), none, []⟩]
def k_mount_checkRange_r2 : List AOper := [
  ⟨some 6, .move (.const (.int .i64 11)), none, []⟩]
def k_mount_checkRange_r3 : List AOper := [
  ⟨some 12, .fieldAddr 0 (.tmp 3), none, []⟩,
 ⟨some 13, .load none (.tmp 12), none, []⟩,
 ⟨some 14, .move (.tmp 1), none, []⟩,
 ⟨some 15, .bin .plain .lss (.tmp 13) (.tmp 14), none, []⟩,
 ⟨some 16, .move (.tmp 15), none, []⟩,
 ⟨some 17, .fieldAddr 1 (.tmp 3), (some (16, false)), []⟩,
 ⟨some 18, .load none (.tmp 17), (some (16, false)), []⟩,
 ⟨some 19, .move (.tmp 2), (some (16, false)), []⟩,
 ⟨some 20, .bin .plain .gtr (.tmp 18) (.tmp 19), (some (16, false)), []⟩,
 ⟨some 21, .pick (.tmp 16) (.const (.bool true)) (.tmp 20), none, []⟩]
def k_mount_checkRange_r4 : List AOper := [
  ⟨some 6, .move (.const (.int .i64 2)), none, []⟩]
def k_mount_checkRange_r5 : List AOper := [
  ⟨some 6, .move (.const (.int .i64 0)), none, []⟩]
def k_mount_checkRange : AFun := { params := 3, ntmps := 22, body := (.seq (.reg k_mount_checkRange_r0 false) (.seq (.seq (.reg k_mount_checkRange_r1 false) (.cond (.tmp 11) (.seq (.reg k_mount_checkRange_r2 false) .ret) .skip)) (.seq (.seq (.reg k_mount_checkRange_r3 false) (.cond (.tmp 21) (.seq (.reg k_mount_checkRange_r4 false) .ret) .skip)) (.seq (.reg k_mount_checkRange_r5 false) .ret)))), res := [.tmp 6] }
theorem k_mount_checkRange_ok : cfun Try.prog Try.f145 = k_mount_checkRange := by kernel_rfl

def k_mount_isPart_r0 : List AOper := [
  ⟨some 2, .box (.tmp 0), none, []⟩,
 ⟨some 4, .move (.const (.bool false)), none, []⟩]
def k_mount_isPart_r1 : List AOper := [
  ⟨some 5, .move (.tmp 1), none, []⟩,
 ⟨some 6, .fieldAddr 0 (.tmp 2), none, []⟩,
 ⟨some 7, .load none (.tmp 6), none, []⟩,
 ⟨some 8, .len false (.tmp 7), none, []⟩,
 ⟨some 9, .bin .plain .sub (.tmp 8) (.const (.int .i64 1)), none, []⟩,
 ⟨some 10, .call (.const (.fn (.func 91) [] [])) [.tmp 5, .const (.int .i64 0), .tmp 9], none, []⟩,
 ⟨some 4, .move (.tmp 10), none, []⟩]
def k_mount_isPart : AFun := { params := 2, ntmps := 11, body := (.seq (.reg k_mount_isPart_r0 false) (.seq (.reg k_mount_isPart_r1 false) .ret)), res := [.tmp 4] }
theorem k_mount_isPart_ok : cfun Try.prog Try.f150 = k_mount_isPart := by kernel_rfl

def k_mount_locks_asked_r0 : List AOper := [
  ⟨some 2, .box (.tmp 0), none, []⟩,
 ⟨some 4, .move (.const (.nilsl)), none, []⟩]
def k_mount_locks_asked_r1 : List AOper := [
  ⟨some 5, .move (.const (.nilsl)), none, []⟩]
def k_mount_locks_asked_r2 : List AOper := [
  ⟨some 7, .fieldAddr 0 (.tmp 2), none, []⟩,
 ⟨some 8, .load none (.tmp 7), none, []⟩,
 ⟨some 9, .len false (.tmp 8), none, []⟩,
 ⟨some 10, .move (.const (.int .i64 0)), none, []⟩]
def k_mount_locks_asked_r3 : List AOper := [
  ⟨some 11, .bin .plain .lss (.tmp 10) (.tmp 9), none, []⟩]
def k_mount_locks_asked_r4 : List AOper := [
  ⟨some 12, .move (.tmp 10), none, []⟩,
 ⟨some 6, .move (.tmp 12), none, []⟩]
def k_mount_locks_asked_r5 : List AOper := [
  ⟨some 13, .move (.tmp 1), none, []⟩,
 ⟨some 14, .move (.tmp 6), none, []⟩,
 ⟨some 15, .call (.tmp 13) [.tmp 14], none, []⟩]
def k_mount_locks_asked_r6 : List AOper := [
  ⟨some 16, .move (.tmp 5), none, []⟩,
 ⟨some 17, .move (.tmp 6), none, []⟩,
 ⟨some 18, .buildSlice 1 [.tmp 17], none, []⟩,
 ⟨some 19, .append 1 8 false (.tmp 16) (.tmp 18), none, []⟩,
 ⟨some 5, .move (.tmp 19), none, []⟩]
def k_mount_locks_asked_r7 : List AOper := [
  ⟨some 20, .bin .plain .add (.tmp 10) (.const (.int .i64 1)), none, []⟩,
 ⟨some 10, .move (.tmp 20), none, []⟩]
def k_mount_locks_asked_r8 : ACode := (.seq (.reg k_mount_locks_asked_r3 false) (.seq (.cond (.tmp 11) .skip (.exit 0)) (.seq (.block 1 (.seq (.reg k_mount_locks_asked_r4 false) (.seq (.reg k_mount_locks_asked_r5 false) (.cond (.tmp 15) (.reg k_mount_locks_asked_r6 false) .skip)))) (.reg k_mount_locks_asked_r7 false))))
def k_mount_locks_asked_r9 : List AOper := [
  ⟨some 21, .move (.tmp 5), none, []⟩,
 ⟨some 4, .move (.tmp 21), none, []⟩]
def k_mount_locks_asked : AFun := { params := 2, ntmps := 22, body := (.seq (.reg k_mount_locks_asked_r0 false) (.seq (.reg k_mount_locks_asked_r1 false) (.seq (.seq (.reg k_mount_locks_asked_r2 false) (.block 0 (.loop k_mount_locks_asked_r8))) (.seq (.reg k_mount_locks_asked_r9 false) .ret)))), res := [.tmp 4] }
theorem k_mount_locks_asked_ok : cfun Try.prog Try.f151 = k_mount_locks_asked := by kernel_rfl

def k_mount_locks_may_1_r0 : List AOper := [
  ⟨some 4, .move (.const (.bool false)), none, []⟩]
def k_mount_locks_may_1_r1 : List AOper := [
  ⟨some 5, .load none (.tmp 1), none, []⟩,
 ⟨some 6, .move (.tmp 0), none, [0]⟩,
 ⟨some 7, .call (.const (.fn (.func 123) [] [])) [.tmp 5, .tmp 6], none, []⟩,
 ⟨some 8, .load none (.tmp 1), none, [0, 1, 2]⟩,
 ⟨some 9, .bin .plain .neq (.tmp 7) (.tmp 8), none, []⟩,
 ⟨some 10, .move (.tmp 9), none, []⟩,
 ⟨some 11, .load none (.tmp 1), (some (10, true)), []⟩,
 ⟨some 12, .fieldAddr 0 (.tmp 2), (some (10, true)), [6]⟩,
 ⟨some 13, .load none (.tmp 12), (some (10, true)), [6]⟩,
 ⟨some 14, .move (.tmp 0), (some (10, true)), [6, 7, 8]⟩,
 ⟨some 15, .indexAddr 1 (.tmp 13) (.tmp 14), (some (10, true)), [6]⟩,
 ⟨some 16, .load none (.tmp 15), (some (10, true)), [6]⟩,
 ⟨some 17, .bin .plain .and (.tmp 11) (.tmp 16), (some (10, true)), []⟩,
 ⟨some 18, .fieldAddr 0 (.tmp 2), (some (10, true)), [6, 7, 8, 9, 10, 11, 12]⟩,
 ⟨some 19, .load none (.tmp 18), (some (10, true)), [6, 7, 8, 9, 10, 11, 12]⟩,
 ⟨some 20, .move (.tmp 0), (some (10, true)), [6, 7, 8, 9, 10, 11, 12, 13, 14]⟩,
 ⟨some 21, .indexAddr 1 (.tmp 19) (.tmp 20), (some (10, true)), [6, 7, 8, 9, 10, 11, 12]⟩,
 ⟨some 22, .load none (.tmp 21), (some (10, true)), [6, 7, 8, 9, 10, 11, 12]⟩,
 ⟨some 23, .bin .plain .eql (.tmp 17) (.tmp 22), (some (10, true)), []⟩,
 ⟨some 24, .pick (.tmp 10) (.tmp 23) (.const (.bool false)), none, []⟩,
 ⟨some 25, .move (.tmp 24), none, []⟩,
 ⟨some 26, .load none (.tmp 1), (some (25, true)), []⟩,
 ⟨some 27, .fieldAddr 1 (.tmp 2), (some (25, true)), [21]⟩,
 ⟨some 28, .load none (.tmp 27), (some (25, true)), [21]⟩,
 ⟨some 29, .move (.tmp 0), (some (25, true)), [21, 22, 23]⟩,
 ⟨some 30, .indexAddr 1 (.tmp 28) (.tmp 29), (some (25, true)), [21]⟩,
 ⟨some 31, .load none (.tmp 30), (some (25, true)), [21]⟩,
 ⟨some 32, .bin .plain .and (.tmp 26) (.tmp 31), (some (25, true)), []⟩,
 ⟨some 33, .bin .plain .eql (.tmp 32) (.const (.int .u16 0)), (some (25, true)), []⟩,
 ⟨some 34, .pick (.tmp 25) (.tmp 33) (.const (.bool false)), none, []⟩,
 ⟨some 4, .move (.tmp 34), none, []⟩]
def k_mount_locks_may_1_r1s : List (List AOper) := [
  [
  ⟨some 5, .load none (.tmp 1), none, []⟩,
 ⟨some 6, .move (.tmp 0), none, [0]⟩,
 ⟨some 7, .call (.const (.fn (.func 123) [] [])) [.tmp 5, .tmp 6], none, []⟩,
 ⟨some 8, .load none (.tmp 1), none, [0, 1, 2]⟩], 
  [
  ⟨some 9, .bin .plain .neq (.tmp 7) (.tmp 8), none, []⟩], 
  [
  ⟨some 10, .move (.tmp 9), none, []⟩], 
  [
  ⟨some 11, .load none (.tmp 1), (some (10, true)), []⟩,
 ⟨some 12, .fieldAddr 0 (.tmp 2), (some (10, true)), [6]⟩,
 ⟨some 13, .load none (.tmp 12), (some (10, true)), [6]⟩,
 ⟨some 14, .move (.tmp 0), (some (10, true)), [6, 7, 8]⟩,
 ⟨some 15, .indexAddr 1 (.tmp 13) (.tmp 14), (some (10, true)), [6]⟩,
 ⟨some 16, .load none (.tmp 15), (some (10, true)), [6]⟩,
 ⟨some 17, .bin .plain .and (.tmp 11) (.tmp 16), (some (10, true)), []⟩,
 ⟨some 18, .fieldAddr 0 (.tmp 2), (some (10, true)), [6, 7, 8, 9, 10, 11, 12]⟩,
 ⟨some 19, .load none (.tmp 18), (some (10, true)), [6, 7, 8, 9, 10, 11, 12]⟩,
 ⟨some 20, .move (.tmp 0), (some (10, true)), [6, 7, 8, 9, 10, 11, 12, 13, 14]⟩,
 ⟨some 21, .indexAddr 1 (.tmp 19) (.tmp 20), (some (10, true)), [6, 7, 8, 9, 10, 11, 12]⟩,
 ⟨some 22, .load none (.tmp 21), (some (10, true)), [6, 7, 8, 9, 10, 11, 12]⟩], 
  [
  ⟨some 23, .bin .plain .eql (.tmp 17) (.tmp 22), (some (10, true)), []⟩], 
  [
  ⟨some 24, .pick (.tmp 10) (.tmp 23) (.const (.bool false)), none, []⟩], 
  [
  ⟨some 25, .move (.tmp 24), none, []⟩], 
  [
  ⟨some 26, .load none (.tmp 1), (some (25, true)), []⟩,
 ⟨some 27, .fieldAddr 1 (.tmp 2), (some (25, true)), [21]⟩,
 ⟨some 28, .load none (.tmp 27), (some (25, true)), [21]⟩,
 ⟨some 29, .move (.tmp 0), (some (25, true)), [21, 22, 23]⟩,
 ⟨some 30, .indexAddr 1 (.tmp 28) (.tmp 29), (some (25, true)), [21]⟩,
 ⟨some 31, .load none (.tmp 30), (some (25, true)), [21]⟩], 
  [
  ⟨some 32, .bin .plain .and (.tmp 26) (.tmp 31), (some (25, true)), []⟩], 
  [
  ⟨some 33, .bin .plain .eql (.tmp 32) (.const (.int .u16 0)), (some (25, true)), []⟩], 
  [
  ⟨some 34, .pick (.tmp 25) (.tmp 33) (.const (.bool false)), none, []⟩], 
  [
  ⟨some 4, .move (.tmp 34), none, []⟩]]
theorem k_mount_locks_may_1_r1_sg : segs k_mount_locks_may_1_r1 = k_mount_locks_may_1_r1s := by kernel_rfl
theorem k_mount_locks_may_1_r1_st : statOK k_mount_locks_may_1_r1 = true := by kernel_rfl
def k_mount_locks_may_1 : AFun := { params := 3, ntmps := 35, body := (.seq (.reg k_mount_locks_may_1_r0 false) (.seq (.reg k_mount_locks_may_1_r1 true) .ret)), res := [.tmp 4] }
theorem k_mount_locks_may_1_ok : cfun Try.prog Try.f152 = k_mount_locks_may_1 := by kernel_rfl


abbrev n_law04_MountWinds : Nat := 5
theorem e_law04_MountWinds : EntryOK Try.prog n_law04_MountWinds k_law04_MountWinds := ⟨Try.f5, Try.func5, k_law04_MountWinds_ok, by kernel_rfl⟩
abbrev n_law04_awake : Nat := 19
theorem e_law04_awake : EntryOK Try.prog n_law04_awake k_law04_awake := ⟨Try.f19, Try.func19, k_law04_awake_ok, by kernel_rfl⟩
abbrev n_kit_NewDice : Nat := 20
theorem e_kit_NewDice : EntryOK Try.prog n_kit_NewDice k_kit_NewDice := ⟨Try.f20, Try.func20, k_kit_NewDice_ok, by kernel_rfl⟩
abbrev n_mount_Tight : Nat := 22
theorem e_mount_Tight : EntryOK Try.prog n_mount_Tight k_mount_Tight := ⟨Try.f22, Try.func22, k_mount_Tight_ok, by kernel_rfl⟩
abbrev n_mount_CheckChain : Nat := 24
theorem e_mount_CheckChain : EntryOK Try.prog n_mount_CheckChain k_mount_CheckChain := ⟨Try.f24, Try.func24, k_mount_CheckChain_ok, by kernel_rfl⟩
abbrev n_kit_Dice_Upto : Nat := 35
theorem e_kit_Dice_Upto : EntryOK Try.prog n_kit_Dice_Upto k_kit_Dice_Upto := ⟨Try.f35, Try.func35, k_kit_Dice_Upto_ok, by kernel_rfl⟩
abbrev n_kit_WindingOf : Nat := 40
theorem e_kit_WindingOf : EntryOK Try.prog n_kit_WindingOf k_kit_WindingOf := ⟨Try.f40, Try.func40, k_kit_WindingOf_ok, by kernel_rfl⟩
abbrev n_mount_Wind : Nat := 41
theorem e_mount_Wind : EntryOK Try.prog n_mount_Wind k_mount_Wind := ⟨Try.f41, Try.func41, k_mount_Wind_ok, by kernel_rfl⟩
abbrev n_ref04_Wind : Nat := 42
theorem e_ref04_Wind : EntryOK Try.prog n_ref04_Wind k_ref04_Wind := ⟨Try.f42, Try.func42, k_ref04_Wind_ok, by kernel_rfl⟩
abbrev n_law04_sameChain : Nat := 43
theorem e_law04_sameChain : EntryOK Try.prog n_law04_sameChain k_law04_sameChain := ⟨Try.f43, Try.func43, k_law04_sameChain_ok, by kernel_rfl⟩
abbrev n_mount_CheckKit : Nat := 51
theorem e_mount_CheckKit : EntryOK Try.prog n_mount_CheckKit k_mount_CheckKit := ⟨Try.f51, Try.func51, k_mount_CheckKit_ok, by kernel_rfl⟩
abbrev n_mount_Orders : Nat := 55
theorem e_mount_Orders : EntryOK Try.prog n_mount_Orders k_mount_Orders := ⟨Try.f55, Try.func55, k_mount_Orders_ok, by kernel_rfl⟩
abbrev n_law04_of : Nat := 68
theorem e_law04_of : EntryOK Try.prog n_law04_of k_law04_of := ⟨Try.f68, Try.func68, k_law04_of_ok, by kernel_rfl⟩
abbrev n_law04_link : Nat := 69
theorem e_law04_link : EntryOK Try.prog n_law04_link k_law04_link := ⟨Try.f69, Try.func69, k_law04_link_ok, by kernel_rfl⟩
abbrev n_law04_kit : Nat := 70
theorem e_law04_kit : EntryOK Try.prog n_law04_kit k_law04_kit := ⟨Try.f70, Try.func70, k_law04_kit_ok, by kernel_rfl⟩
abbrev n_kit_Dice_Range : Nat := 73
theorem e_kit_Dice_Range : EntryOK Try.prog n_kit_Dice_Range k_kit_Dice_Range := ⟨Try.f73, Try.func73, k_kit_Dice_Range_ok, by kernel_rfl⟩
abbrev n_kit_Dice_Between : Nat := 84
theorem e_kit_Dice_Between : EntryOK Try.prog n_kit_Dice_Between k_kit_Dice_Between := ⟨Try.f84, Try.func84, k_kit_Dice_Between_ok, by kernel_rfl⟩
abbrev n_law04_chain : Nat := 85
theorem e_law04_chain : EntryOK Try.prog n_law04_chain k_law04_chain := ⟨Try.f85, Try.func85, k_law04_chain_ok, by kernel_rfl⟩
abbrev n_kit_SameRanges : Nat := 86
theorem e_kit_SameRanges : EntryOK Try.prog n_kit_SameRanges k_kit_SameRanges := ⟨Try.f86, Try.func86, k_kit_SameRanges_ok, by kernel_rfl⟩
abbrev n_kit_Dice_next : Nat := 87
theorem e_kit_Dice_next : EntryOK Try.prog n_kit_Dice_next k_kit_Dice_next := ⟨Try.f87, Try.func87, k_kit_Dice_next_ok, by kernel_rfl⟩
abbrev n_mount_reachesOf : Nat := 89
theorem e_mount_reachesOf : EntryOK Try.prog n_mount_reachesOf k_mount_reachesOf := ⟨Try.f89, Try.func89, k_mount_reachesOf_ok, by kernel_rfl⟩
abbrev n_mount_reaches_tight : Nat := 90
theorem e_mount_reaches_tight : EntryOK Try.prog n_mount_reaches_tight k_mount_reaches_tight := ⟨Try.f90, Try.func90, k_mount_reaches_tight_ok, by kernel_rfl⟩
abbrev n_mount_within : Nat := 91
theorem e_mount_within : EntryOK Try.prog n_mount_within k_mount_within := ⟨Try.f91, Try.func91, k_mount_within_ok, by kernel_rfl⟩
abbrev n_mount_checkLink : Nat := 92
theorem e_mount_checkLink : EntryOK Try.prog n_mount_checkLink k_mount_checkLink := ⟨Try.f92, Try.func92, k_mount_checkLink_ok, by kernel_rfl⟩
abbrev n_mount_loose : Nat := 93
theorem e_mount_loose : EntryOK Try.prog n_mount_loose k_mount_loose := ⟨Try.f93, Try.func93, k_mount_loose_ok, by kernel_rfl⟩
abbrev n_ref04_within : Nat := 94
theorem e_ref04_within : EntryOK Try.prog n_ref04_within k_ref04_within := ⟨Try.f94, Try.func94, k_ref04_within_ok, by kernel_rfl⟩
abbrev n_mount_checkWinding : Nat := 107
theorem e_mount_checkWinding : EntryOK Try.prog n_mount_checkWinding k_mount_checkWinding := ⟨Try.f107, Try.func107, k_mount_checkWinding_ok, by kernel_rfl⟩
abbrev n_mount_stretched : Nat := 108
theorem e_mount_stretched : EntryOK Try.prog n_mount_stretched k_mount_stretched := ⟨Try.f108, Try.func108, k_mount_stretched_ok, by kernel_rfl⟩
abbrev n_mount_between : Nat := 109
theorem e_mount_between : EntryOK Try.prog n_mount_between k_mount_between := ⟨Try.f109, Try.func109, k_mount_between_ok, by kernel_rfl⟩
abbrev n_ref04_checkWinding : Nat := 110
theorem e_ref04_checkWinding : EntryOK Try.prog n_ref04_checkWinding k_ref04_checkWinding := ⟨Try.f110, Try.func110, k_ref04_checkWinding_ok, by kernel_rfl⟩
abbrev n_mount_locksOf : Nat := 112
theorem e_mount_locksOf : EntryOK Try.prog n_mount_locksOf k_mount_locksOf := ⟨Try.f112, Try.func112, k_mount_locksOf_ok, by kernel_rfl⟩
abbrev n_mount_locks_may : Nat := 113
theorem e_mount_locks_may : EntryOK Try.prog n_mount_locks_may k_mount_locks_may := ⟨Try.f113, Try.func113, k_mount_locks_may_ok, by kernel_rfl⟩
abbrev n_mount_setOf : Nat := 114
theorem e_mount_setOf : EntryOK Try.prog n_mount_setOf k_mount_setOf := ⟨Try.f114, Try.func114, k_mount_setOf_ok, by kernel_rfl⟩
abbrev n_mount_newCounter : Nat := 117
theorem e_mount_newCounter : EntryOK Try.prog n_mount_newCounter k_mount_newCounter := ⟨Try.f117, Try.func117, k_mount_newCounter_ok, by kernel_rfl⟩
abbrev n_mount_checkOthers : Nat := 120
theorem e_mount_checkOthers : EntryOK Try.prog n_mount_checkOthers k_mount_checkOthers := ⟨Try.f120, Try.func120, k_mount_checkOthers_ok, by kernel_rfl⟩
abbrev n_mount_locks_isWhole : Nat := 122
theorem e_mount_locks_isWhole : EntryOK Try.prog n_mount_locks_isWhole k_mount_locks_isWhole := ⟨Try.f122, Try.func122, k_mount_locks_isWhole_ok, by kernel_rfl⟩
abbrev n_mount_set_with : Nat := 123
theorem e_mount_set_with : EntryOK Try.prog n_mount_set_with k_mount_set_with := ⟨Try.f123, Try.func123, k_mount_set_with_ok, by kernel_rfl⟩
abbrev n_mount_counter_count : Nat := 126
theorem e_mount_counter_count : EntryOK Try.prog n_mount_counter_count k_mount_counter_count := ⟨Try.f126, Try.func126, k_mount_counter_count_ok, by kernel_rfl⟩
abbrev n_mount_direct : Nat := 141
theorem e_mount_direct : EntryOK Try.prog n_mount_direct k_mount_direct := ⟨Try.f141, Try.func141, k_mount_direct_ok, by kernel_rfl⟩
abbrev n_mount_reaches_through : Nat := 142
theorem e_mount_reaches_through : EntryOK Try.prog n_mount_reaches_through k_mount_reaches_through := ⟨Try.f142, Try.func142, k_mount_reaches_through_ok, by kernel_rfl⟩
abbrev n_mount_reaches_clashes : Nat := 143
theorem e_mount_reaches_clashes : EntryOK Try.prog n_mount_reaches_clashes k_mount_reaches_clashes := ⟨Try.f143, Try.func143, k_mount_reaches_clashes_ok, by kernel_rfl⟩
abbrev n_mount_isPoint : Nat := 144
theorem e_mount_isPoint : EntryOK Try.prog n_mount_isPoint k_mount_isPoint := ⟨Try.f144, Try.func144, k_mount_isPoint_ok, by kernel_rfl⟩
abbrev n_mount_checkRange : Nat := 145
theorem e_mount_checkRange : EntryOK Try.prog n_mount_checkRange k_mount_checkRange := ⟨Try.f145, Try.func145, k_mount_checkRange_ok, by kernel_rfl⟩
abbrev n_mount_isPart : Nat := 150
theorem e_mount_isPart : EntryOK Try.prog n_mount_isPart k_mount_isPart := ⟨Try.f150, Try.func150, k_mount_isPart_ok, by kernel_rfl⟩
abbrev n_mount_locks_asked : Nat := 151
theorem e_mount_locks_asked : EntryOK Try.prog n_mount_locks_asked k_mount_locks_asked := ⟨Try.f151, Try.func151, k_mount_locks_asked_ok, by kernel_rfl⟩
abbrev n_mount_locks_may_1 : Nat := 152
theorem e_mount_locks_may_1 : EntryOK Try.prog n_mount_locks_may_1 k_mount_locks_may_1 := ⟨Try.f152, Try.func152, k_mount_locks_may_1_ok, by kernel_rfl⟩

@[go_sem] theorem mixed : Try.prog.follows .mixedOrders = true := by kernel_rfl
attribute [go_sem] k_law04_MountWinds_r0 k_law04_MountWinds_r1s k_law04_MountWinds_r2 k_law04_MountWinds_r3 k_law04_MountWinds_r4 k_law04_MountWinds_r5 k_law04_MountWinds_r6 k_law04_MountWinds_r7 k_law04_MountWinds_r8 k_law04_MountWinds_r10 k_law04_awake_r0 k_law04_awake_r1
attribute [go_sem] k_law04_awake_r2 k_law04_awake_r3s k_kit_NewDice_r0 k_kit_NewDice_r1 k_kit_NewDice_r2 k_kit_NewDice_r3 k_kit_NewDice_r4s k_kit_NewDice_r5 k_kit_NewDice_r6 k_kit_NewDice_r8 k_mount_Tight_r0 k_mount_Tight_r1
attribute [go_sem] k_mount_Tight_r2 k_mount_Tight_r3 k_mount_Tight_r4 k_mount_Tight_r5 k_mount_Tight_r6 k_mount_Tight_r7 k_mount_Tight_r8 k_mount_Tight_r9 k_mount_Tight_r10 k_mount_Tight_r11s k_mount_Tight_r12 k_mount_Tight_r14
attribute [go_sem] k_mount_Tight_r16 k_mount_CheckChain_r0 k_mount_CheckChain_r1 k_mount_CheckChain_r2 k_mount_CheckChain_r3 k_mount_CheckChain_r4 k_mount_CheckChain_r5 k_mount_CheckChain_r6 k_mount_CheckChain_r7 k_mount_CheckChain_r8 k_mount_CheckChain_r9 k_mount_CheckChain_r10
attribute [go_sem] k_mount_CheckChain_r11 k_mount_CheckChain_r13 k_mount_CheckChain_r14 k_mount_CheckChain_r15 k_kit_Dice_Upto_r0 k_kit_Dice_Upto_r1 k_kit_Dice_Upto_r2 k_kit_Dice_Upto_r3 k_kit_Dice_Upto_r4 k_kit_WindingOf_r0 k_kit_WindingOf_r1 k_kit_WindingOf_r2
attribute [go_sem] k_kit_WindingOf_r3 k_kit_WindingOf_r4 k_mount_Wind_r0 k_mount_Wind_r1 k_mount_Wind_r2 k_mount_Wind_r3 k_mount_Wind_r4 k_mount_Wind_r5 k_mount_Wind_r6 k_mount_Wind_r7 k_mount_Wind_r8 k_mount_Wind_r9
attribute [go_sem] k_mount_Wind_r10 k_mount_Wind_r11 k_mount_Wind_r12 k_mount_Wind_r14 k_mount_Wind_r15 k_mount_Wind_r16 k_mount_Wind_r17 k_ref04_Wind_r0 k_ref04_Wind_r1 k_ref04_Wind_r2 k_ref04_Wind_r3 k_ref04_Wind_r4s
attribute [go_sem] k_ref04_Wind_r5 k_ref04_Wind_r6 k_ref04_Wind_r7 k_ref04_Wind_r8 k_ref04_Wind_r9 k_ref04_Wind_r10 k_ref04_Wind_r11 k_ref04_Wind_r12 k_ref04_Wind_r14 k_ref04_Wind_r15 k_ref04_Wind_r16 k_law04_sameChain_r0
attribute [go_sem] k_law04_sameChain_r1 k_law04_sameChain_r2 k_law04_sameChain_r3 k_law04_sameChain_r4 k_law04_sameChain_r5s k_law04_sameChain_r6 k_law04_sameChain_r7 k_law04_sameChain_r9 k_mount_CheckKit_r0 k_mount_CheckKit_r1 k_mount_CheckKit_r2 k_mount_CheckKit_r3
attribute [go_sem] k_mount_CheckKit_r4 k_mount_CheckKit_r5 k_mount_CheckKit_r6 k_mount_CheckKit_r7 k_mount_CheckKit_r8 k_mount_CheckKit_r9 k_mount_CheckKit_r10 k_mount_CheckKit_r11 k_mount_CheckKit_r12 k_mount_CheckKit_r13 k_mount_CheckKit_r14 k_mount_CheckKit_r15
attribute [go_sem] k_mount_CheckKit_r16 k_mount_CheckKit_r18 k_mount_Orders_r0 k_mount_Orders_r1 k_mount_Orders_r2 k_mount_Orders_r3 k_mount_Orders_r4 k_law04_of_r0 k_law04_of_r1 k_law04_link_r0 k_law04_link_r1 k_law04_kit_r0
attribute [go_sem] k_law04_kit_r1 k_kit_Dice_Range_r0 k_kit_Dice_Range_r1 k_kit_Dice_Range_r2 k_kit_Dice_Between_r0 k_kit_Dice_Between_r1 k_law04_chain_r0 k_law04_chain_r1 k_kit_SameRanges_r0 k_kit_SameRanges_r1 k_kit_SameRanges_r2 k_kit_SameRanges_r3
attribute [go_sem] k_kit_SameRanges_r4 k_kit_SameRanges_r5s k_kit_SameRanges_r6 k_kit_SameRanges_r7 k_kit_SameRanges_r9 k_kit_Dice_next_r0 k_kit_Dice_next_r1 k_kit_Dice_next_r2 k_kit_Dice_next_r3 k_kit_Dice_next_r4 k_kit_Dice_next_r5 k_mount_reachesOf_r0
attribute [go_sem] k_mount_reachesOf_r1 k_mount_reachesOf_r2 k_mount_reachesOf_r3 k_mount_reachesOf_r4 k_mount_reachesOf_r5 k_mount_reachesOf_r6 k_mount_reachesOf_r7 k_mount_reachesOf_r8 k_mount_reachesOf_r9 k_mount_reachesOf_r10 k_mount_reachesOf_r11 k_mount_reachesOf_r13
attribute [go_sem] k_mount_reaches_tight_r0 k_mount_reaches_tight_r1s k_mount_within_r0 k_mount_within_r1 k_mount_checkLink_r0 k_mount_checkLink_r1 k_mount_checkLink_r2 k_mount_checkLink_r3 k_mount_checkLink_r4 k_mount_checkLink_r5 k_mount_loose_r0 k_mount_loose_r1
attribute [go_sem] k_mount_loose_r2 k_mount_loose_r3 k_mount_loose_r4 k_mount_loose_r5 k_mount_loose_r6 k_mount_loose_r7 k_mount_loose_r8 k_mount_loose_r9s k_mount_loose_r10 k_mount_loose_r12 k_mount_loose_r14 k_mount_loose_r15
attribute [go_sem] k_mount_loose_r16 k_mount_loose_r17 k_mount_loose_r18 k_mount_loose_r19 k_mount_loose_r21 k_ref04_within_r0 k_ref04_within_r1 k_mount_checkWinding_r0 k_mount_checkWinding_r1 k_mount_checkWinding_r2 k_mount_checkWinding_r3 k_mount_checkWinding_r4
attribute [go_sem] k_mount_checkWinding_r5 k_mount_checkWinding_r6 k_mount_checkWinding_r7 k_mount_checkWinding_r8 k_mount_checkWinding_r9 k_mount_checkWinding_r11 k_mount_stretched_r0 k_mount_stretched_r1 k_mount_stretched_r2 k_mount_stretched_r3 k_mount_between_r0 k_mount_between_r1
attribute [go_sem] k_ref04_checkWinding_r0 k_ref04_checkWinding_r1 k_ref04_checkWinding_r2 k_ref04_checkWinding_r3 k_ref04_checkWinding_r4 k_ref04_checkWinding_r5 k_ref04_checkWinding_r6 k_ref04_checkWinding_r7 k_ref04_checkWinding_r8s k_ref04_checkWinding_r9 k_ref04_checkWinding_r10s k_ref04_checkWinding_r11
attribute [go_sem] k_ref04_checkWinding_r12 k_ref04_checkWinding_r14 k_mount_locksOf_r0 k_mount_locksOf_r1 k_mount_locksOf_r2 k_mount_locksOf_r3 k_mount_locksOf_r4 k_mount_locksOf_r5s k_mount_locksOf_r6s k_mount_locksOf_r7 k_mount_locksOf_r9 k_mount_locks_may_r0
attribute [go_sem] k_mount_locks_may_r1 k_mount_setOf_r0 k_mount_setOf_r1 k_mount_setOf_r2 k_mount_setOf_r3 k_mount_setOf_r4 k_mount_setOf_r5 k_mount_setOf_r6 k_mount_setOf_r8 k_mount_newCounter_r0 k_mount_newCounter_r1 k_mount_checkOthers_r0
attribute [go_sem] k_mount_checkOthers_r1 k_mount_checkOthers_r2 k_mount_checkOthers_r3 k_mount_checkOthers_r4 k_mount_checkOthers_r5 k_mount_checkOthers_r6 k_mount_checkOthers_r7 k_mount_checkOthers_r8 k_mount_checkOthers_r9 k_mount_checkOthers_r10 k_mount_checkOthers_r12 k_mount_locks_isWhole_r0
attribute [go_sem] k_mount_locks_isWhole_r1 k_mount_set_with_r0 k_mount_set_with_r1 k_mount_counter_count_r0 k_mount_counter_count_r1 k_mount_counter_count_r2 k_mount_counter_count_r3 k_mount_counter_count_r4 k_mount_counter_count_r5 k_mount_counter_count_r6 k_mount_counter_count_r7 k_mount_counter_count_r8
attribute [go_sem] k_mount_counter_count_r9 k_mount_counter_count_r10s k_mount_counter_count_r11 k_mount_counter_count_r13 k_mount_counter_count_r14 k_mount_direct_r0 k_mount_direct_r1 k_mount_direct_r2 k_mount_direct_r3 k_mount_direct_r4 k_mount_direct_r5 k_mount_direct_r6
attribute [go_sem] k_mount_direct_r7 k_mount_direct_r8 k_mount_direct_r9 k_mount_direct_r10 k_mount_direct_r12 k_mount_direct_r14 k_mount_direct_r15 k_mount_direct_r16 k_mount_direct_r17s k_mount_direct_r18s k_mount_direct_r19 k_mount_direct_r21
attribute [go_sem] k_mount_reaches_through_r0 k_mount_reaches_through_r1 k_mount_reaches_through_r2 k_mount_reaches_through_r3 k_mount_reaches_through_r4 k_mount_reaches_through_r5 k_mount_reaches_through_r6 k_mount_reaches_through_r7 k_mount_reaches_through_r8s k_mount_reaches_through_r9 k_mount_reaches_through_r11 k_mount_reaches_through_r13
attribute [go_sem] k_mount_reaches_clashes_r0 k_mount_reaches_clashes_r1 k_mount_reaches_clashes_r2 k_mount_reaches_clashes_r3 k_mount_reaches_clashes_r4 k_mount_reaches_clashes_r5 k_mount_reaches_clashes_r6 k_mount_reaches_clashes_r8 k_mount_isPoint_r0 k_mount_isPoint_r1 k_mount_checkRange_r0 k_mount_checkRange_r1
attribute [go_sem] k_mount_checkRange_r2 k_mount_checkRange_r3 k_mount_checkRange_r4 k_mount_checkRange_r5 k_mount_isPart_r0 k_mount_isPart_r1 k_mount_locks_asked_r0 k_mount_locks_asked_r1 k_mount_locks_asked_r2 k_mount_locks_asked_r3 k_mount_locks_asked_r4 k_mount_locks_asked_r5
attribute [go_sem] k_mount_locks_asked_r6 k_mount_locks_asked_r7 k_mount_locks_asked_r9 k_mount_locks_may_1_r0 k_mount_locks_may_1_r1s k_kit_SameRanges_r5_sg k_ref04_Wind_r4_sg k_law04_awake_r3_sg k_mount_locks_may_1_r1_sg k_law04_sameChain_r5_sg k_mount_counter_count_r10_sg k_mount_direct_r17_sg
attribute [go_sem] k_mount_reaches_through_r8_sg k_mount_Tight_r11_sg k_mount_locksOf_r6_sg k_ref04_checkWinding_r10_sg k_ref04_checkWinding_r8_sg k_mount_locksOf_r5_sg k_mount_direct_r18_sg k_mount_reaches_tight_r1_sg k_mount_loose_r9_sg k_kit_NewDice_r4_sg k_law04_MountWinds_r1_sg k_kit_SameRanges_r5_st
attribute [go_sem] k_ref04_Wind_r4_st k_law04_awake_r3_st k_mount_locks_may_1_r1_st k_law04_sameChain_r5_st k_mount_counter_count_r10_st k_mount_direct_r17_st k_mount_reaches_through_r8_st k_mount_Tight_r11_st k_mount_locksOf_r6_st k_ref04_checkWinding_r10_st k_ref04_checkWinding_r8_st k_mount_locksOf_r5_st
attribute [go_sem] k_mount_direct_r18_st k_mount_reaches_tight_r1_st k_mount_loose_r9_st k_kit_NewDice_r4_st k_law04_MountWinds_r1_st k_law04_MountWinds k_law04_awake k_kit_NewDice k_mount_Tight k_mount_CheckChain k_kit_Dice_Upto k_kit_WindingOf
attribute [go_sem] k_mount_Wind k_ref04_Wind k_law04_sameChain k_mount_CheckKit k_mount_Orders k_law04_of k_law04_link k_law04_kit k_kit_Dice_Range k_kit_Dice_Between k_law04_chain k_kit_SameRanges
attribute [go_sem] k_kit_Dice_next k_mount_reachesOf k_mount_reaches_tight k_mount_within k_mount_checkLink k_mount_loose k_ref04_within k_mount_checkWinding k_mount_stretched k_mount_between k_ref04_checkWinding k_mount_locksOf
attribute [go_sem] k_mount_locks_may k_mount_setOf k_mount_newCounter k_mount_checkOthers k_mount_locks_isWhole k_mount_set_with k_mount_counter_count k_mount_direct k_mount_reaches_through k_mount_reaches_clashes k_mount_isPoint k_mount_checkRange
attribute [go_sem] k_mount_isPart k_mount_locks_asked k_mount_locks_may_1
def tabL : List (Nat × AFun) := [(5, k_law04_MountWinds), (19, k_law04_awake), (20, k_kit_NewDice), (22, k_mount_Tight), (24, k_mount_CheckChain), (35, k_kit_Dice_Upto), (40, k_kit_WindingOf), (41, k_mount_Wind), (42, k_ref04_Wind), (43, k_law04_sameChain), (51, k_mount_CheckKit), (55, k_mount_Orders), (68, k_law04_of), (69, k_law04_link), (70, k_law04_kit), (73, k_kit_Dice_Range), (84, k_kit_Dice_Between), (85, k_law04_chain), (86, k_kit_SameRanges), (87, k_kit_Dice_next), (89, k_mount_reachesOf), (90, k_mount_reaches_tight), (91, k_mount_within), (92, k_mount_checkLink), (93, k_mount_loose), (94, k_ref04_within), (107, k_mount_checkWinding), (108, k_mount_stretched), (109, k_mount_between), (110, k_ref04_checkWinding), (112, k_mount_locksOf), (113, k_mount_locks_may), (114, k_mount_setOf), (117, k_mount_newCounter), (120, k_mount_checkOthers), (122, k_mount_locks_isWhole), (123, k_mount_set_with), (126, k_mount_counter_count), (141, k_mount_direct), (142, k_mount_reaches_through), (143, k_mount_reaches_clashes), (144, k_mount_isPoint), (145, k_mount_checkRange), (150, k_mount_isPart), (151, k_mount_locks_asked), (152, k_mount_locks_may_1)]
def tabGet : List (Nat × AFun) → Nat → Option AFun
  | [], _ => none
  | (n, c) :: l, g => if Nat.beq n g = true then some c else tabGet l g
def tab (g : Nat) : Option AFun := tabGet tabL g
def AllOK : List (Nat × AFun) → Prop
  | [] => True
  | p :: l => EntryOK Try.prog p.1 p.2 ∧ AllOK l
theorem AllOK.get : ∀ {l : List (Nat × AFun)}, AllOK l → ∀ p ∈ l, EntryOK Try.prog p.1 p.2
  | [], _, p, h => by simp at h
  | q :: l, h, p, hp => by
    rcases List.mem_cons.1 hp with rfl | hp
    · exact h.1
    · exact AllOK.get h.2 p hp
theorem tab_all : ∀ p ∈ tabL, EntryOK Try.prog p.1 p.2 := AllOK.get (l := tabL) (⟨e_law04_MountWinds, ⟨e_law04_awake, ⟨e_kit_NewDice, ⟨e_mount_Tight, ⟨e_mount_CheckChain, ⟨e_kit_Dice_Upto, ⟨e_kit_WindingOf, ⟨e_mount_Wind, ⟨e_ref04_Wind, ⟨e_law04_sameChain, ⟨e_mount_CheckKit, ⟨e_mount_Orders, ⟨e_law04_of, ⟨e_law04_link, ⟨e_law04_kit, ⟨e_kit_Dice_Range, ⟨e_kit_Dice_Between, ⟨e_law04_chain, ⟨e_kit_SameRanges, ⟨e_kit_Dice_next, ⟨e_mount_reachesOf, ⟨e_mount_reaches_tight, ⟨e_mount_within, ⟨e_mount_checkLink, ⟨e_mount_loose, ⟨e_ref04_within, ⟨e_mount_checkWinding, ⟨e_mount_stretched, ⟨e_mount_between, ⟨e_ref04_checkWinding, ⟨e_mount_locksOf, ⟨e_mount_locks_may, ⟨e_mount_setOf, ⟨e_mount_newCounter, ⟨e_mount_checkOthers, ⟨e_mount_locks_isWhole, ⟨e_mount_set_with, ⟨e_mount_counter_count, ⟨e_mount_direct, ⟨e_mount_reaches_through, ⟨e_mount_reaches_clashes, ⟨e_mount_isPoint, ⟨e_mount_checkRange, ⟨e_mount_isPart, ⟨e_mount_locks_asked, ⟨e_mount_locks_may_1, trivial⟩⟩⟩⟩⟩⟩⟩⟩⟩⟩⟩⟩⟩⟩⟩⟩⟩⟩⟩⟩⟩⟩⟩⟩⟩⟩⟩⟩⟩⟩⟩⟩⟩⟩⟩⟩⟩⟩⟩⟩⟩⟩⟩⟩⟩⟩)
theorem tabGet_mem : ∀ (l : List (Nat × AFun)) (g : Nat) (c : AFun), tabGet l g = some c → (g, c) ∈ l
  | [], _, _, h => by cases h
  | (n, c') :: l, g, c, h => by
    simp only [tabGet] at h
    split at h
    · rename_i hn
      cases h
      rw [Nat.eq_of_beq_eq_true hn]; exact List.mem_cons_self
    · exact List.mem_cons_of_mem _ (tabGet_mem l g c h)
theorem tab_ok (g : Nat) (af : AFun) (h : tab g = some af) : EntryOK Try.prog g af := by
  have h2 := tab_all _ (tabGet_mem _ _ _ h)
  exact h2
end Go.Proofs

