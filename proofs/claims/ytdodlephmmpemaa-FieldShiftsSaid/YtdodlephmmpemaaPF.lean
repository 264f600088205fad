/- A part of the proof. -/
import Derived.Test.YtdodlephmmpemaaPE
set_option linter.unusedSimpArgs false
set_option linter.unusedVariables false
namespace Go.Proofs
open Go Go.Sx

def k_law01_big_r0 : List AOper := [
  ⟨(some (2)), .box (.tmp 0), none, []⟩, 
  ⟨(some (4)), .move (.const (.bool false)), none, []⟩]
def k_law01_big_r1 : List AOper := [
  ⟨(some (5)), .move (.const (.int .i64 0)), none, []⟩]
def k_law01_big_r2 : List AOper := [
  ⟨(some (6)), .move (.tmp 5), none, []⟩, 
  ⟨(some (7)), .move (.tmp 1), none, []⟩, 
  ⟨(some (8)), .len false (.tmp 7), none, []⟩, 
  ⟨(some (9)), .bin .plain .lss (.tmp 6) (.tmp 8), none, []⟩]
def k_law01_big_r3 : List AOper := [
  ⟨(some (12)), .move (.tmp 1), none, []⟩, 
  ⟨(some (13)), .move (.tmp 5), none, []⟩, 
  ⟨(some (14)), .indexAddr 1 (.tmp 12) (.tmp 13), none, []⟩, 
  ⟨(some (15)), .load none (.tmp 14), none, []⟩, 
  ⟨(some (16)), .len false (.tmp 15), none, []⟩, 
  ⟨(some (17)), .bin .plain .gtr (.tmp 16) (.const (.int .i64 300)), none, []⟩]
def k_law01_big_r4 : List AOper := [
  ⟨(some (4)), .move (.const (.bool true)), none, []⟩]
def k_law01_big_r5 : List AOper := [
  ⟨(some (10)), .move (.tmp 5), none, []⟩, 
  ⟨(some (11)), .bin .plain .add (.tmp 10) (.const (.int .i64 1)), none, []⟩, 
  ⟨(some (5)), .move (.tmp 11), none, []⟩]
def k_law01_big_r6 : ACode := (.seq (.seq (.reg k_law01_big_r2 false) (.cond (.tmp 9) .skip (.exit 0))) (.seq (.block 1 (.seq (.reg k_law01_big_r3 false) (.cond (.tmp 17) (.seq (.reg k_law01_big_r4 false) .ret) .skip))) (.reg k_law01_big_r5 false)))
def k_law01_big_r7 : List AOper := [
  ⟨(some (18)), .fieldAddr 3 (.tmp 2), none, []⟩, 
  ⟨(some (19)), .load none (.tmp 18), none, []⟩, 
  ⟨(some (20)), .len false (.tmp 19), none, []⟩, 
  ⟨(some (21)), .bin .plain .gtr (.tmp 20) (.const (.int .i64 300)), none, []⟩, 
  ⟨(some (4)), .move (.tmp 21), none, []⟩]
def k_law01_big : AFun := { params := 2, ntmps := 22, body := (.seq (.reg k_law01_big_r0 false) (.seq (.seq (.reg k_law01_big_r1 false) (.block 0 (.loop k_law01_big_r6))) (.seq (.reg k_law01_big_r7 false) .ret))), res := [.tmp 4] }
theorem k_law01_big_ok : cfun Try.prog Try.f19 = k_law01_big := by kernel_rfl

def k_ref01_Check_r0 : List AOper := [
  ⟨(some (1)), .box (.tmp 0), none, []⟩, 
  ⟨(some (2)), .move (.const (.int .i64 0)), none, []⟩]
def k_ref01_Check_r1 : List AOper := [
  ⟨(some (7)), .fieldAddr 0 (.tmp 1), none, []⟩, 
  ⟨(some (8)), .load none (.tmp 7), none, []⟩, 
  ⟨(some (9)), .call (.const (.fn (.func 71) [] [])) [.tmp 8, .const (.int .i64 1), .const (.int .i64 16)], none, []⟩, 
  ⟨(some (10)), .move (.tmp 9), none, []⟩, 
  ⟨(some (11)), .fieldAddr 1 (.tmp 1), (some (10, false)), []⟩, 
  ⟨(some (12)), .load none (.tmp 11), (some (10, false)), []⟩, 
  ⟨(some (13)), .call (.const (.fn (.func 71) [] [])) [.tmp 12, .const (.int .i64 1), .const (.int .i64 16)], (some (10, false)), []⟩, 
  ⟨(some (14)), .pick (.tmp 10) (.const (.bool true)) (.tmp 13), none, []⟩]
def k_ref01_Check_r2 : List AOper := [
  ⟨(some (2)), .move (.const (.int .i64 2)), none, []⟩]
def k_ref01_Check_r3 : List AOper := [
  ⟨(some (15)), .fieldAddr 3 (.tmp 1), none, []⟩, 
  ⟨(some (16)), .load none (.tmp 15), none, []⟩, 
  ⟨(some (17)), .len false (.tmp 16), none, []⟩, 
  ⟨(some (18)), .fieldAddr 0 (.tmp 1), none, []⟩, 
  ⟨(some (19)), .load none (.tmp 18), none, []⟩, 
  ⟨(some (20)), .fieldAddr 1 (.tmp 1), none, []⟩, 
  ⟨(some (21)), .load none (.tmp 20), none, []⟩, 
  ⟨(some (22)), .bin .plain .mul (.tmp 19) (.tmp 21), none, []⟩, 
  ⟨(some (23)), .bin .plain .neq (.tmp 17) (.tmp 22), none, []⟩]
def k_ref01_Check_r4 : List AOper := [
  ⟨(some (2)), .move (.const (.int .i64 3)), none, []⟩]
def k_ref01_Check_r5 : List AOper := [
  ⟨(some (3)), .move (.const (.bool false)), none, []⟩]
def k_ref01_Check_r6 : List AOper := [
  ⟨(some (4)), .move (.const (.int .i64 0)), none, []⟩]
def k_ref01_Check_r7 : List AOper := [
  ⟨(some (24)), .move (.tmp 4), none, []⟩, 
  ⟨(some (25)), .fieldAddr 3 (.tmp 1), none, []⟩, 
  ⟨(some (26)), .load none (.tmp 25), none, []⟩, 
  ⟨(some (27)), .len false (.tmp 26), none, []⟩, 
  ⟨(some (28)), .bin .plain .lss (.tmp 24) (.tmp 27), none, []⟩]
def k_ref01_Check_r8 : List AOper := [
  ⟨(some (31)), .fieldAddr 3 (.tmp 1), none, []⟩, 
  ⟨(some (32)), .load none (.tmp 31), none, []⟩, 
  ⟨(some (33)), .move (.tmp 4), none, []⟩, 
  ⟨(some (34)), .indexAddr 1 (.tmp 32) (.tmp 33), none, []⟩, 
  ⟨(some (35)), .load none (.tmp 34), none, []⟩, 
  ⟨(some (36)), .call (.const (.fn (.func 71) [] [])) [.tmp 35, .const (.int .i64 0), .const (.int .i64 6)], none, []⟩]
def k_ref01_Check_r9 : List AOper := [
  ⟨(some (2)), .move (.const (.int .i64 2)), none, []⟩]
def k_ref01_Check_r10 : List AOper := [
  ⟨(some (37)), .move (.tmp 3), none, []⟩, 
  ⟨(some (38)), .move (.tmp 37), none, []⟩, 
  ⟨(some (39)), .fieldAddr 3 (.tmp 1), (some (38, false)), []⟩, 
  ⟨(some (40)), .load none (.tmp 39), (some (38, false)), []⟩, 
  ⟨(some (41)), .move (.tmp 4), (some (38, false)), []⟩, 
  ⟨(some (42)), .indexAddr 1 (.tmp 40) (.tmp 41), (some (38, false)), []⟩, 
  ⟨(some (43)), .load none (.tmp 42), (some (38, false)), []⟩, 
  ⟨(some (44)), .bin .plain .gtr (.tmp 43) (.const (.int .i64 0)), (some (38, false)), []⟩, 
  ⟨(some (45)), .pick (.tmp 38) (.const (.bool true)) (.tmp 44), none, []⟩, 
  ⟨(some (3)), .move (.tmp 45), none, []⟩]
def k_ref01_Check_r11 : List AOper := [
  ⟨(some (29)), .move (.tmp 4), none, []⟩, 
  ⟨(some (30)), .bin .plain .add (.tmp 29) (.const (.int .i64 1)), none, []⟩, 
  ⟨(some (4)), .move (.tmp 30), none, []⟩]
def k_ref01_Check_r12 : ACode := (.seq (.seq (.reg k_ref01_Check_r7 false) (.cond (.tmp 28) .skip (.exit 0))) (.seq (.block 1 (.seq (.seq (.reg k_ref01_Check_r8 false) (.cond (.tmp 36) (.seq (.reg k_ref01_Check_r9 false) .ret) .skip)) (.reg k_ref01_Check_r10 false))) (.reg k_ref01_Check_r11 false)))
def k_ref01_Check_r13 : List AOper := [
  ⟨(some (46)), .move (.tmp 3), none, []⟩, 
  ⟨(some (47)), .not (.tmp 46), none, []⟩]
def k_ref01_Check_r14 : List AOper := [
  ⟨(some (2)), .move (.const (.int .i64 7)), none, []⟩]
def k_ref01_Check_r15 : List AOper := [
  ⟨(some (48)), .load (some (4)) (.tmp 1), none, []⟩, 
  ⟨(some (49)), .call (.const (.fn (.func 72) [] [])) [.tmp 48], none, []⟩, 
  ⟨(some (5)), .move (.tmp 49), none, []⟩]
def k_ref01_Check_r16 : List AOper := [
  ⟨(some (6)), .move (.const (.int .i64 0)), none, []⟩]
def k_ref01_Check_r17 : List AOper := [
  ⟨(some (50)), .move (.tmp 6), none, []⟩, 
  ⟨(some (51)), .move (.tmp 5), none, []⟩, 
  ⟨(some (52)), .len false (.tmp 51), none, []⟩, 
  ⟨(some (53)), .bin .plain .lss (.tmp 50) (.tmp 52), none, []⟩]
def k_ref01_Check_r18 : List AOper := [
  ⟨(some (56)), .move (.tmp 5), none, []⟩, 
  ⟨(some (57)), .move (.tmp 6), none, []⟩, 
  ⟨(some (58)), .indexAddr 1 (.tmp 56) (.tmp 57), none, []⟩, 
  ⟨(some (59)), .load none (.tmp 58), none, []⟩, 
  ⟨(some (60)), .not (.tmp 59), none, []⟩]
def k_ref01_Check_r19 : List AOper := [
  ⟨(some (2)), .move (.const (.int .i64 13)), none, []⟩]
def k_ref01_Check_r20 : List AOper := [
  ⟨(some (54)), .move (.tmp 6), none, []⟩, 
  ⟨(some (55)), .bin .plain .add (.tmp 54) (.const (.int .i64 1)), none, []⟩, 
  ⟨(some (6)), .move (.tmp 55), none, []⟩]
def k_ref01_Check_r21 : ACode := (.seq (.seq (.reg k_ref01_Check_r17 false) (.cond (.tmp 53) .skip (.exit 2))) (.seq (.block 3 (.seq (.reg k_ref01_Check_r18 false) (.cond (.tmp 60) (.seq (.reg k_ref01_Check_r19 false) .ret) .skip))) (.reg k_ref01_Check_r20 false)))
def k_ref01_Check_r22 : List AOper := [
  ⟨(some (2)), .move (.const (.int .i64 0)), none, []⟩]
def k_ref01_Check : AFun := { params := 1, ntmps := 61, body := (.seq (.reg k_ref01_Check_r0 false) (.seq (.seq (.reg k_ref01_Check_r1 false) (.cond (.tmp 14) (.seq (.reg k_ref01_Check_r2 false) .ret) .skip)) (.seq (.seq (.reg k_ref01_Check_r3 false) (.cond (.tmp 23) (.seq (.reg k_ref01_Check_r4 false) .ret) .skip)) (.seq (.reg k_ref01_Check_r5 false) (.seq (.seq (.reg k_ref01_Check_r6 false) (.block 0 (.loop k_ref01_Check_r12))) (.seq (.seq (.reg k_ref01_Check_r13 false) (.cond (.tmp 47) (.seq (.reg k_ref01_Check_r14 false) .ret) .skip)) (.seq (.reg k_ref01_Check_r15 false) (.seq (.seq (.reg k_ref01_Check_r16 false) (.block 2 (.loop k_ref01_Check_r21))) (.seq (.reg k_ref01_Check_r22 false) .ret))))))))), res := [.tmp 2] }
theorem k_ref01_Check_ok : cfun Try.prog Try.f27 = k_ref01_Check := by kernel_rfl

def k_ref01_CheckVolts_r0 : List AOper := [
  ⟨(some (2)), .box (.tmp 0), none, []⟩, 
  ⟨(some (4)), .move (.const (.int .i64 0)), none, []⟩]
def k_ref01_CheckVolts_r1 : List AOper := [
  ⟨(some (7)), .load (some (4)) (.tmp 2), none, []⟩, 
  ⟨(some (8)), .call (.const (.fn (.func 27) [] [])) [.tmp 7], none, []⟩, 
  ⟨(some (5)), .move (.tmp 8), none, []⟩]
def k_ref01_CheckVolts_r2 : List AOper := [
  ⟨(some (9)), .move (.tmp 5), none, []⟩, 
  ⟨(some (10)), .bin .plain .neq (.tmp 9) (.const (.int .i64 0)), none, []⟩]
def k_ref01_CheckVolts_r3 : List AOper := [
  ⟨(some (11)), .move (.tmp 5), none, []⟩, 
  ⟨(some (4)), .move (.tmp 11), none, []⟩]
def k_ref01_CheckVolts_r4 : List AOper := [
  ⟨(some (12)), .move (.tmp 1), none, []⟩, 
  ⟨(some (13)), .len false (.tmp 12), none, []⟩, 
  ⟨(some (14)), .load (some (4)) (.tmp 2), none, []⟩, 
  ⟨(some (15)), .call (.const (.fn (.func 74) [] [])) [.tmp 14], none, []⟩, 
  ⟨(some (16)), .bin .plain .neq (.tmp 13) (.tmp 15), none, []⟩]
def k_ref01_CheckVolts_r5 : List AOper := [
  ⟨(some (4)), .move (.const (.int .i64 3)), none, []⟩]
def k_ref01_CheckVolts_r6 : List AOper := [
  ⟨(some (6)), .move (.const (.int .i64 0)), none, []⟩]
def k_ref01_CheckVolts_r7 : List AOper := [
  ⟨(some (17)), .move (.tmp 6), none, []⟩, 
  ⟨(some (18)), .move (.tmp 1), none, []⟩, 
  ⟨(some (19)), .len false (.tmp 18), none, []⟩, 
  ⟨(some (20)), .bin .plain .lss (.tmp 17) (.tmp 19), none, []⟩]
def k_ref01_CheckVolts_r8 : List AOper := [
  ⟨(some (23)), .move (.tmp 1), none, []⟩, 
  ⟨(some (24)), .move (.tmp 6), none, []⟩, 
  ⟨(some (25)), .indexAddr 1 (.tmp 23) (.tmp 24), none, []⟩, 
  ⟨(some (26)), .load none (.tmp 25), none, []⟩, 
  ⟨(some (27)), .call (.const (.fn (.func 71) [] [])) [.tmp 26, .const (.int .i64 (-1000000)), .const (.int .i64 1000000)], none, []⟩]
def k_ref01_CheckVolts_r9 : List AOper := [
  ⟨(some (4)), .move (.const (.int .i64 2)), none, []⟩]
def k_ref01_CheckVolts_r10 : List AOper := [
  ⟨(some (21)), .move (.tmp 6), none, []⟩, 
  ⟨(some (22)), .bin .plain .add (.tmp 21) (.const (.int .i64 1)), none, []⟩, 
  ⟨(some (6)), .move (.tmp 22), none, []⟩]
def k_ref01_CheckVolts_r11 : ACode := (.seq (.seq (.reg k_ref01_CheckVolts_r7 false) (.cond (.tmp 20) .skip (.exit 0))) (.seq (.block 1 (.seq (.reg k_ref01_CheckVolts_r8 false) (.cond (.tmp 27) (.seq (.reg k_ref01_CheckVolts_r9 false) .ret) .skip))) (.reg k_ref01_CheckVolts_r10 false)))
def k_ref01_CheckVolts_r12 : List AOper := [
  ⟨(some (4)), .move (.const (.int .i64 0)), none, []⟩]
def k_ref01_CheckVolts : AFun := { params := 2, ntmps := 28, body := (.seq (.reg k_ref01_CheckVolts_r0 false) (.seq (.seq (.reg k_ref01_CheckVolts_r1 false) (.seq (.reg k_ref01_CheckVolts_r2 false) (.cond (.tmp 10) (.seq (.reg k_ref01_CheckVolts_r3 false) .ret) .skip))) (.seq (.seq (.reg k_ref01_CheckVolts_r4 false) (.cond (.tmp 16) (.seq (.reg k_ref01_CheckVolts_r5 false) .ret) .skip)) (.seq (.seq (.reg k_ref01_CheckVolts_r6 false) (.block 0 (.loop k_ref01_CheckVolts_r11))) (.seq (.reg k_ref01_CheckVolts_r12 false) .ret))))), res := [.tmp 4] }
theorem k_ref01_CheckVolts_ok : cfun Try.prog Try.f29 = k_ref01_CheckVolts := by kernel_rfl

def k_ref01_Solve_r0 : List AOper := [
  ⟨(some (3)), .box (.tmp 0), none, []⟩, 
  ⟨(some (6)), .box (.const (.agg [.nilsl, .nilsl, .int .i64 0, .bool false])), none, []⟩, 
  ⟨(some (7)), .move (.const (.int .i64 0)), none, []⟩]
def k_ref01_Solve_r1 : List AOper := [
  ⟨(some (10)), .load (some (4)) (.tmp 3), none, []⟩, 
  ⟨(some (11)), .move (.tmp 1), none, []⟩, 
  ⟨(some (12)), .call (.const (.fn (.func 29) [] [])) [.tmp 10, .tmp 11], none, []⟩, 
  ⟨(some (8)), .move (.tmp 12), none, []⟩]
def k_ref01_Solve_r2 : List AOper := [
  ⟨(some (13)), .move (.tmp 8), none, []⟩, 
  ⟨(some (14)), .bin .plain .neq (.tmp 13) (.const (.int .i64 0)), none, []⟩]
def k_ref01_Solve_r3 : List AOper := [
  ⟨(some (15)), .build [.nilsl, .nilsl, .int .i64 0, .bool false] [], none, []⟩, 
  ⟨(some (16)), .move (.tmp 8), none, []⟩, 
  ⟨none, .store 4 (.tmp 6) (.tmp 15), none, []⟩, 
  ⟨(some (7)), .move (.tmp 16), none, []⟩]
def k_ref01_Solve_r4 : List AOper := [
  ⟨(some (17)), .move (.tmp 2), none, []⟩, 
  ⟨(some (18)), .call (.const (.fn (.func 71) [] [])) [.tmp 17, .const (.int .i64 0), .const (.int .i64 200)], none, []⟩]
def k_ref01_Solve_r5 : List AOper := [
  ⟨(some (19)), .build [.nilsl, .nilsl, .int .i64 0, .bool false] [], none, []⟩, 
  ⟨none, .store 4 (.tmp 6) (.tmp 19), none, []⟩, 
  ⟨(some (7)), .move (.const (.int .i64 2)), none, []⟩]
def k_ref01_Solve_r6 : List AOper := [
  ⟨(some (20)), .load (some (4)) (.tmp 3), none, []⟩, 
  ⟨(some (21)), .move (.tmp 1), none, []⟩, 
  ⟨(some (22)), .call (.const (.fn (.func 81) [] [])) [.tmp 20, .tmp 21], none, []⟩, 
  ⟨(some (9)), .box (.const (.agg [.nilsl, .nilsl, .int .i64 0, .bool false])), none, []⟩, 
  ⟨none, .store 4 (.tmp 9) (.tmp 22), none, []⟩]
def k_ref01_Solve_r7 : List AOper := [
  ⟨(some (23)), .fieldAddr 2 (.tmp 9), none, []⟩, 
  ⟨(some (24)), .load none (.tmp 23), none, []⟩, 
  ⟨(some (25)), .move (.tmp 2), none, []⟩, 
  ⟨(some (26)), .bin .plain .lss (.tmp 24) (.tmp 25), none, []⟩, 
  ⟨(some (27)), .move (.tmp 26), none, []⟩, 
  ⟨(some (28)), .fieldAddr 3 (.tmp 9), (some (27, true)), []⟩, 
  ⟨(some (29)), .load none (.tmp 28), (some (27, true)), []⟩, 
  ⟨(some (30)), .not (.tmp 29), (some (27, true)), []⟩, 
  ⟨(some (31)), .pick (.tmp 27) (.tmp 30) (.const (.bool false)), none, []⟩]
def k_ref01_Solve_r8 : List AOper := [
  ⟨(some (32)), .load (some (4)) (.tmp 3), none, []⟩, 
  ⟨(some (33)), .load (some (4)) (.tmp 9), none, []⟩, 
  ⟨(some (34)), .call (.const (.fn (.func 82) [] [])) [.tmp 32, .tmp 33], none, []⟩, 
  ⟨(some (35)), .not (.tmp 34), none, []⟩, 
  ⟨(some (36)), .fieldAddr 3 (.tmp 9), none, []⟩, 
  ⟨none, .store 1 (.tmp 36) (.tmp 35), none, []⟩]
def k_ref01_Solve_r9 : List AOper := [
  ⟨(some (37)), .fieldAddr 2 (.tmp 9), none, []⟩, 
  ⟨(some (38)), .load none (.tmp 37), none, []⟩, 
  ⟨(some (39)), .bin .plain .add (.tmp 38) (.const (.int .i64 1)), none, []⟩, 
  ⟨(some (40)), .fieldAddr 2 (.tmp 9), none, []⟩, 
  ⟨none, .store 1 (.tmp 40) (.tmp 39), none, []⟩]
def k_ref01_Solve_r10 : ACode := (.seq (.seq (.reg k_ref01_Solve_r7 false) (.cond (.tmp 31) .skip (.exit 0))) (.block 1 (.seq (.reg k_ref01_Solve_r8 false) (.reg k_ref01_Solve_r9 false))))
def k_ref01_Solve_r11 : List AOper := [
  ⟨(some (41)), .load (some (4)) (.tmp 9), none, []⟩, 
  ⟨none, .store 4 (.tmp 6) (.tmp 41), none, []⟩, 
  ⟨(some (7)), .move (.const (.int .i64 0)), none, []⟩]
def k_ref01_Solve : AFun := { params := 3, ntmps := 42, body := (.seq (.reg k_ref01_Solve_r0 false) (.seq (.seq (.reg k_ref01_Solve_r1 false) (.seq (.reg k_ref01_Solve_r2 false) (.cond (.tmp 14) (.seq (.reg k_ref01_Solve_r3 false) .ret) .skip))) (.seq (.seq (.reg k_ref01_Solve_r4 false) (.cond (.tmp 18) (.seq (.reg k_ref01_Solve_r5 false) .ret) .skip)) (.seq (.reg k_ref01_Solve_r6 false) (.seq (.block 0 (.loop k_ref01_Solve_r10)) (.seq (.reg k_ref01_Solve_r11 false) .ret)))))), res := [.cell 6 (some ((some (4)))), .tmp 7] }
theorem k_ref01_Solve_ok : cfun Try.prog Try.f39 = k_ref01_Solve := by kernel_rfl

def k_ref01_beyond_r0 : List AOper := [
  ⟨(some (6)), .move (.const (.bool false)), none, []⟩]
def k_ref01_beyond_r1 : List AOper := [
  ⟨(some (7)), .move (.tmp 0), none, []⟩, 
  ⟨(some (8)), .move (.tmp 1), none, []⟩, 
  ⟨(some (9)), .bin .plain .lss (.tmp 7) (.tmp 8), none, []⟩, 
  ⟨(some (10)), .move (.tmp 9), none, []⟩, 
  ⟨(some (11)), .move (.tmp 0), (some (10, false)), []⟩, 
  ⟨(some (12)), .move (.tmp 2), (some (10, false)), []⟩, 
  ⟨(some (13)), .bin .plain .gtr (.tmp 11) (.tmp 12), (some (10, false)), []⟩, 
  ⟨(some (14)), .pick (.tmp 10) (.const (.bool true)) (.tmp 13), none, []⟩, 
  ⟨(some (6)), .move (.tmp 14), none, []⟩]
def k_ref01_beyond : AFun := { params := 3, ntmps := 15, body := (.seq (.reg k_ref01_beyond_r0 false) (.seq (.reg k_ref01_beyond_r1 false) .ret)), res := [.tmp 6] }
theorem k_ref01_beyond_ok : cfun Try.prog Try.f71 = k_ref01_beyond := by kernel_rfl

def k_ref01_held_r0 : List AOper := [
  ⟨(some (1)), .box (.tmp 0), none, []⟩, 
  ⟨(some (2)), .move (.const (.nilsl)), none, []⟩]
def k_ref01_held_r1 : List AOper := [
  ⟨(some (9)), .fieldAddr 3 (.tmp 1), none, []⟩, 
  ⟨(some (10)), .load none (.tmp 9), none, []⟩, 
  ⟨(some (11)), .len false (.tmp 10), none, []⟩, 
  ⟨(some (12)), .makeSlice (.bool false) 1 (.tmp 11) (.tmp 11), none, []⟩, 
  ⟨(some (3)), .move (.tmp 12), none, []⟩]
def k_ref01_held_r2 : List AOper := [
  ⟨(some (4)), .move (.const (.int .i64 0)), none, []⟩]
def k_ref01_held_r3 : List AOper := [
  ⟨(some (13)), .move (.tmp 4), none, []⟩, 
  ⟨(some (14)), .fieldAddr 3 (.tmp 1), none, []⟩, 
  ⟨(some (15)), .load none (.tmp 14), none, []⟩, 
  ⟨(some (16)), .len false (.tmp 15), none, []⟩, 
  ⟨(some (17)), .bin .plain .lss (.tmp 13) (.tmp 16), none, []⟩]
def k_ref01_held_r4 : List AOper := [
  ⟨(some (20)), .move (.tmp 3), none, []⟩, 
  ⟨(some (21)), .move (.tmp 4), none, []⟩, 
  ⟨(some (22)), .fieldAddr 3 (.tmp 1), none, []⟩, 
  ⟨(some (23)), .load none (.tmp 22), none, []⟩, 
  ⟨(some (24)), .move (.tmp 4), none, []⟩, 
  ⟨(some (25)), .indexAddr 1 (.tmp 23) (.tmp 24), none, []⟩, 
  ⟨(some (26)), .load none (.tmp 25), none, []⟩, 
  ⟨(some (27)), .bin .plain .gtr (.tmp 26) (.const (.int .i64 0)), none, []⟩, 
  ⟨(some (28)), .indexAddr 1 (.tmp 20) (.tmp 21), none, []⟩, 
  ⟨none, .store 1 (.tmp 28) (.tmp 27), none, []⟩]
def k_ref01_held_r5 : List AOper := [
  ⟨(some (18)), .move (.tmp 4), none, []⟩, 
  ⟨(some (19)), .bin .plain .add (.tmp 18) (.const (.int .i64 1)), none, []⟩, 
  ⟨(some (4)), .move (.tmp 19), none, []⟩]
def k_ref01_held_r6 : ACode := (.seq (.seq (.reg k_ref01_held_r3 false) (.cond (.tmp 17) .skip (.exit 0))) (.seq (.block 1 (.reg k_ref01_held_r4 false)) (.reg k_ref01_held_r5 false)))
def k_ref01_held_r7 : List AOper := [
  ⟨(some (5)), .move (.const (.bool true)), none, []⟩]
def k_ref01_held_r8 : List AOper := [
  ⟨(some (29)), .move (.tmp 5), none, []⟩]
def k_ref01_held_r9 : List AOper := [
  ⟨(some (5)), .move (.const (.bool false)), none, []⟩]
def k_ref01_held_r10 : List AOper := [
  ⟨(some (6)), .move (.const (.int .i64 0)), none, []⟩]
def k_ref01_held_r11 : List AOper := [
  ⟨(some (30)), .move (.tmp 6), none, []⟩, 
  ⟨(some (31)), .fieldAddr 3 (.tmp 1), none, []⟩, 
  ⟨(some (32)), .load none (.tmp 31), none, []⟩, 
  ⟨(some (33)), .len false (.tmp 32), none, []⟩, 
  ⟨(some (34)), .bin .plain .lss (.tmp 30) (.tmp 33), none, []⟩]
def k_ref01_held_r12 : List AOper := [
  ⟨(some (37)), .load (some (4)) (.tmp 1), none, []⟩, 
  ⟨(some (38)), .move (.tmp 6), none, []⟩, 
  ⟨(some (39)), .call (.const (.fn (.func 101) [] [])) [.tmp 37, .tmp 38], none, []⟩, 
  ⟨(some (7)), .move (.tmp 39), none, []⟩]
def k_ref01_held_r13 : List AOper := [
  ⟨(some (8)), .move (.const (.int .i64 0)), none, []⟩]
def k_ref01_held_r14 : List AOper := [
  ⟨(some (40)), .move (.tmp 8), none, []⟩, 
  ⟨(some (41)), .move (.tmp 7), none, []⟩, 
  ⟨(some (42)), .len false (.tmp 41), none, []⟩, 
  ⟨(some (43)), .bin .plain .lss (.tmp 40) (.tmp 42), none, []⟩]
def k_ref01_held_r15 : List AOper := [
  ⟨(some (46)), .move (.tmp 3), none, []⟩, 
  ⟨(some (47)), .move (.tmp 7), none, []⟩, 
  ⟨(some (48)), .move (.tmp 8), none, []⟩, 
  ⟨(some (49)), .indexAddr 1 (.tmp 47) (.tmp 48), none, []⟩, 
  ⟨(some (50)), .load none (.tmp 49), none, []⟩, 
  ⟨(some (51)), .indexAddr 1 (.tmp 46) (.tmp 50), none, []⟩, 
  ⟨(some (52)), .load none (.tmp 51), none, []⟩, 
  ⟨(some (53)), .move (.tmp 52), none, []⟩, 
  ⟨(some (54)), .move (.tmp 3), (some (53, true)), []⟩, 
  ⟨(some (55)), .move (.tmp 6), (some (53, true)), []⟩, 
  ⟨(some (56)), .indexAddr 1 (.tmp 54) (.tmp 55), (some (53, true)), []⟩, 
  ⟨(some (57)), .load none (.tmp 56), (some (53, true)), []⟩, 
  ⟨(some (58)), .not (.tmp 57), (some (53, true)), []⟩, 
  ⟨(some (59)), .pick (.tmp 53) (.tmp 58) (.const (.bool false)), none, []⟩]
def k_ref01_held_r16 : List AOper := [
  ⟨(some (60)), .move (.tmp 3), none, []⟩, 
  ⟨(some (61)), .move (.tmp 6), none, []⟩, 
  ⟨(some (62)), .indexAddr 1 (.tmp 60) (.tmp 61), none, []⟩, 
  ⟨none, .store 1 (.tmp 62) (.const (.bool true)), none, []⟩, 
  ⟨(some (5)), .move (.const (.bool true)), none, []⟩]
def k_ref01_held_r17 : List AOper := [
  ⟨(some (44)), .move (.tmp 8), none, []⟩, 
  ⟨(some (45)), .bin .plain .add (.tmp 44) (.const (.int .i64 1)), none, []⟩, 
  ⟨(some (8)), .move (.tmp 45), none, []⟩]
def k_ref01_held_r18 : ACode := (.seq (.seq (.reg k_ref01_held_r14 false) (.cond (.tmp 43) .skip (.exit 6))) (.seq (.block 7 (.seq (.reg k_ref01_held_r15 false) (.cond (.tmp 59) (.reg k_ref01_held_r16 false) .skip))) (.reg k_ref01_held_r17 false)))
def k_ref01_held_r19 : List AOper := [
  ⟨(some (35)), .move (.tmp 6), none, []⟩, 
  ⟨(some (36)), .bin .plain .add (.tmp 35) (.const (.int .i64 1)), none, []⟩, 
  ⟨(some (6)), .move (.tmp 36), none, []⟩]
def k_ref01_held_r20 : ACode := (.seq (.seq (.reg k_ref01_held_r11 false) (.cond (.tmp 34) .skip (.exit 4))) (.seq (.block 5 (.seq (.reg k_ref01_held_r12 false) (.seq (.reg k_ref01_held_r13 false) (.block 6 (.loop k_ref01_held_r18))))) (.reg k_ref01_held_r19 false)))
def k_ref01_held_r21 : ACode := (.seq (.seq (.reg k_ref01_held_r8 false) (.cond (.tmp 29) .skip (.exit 2))) (.block 3 (.seq (.reg k_ref01_held_r9 false) (.seq (.reg k_ref01_held_r10 false) (.block 4 (.loop k_ref01_held_r20))))))
def k_ref01_held_r22 : List AOper := [
  ⟨(some (63)), .move (.tmp 3), none, []⟩, 
  ⟨(some (2)), .move (.tmp 63), none, []⟩]
def k_ref01_held : AFun := { params := 1, ntmps := 64, body := (.seq (.reg k_ref01_held_r0 false) (.seq (.reg k_ref01_held_r1 false) (.seq (.seq (.reg k_ref01_held_r2 false) (.block 0 (.loop k_ref01_held_r6))) (.seq (.seq (.reg k_ref01_held_r7 false) (.block 2 (.loop k_ref01_held_r21))) (.seq (.reg k_ref01_held_r22 false) .ret))))), res := [.tmp 2] }
theorem k_ref01_held_ok : cfun Try.prog Try.f72 = k_ref01_held := by kernel_rfl

def k_ref01_greatest_r0 : List AOper := [
  ⟨(some (1)), .box (.tmp 0), none, []⟩, 
  ⟨(some (2)), .move (.const (.int .i64 0)), none, []⟩]
def k_ref01_greatest_r1 : List AOper := [
  ⟨(some (3)), .move (.const (.int .i64 0)), none, []⟩]
def k_ref01_greatest_r2 : List AOper := [
  ⟨(some (4)), .move (.const (.int .i64 0)), none, []⟩]
def k_ref01_greatest_r3 : List AOper := [
  ⟨(some (5)), .move (.tmp 4), none, []⟩, 
  ⟨(some (6)), .fieldAddr 3 (.tmp 1), none, []⟩, 
  ⟨(some (7)), .load none (.tmp 6), none, []⟩, 
  ⟨(some (8)), .len false (.tmp 7), none, []⟩, 
  ⟨(some (9)), .bin .plain .lss (.tmp 5) (.tmp 8), none, []⟩]
def k_ref01_greatest_r4 : List AOper := [
  ⟨(some (12)), .move (.tmp 3), none, []⟩, 
  ⟨(some (13)), .fieldAddr 3 (.tmp 1), none, []⟩, 
  ⟨(some (14)), .load none (.tmp 13), none, []⟩, 
  ⟨(some (15)), .move (.tmp 4), none, []⟩, 
  ⟨(some (16)), .indexAddr 1 (.tmp 14) (.tmp 15), none, []⟩, 
  ⟨(some (17)), .load none (.tmp 16), none, []⟩, 
  ⟨(some (18)), .minmax true [.tmp 12, .tmp 17], none, []⟩, 
  ⟨(some (3)), .move (.tmp 18), none, []⟩]
def k_ref01_greatest_r5 : List AOper := [
  ⟨(some (10)), .move (.tmp 4), none, []⟩, 
  ⟨(some (11)), .bin .plain .add (.tmp 10) (.const (.int .i64 1)), none, []⟩, 
  ⟨(some (4)), .move (.tmp 11), none, []⟩]
def k_ref01_greatest_r6 : ACode := (.seq (.seq (.reg k_ref01_greatest_r3 false) (.cond (.tmp 9) .skip (.exit 0))) (.seq (.block 1 (.reg k_ref01_greatest_r4 false)) (.reg k_ref01_greatest_r5 false)))
def k_ref01_greatest_r7 : List AOper := [
  ⟨(some (19)), .move (.tmp 3), none, []⟩, 
  ⟨(some (2)), .move (.tmp 19), none, []⟩]
def k_ref01_greatest : AFun := { params := 1, ntmps := 20, body := (.seq (.reg k_ref01_greatest_r0 false) (.seq (.reg k_ref01_greatest_r1 false) (.seq (.seq (.reg k_ref01_greatest_r2 false) (.block 0 (.loop k_ref01_greatest_r6))) (.seq (.reg k_ref01_greatest_r7 false) .ret)))), res := [.tmp 2] }
theorem k_ref01_greatest_ok : cfun Try.prog Try.f74 = k_ref01_greatest := by kernel_rfl

def k_ref01_has_r0 : List AOper := [
  ⟨(some (2)), .box (.tmp 0), none, []⟩, 
  ⟨(some (4)), .move (.const (.bool false)), none, []⟩]
def k_ref01_has_r1 : List AOper := [
  ⟨(some (5)), .move (.const (.int .i64 0)), none, []⟩]
def k_ref01_has_r2 : List AOper := [
  ⟨(some (6)), .move (.tmp 5), none, []⟩, 
  ⟨(some (7)), .fieldAddr 3 (.tmp 2), none, []⟩, 
  ⟨(some (8)), .load none (.tmp 7), none, []⟩, 
  ⟨(some (9)), .len false (.tmp 8), none, []⟩, 
  ⟨(some (10)), .bin .plain .lss (.tmp 6) (.tmp 9), none, []⟩]
def k_ref01_has_r3 : List AOper := [
  ⟨(some (13)), .move (.tmp 1), none, []⟩, 
  ⟨(some (14)), .bin .plain .gtr (.tmp 13) (.const (.int .i64 0)), none, []⟩, 
  ⟨(some (15)), .move (.tmp 14), none, []⟩, 
  ⟨(some (16)), .fieldAddr 3 (.tmp 2), (some (15, true)), []⟩, 
  ⟨(some (17)), .load none (.tmp 16), (some (15, true)), []⟩, 
  ⟨(some (18)), .move (.tmp 5), (some (15, true)), []⟩, 
  ⟨(some (19)), .indexAddr 1 (.tmp 17) (.tmp 18), (some (15, true)), []⟩, 
  ⟨(some (20)), .load none (.tmp 19), (some (15, true)), []⟩, 
  ⟨(some (21)), .move (.tmp 1), (some (15, true)), []⟩, 
  ⟨(some (22)), .bin .plain .eql (.tmp 20) (.tmp 21), (some (15, true)), []⟩, 
  ⟨(some (23)), .pick (.tmp 15) (.tmp 22) (.const (.bool false)), none, []⟩]
def k_ref01_has_r4 : List AOper := [
  ⟨(some (4)), .move (.const (.bool true)), none, []⟩]
def k_ref01_has_r5 : List AOper := [
  ⟨(some (11)), .move (.tmp 5), none, []⟩, 
  ⟨(some (12)), .bin .plain .add (.tmp 11) (.const (.int .i64 1)), none, []⟩, 
  ⟨(some (5)), .move (.tmp 12), none, []⟩]
def k_ref01_has_r6 : ACode := (.seq (.seq (.reg k_ref01_has_r2 false) (.cond (.tmp 10) .skip (.exit 0))) (.seq (.block 1 (.seq (.reg k_ref01_has_r3 false) (.cond (.tmp 23) (.seq (.reg k_ref01_has_r4 false) .ret) .skip))) (.reg k_ref01_has_r5 false)))
def k_ref01_has_r7 : List AOper := [
  ⟨(some (4)), .move (.const (.bool false)), none, []⟩]
def k_ref01_has : AFun := { params := 2, ntmps := 24, body := (.seq (.reg k_ref01_has_r0 false) (.seq (.seq (.reg k_ref01_has_r1 false) (.block 0 (.loop k_ref01_has_r6))) (.seq (.reg k_ref01_has_r7 false) .ret))), res := [.tmp 4] }
theorem k_ref01_has_ok : cfun Try.prog Try.f76 = k_ref01_has := by kernel_rfl

def k_ref01_begin_r0 : List AOper := [
  ⟨(some (2)), .box (.tmp 0), none, []⟩, 
  ⟨(some (4)), .box (.const (.agg [.nilsl, .nilsl, .int .i64 0, .bool false])), none, []⟩]
def k_ref01_begin_r1 : List AOper := [
  ⟨(some (5)), .move (.const (.int .i64 1000000)), none, []⟩, 
  ⟨(some (6)), .move (.const (.int .i64 (-1000000))), none, []⟩]
def k_ref01_begin_r2 : List AOper := [
  ⟨(some (7)), .move (.const (.int .i64 0)), none, []⟩]
def k_ref01_begin_r3 : List AOper := [
  ⟨(some (12)), .move (.tmp 7), none, []⟩, 
  ⟨(some (13)), .fieldAddr 3 (.tmp 2), none, []⟩, 
  ⟨(some (14)), .load none (.tmp 13), none, []⟩, 
  ⟨(some (15)), .len false (.tmp 14), none, []⟩, 
  ⟨(some (16)), .bin .plain .lss (.tmp 12) (.tmp 15), none, []⟩]
def k_ref01_begin_r4 : List AOper := [
  ⟨(some (19)), .fieldAddr 3 (.tmp 2), none, []⟩, 
  ⟨(some (20)), .load none (.tmp 19), none, []⟩, 
  ⟨(some (21)), .move (.tmp 7), none, []⟩, 
  ⟨(some (22)), .indexAddr 1 (.tmp 20) (.tmp 21), none, []⟩, 
  ⟨(some (23)), .load none (.tmp 22), none, []⟩, 
  ⟨(some (24)), .bin .plain .gtr (.tmp 23) (.const (.int .i64 0)), none, []⟩]
def k_ref01_begin_r5 : List AOper := [
  ⟨(some (25)), .move (.tmp 5), none, []⟩, 
  ⟨(some (26)), .move (.tmp 1), none, [0]⟩, 
  ⟨(some (27)), .fieldAddr 3 (.tmp 2), none, [0, 1]⟩, 
  ⟨(some (28)), .load none (.tmp 27), none, [0, 1]⟩, 
  ⟨(some (29)), .move (.tmp 7), none, [0, 1, 2, 3]⟩, 
  ⟨(some (30)), .indexAddr 1 (.tmp 28) (.tmp 29), none, [0, 1]⟩, 
  ⟨(some (31)), .load none (.tmp 30), none, [0, 1]⟩, 
  ⟨(some (32)), .bin .plain .sub (.tmp 31) (.const (.int .i64 1)), none, [0, 1]⟩, 
  ⟨(some (33)), .indexAddr 1 (.tmp 26) (.tmp 32), none, [0]⟩, 
  ⟨(some (34)), .load none (.tmp 33), none, [0]⟩, 
  ⟨(some (35)), .minmax false [.tmp 25, .tmp 34], none, []⟩, 
  ⟨(some (36)), .move (.tmp 6), none, [0, 1, 2, 3, 4, 5, 6, 7, 8, 9, 10]⟩, 
  ⟨(some (37)), .move (.tmp 1), none, [0, 1, 2, 3, 4, 5, 6, 7, 8, 9, 10, 11]⟩, 
  ⟨(some (38)), .fieldAddr 3 (.tmp 2), none, [0, 1, 2, 3, 4, 5, 6, 7, 8, 9, 10, 11, 12]⟩, 
  ⟨(some (39)), .load none (.tmp 38), none, [0, 1, 2, 3, 4, 5, 6, 7, 8, 9, 10, 11, 12]⟩, 
  ⟨(some (40)), .move (.tmp 7), none, [0, 1, 2, 3, 4, 5, 6, 7, 8, 9, 10, 11, 12, 13, 14]⟩, 
  ⟨(some (41)), .indexAddr 1 (.tmp 39) (.tmp 40), none, [0, 1, 2, 3, 4, 5, 6, 7, 8, 9, 10, 11, 12]⟩, 
  ⟨(some (42)), .load none (.tmp 41), none, [0, 1, 2, 3, 4, 5, 6, 7, 8, 9, 10, 11, 12]⟩, 
  ⟨(some (43)), .bin .plain .sub (.tmp 42) (.const (.int .i64 1)), none, [0, 1, 2, 3, 4, 5, 6, 7, 8, 9, 10, 11, 12]⟩, 
  ⟨(some (44)), .indexAddr 1 (.tmp 37) (.tmp 43), none, [0, 1, 2, 3, 4, 5, 6, 7, 8, 9, 10, 11]⟩, 
  ⟨(some (45)), .load none (.tmp 44), none, [0, 1, 2, 3, 4, 5, 6, 7, 8, 9, 10, 11]⟩, 
  ⟨(some (46)), .minmax true [.tmp 36, .tmp 45], none, [0, 1, 2, 3, 4, 5, 6, 7, 8, 9, 10]⟩, 
  ⟨(some (5)), .move (.tmp 35), none, [11, 12, 13, 14, 15, 16, 17, 18, 19, 20, 21]⟩, 
  ⟨(some (6)), .move (.tmp 46), none, []⟩]
def k_ref01_begin_r5s : List (List AOper) := [
  [
  ⟨(some (25)), .move (.tmp 5), none, []⟩, 
  ⟨(some (26)), .move (.tmp 1), none, [0]⟩, 
  ⟨(some (27)), .fieldAddr 3 (.tmp 2), none, [0, 1]⟩, 
  ⟨(some (28)), .load none (.tmp 27), none, [0, 1]⟩, 
  ⟨(some (29)), .move (.tmp 7), none, [0, 1, 2, 3]⟩, 
  ⟨(some (30)), .indexAddr 1 (.tmp 28) (.tmp 29), none, [0, 1]⟩, 
  ⟨(some (31)), .load none (.tmp 30), none, [0, 1]⟩, 
  ⟨(some (32)), .bin .plain .sub (.tmp 31) (.const (.int .i64 1)), none, [0, 1]⟩, 
  ⟨(some (33)), .indexAddr 1 (.tmp 26) (.tmp 32), none, [0]⟩, 
  ⟨(some (34)), .load none (.tmp 33), none, [0]⟩, 
  ⟨(some (35)), .minmax false [.tmp 25, .tmp 34], none, []⟩, 
  ⟨(some (36)), .move (.tmp 6), none, [0, 1, 2, 3, 4, 5, 6, 7, 8, 9, 10]⟩, 
  ⟨(some (37)), .move (.tmp 1), none, [0, 1, 2, 3, 4, 5, 6, 7, 8, 9, 10, 11]⟩, 
  ⟨(some (38)), .fieldAddr 3 (.tmp 2), none, [0, 1, 2, 3, 4, 5, 6, 7, 8, 9, 10, 11, 12]⟩, 
  ⟨(some (39)), .load none (.tmp 38), none, [0, 1, 2, 3, 4, 5, 6, 7, 8, 9, 10, 11, 12]⟩, 
  ⟨(some (40)), .move (.tmp 7), none, [0, 1, 2, 3, 4, 5, 6, 7, 8, 9, 10, 11, 12, 13, 14]⟩, 
  ⟨(some (41)), .indexAddr 1 (.tmp 39) (.tmp 40), none, [0, 1, 2, 3, 4, 5, 6, 7, 8, 9, 10, 11, 12]⟩, 
  ⟨(some (42)), .load none (.tmp 41), none, [0, 1, 2, 3, 4, 5, 6, 7, 8, 9, 10, 11, 12]⟩, 
  ⟨(some (43)), .bin .plain .sub (.tmp 42) (.const (.int .i64 1)), none, [0, 1, 2, 3, 4, 5, 6, 7, 8, 9, 10, 11, 12]⟩, 
  ⟨(some (44)), .indexAddr 1 (.tmp 37) (.tmp 43), none, [0, 1, 2, 3, 4, 5, 6, 7, 8, 9, 10, 11]⟩, 
  ⟨(some (45)), .load none (.tmp 44), none, [0, 1, 2, 3, 4, 5, 6, 7, 8, 9, 10, 11]⟩, 
  ⟨(some (46)), .minmax true [.tmp 36, .tmp 45], none, [0, 1, 2, 3, 4, 5, 6, 7, 8, 9, 10]⟩, 
  ⟨(some (5)), .move (.tmp 35), none, [11, 12, 13, 14, 15, 16, 17, 18, 19, 20, 21]⟩], 
  [
  ⟨(some (6)), .move (.tmp 46), none, []⟩]]
theorem k_ref01_begin_r5_sg : segs k_ref01_begin_r5 = k_ref01_begin_r5s := by kernel_rfl
theorem k_ref01_begin_r5_st : statOK k_ref01_begin_r5 = true := by kernel_rfl
def k_ref01_begin_r6 : List AOper := [
  ⟨(some (17)), .move (.tmp 7), none, []⟩, 
  ⟨(some (18)), .bin .plain .add (.tmp 17) (.const (.int .i64 1)), none, []⟩, 
  ⟨(some (7)), .move (.tmp 18), none, []⟩]
def k_ref01_begin_r7 : ACode := (.seq (.seq (.reg k_ref01_begin_r3 false) (.cond (.tmp 16) .skip (.exit 0))) (.seq (.block 1 (.seq (.reg k_ref01_begin_r4 false) (.cond (.tmp 24) (.reg k_ref01_begin_r5 true) .skip))) (.reg k_ref01_begin_r6 false)))
def k_ref01_begin_r8 : List AOper := [
  ⟨(some (8)), .box (.const (.agg [.nilsl, .nilsl, .int .i64 0, .bool false])), none, []⟩]
def k_ref01_begin_r9 : List AOper := [
  ⟨(some (9)), .move (.const (.int .i64 0)), none, []⟩]
def k_ref01_begin_r10 : List AOper := [
  ⟨(some (47)), .move (.tmp 9), none, []⟩, 
  ⟨(some (48)), .fieldAddr 3 (.tmp 2), none, []⟩, 
  ⟨(some (49)), .load none (.tmp 48), none, []⟩, 
  ⟨(some (50)), .len false (.tmp 49), none, []⟩, 
  ⟨(some (51)), .bin .plain .lss (.tmp 47) (.tmp 50), none, []⟩]
def k_ref01_begin_r11 : List AOper := [
  ⟨(some (54)), .move (.tmp 5), none, []⟩, 
  ⟨(some (55)), .move (.tmp 6), none, []⟩, 
  ⟨(some (10)), .move (.tmp 54), none, []⟩, 
  ⟨(some (11)), .move (.tmp 55), none, []⟩]
def k_ref01_begin_r12 : List AOper := [
  ⟨(some (56)), .fieldAddr 3 (.tmp 2), none, []⟩, 
  ⟨(some (57)), .load none (.tmp 56), none, []⟩, 
  ⟨(some (58)), .move (.tmp 9), none, []⟩, 
  ⟨(some (59)), .indexAddr 1 (.tmp 57) (.tmp 58), none, []⟩, 
  ⟨(some (60)), .load none (.tmp 59), none, []⟩, 
  ⟨(some (61)), .bin .plain .gtr (.tmp 60) (.const (.int .i64 0)), none, []⟩]
def k_ref01_begin_r13 : List AOper := [
  ⟨(some (62)), .move (.tmp 1), none, []⟩, 
  ⟨(some (63)), .fieldAddr 3 (.tmp 2), none, [0]⟩, 
  ⟨(some (64)), .load none (.tmp 63), none, [0]⟩, 
  ⟨(some (65)), .move (.tmp 9), none, [0, 1, 2]⟩, 
  ⟨(some (66)), .indexAddr 1 (.tmp 64) (.tmp 65), none, [0]⟩, 
  ⟨(some (67)), .load none (.tmp 66), none, [0]⟩, 
  ⟨(some (68)), .bin .plain .sub (.tmp 67) (.const (.int .i64 1)), none, [0]⟩, 
  ⟨(some (69)), .indexAddr 1 (.tmp 62) (.tmp 68), none, []⟩, 
  ⟨(some (70)), .load none (.tmp 69), none, []⟩, 
  ⟨(some (71)), .move (.tmp 1), none, [0, 1, 2, 3, 4, 5, 6, 7, 8]⟩, 
  ⟨(some (72)), .fieldAddr 3 (.tmp 2), none, [0, 1, 2, 3, 4, 5, 6, 7, 8, 9]⟩, 
  ⟨(some (73)), .load none (.tmp 72), none, [0, 1, 2, 3, 4, 5, 6, 7, 8, 9]⟩, 
  ⟨(some (74)), .move (.tmp 9), none, [0, 1, 2, 3, 4, 5, 6, 7, 8, 9, 10, 11]⟩, 
  ⟨(some (75)), .indexAddr 1 (.tmp 73) (.tmp 74), none, [0, 1, 2, 3, 4, 5, 6, 7, 8, 9]⟩, 
  ⟨(some (76)), .load none (.tmp 75), none, [0, 1, 2, 3, 4, 5, 6, 7, 8, 9]⟩, 
  ⟨(some (77)), .bin .plain .sub (.tmp 76) (.const (.int .i64 1)), none, [0, 1, 2, 3, 4, 5, 6, 7, 8, 9]⟩, 
  ⟨(some (78)), .indexAddr 1 (.tmp 71) (.tmp 77), none, [0, 1, 2, 3, 4, 5, 6, 7, 8]⟩, 
  ⟨(some (79)), .load none (.tmp 78), none, [0, 1, 2, 3, 4, 5, 6, 7, 8]⟩, 
  ⟨(some (10)), .move (.tmp 70), none, [9, 10, 11, 12, 13, 14, 15, 16, 17]⟩, 
  ⟨(some (11)), .move (.tmp 79), none, []⟩]
def k_ref01_begin_r13s : List (List AOper) := [
  [
  ⟨(some (62)), .move (.tmp 1), none, []⟩, 
  ⟨(some (63)), .fieldAddr 3 (.tmp 2), none, [0]⟩, 
  ⟨(some (64)), .load none (.tmp 63), none, [0]⟩, 
  ⟨(some (65)), .move (.tmp 9), none, [0, 1, 2]⟩, 
  ⟨(some (66)), .indexAddr 1 (.tmp 64) (.tmp 65), none, [0]⟩, 
  ⟨(some (67)), .load none (.tmp 66), none, [0]⟩, 
  ⟨(some (68)), .bin .plain .sub (.tmp 67) (.const (.int .i64 1)), none, [0]⟩, 
  ⟨(some (69)), .indexAddr 1 (.tmp 62) (.tmp 68), none, []⟩, 
  ⟨(some (70)), .load none (.tmp 69), none, []⟩, 
  ⟨(some (71)), .move (.tmp 1), none, [0, 1, 2, 3, 4, 5, 6, 7, 8]⟩, 
  ⟨(some (72)), .fieldAddr 3 (.tmp 2), none, [0, 1, 2, 3, 4, 5, 6, 7, 8, 9]⟩, 
  ⟨(some (73)), .load none (.tmp 72), none, [0, 1, 2, 3, 4, 5, 6, 7, 8, 9]⟩, 
  ⟨(some (74)), .move (.tmp 9), none, [0, 1, 2, 3, 4, 5, 6, 7, 8, 9, 10, 11]⟩, 
  ⟨(some (75)), .indexAddr 1 (.tmp 73) (.tmp 74), none, [0, 1, 2, 3, 4, 5, 6, 7, 8, 9]⟩, 
  ⟨(some (76)), .load none (.tmp 75), none, [0, 1, 2, 3, 4, 5, 6, 7, 8, 9]⟩, 
  ⟨(some (77)), .bin .plain .sub (.tmp 76) (.const (.int .i64 1)), none, [0, 1, 2, 3, 4, 5, 6, 7, 8, 9]⟩, 
  ⟨(some (78)), .indexAddr 1 (.tmp 71) (.tmp 77), none, [0, 1, 2, 3, 4, 5, 6, 7, 8]⟩, 
  ⟨(some (79)), .load none (.tmp 78), none, [0, 1, 2, 3, 4, 5, 6, 7, 8]⟩, 
  ⟨(some (10)), .move (.tmp 70), none, [9, 10, 11, 12, 13, 14, 15, 16, 17]⟩], 
  [
  ⟨(some (11)), .move (.tmp 79), none, []⟩]]
theorem k_ref01_begin_r13_sg : segs k_ref01_begin_r13 = k_ref01_begin_r13s := by kernel_rfl
theorem k_ref01_begin_r13_st : statOK k_ref01_begin_r13 = true := by kernel_rfl
def k_ref01_begin_r14 : List AOper := [
  ⟨(some (80)), .fieldAddr 0 (.tmp 8), none, []⟩, 
  ⟨(some (81)), .load none (.tmp 80), none, []⟩, 
  ⟨(some (82)), .move (.tmp 10), none, [0, 1]⟩, 
  ⟨(some (83)), .buildSlice 1 [.tmp 82], none, [0, 1]⟩, 
  ⟨(some (84)), .append 1 8 false (.tmp 81) (.tmp 83), none, []⟩, 
  ⟨(some (85)), .fieldAddr 1 (.tmp 8), none, [0, 1, 2, 3, 4]⟩, 
  ⟨(some (86)), .load none (.tmp 85), none, [0, 1, 2, 3, 4]⟩, 
  ⟨(some (87)), .move (.tmp 11), none, [0, 1, 2, 3, 4, 5, 6]⟩, 
  ⟨(some (88)), .buildSlice 1 [.tmp 87], none, [0, 1, 2, 3, 4, 5, 6]⟩, 
  ⟨(some (89)), .append 1 8 false (.tmp 86) (.tmp 88), none, []⟩, 
  ⟨(some (90)), .fieldAddr 0 (.tmp 8), none, [7, 8, 9]⟩, 
  ⟨none, .store 1 (.tmp 90) (.tmp 84), none, []⟩, 
  ⟨(some (91)), .fieldAddr 1 (.tmp 8), none, []⟩, 
  ⟨none, .store 1 (.tmp 91) (.tmp 89), none, []⟩]
def k_ref01_begin_r14s : List (List AOper) := [
  [
  ⟨(some (80)), .fieldAddr 0 (.tmp 8), none, []⟩, 
  ⟨(some (81)), .load none (.tmp 80), none, []⟩, 
  ⟨(some (82)), .move (.tmp 10), none, [0, 1]⟩, 
  ⟨(some (83)), .buildSlice 1 [.tmp 82], none, [0, 1]⟩, 
  ⟨(some (84)), .append 1 8 false (.tmp 81) (.tmp 83), none, []⟩, 
  ⟨(some (85)), .fieldAddr 1 (.tmp 8), none, [0, 1, 2, 3, 4]⟩, 
  ⟨(some (86)), .load none (.tmp 85), none, [0, 1, 2, 3, 4]⟩, 
  ⟨(some (87)), .move (.tmp 11), none, [0, 1, 2, 3, 4, 5, 6]⟩, 
  ⟨(some (88)), .buildSlice 1 [.tmp 87], none, [0, 1, 2, 3, 4, 5, 6]⟩, 
  ⟨(some (89)), .append 1 8 false (.tmp 86) (.tmp 88), none, []⟩, 
  ⟨(some (90)), .fieldAddr 0 (.tmp 8), none, [7, 8, 9]⟩], 
  [
  ⟨none, .store 1 (.tmp 90) (.tmp 84), none, []⟩], 
  [
  ⟨(some (91)), .fieldAddr 1 (.tmp 8), none, []⟩], 
  [
  ⟨none, .store 1 (.tmp 91) (.tmp 89), none, []⟩]]
theorem k_ref01_begin_r14_sg : segs k_ref01_begin_r14 = k_ref01_begin_r14s := by kernel_rfl
theorem k_ref01_begin_r14_st : statOK k_ref01_begin_r14 = true := by kernel_rfl
def k_ref01_begin_r15 : List AOper := [
  ⟨(some (52)), .move (.tmp 9), none, []⟩, 
  ⟨(some (53)), .bin .plain .add (.tmp 52) (.const (.int .i64 1)), none, []⟩, 
  ⟨(some (9)), .move (.tmp 53), none, []⟩]
def k_ref01_begin_r16 : ACode := (.seq (.seq (.reg k_ref01_begin_r10 false) (.cond (.tmp 51) .skip (.exit 2))) (.seq (.block 3 (.seq (.reg k_ref01_begin_r11 false) (.seq (.seq (.reg k_ref01_begin_r12 false) (.cond (.tmp 61) (.reg k_ref01_begin_r13 true) .skip)) (.reg k_ref01_begin_r14 true)))) (.reg k_ref01_begin_r15 false)))
def k_ref01_begin_r17 : List AOper := [
  ⟨(some (92)), .load (some (4)) (.tmp 8), none, []⟩, 
  ⟨none, .store 4 (.tmp 4) (.tmp 92), none, []⟩]
def k_ref01_begin : AFun := { params := 2, ntmps := 93, body := (.seq (.reg k_ref01_begin_r0 false) (.seq (.reg k_ref01_begin_r1 false) (.seq (.seq (.reg k_ref01_begin_r2 false) (.block 0 (.loop k_ref01_begin_r7))) (.seq (.reg k_ref01_begin_r8 false) (.seq (.seq (.reg k_ref01_begin_r9 false) (.block 2 (.loop k_ref01_begin_r16))) (.seq (.reg k_ref01_begin_r17 false) .ret)))))), res := [.cell 4 (some ((some (4))))] }
theorem k_ref01_begin_ok : cfun Try.prog Try.f81 = k_ref01_begin := by kernel_rfl

def k_ref01_sweep_r0 : List AOper := [
  ⟨(some (2)), .box (.tmp 0), none, []⟩, 
  ⟨(some (3)), .box (.tmp 1), none, []⟩, 
  ⟨(some (4)), .move (.const (.bool false)), none, []⟩]
def k_ref01_sweep_r1 : List AOper := [
  ⟨(some (5)), .move (.const (.bool false)), none, []⟩]
def k_ref01_sweep_r2 : List AOper := [
  ⟨(some (6)), .move (.const (.int .i64 0)), none, []⟩]
def k_ref01_sweep_r3 : List AOper := [
  ⟨(some (11)), .move (.tmp 6), none, []⟩, 
  ⟨(some (12)), .fieldAddr 3 (.tmp 2), none, []⟩, 
  ⟨(some (13)), .load none (.tmp 12), none, []⟩, 
  ⟨(some (14)), .len false (.tmp 13), none, []⟩, 
  ⟨(some (15)), .bin .plain .lss (.tmp 11) (.tmp 14), none, []⟩]
def k_ref01_sweep_r4 : List AOper := [
  ⟨(some (18)), .fieldAddr 3 (.tmp 2), none, []⟩, 
  ⟨(some (19)), .load none (.tmp 18), none, []⟩, 
  ⟨(some (20)), .move (.tmp 6), none, []⟩, 
  ⟨(some (21)), .indexAddr 1 (.tmp 19) (.tmp 20), none, []⟩, 
  ⟨(some (22)), .load none (.tmp 21), none, []⟩, 
  ⟨(some (23)), .bin .plain .gtr (.tmp 22) (.const (.int .i64 0)), none, []⟩]
def k_ref01_sweep_r5 : List AOper := [
  ⟨(some (25)), .load (some (4)) (.tmp 2), none, []⟩, 
  ⟨(some (26)), .fieldAddr 0 (.tmp 3), none, []⟩, 
  ⟨(some (27)), .load none (.tmp 26), none, []⟩, 
  ⟨(some (28)), .move (.tmp 6), none, []⟩, 
  ⟨(some (29)), .call (.const (.fn (.func 85) [] [])) [.tmp 25, .tmp 27, .tmp 28], none, []⟩, 
  ⟨(some (24)), .move (.tmp 29), none, []⟩, 
  ⟨(some (30)), .extract (.tmp 24) 0, none, []⟩, 
  ⟨(some (31)), .extract (.tmp 24) 1, none, []⟩, 
  ⟨(some (7)), .move (.tmp 30), none, []⟩, 
  ⟨(some (8)), .move (.tmp 31), none, []⟩]
def k_ref01_sweep_r6 : List AOper := [
  ⟨(some (32)), .move (.tmp 8), none, []⟩, 
  ⟨(some (33)), .move (.tmp 7), none, []⟩, 
  ⟨(some (34)), .call (.const (.fn (.func 94) [] [])) [.tmp 32, .tmp 33], none, []⟩, 
  ⟨(some (9)), .move (.tmp 34), none, []⟩]
def k_ref01_sweep_r7 : List AOper := [
  ⟨(some (36)), .load (some (4)) (.tmp 2), none, []⟩, 
  ⟨(some (37)), .fieldAddr 1 (.tmp 3), none, []⟩, 
  ⟨(some (38)), .load none (.tmp 37), none, []⟩, 
  ⟨(some (39)), .move (.tmp 6), none, []⟩, 
  ⟨(some (40)), .call (.const (.fn (.func 85) [] [])) [.tmp 36, .tmp 38, .tmp 39], none, []⟩, 
  ⟨(some (35)), .move (.tmp 40), none, []⟩, 
  ⟨(some (41)), .extract (.tmp 35) 0, none, []⟩, 
  ⟨(some (42)), .extract (.tmp 35) 1, none, []⟩, 
  ⟨(some (7)), .move (.tmp 41), none, []⟩, 
  ⟨(some (8)), .move (.tmp 42), none, []⟩]
def k_ref01_sweep_r8 : List AOper := [
  ⟨(some (43)), .move (.tmp 8), none, []⟩, 
  ⟨(some (44)), .move (.tmp 7), none, []⟩, 
  ⟨(some (45)), .call (.const (.fn (.func 95) [] [])) [.tmp 43, .tmp 44], none, []⟩, 
  ⟨(some (10)), .move (.tmp 45), none, []⟩]
def k_ref01_sweep_r9 : List AOper := [
  ⟨(some (46)), .move (.tmp 5), none, []⟩, 
  ⟨(some (47)), .move (.tmp 46), none, []⟩, 
  ⟨(some (48)), .move (.tmp 9), (some (47, false)), []⟩, 
  ⟨(some (49)), .fieldAddr 0 (.tmp 3), (some (47, false)), []⟩, 
  ⟨(some (50)), .load none (.tmp 49), (some (47, false)), []⟩, 
  ⟨(some (51)), .move (.tmp 6), (some (47, false)), []⟩, 
  ⟨(some (52)), .indexAddr 1 (.tmp 50) (.tmp 51), (some (47, false)), []⟩, 
  ⟨(some (53)), .load none (.tmp 52), (some (47, false)), []⟩, 
  ⟨(some (54)), .bin .plain .neq (.tmp 48) (.tmp 53), (some (47, false)), []⟩, 
  ⟨(some (55)), .pick (.tmp 47) (.const (.bool true)) (.tmp 54), none, []⟩, 
  ⟨(some (56)), .move (.tmp 55), none, []⟩, 
  ⟨(some (57)), .move (.tmp 10), (some (56, false)), []⟩, 
  ⟨(some (58)), .fieldAddr 1 (.tmp 3), (some (56, false)), []⟩, 
  ⟨(some (59)), .load none (.tmp 58), (some (56, false)), []⟩, 
  ⟨(some (60)), .move (.tmp 6), (some (56, false)), []⟩, 
  ⟨(some (61)), .indexAddr 1 (.tmp 59) (.tmp 60), (some (56, false)), []⟩, 
  ⟨(some (62)), .load none (.tmp 61), (some (56, false)), []⟩, 
  ⟨(some (63)), .bin .plain .neq (.tmp 57) (.tmp 62), (some (56, false)), []⟩, 
  ⟨(some (64)), .pick (.tmp 56) (.const (.bool true)) (.tmp 63), none, []⟩, 
  ⟨(some (5)), .move (.tmp 64), none, []⟩]
def k_ref01_sweep_r10 : List AOper := [
  ⟨(some (65)), .fieldAddr 0 (.tmp 3), none, []⟩, 
  ⟨(some (66)), .load none (.tmp 65), none, []⟩, 
  ⟨(some (67)), .move (.tmp 6), none, [0, 1]⟩, 
  ⟨(some (68)), .fieldAddr 1 (.tmp 3), none, [0, 1, 2]⟩, 
  ⟨(some (69)), .load none (.tmp 68), none, [0, 1, 2]⟩, 
  ⟨(some (70)), .move (.tmp 6), none, [0, 1, 2, 3, 4]⟩, 
  ⟨(some (71)), .move (.tmp 9), none, [0, 1, 2, 3, 4, 5]⟩, 
  ⟨(some (72)), .move (.tmp 10), none, [0, 1, 2, 3, 4, 5, 6]⟩, 
  ⟨(some (73)), .indexAddr 1 (.tmp 66) (.tmp 67), none, [3, 4, 5, 7]⟩, 
  ⟨none, .store 1 (.tmp 73) (.tmp 71), none, [3, 4, 5, 7]⟩, 
  ⟨(some (74)), .indexAddr 1 (.tmp 69) (.tmp 70), none, []⟩, 
  ⟨none, .store 1 (.tmp 74) (.tmp 72), none, []⟩]
def k_ref01_sweep_r10s : List (List AOper) := [
  [
  ⟨(some (65)), .fieldAddr 0 (.tmp 3), none, []⟩, 
  ⟨(some (66)), .load none (.tmp 65), none, []⟩, 
  ⟨(some (67)), .move (.tmp 6), none, [0, 1]⟩, 
  ⟨(some (68)), .fieldAddr 1 (.tmp 3), none, [0, 1, 2]⟩, 
  ⟨(some (69)), .load none (.tmp 68), none, [0, 1, 2]⟩, 
  ⟨(some (70)), .move (.tmp 6), none, [0, 1, 2, 3, 4]⟩, 
  ⟨(some (71)), .move (.tmp 9), none, [0, 1, 2, 3, 4, 5]⟩, 
  ⟨(some (72)), .move (.tmp 10), none, [0, 1, 2, 3, 4, 5, 6]⟩, 
  ⟨(some (73)), .indexAddr 1 (.tmp 66) (.tmp 67), none, [3, 4, 5, 7]⟩, 
  ⟨none, .store 1 (.tmp 73) (.tmp 71), none, [3, 4, 5, 7]⟩], 
  [
  ⟨(some (74)), .indexAddr 1 (.tmp 69) (.tmp 70), none, []⟩], 
  [
  ⟨none, .store 1 (.tmp 74) (.tmp 72), none, []⟩]]
theorem k_ref01_sweep_r10_sg : segs k_ref01_sweep_r10 = k_ref01_sweep_r10s := by kernel_rfl
theorem k_ref01_sweep_r10_st : statOK k_ref01_sweep_r10 = true := by kernel_rfl
def k_ref01_sweep_r11 : List AOper := [
  ⟨(some (16)), .move (.tmp 6), none, []⟩, 
  ⟨(some (17)), .bin .plain .add (.tmp 16) (.const (.int .i64 1)), none, []⟩, 
  ⟨(some (6)), .move (.tmp 17), none, []⟩]
def k_ref01_sweep_r12 : ACode := (.seq (.seq (.reg k_ref01_sweep_r3 false) (.cond (.tmp 15) .skip (.exit 0))) (.seq (.block 1 (.seq (.seq (.reg k_ref01_sweep_r4 false) (.cond (.tmp 23) (.exit 1) .skip)) (.seq (.reg k_ref01_sweep_r5 false) (.seq (.reg k_ref01_sweep_r6 false) (.seq (.reg k_ref01_sweep_r7 false) (.seq (.reg k_ref01_sweep_r8 false) (.seq (.reg k_ref01_sweep_r9 false) (.reg k_ref01_sweep_r10 true)))))))) (.reg k_ref01_sweep_r11 false)))
def k_ref01_sweep_r13 : List AOper := [
  ⟨(some (75)), .move (.tmp 5), none, []⟩, 
  ⟨(some (4)), .move (.tmp 75), none, []⟩]
def k_ref01_sweep : AFun := { params := 2, ntmps := 76, body := (.seq (.reg k_ref01_sweep_r0 false) (.seq (.reg k_ref01_sweep_r1 false) (.seq (.seq (.reg k_ref01_sweep_r2 false) (.block 0 (.loop k_ref01_sweep_r12))) (.seq (.reg k_ref01_sweep_r13 false) .ret)))), res := [.tmp 4] }
theorem k_ref01_sweep_ok : cfun Try.prog Try.f82 = k_ref01_sweep := by kernel_rfl

def k_ref01_sums_r0 : List AOper := [
  ⟨(some (3)), .box (.tmp 0), none, []⟩, 
  ⟨(some (6)), .move (.const (.int .i64 0)), none, []⟩, 
  ⟨(some (7)), .move (.const (.int .i64 0)), none, []⟩]
def k_ref01_sums_r1 : List AOper := [
  ⟨(some (8)), .move (.const (.int .i64 0)), none, []⟩, 
  ⟨(some (9)), .move (.const (.int .i64 0)), none, []⟩]
def k_ref01_sums_r2 : List AOper := [
  ⟨(some (13)), .load (some (4)) (.tmp 3), none, []⟩, 
  ⟨(some (14)), .move (.tmp 2), none, []⟩, 
  ⟨(some (15)), .call (.const (.fn (.func 101) [] [])) [.tmp 13, .tmp 14], none, []⟩, 
  ⟨(some (10)), .move (.tmp 15), none, []⟩]
def k_ref01_sums_r3 : List AOper := [
  ⟨(some (11)), .move (.const (.int .i64 0)), none, []⟩]
def k_ref01_sums_r4 : List AOper := [
  ⟨(some (16)), .move (.tmp 11), none, []⟩, 
  ⟨(some (17)), .move (.tmp 10), none, []⟩, 
  ⟨(some (18)), .len false (.tmp 17), none, []⟩, 
  ⟨(some (19)), .bin .plain .lss (.tmp 16) (.tmp 18), none, []⟩]
def k_ref01_sums_r5 : List AOper := [
  ⟨(some (22)), .load (some (4)) (.tmp 3), none, []⟩, 
  ⟨(some (23)), .move (.tmp 2), none, [0]⟩, 
  ⟨(some (24)), .move (.tmp 10), none, [0, 1]⟩, 
  ⟨(some (25)), .move (.tmp 11), none, [0, 1, 2]⟩, 
  ⟨(some (26)), .indexAddr 1 (.tmp 24) (.tmp 25), none, [0, 1]⟩, 
  ⟨(some (27)), .load none (.tmp 26), none, [0, 1]⟩, 
  ⟨(some (28)), .call (.const (.fn (.func 99) [] [])) [.tmp 22, .tmp 23, .tmp 27], none, []⟩, 
  ⟨(some (12)), .move (.tmp 28), none, []⟩]
def k_ref01_sums_r5s : List (List AOper) := [
  [
  ⟨(some (22)), .load (some (4)) (.tmp 3), none, []⟩, 
  ⟨(some (23)), .move (.tmp 2), none, [0]⟩, 
  ⟨(some (24)), .move (.tmp 10), none, [0, 1]⟩, 
  ⟨(some (25)), .move (.tmp 11), none, [0, 1, 2]⟩, 
  ⟨(some (26)), .indexAddr 1 (.tmp 24) (.tmp 25), none, [0, 1]⟩, 
  ⟨(some (27)), .load none (.tmp 26), none, [0, 1]⟩], 
  [
  ⟨(some (28)), .call (.const (.fn (.func 99) [] [])) [.tmp 22, .tmp 23, .tmp 27], none, []⟩], 
  [
  ⟨(some (12)), .move (.tmp 28), none, []⟩]]
theorem k_ref01_sums_r5_sg : segs k_ref01_sums_r5 = k_ref01_sums_r5s := by kernel_rfl
theorem k_ref01_sums_r5_st : statOK k_ref01_sums_r5 = true := by kernel_rfl
def k_ref01_sums_r6 : List AOper := [
  ⟨(some (29)), .move (.tmp 8), none, []⟩, 
  ⟨(some (30)), .move (.tmp 12), none, [0]⟩, 
  ⟨(some (31)), .bin .plain .add (.tmp 29) (.tmp 30), none, []⟩, 
  ⟨(some (32)), .move (.tmp 9), none, [0, 1, 2]⟩, 
  ⟨(some (33)), .move (.tmp 12), none, [0, 1, 2, 3]⟩, 
  ⟨(some (34)), .move (.tmp 1), none, [0, 1, 2, 3, 4]⟩, 
  ⟨(some (35)), .move (.tmp 10), none, [0, 1, 2, 3, 4, 5]⟩, 
  ⟨(some (36)), .move (.tmp 11), none, [0, 1, 2, 3, 4, 5, 6]⟩, 
  ⟨(some (37)), .indexAddr 1 (.tmp 35) (.tmp 36), none, [0, 1, 2, 3, 4, 5]⟩, 
  ⟨(some (38)), .load none (.tmp 37), none, [0, 1, 2, 3, 4, 5]⟩, 
  ⟨(some (39)), .indexAddr 1 (.tmp 34) (.tmp 38), none, [0, 1, 2, 3, 4]⟩, 
  ⟨(some (40)), .load none (.tmp 39), none, [0, 1, 2, 3, 4]⟩, 
  ⟨(some (41)), .bin .plain .mul (.tmp 33) (.tmp 40), none, [0, 1, 2, 3]⟩, 
  ⟨(some (42)), .bin .plain .add (.tmp 32) (.tmp 41), none, [0, 1, 2]⟩, 
  ⟨(some (8)), .move (.tmp 31), none, [3, 4, 5, 6, 7, 8, 9, 10, 11, 12, 13]⟩, 
  ⟨(some (9)), .move (.tmp 42), none, []⟩]
def k_ref01_sums_r6s : List (List AOper) := [
  [
  ⟨(some (29)), .move (.tmp 8), none, []⟩, 
  ⟨(some (30)), .move (.tmp 12), none, [0]⟩, 
  ⟨(some (31)), .bin .plain .add (.tmp 29) (.tmp 30), none, []⟩, 
  ⟨(some (32)), .move (.tmp 9), none, [0, 1, 2]⟩, 
  ⟨(some (33)), .move (.tmp 12), none, [0, 1, 2, 3]⟩, 
  ⟨(some (34)), .move (.tmp 1), none, [0, 1, 2, 3, 4]⟩, 
  ⟨(some (35)), .move (.tmp 10), none, [0, 1, 2, 3, 4, 5]⟩, 
  ⟨(some (36)), .move (.tmp 11), none, [0, 1, 2, 3, 4, 5, 6]⟩, 
  ⟨(some (37)), .indexAddr 1 (.tmp 35) (.tmp 36), none, [0, 1, 2, 3, 4, 5]⟩, 
  ⟨(some (38)), .load none (.tmp 37), none, [0, 1, 2, 3, 4, 5]⟩, 
  ⟨(some (39)), .indexAddr 1 (.tmp 34) (.tmp 38), none, [0, 1, 2, 3, 4]⟩, 
  ⟨(some (40)), .load none (.tmp 39), none, [0, 1, 2, 3, 4]⟩, 
  ⟨(some (41)), .bin .plain .mul (.tmp 33) (.tmp 40), none, [0, 1, 2, 3]⟩, 
  ⟨(some (42)), .bin .plain .add (.tmp 32) (.tmp 41), none, [0, 1, 2]⟩, 
  ⟨(some (8)), .move (.tmp 31), none, [3, 4, 5, 6, 7, 8, 9, 10, 11, 12, 13]⟩], 
  [
  ⟨(some (9)), .move (.tmp 42), none, []⟩]]
theorem k_ref01_sums_r6_sg : segs k_ref01_sums_r6 = k_ref01_sums_r6s := by kernel_rfl
theorem k_ref01_sums_r6_st : statOK k_ref01_sums_r6 = true := by kernel_rfl
def k_ref01_sums_r7 : List AOper := [
  ⟨(some (20)), .move (.tmp 11), none, []⟩, 
  ⟨(some (21)), .bin .plain .add (.tmp 20) (.const (.int .i64 1)), none, []⟩, 
  ⟨(some (11)), .move (.tmp 21), none, []⟩]
def k_ref01_sums_r8 : ACode := (.seq (.seq (.reg k_ref01_sums_r4 false) (.cond (.tmp 19) .skip (.exit 0))) (.seq (.block 1 (.seq (.reg k_ref01_sums_r5 true) (.reg k_ref01_sums_r6 true))) (.reg k_ref01_sums_r7 false)))
def k_ref01_sums_r9 : List AOper := [
  ⟨(some (43)), .move (.tmp 8), none, []⟩, 
  ⟨(some (44)), .move (.tmp 9), none, []⟩, 
  ⟨(some (6)), .move (.tmp 43), none, []⟩, 
  ⟨(some (7)), .move (.tmp 44), none, []⟩]
def k_ref01_sums : AFun := { params := 3, ntmps := 45, body := (.seq (.reg k_ref01_sums_r0 false) (.seq (.reg k_ref01_sums_r1 false) (.seq (.reg k_ref01_sums_r2 false) (.seq (.seq (.reg k_ref01_sums_r3 false) (.block 0 (.loop k_ref01_sums_r8))) (.seq (.reg k_ref01_sums_r9 false) .ret))))), res := [.tmp 6, .tmp 7] }
theorem k_ref01_sums_ok : cfun Try.prog Try.f85 = k_ref01_sums := by kernel_rfl

def k_ref01_charge_r0 : List AOper := [
  ⟨(some (4)), .box (.tmp 0), none, []⟩, 
  ⟨(some (6)), .box (.tmp 2), none, []⟩, 
  ⟨(some (8)), .box (.const (.agg [.int .i64 0, .int .i64 0])), none, []⟩]
def k_ref01_charge_r1 : List AOper := [
  ⟨(some (9)), .box (.const (.agg [.int .i64 0, .int .i64 0])), none, []⟩]
def k_ref01_charge_r2 : List AOper := [
  ⟨(some (10)), .move (.const (.int .i64 0)), none, []⟩]
def k_ref01_charge_r3 : List AOper := [
  ⟨(some (14)), .move (.tmp 10), none, []⟩, 
  ⟨(some (15)), .fieldAddr 3 (.tmp 4), none, []⟩, 
  ⟨(some (16)), .load none (.tmp 15), none, []⟩, 
  ⟨(some (17)), .len false (.tmp 16), none, []⟩, 
  ⟨(some (18)), .bin .plain .lss (.tmp 14) (.tmp 17), none, []⟩]
def k_ref01_charge_r4 : List AOper := [
  ⟨(some (21)), .fieldAddr 3 (.tmp 4), none, []⟩, 
  ⟨(some (22)), .load none (.tmp 21), none, []⟩, 
  ⟨(some (23)), .move (.tmp 10), none, []⟩, 
  ⟨(some (24)), .indexAddr 1 (.tmp 22) (.tmp 23), none, []⟩, 
  ⟨(some (25)), .load none (.tmp 24), none, []⟩, 
  ⟨(some (26)), .move (.tmp 3), none, []⟩, 
  ⟨(some (27)), .bin .plain .neq (.tmp 25) (.tmp 26), none, []⟩]
def k_ref01_charge_r5 : List AOper := [
  ⟨(some (28)), .load (some (4)) (.tmp 4), none, []⟩, 
  ⟨(some (29)), .move (.tmp 10), none, []⟩, 
  ⟨(some (30)), .call (.const (.fn (.func 101) [] [])) [.tmp 28, .tmp 29], none, []⟩, 
  ⟨(some (11)), .move (.tmp 30), none, []⟩]
def k_ref01_charge_r6 : List AOper := [
  ⟨(some (12)), .move (.const (.int .i64 0)), none, []⟩]
def k_ref01_charge_r7 : List AOper := [
  ⟨(some (31)), .move (.tmp 12), none, []⟩, 
  ⟨(some (32)), .move (.tmp 11), none, []⟩, 
  ⟨(some (33)), .len false (.tmp 32), none, []⟩, 
  ⟨(some (34)), .bin .plain .lss (.tmp 31) (.tmp 33), none, []⟩]
def k_ref01_charge_r8 : List AOper := [
  ⟨(some (37)), .move (.tmp 11), none, []⟩, 
  ⟨(some (38)), .move (.tmp 12), none, []⟩, 
  ⟨(some (39)), .indexAddr 1 (.tmp 37) (.tmp 38), none, []⟩, 
  ⟨(some (40)), .load none (.tmp 39), none, []⟩, 
  ⟨(some (13)), .move (.tmp 40), none, []⟩]
def k_ref01_charge_r9 : List AOper := [
  ⟨(some (41)), .fieldAddr 3 (.tmp 4), none, []⟩, 
  ⟨(some (42)), .load none (.tmp 41), none, []⟩, 
  ⟨(some (43)), .move (.tmp 13), none, []⟩, 
  ⟨(some (44)), .indexAddr 1 (.tmp 42) (.tmp 43), none, []⟩, 
  ⟨(some (45)), .load none (.tmp 44), none, []⟩, 
  ⟨(some (46)), .move (.tmp 3), none, []⟩, 
  ⟨(some (47)), .bin .plain .neq (.tmp 45) (.tmp 46), none, []⟩]
def k_ref01_charge_r10 : List AOper := [
  ⟨(some (48)), .fieldAddr 0 (.tmp 9), none, []⟩, 
  ⟨(some (49)), .load none (.tmp 48), none, []⟩, 
  ⟨(some (50)), .load (some (4)) (.tmp 4), none, [0, 1]⟩, 
  ⟨(some (51)), .move (.tmp 10), none, [0, 1, 2]⟩, 
  ⟨(some (52)), .move (.tmp 13), none, [0, 1, 2, 3]⟩, 
  ⟨(some (53)), .call (.const (.fn (.func 99) [] [])) [.tmp 50, .tmp 51, .tmp 52], none, [0, 1]⟩, 
  ⟨(some (54)), .move (.tmp 1), none, [0, 1, 2, 3, 4, 5]⟩, 
  ⟨(some (55)), .move (.tmp 3), none, [0, 1, 2, 3, 4, 5, 6]⟩, 
  ⟨(some (56)), .bin .plain .sub (.tmp 55) (.const (.int .i64 1)), none, [0, 1, 2, 3, 4, 5, 6]⟩, 
  ⟨(some (57)), .indexAddr 1 (.tmp 54) (.tmp 56), none, [0, 1, 2, 3, 4, 5]⟩, 
  ⟨(some (58)), .load none (.tmp 57), none, [0, 1, 2, 3, 4, 5]⟩, 
  ⟨(some (59)), .fieldAddr 1 (.tmp 6), none, [0, 1, 2, 3, 4, 5, 6, 7, 8, 9, 10]⟩, 
  ⟨(some (60)), .load none (.tmp 59), none, [0, 1, 2, 3, 4, 5, 6, 7, 8, 9, 10]⟩, 
  ⟨(some (61)), .move (.tmp 13), none, [0, 1, 2, 3, 4, 5, 6, 7, 8, 9, 10, 11, 12]⟩, 
  ⟨(some (62)), .indexAddr 1 (.tmp 60) (.tmp 61), none, [0, 1, 2, 3, 4, 5, 6, 7, 8, 9, 10]⟩, 
  ⟨(some (63)), .load none (.tmp 62), none, [0, 1, 2, 3, 4, 5, 6, 7, 8, 9, 10]⟩, 
  ⟨(some (64)), .bin .plain .sub (.tmp 58) (.tmp 63), none, [0, 1, 2, 3, 4, 5]⟩, 
  ⟨(some (65)), .bin .plain .mul (.tmp 53) (.tmp 64), none, [0, 1]⟩, 
  ⟨(some (66)), .bin .plain .add (.tmp 49) (.tmp 65), none, []⟩, 
  ⟨(some (67)), .fieldAddr 0 (.tmp 9), none, []⟩, 
  ⟨none, .store 1 (.tmp 67) (.tmp 66), none, []⟩]
def k_ref01_charge_r10s : List (List AOper) := [
  [
  ⟨(some (48)), .fieldAddr 0 (.tmp 9), none, []⟩, 
  ⟨(some (49)), .load none (.tmp 48), none, []⟩, 
  ⟨(some (50)), .load (some (4)) (.tmp 4), none, [0, 1]⟩, 
  ⟨(some (51)), .move (.tmp 10), none, [0, 1, 2]⟩, 
  ⟨(some (52)), .move (.tmp 13), none, [0, 1, 2, 3]⟩, 
  ⟨(some (53)), .call (.const (.fn (.func 99) [] [])) [.tmp 50, .tmp 51, .tmp 52], none, [0, 1]⟩, 
  ⟨(some (54)), .move (.tmp 1), none, [0, 1, 2, 3, 4, 5]⟩, 
  ⟨(some (55)), .move (.tmp 3), none, [0, 1, 2, 3, 4, 5, 6]⟩, 
  ⟨(some (56)), .bin .plain .sub (.tmp 55) (.const (.int .i64 1)), none, [0, 1, 2, 3, 4, 5, 6]⟩, 
  ⟨(some (57)), .indexAddr 1 (.tmp 54) (.tmp 56), none, [0, 1, 2, 3, 4, 5]⟩, 
  ⟨(some (58)), .load none (.tmp 57), none, [0, 1, 2, 3, 4, 5]⟩, 
  ⟨(some (59)), .fieldAddr 1 (.tmp 6), none, [0, 1, 2, 3, 4, 5, 6, 7, 8, 9, 10]⟩, 
  ⟨(some (60)), .load none (.tmp 59), none, [0, 1, 2, 3, 4, 5, 6, 7, 8, 9, 10]⟩, 
  ⟨(some (61)), .move (.tmp 13), none, [0, 1, 2, 3, 4, 5, 6, 7, 8, 9, 10, 11, 12]⟩, 
  ⟨(some (62)), .indexAddr 1 (.tmp 60) (.tmp 61), none, [0, 1, 2, 3, 4, 5, 6, 7, 8, 9, 10]⟩, 
  ⟨(some (63)), .load none (.tmp 62), none, [0, 1, 2, 3, 4, 5, 6, 7, 8, 9, 10]⟩, 
  ⟨(some (64)), .bin .plain .sub (.tmp 58) (.tmp 63), none, [0, 1, 2, 3, 4, 5]⟩, 
  ⟨(some (65)), .bin .plain .mul (.tmp 53) (.tmp 64), none, [0, 1]⟩], 
  [
  ⟨(some (66)), .bin .plain .add (.tmp 49) (.tmp 65), none, []⟩], 
  [
  ⟨(some (67)), .fieldAddr 0 (.tmp 9), none, []⟩], 
  [
  ⟨none, .store 1 (.tmp 67) (.tmp 66), none, []⟩]]
theorem k_ref01_charge_r10_sg : segs k_ref01_charge_r10 = k_ref01_charge_r10s := by kernel_rfl
theorem k_ref01_charge_r10_st : statOK k_ref01_charge_r10 = true := by kernel_rfl
def k_ref01_charge_r11 : List AOper := [
  ⟨(some (68)), .fieldAddr 1 (.tmp 9), none, []⟩, 
  ⟨(some (69)), .load none (.tmp 68), none, []⟩, 
  ⟨(some (70)), .load (some (4)) (.tmp 4), none, [0, 1]⟩, 
  ⟨(some (71)), .move (.tmp 10), none, [0, 1, 2]⟩, 
  ⟨(some (72)), .move (.tmp 13), none, [0, 1, 2, 3]⟩, 
  ⟨(some (73)), .call (.const (.fn (.func 99) [] [])) [.tmp 70, .tmp 71, .tmp 72], none, [0, 1]⟩, 
  ⟨(some (74)), .move (.tmp 1), none, [0, 1, 2, 3, 4, 5]⟩, 
  ⟨(some (75)), .move (.tmp 3), none, [0, 1, 2, 3, 4, 5, 6]⟩, 
  ⟨(some (76)), .bin .plain .sub (.tmp 75) (.const (.int .i64 1)), none, [0, 1, 2, 3, 4, 5, 6]⟩, 
  ⟨(some (77)), .indexAddr 1 (.tmp 74) (.tmp 76), none, [0, 1, 2, 3, 4, 5]⟩, 
  ⟨(some (78)), .load none (.tmp 77), none, [0, 1, 2, 3, 4, 5]⟩, 
  ⟨(some (79)), .fieldAddr 0 (.tmp 6), none, [0, 1, 2, 3, 4, 5, 6, 7, 8, 9, 10]⟩, 
  ⟨(some (80)), .load none (.tmp 79), none, [0, 1, 2, 3, 4, 5, 6, 7, 8, 9, 10]⟩, 
  ⟨(some (81)), .move (.tmp 13), none, [0, 1, 2, 3, 4, 5, 6, 7, 8, 9, 10, 11, 12]⟩, 
  ⟨(some (82)), .indexAddr 1 (.tmp 80) (.tmp 81), none, [0, 1, 2, 3, 4, 5, 6, 7, 8, 9, 10]⟩, 
  ⟨(some (83)), .load none (.tmp 82), none, [0, 1, 2, 3, 4, 5, 6, 7, 8, 9, 10]⟩, 
  ⟨(some (84)), .bin .plain .sub (.tmp 78) (.tmp 83), none, [0, 1, 2, 3, 4, 5]⟩, 
  ⟨(some (85)), .bin .plain .mul (.tmp 73) (.tmp 84), none, [0, 1]⟩, 
  ⟨(some (86)), .bin .plain .add (.tmp 69) (.tmp 85), none, []⟩, 
  ⟨(some (87)), .fieldAddr 1 (.tmp 9), none, []⟩, 
  ⟨none, .store 1 (.tmp 87) (.tmp 86), none, []⟩]
def k_ref01_charge_r11s : List (List AOper) := [
  [
  ⟨(some (68)), .fieldAddr 1 (.tmp 9), none, []⟩, 
  ⟨(some (69)), .load none (.tmp 68), none, []⟩, 
  ⟨(some (70)), .load (some (4)) (.tmp 4), none, [0, 1]⟩, 
  ⟨(some (71)), .move (.tmp 10), none, [0, 1, 2]⟩, 
  ⟨(some (72)), .move (.tmp 13), none, [0, 1, 2, 3]⟩, 
  ⟨(some (73)), .call (.const (.fn (.func 99) [] [])) [.tmp 70, .tmp 71, .tmp 72], none, [0, 1]⟩, 
  ⟨(some (74)), .move (.tmp 1), none, [0, 1, 2, 3, 4, 5]⟩, 
  ⟨(some (75)), .move (.tmp 3), none, [0, 1, 2, 3, 4, 5, 6]⟩, 
  ⟨(some (76)), .bin .plain .sub (.tmp 75) (.const (.int .i64 1)), none, [0, 1, 2, 3, 4, 5, 6]⟩, 
  ⟨(some (77)), .indexAddr 1 (.tmp 74) (.tmp 76), none, [0, 1, 2, 3, 4, 5]⟩, 
  ⟨(some (78)), .load none (.tmp 77), none, [0, 1, 2, 3, 4, 5]⟩, 
  ⟨(some (79)), .fieldAddr 0 (.tmp 6), none, [0, 1, 2, 3, 4, 5, 6, 7, 8, 9, 10]⟩, 
  ⟨(some (80)), .load none (.tmp 79), none, [0, 1, 2, 3, 4, 5, 6, 7, 8, 9, 10]⟩, 
  ⟨(some (81)), .move (.tmp 13), none, [0, 1, 2, 3, 4, 5, 6, 7, 8, 9, 10, 11, 12]⟩, 
  ⟨(some (82)), .indexAddr 1 (.tmp 80) (.tmp 81), none, [0, 1, 2, 3, 4, 5, 6, 7, 8, 9, 10]⟩, 
  ⟨(some (83)), .load none (.tmp 82), none, [0, 1, 2, 3, 4, 5, 6, 7, 8, 9, 10]⟩, 
  ⟨(some (84)), .bin .plain .sub (.tmp 78) (.tmp 83), none, [0, 1, 2, 3, 4, 5]⟩, 
  ⟨(some (85)), .bin .plain .mul (.tmp 73) (.tmp 84), none, [0, 1]⟩], 
  [
  ⟨(some (86)), .bin .plain .add (.tmp 69) (.tmp 85), none, []⟩], 
  [
  ⟨(some (87)), .fieldAddr 1 (.tmp 9), none, []⟩], 
  [
  ⟨none, .store 1 (.tmp 87) (.tmp 86), none, []⟩]]
theorem k_ref01_charge_r11_sg : segs k_ref01_charge_r11 = k_ref01_charge_r11s := by kernel_rfl
theorem k_ref01_charge_r11_st : statOK k_ref01_charge_r11 = true := by kernel_rfl
def k_ref01_charge_r12 : List AOper := [
  ⟨(some (35)), .move (.tmp 12), none, []⟩, 
  ⟨(some (36)), .bin .plain .add (.tmp 35) (.const (.int .i64 1)), none, []⟩, 
  ⟨(some (12)), .move (.tmp 36), none, []⟩]
def k_ref01_charge_r13 : ACode := (.seq (.seq (.reg k_ref01_charge_r7 false) (.cond (.tmp 34) .skip (.exit 2))) (.seq (.block 3 (.seq (.reg k_ref01_charge_r8 false) (.seq (.reg k_ref01_charge_r9 false) (.cond (.tmp 47) (.seq (.reg k_ref01_charge_r10 true) (.reg k_ref01_charge_r11 true)) .skip)))) (.reg k_ref01_charge_r12 false)))
def k_ref01_charge_r14 : List AOper := [
  ⟨(some (19)), .move (.tmp 10), none, []⟩, 
  ⟨(some (20)), .bin .plain .add (.tmp 19) (.const (.int .i64 1)), none, []⟩, 
  ⟨(some (10)), .move (.tmp 20), none, []⟩]
def k_ref01_charge_r15 : ACode := (.seq (.seq (.reg k_ref01_charge_r3 false) (.cond (.tmp 18) .skip (.exit 0))) (.seq (.block 1 (.seq (.seq (.reg k_ref01_charge_r4 false) (.cond (.tmp 27) (.exit 1) .skip)) (.seq (.reg k_ref01_charge_r5 false) (.seq (.reg k_ref01_charge_r6 false) (.block 2 (.loop k_ref01_charge_r13)))))) (.reg k_ref01_charge_r14 false)))
def k_ref01_charge_r16 : List AOper := [
  ⟨(some (88)), .load (some (2)) (.tmp 9), none, []⟩, 
  ⟨none, .store 2 (.tmp 8) (.tmp 88), none, []⟩]
def k_ref01_charge : AFun := { params := 4, ntmps := 89, body := (.seq (.reg k_ref01_charge_r0 false) (.seq (.reg k_ref01_charge_r1 false) (.seq (.seq (.reg k_ref01_charge_r2 false) (.block 0 (.loop k_ref01_charge_r15))) (.seq (.reg k_ref01_charge_r16 false) .ret)))), res := [.cell 8 (some ((some (2))))] }
theorem k_ref01_charge_ok : cfun Try.prog Try.f87 = k_ref01_charge := by kernel_rfl

def k_ref01_Down_r0 : List AOper := [
  ⟨(some (4)), .move (.const (.int .i64 0)), none, []⟩]
def k_ref01_Down_r1 : List AOper := [
  ⟨(some (6)), .move (.tmp 0), none, []⟩, 
  ⟨(some (7)), .move (.tmp 1), none, []⟩, 
  ⟨(some (8)), .bin .plain .quo (.tmp 6) (.tmp 7), none, []⟩, 
  ⟨(some (5)), .move (.tmp 8), none, []⟩]
def k_ref01_Down_r2 : List AOper := [
  ⟨(some (9)), .move (.tmp 0), none, []⟩, 
  ⟨(some (10)), .move (.tmp 1), none, []⟩, 
  ⟨(some (11)), .bin .plain .rem (.tmp 9) (.tmp 10), none, []⟩, 
  ⟨(some (12)), .bin .plain .lss (.tmp 11) (.const (.int .i64 0)), none, []⟩]
def k_ref01_Down_r3 : List AOper := [
  ⟨(some (13)), .move (.tmp 5), none, []⟩, 
  ⟨(some (14)), .bin .plain .sub (.tmp 13) (.const (.int .i64 1)), none, []⟩, 
  ⟨(some (5)), .move (.tmp 14), none, []⟩]
def k_ref01_Down_r4 : List AOper := [
  ⟨(some (15)), .move (.tmp 5), none, []⟩, 
  ⟨(some (4)), .move (.tmp 15), none, []⟩]
def k_ref01_Down : AFun := { params := 2, ntmps := 16, body := (.seq (.reg k_ref01_Down_r0 false) (.seq (.reg k_ref01_Down_r1 false) (.seq (.seq (.reg k_ref01_Down_r2 false) (.cond (.tmp 12) (.reg k_ref01_Down_r3 false) .skip)) (.seq (.reg k_ref01_Down_r4 false) .ret)))), res := [.tmp 4] }
theorem k_ref01_Down_ok : cfun Try.prog Try.f94 = k_ref01_Down := by kernel_rfl

def k_ref01_Up_r0 : List AOper := [
  ⟨(some (4)), .move (.const (.int .i64 0)), none, []⟩]
def k_ref01_Up_r1 : List AOper := [
  ⟨(some (5)), .move (.tmp 0), none, []⟩, 
  ⟨(some (6)), .neg (.tmp 5), none, []⟩, 
  ⟨(some (7)), .move (.tmp 1), none, []⟩, 
  ⟨(some (8)), .call (.const (.fn (.func 94) [] [])) [.tmp 6, .tmp 7], none, []⟩, 
  ⟨(some (9)), .neg (.tmp 8), none, []⟩, 
  ⟨(some (4)), .move (.tmp 9), none, []⟩]
def k_ref01_Up : AFun := { params := 2, ntmps := 10, body := (.seq (.reg k_ref01_Up_r0 false) (.seq (.reg k_ref01_Up_r1 false) .ret)), res := [.tmp 4] }
theorem k_ref01_Up_ok : cfun Try.prog Try.f95 = k_ref01_Up := by kernel_rfl

def k_ref01_weight_r0 : List AOper := [
  ⟨(some (3)), .box (.tmp 0), none, []⟩, 
  ⟨(some (6)), .move (.const (.int .i64 0)), none, []⟩]
def k_ref01_weight_r1 : List AOper := [
  ⟨(some (9)), .fieldAddr 0 (.tmp 3), none, []⟩, 
  ⟨(some (10)), .load none (.tmp 9), none, []⟩, 
  ⟨(some (11)), .fieldAddr 1 (.tmp 3), none, []⟩, 
  ⟨(some (12)), .load none (.tmp 11), none, []⟩, 
  ⟨(some (13)), .bin .plain .mul (.tmp 10) (.tmp 12), none, []⟩, 
  ⟨(some (7)), .move (.tmp 13), none, []⟩]
def k_ref01_weight_r2 : List AOper := [
  ⟨(some (14)), .move (.tmp 1), none, []⟩, 
  ⟨(some (15)), .move (.tmp 7), none, []⟩, 
  ⟨(some (16)), .bin .plain .sub (.tmp 15) (.const (.int .i64 1)), none, []⟩, 
  ⟨(some (17)), .call (.const (.fn (.func 71) [] [])) [.tmp 14, .const (.int .i64 0), .tmp 16], none, []⟩, 
  ⟨(some (18)), .move (.tmp 17), none, []⟩, 
  ⟨(some (19)), .move (.tmp 2), (some (18, false)), []⟩, 
  ⟨(some (20)), .move (.tmp 7), (some (18, false)), []⟩, 
  ⟨(some (21)), .bin .plain .sub (.tmp 20) (.const (.int .i64 1)), (some (18, false)), []⟩, 
  ⟨(some (22)), .call (.const (.fn (.func 71) [] [])) [.tmp 19, .const (.int .i64 0), .tmp 21], (some (18, false)), []⟩, 
  ⟨(some (23)), .pick (.tmp 18) (.const (.bool true)) (.tmp 22), none, []⟩]
def k_ref01_weight_r3 : List AOper := [
  ⟨(some (6)), .move (.const (.int .i64 0)), none, []⟩]
def k_ref01_weight_r4 : List AOper := [
  ⟨(some (24)), .move (.tmp 1), none, []⟩, 
  ⟨(some (25)), .move (.tmp 2), none, []⟩, 
  ⟨(some (26)), .minmax false [.tmp 24, .tmp 25], none, []⟩, 
  ⟨(some (27)), .move (.tmp 1), none, []⟩, 
  ⟨(some (28)), .move (.tmp 2), none, []⟩, 
  ⟨(some (29)), .minmax true [.tmp 27, .tmp 28], none, []⟩, 
  ⟨(some (1)), .move (.tmp 26), none, []⟩, 
  ⟨(some (2)), .move (.tmp 29), none, []⟩]
def k_ref01_weight_r5 : List AOper := [
  ⟨(some (30)), .move (.tmp 1), none, []⟩, 
  ⟨(some (31)), .fieldAddr 0 (.tmp 3), none, []⟩, 
  ⟨(some (32)), .load none (.tmp 31), none, []⟩, 
  ⟨(some (33)), .bin .plain .rem (.tmp 30) (.tmp 32), none, []⟩, 
  ⟨(some (8)), .move (.tmp 33), none, []⟩]
def k_ref01_weight_r6 : List AOper := [
  ⟨(some (35)), .move (.tmp 2), none, []⟩, 
  ⟨(some (36)), .move (.tmp 1), none, []⟩, 
  ⟨(some (37)), .bin .plain .add (.tmp 36) (.const (.int .i64 1)), none, []⟩, 
  ⟨(some (38)), .bin .plain .eql (.tmp 35) (.tmp 37), none, []⟩, 
  ⟨(some (39)), .move (.tmp 38), none, []⟩, 
  ⟨(some (40)), .move (.tmp 2), (some (39, true)), []⟩, 
  ⟨(some (41)), .fieldAddr 0 (.tmp 3), (some (39, true)), []⟩, 
  ⟨(some (42)), .load none (.tmp 41), (some (39, true)), []⟩, 
  ⟨(some (43)), .bin .plain .rem (.tmp 40) (.tmp 42), (some (39, true)), []⟩, 
  ⟨(some (44)), .bin .plain .gtr (.tmp 43) (.const (.int .i64 0)), (some (39, true)), []⟩, 
  ⟨(some (45)), .pick (.tmp 39) (.tmp 44) (.const (.bool false)), none, []⟩, 
  ⟨(some (34)), .move (.tmp 45), none, []⟩]
def k_ref01_weight_r7 : List AOper := [
  ⟨(some (46)), .fieldAddr 2 (.tmp 3), none, []⟩, 
  ⟨(some (47)), .load none (.tmp 46), none, []⟩]
def k_ref01_weight_r8 : List AOper := [
  ⟨(some (48)), .move (.tmp 8), none, []⟩, 
  ⟨(some (49)), .bin .plain .add (.tmp 48) (.const (.int .i64 1)), none, []⟩, 
  ⟨(some (50)), .bin .plain .mul (.const (.int .i64 2)) (.tmp 49), none, []⟩, 
  ⟨(some (6)), .move (.tmp 50), none, []⟩]
def k_ref01_weight_r9 : List AOper := [
  ⟨(some (6)), .move (.const (.int .i64 1)), none, []⟩]
def k_ref01_weight_r10 : List AOper := [
  ⟨(some (52)), .move (.tmp 2), none, []⟩, 
  ⟨(some (53)), .move (.tmp 1), none, []⟩, 
  ⟨(some (54)), .fieldAddr 0 (.tmp 3), none, []⟩, 
  ⟨(some (55)), .load none (.tmp 54), none, []⟩, 
  ⟨(some (56)), .bin .plain .add (.tmp 53) (.tmp 55), none, []⟩, 
  ⟨(some (57)), .bin .plain .eql (.tmp 52) (.tmp 56), none, []⟩, 
  ⟨(some (51)), .move (.tmp 57), none, []⟩]
def k_ref01_weight_r11 : List AOper := [
  ⟨(some (58)), .fieldAddr 2 (.tmp 3), none, []⟩, 
  ⟨(some (59)), .load none (.tmp 58), none, []⟩]
def k_ref01_weight_r12 : List AOper := [
  ⟨(some (60)), .move (.tmp 8), none, []⟩, 
  ⟨(some (61)), .bin .plain .mul (.const (.int .i64 2)) (.tmp 60), none, []⟩, 
  ⟨(some (62)), .bin .plain .add (.tmp 61) (.const (.int .i64 1)), none, []⟩, 
  ⟨(some (6)), .move (.tmp 62), none, []⟩]
def k_ref01_weight_r13 : List AOper := [
  ⟨(some (6)), .move (.const (.int .i64 1)), none, []⟩]
def k_ref01_weight_r14 : List AOper := [
  ⟨(some (6)), .move (.const (.int .i64 0)), none, []⟩]
def k_ref01_weight : AFun := { params := 3, ntmps := 63, body := (.seq (.reg k_ref01_weight_r0 false) (.seq (.reg k_ref01_weight_r1 false) (.seq (.seq (.reg k_ref01_weight_r2 false) (.cond (.tmp 23) (.seq (.reg k_ref01_weight_r3 false) .ret) .skip)) (.seq (.reg k_ref01_weight_r4 false) (.seq (.reg k_ref01_weight_r5 false) (.seq (.block 0 (.seq (.reg k_ref01_weight_r6 false) (.cond (.tmp 34) (.seq (.seq (.reg k_ref01_weight_r7 false) (.cond (.tmp 47) (.seq (.reg k_ref01_weight_r8 false) .ret) .skip)) (.seq (.reg k_ref01_weight_r9 false) .ret)) (.seq (.reg k_ref01_weight_r10 false) (.cond (.tmp 51) (.seq (.seq (.reg k_ref01_weight_r11 false) (.cond (.tmp 59) (.seq (.reg k_ref01_weight_r12 false) .ret) .skip)) (.seq (.reg k_ref01_weight_r13 false) .ret)) .skip))))) (.seq (.reg k_ref01_weight_r14 false) .ret))))))), res := [.tmp 6] }
theorem k_ref01_weight_ok : cfun Try.prog Try.f99 = k_ref01_weight := by kernel_rfl

def k_ref01_around_r0 : List AOper := [
  ⟨(some (2)), .box (.tmp 0), none, []⟩, 
  ⟨(some (4)), .move (.const (.nilsl)), none, []⟩]
def k_ref01_around_r1 : List AOper := [
  ⟨(some (8)), .move (.tmp 1), none, []⟩, 
  ⟨(some (9)), .fieldAddr 0 (.tmp 2), none, []⟩, 
  ⟨(some (10)), .load none (.tmp 9), none, []⟩, 
  ⟨(some (11)), .bin .plain .sub (.tmp 8) (.tmp 10), none, []⟩, 
  ⟨(some (12)), .move (.tmp 1), none, []⟩, 
  ⟨(some (13)), .bin .plain .sub (.tmp 12) (.const (.int .i64 1)), none, []⟩, 
  ⟨(some (14)), .move (.tmp 1), none, []⟩, 
  ⟨(some (15)), .bin .plain .add (.tmp 14) (.const (.int .i64 1)), none, []⟩, 
  ⟨(some (16)), .move (.tmp 1), none, []⟩, 
  ⟨(some (17)), .fieldAddr 0 (.tmp 2), none, []⟩, 
  ⟨(some (18)), .load none (.tmp 17), none, []⟩, 
  ⟨(some (19)), .bin .plain .add (.tmp 16) (.tmp 18), none, []⟩, 
  ⟨(some (20)), .buildSlice 1 [.tmp 11, .tmp 13, .tmp 15, .tmp 19], none, []⟩, 
  ⟨(some (5)), .move (.tmp 20), none, []⟩]
def k_ref01_around_r2 : List AOper := [
  ⟨(some (21)), .fieldAddr 0 (.tmp 2), none, []⟩, 
  ⟨(some (22)), .load none (.tmp 21), none, []⟩, 
  ⟨(some (23)), .bin .plain .eql (.tmp 22) (.const (.int .i64 1)), none, []⟩]
def k_ref01_around_r3 : List AOper := [
  ⟨(some (24)), .move (.tmp 1), none, []⟩, 
  ⟨(some (25)), .bin .plain .sub (.tmp 24) (.const (.int .i64 1)), none, []⟩, 
  ⟨(some (26)), .move (.tmp 1), none, []⟩, 
  ⟨(some (27)), .bin .plain .add (.tmp 26) (.const (.int .i64 1)), none, []⟩, 
  ⟨(some (28)), .buildSlice 1 [.tmp 25, .tmp 27], none, []⟩, 
  ⟨(some (5)), .move (.tmp 28), none, []⟩]
def k_ref01_around_r4 : List AOper := [
  ⟨(some (6)), .move (.const (.nilsl)), none, []⟩]
def k_ref01_around_r5 : List AOper := [
  ⟨(some (7)), .move (.const (.int .i64 0)), none, []⟩]
def k_ref01_around_r6 : List AOper := [
  ⟨(some (29)), .move (.tmp 7), none, []⟩, 
  ⟨(some (30)), .move (.tmp 5), none, []⟩, 
  ⟨(some (31)), .len false (.tmp 30), none, []⟩, 
  ⟨(some (32)), .bin .plain .lss (.tmp 29) (.tmp 31), none, []⟩]
def k_ref01_around_r7 : List AOper := [
  ⟨(some (35)), .load (some (4)) (.tmp 2), none, []⟩, 
  ⟨(some (36)), .move (.tmp 1), none, [0]⟩, 
  ⟨(some (37)), .move (.tmp 5), none, [0, 1]⟩, 
  ⟨(some (38)), .move (.tmp 7), none, [0, 1, 2]⟩, 
  ⟨(some (39)), .indexAddr 1 (.tmp 37) (.tmp 38), none, [0, 1]⟩, 
  ⟨(some (40)), .load none (.tmp 39), none, [0, 1]⟩, 
  ⟨(some (41)), .call (.const (.fn (.func 99) [] [])) [.tmp 35, .tmp 36, .tmp 40], none, []⟩, 
  ⟨(some (42)), .bin .plain .gtr (.tmp 41) (.const (.int .i64 0)), none, []⟩]
def k_ref01_around_r7s : List (List AOper) := [
  [
  ⟨(some (35)), .load (some (4)) (.tmp 2), none, []⟩, 
  ⟨(some (36)), .move (.tmp 1), none, [0]⟩, 
  ⟨(some (37)), .move (.tmp 5), none, [0, 1]⟩, 
  ⟨(some (38)), .move (.tmp 7), none, [0, 1, 2]⟩, 
  ⟨(some (39)), .indexAddr 1 (.tmp 37) (.tmp 38), none, [0, 1]⟩, 
  ⟨(some (40)), .load none (.tmp 39), none, [0, 1]⟩], 
  [
  ⟨(some (41)), .call (.const (.fn (.func 99) [] [])) [.tmp 35, .tmp 36, .tmp 40], none, []⟩], 
  [
  ⟨(some (42)), .bin .plain .gtr (.tmp 41) (.const (.int .i64 0)), none, []⟩]]
theorem k_ref01_around_r7_sg : segs k_ref01_around_r7 = k_ref01_around_r7s := by kernel_rfl
theorem k_ref01_around_r7_st : statOK k_ref01_around_r7 = true := by kernel_rfl
def k_ref01_around_r8 : List AOper := [
  ⟨(some (43)), .move (.tmp 6), none, []⟩, 
  ⟨(some (44)), .move (.tmp 5), none, []⟩, 
  ⟨(some (45)), .move (.tmp 7), none, []⟩, 
  ⟨(some (46)), .indexAddr 1 (.tmp 44) (.tmp 45), none, []⟩, 
  ⟨(some (47)), .load none (.tmp 46), none, []⟩, 
  ⟨(some (48)), .buildSlice 1 [.tmp 47], none, []⟩, 
  ⟨(some (49)), .append 1 8 false (.tmp 43) (.tmp 48), none, []⟩, 
  ⟨(some (6)), .move (.tmp 49), none, []⟩]
def k_ref01_around_r9 : List AOper := [
  ⟨(some (33)), .move (.tmp 7), none, []⟩, 
  ⟨(some (34)), .bin .plain .add (.tmp 33) (.const (.int .i64 1)), none, []⟩, 
  ⟨(some (7)), .move (.tmp 34), none, []⟩]
def k_ref01_around_r10 : ACode := (.seq (.seq (.reg k_ref01_around_r6 false) (.cond (.tmp 32) .skip (.exit 0))) (.seq (.block 1 (.seq (.reg k_ref01_around_r7 true) (.cond (.tmp 42) (.reg k_ref01_around_r8 false) .skip))) (.reg k_ref01_around_r9 false)))
def k_ref01_around_r11 : List AOper := [
  ⟨(some (50)), .move (.tmp 6), none, []⟩, 
  ⟨(some (4)), .move (.tmp 50), none, []⟩]
def k_ref01_around : AFun := { params := 2, ntmps := 51, body := (.seq (.reg k_ref01_around_r0 false) (.seq (.reg k_ref01_around_r1 false) (.seq (.seq (.reg k_ref01_around_r2 false) (.cond (.tmp 23) (.reg k_ref01_around_r3 false) .skip)) (.seq (.reg k_ref01_around_r4 false) (.seq (.seq (.reg k_ref01_around_r5 false) (.block 0 (.loop k_ref01_around_r10))) (.seq (.reg k_ref01_around_r11 false) .ret)))))), res := [.tmp 4] }
theorem k_ref01_around_ok : cfun Try.prog Try.f101 = k_ref01_around := by kernel_rfl


abbrev n_law01_big : Nat := 19
theorem e_law01_big : EntryOK Try.prog n_law01_big k_law01_big := ⟨Try.f19, Try.func19, k_law01_big_ok, by kernel_rfl⟩
abbrev n_ref01_Check : Nat := 27
theorem e_ref01_Check : EntryOK Try.prog n_ref01_Check k_ref01_Check := ⟨Try.f27, Try.func27, k_ref01_Check_ok, by kernel_rfl⟩
abbrev n_ref01_CheckVolts : Nat := 29
theorem e_ref01_CheckVolts : EntryOK Try.prog n_ref01_CheckVolts k_ref01_CheckVolts := ⟨Try.f29, Try.func29, k_ref01_CheckVolts_ok, by kernel_rfl⟩
abbrev n_ref01_Solve : Nat := 39
theorem e_ref01_Solve : EntryOK Try.prog n_ref01_Solve k_ref01_Solve := ⟨Try.f39, Try.func39, k_ref01_Solve_ok, by kernel_rfl⟩
abbrev n_ref01_beyond : Nat := 71
theorem e_ref01_beyond : EntryOK Try.prog n_ref01_beyond k_ref01_beyond := ⟨Try.f71, Try.func71, k_ref01_beyond_ok, by kernel_rfl⟩
abbrev n_ref01_held : Nat := 72
theorem e_ref01_held : EntryOK Try.prog n_ref01_held k_ref01_held := ⟨Try.f72, Try.func72, k_ref01_held_ok, by kernel_rfl⟩
abbrev n_ref01_greatest : Nat := 74
theorem e_ref01_greatest : EntryOK Try.prog n_ref01_greatest k_ref01_greatest := ⟨Try.f74, Try.func74, k_ref01_greatest_ok, by kernel_rfl⟩
abbrev n_ref01_has : Nat := 76
theorem e_ref01_has : EntryOK Try.prog n_ref01_has k_ref01_has := ⟨Try.f76, Try.func76, k_ref01_has_ok, by kernel_rfl⟩
abbrev n_ref01_begin : Nat := 81
theorem e_ref01_begin : EntryOK Try.prog n_ref01_begin k_ref01_begin := ⟨Try.f81, Try.func81, k_ref01_begin_ok, by kernel_rfl⟩
abbrev n_ref01_sweep : Nat := 82
theorem e_ref01_sweep : EntryOK Try.prog n_ref01_sweep k_ref01_sweep := ⟨Try.f82, Try.func82, k_ref01_sweep_ok, by kernel_rfl⟩
abbrev n_ref01_sums : Nat := 85
theorem e_ref01_sums : EntryOK Try.prog n_ref01_sums k_ref01_sums := ⟨Try.f85, Try.func85, k_ref01_sums_ok, by kernel_rfl⟩
abbrev n_ref01_charge : Nat := 87
theorem e_ref01_charge : EntryOK Try.prog n_ref01_charge k_ref01_charge := ⟨Try.f87, Try.func87, k_ref01_charge_ok, by kernel_rfl⟩
abbrev n_ref01_Down : Nat := 94
theorem e_ref01_Down : EntryOK Try.prog n_ref01_Down k_ref01_Down := ⟨Try.f94, Try.func94, k_ref01_Down_ok, by kernel_rfl⟩
abbrev n_ref01_Up : Nat := 95
theorem e_ref01_Up : EntryOK Try.prog n_ref01_Up k_ref01_Up := ⟨Try.f95, Try.func95, k_ref01_Up_ok, by kernel_rfl⟩
abbrev n_ref01_weight : Nat := 99
theorem e_ref01_weight : EntryOK Try.prog n_ref01_weight k_ref01_weight := ⟨Try.f99, Try.func99, k_ref01_weight_ok, by kernel_rfl⟩
abbrev n_ref01_around : Nat := 101
theorem e_ref01_around : EntryOK Try.prog n_ref01_around k_ref01_around := ⟨Try.f101, Try.func101, k_ref01_around_ok, by kernel_rfl⟩

attribute [go_sem] k_law01_big_r0 k_law01_big_r1 k_law01_big_r2 k_law01_big_r3 k_law01_big_r4 k_law01_big_r5 k_law01_big_r7 k_ref01_Check_r0 k_ref01_Check_r1 k_ref01_Check_r2
attribute [go_sem] k_ref01_Check_r3 k_ref01_Check_r4 k_ref01_Check_r5 k_ref01_Check_r6 k_ref01_Check_r7 k_ref01_Check_r8 k_ref01_Check_r9 k_ref01_Check_r10 k_ref01_Check_r11 k_ref01_Check_r13 k_ref01_Check_r14 k_ref01_Check_r15
attribute [go_sem] k_ref01_Check_r16 k_ref01_Check_r17 k_ref01_Check_r18 k_ref01_Check_r19 k_ref01_Check_r20 k_ref01_Check_r22 k_ref01_CheckVolts_r0 k_ref01_CheckVolts_r1 k_ref01_CheckVolts_r2 k_ref01_CheckVolts_r3 k_ref01_CheckVolts_r4 k_ref01_CheckVolts_r5
attribute [go_sem] k_ref01_CheckVolts_r6 k_ref01_CheckVolts_r7 k_ref01_CheckVolts_r8 k_ref01_CheckVolts_r9 k_ref01_CheckVolts_r10 k_ref01_CheckVolts_r12 k_ref01_Solve_r0 k_ref01_Solve_r1 k_ref01_Solve_r2 k_ref01_Solve_r3 k_ref01_Solve_r4 k_ref01_Solve_r5
attribute [go_sem] k_ref01_Solve_r6 k_ref01_Solve_r7 k_ref01_Solve_r8 k_ref01_Solve_r9 k_ref01_Solve_r11
attribute [go_sem] k_ref01_beyond_r0 k_ref01_beyond_r1 k_ref01_held_r0 k_ref01_held_r1 k_ref01_held_r2 k_ref01_held_r3 k_ref01_held_r4 k_ref01_held_r5 k_ref01_held_r7 k_ref01_held_r8 k_ref01_held_r9 k_ref01_held_r10
attribute [go_sem] k_ref01_held_r11 k_ref01_held_r12 k_ref01_held_r13 k_ref01_held_r14 k_ref01_held_r15 k_ref01_held_r16 k_ref01_held_r17 k_ref01_held_r19 k_ref01_held_r22 k_ref01_greatest_r0 k_ref01_greatest_r1 k_ref01_greatest_r2
attribute [go_sem] k_ref01_greatest_r3 k_ref01_greatest_r4 k_ref01_greatest_r5 k_ref01_greatest_r7 k_ref01_has_r0 k_ref01_has_r1 k_ref01_has_r2 k_ref01_has_r3 k_ref01_has_r4 k_ref01_has_r5 k_ref01_has_r7 k_ref01_begin_r0
attribute [go_sem] k_ref01_begin_r1 k_ref01_begin_r2 k_ref01_begin_r3 k_ref01_begin_r4 k_ref01_begin_r5s k_ref01_begin_r6 k_ref01_begin_r8 k_ref01_begin_r9 k_ref01_begin_r10 k_ref01_begin_r11 k_ref01_begin_r12 k_ref01_begin_r13s
attribute [go_sem] k_ref01_begin_r14s k_ref01_begin_r15 k_ref01_begin_r17 k_ref01_sweep_r0 k_ref01_sweep_r1 k_ref01_sweep_r2 k_ref01_sweep_r3 k_ref01_sweep_r4 k_ref01_sweep_r5 k_ref01_sweep_r6 k_ref01_sweep_r7 k_ref01_sweep_r8
attribute [go_sem] k_ref01_sweep_r9 k_ref01_sweep_r10s k_ref01_sweep_r11 k_ref01_sweep_r13 k_ref01_sums_r0 k_ref01_sums_r1 k_ref01_sums_r2 k_ref01_sums_r3 k_ref01_sums_r4 k_ref01_sums_r5s k_ref01_sums_r6s k_ref01_sums_r7
attribute [go_sem] k_ref01_sums_r9 k_ref01_charge_r0 k_ref01_charge_r1 k_ref01_charge_r2 k_ref01_charge_r3 k_ref01_charge_r4 k_ref01_charge_r5 k_ref01_charge_r6 k_ref01_charge_r7 k_ref01_charge_r8 k_ref01_charge_r9 k_ref01_charge_r10s
attribute [go_sem] k_ref01_charge_r11s k_ref01_charge_r12 k_ref01_charge_r14 k_ref01_charge_r16 k_ref01_Down_r0 k_ref01_Down_r1 k_ref01_Down_r2 k_ref01_Down_r3 k_ref01_Down_r4 k_ref01_Up_r0 k_ref01_Up_r1 k_ref01_weight_r0
attribute [go_sem] k_ref01_weight_r1 k_ref01_weight_r2 k_ref01_weight_r3 k_ref01_weight_r4 k_ref01_weight_r5 k_ref01_weight_r6 k_ref01_weight_r7 k_ref01_weight_r8 k_ref01_weight_r9 k_ref01_weight_r10 k_ref01_weight_r11 k_ref01_weight_r12
attribute [go_sem] k_ref01_weight_r13 k_ref01_weight_r14 k_ref01_around_r0 k_ref01_around_r1 k_ref01_around_r2 k_ref01_around_r3 k_ref01_around_r4 k_ref01_around_r5 k_ref01_around_r6 k_ref01_around_r7s k_ref01_around_r8 k_ref01_around_r9
attribute [go_sem] k_ref01_around_r11 k_ref01_charge_r10_sg k_ref01_begin_r13_sg k_ref01_begin_r14_sg k_ref01_sums_r6_sg k_ref01_around_r7_sg k_ref01_charge_r11_sg k_ref01_begin_r5_sg k_ref01_sums_r5_sg k_ref01_sweep_r10_sg k_ref01_charge_r10_st k_ref01_begin_r13_st
attribute [go_sem] k_ref01_begin_r14_st k_ref01_sums_r6_st k_ref01_around_r7_st k_ref01_charge_r11_st k_ref01_begin_r5_st k_ref01_sums_r5_st k_ref01_sweep_r10_st k_law01_big k_ref01_Check k_ref01_CheckVolts k_ref01_Solve
attribute [go_sem] k_ref01_beyond k_ref01_held k_ref01_greatest k_ref01_has k_ref01_begin k_ref01_sweep k_ref01_sums k_ref01_charge k_ref01_Down k_ref01_Up k_ref01_weight
attribute [go_sem] k_ref01_around
end Go.Proofs

