/- A part of the proof. -/
import Derived.Test.YtdodlephmmpemaaPC
set_option linter.unusedSimpArgs false
set_option linter.unusedVariables false
namespace Go.Proofs
open Go Go.Sx

def k_law01_big_r0 : List AOper := [
  ⟨(some (2)), .box (.tmp 0), none, []⟩, 
  ⟨(some (4)), .move (.const (.bool false)), none, []⟩]
def k_law01_big_r1 : List AOper := [
  ⟨(some (5)), .move (.const (.int .i64 0)), none, []⟩]
def k_law01_big_r2 : List AOper := [
  ⟨(some (6)), .move (.tmp 5), none, []⟩, 
  ⟨(some (7)), .move (.tmp 1), none, []⟩, 
  ⟨(some (8)), .len false (.tmp 7), none, []⟩, 
  ⟨(some (9)), .bin .plain .lss (.tmp 6) (.tmp 8), none, []⟩]
def k_law01_big_r3 : List AOper := [
  ⟨(some (12)), .move (.tmp 1), none, []⟩, 
  ⟨(some (13)), .move (.tmp 5), none, []⟩, 
  ⟨(some (14)), .indexAddr 1 (.tmp 12) (.tmp 13), none, []⟩, 
  ⟨(some (15)), .load none (.tmp 14), none, []⟩, 
  ⟨(some (16)), .len false (.tmp 15), none, []⟩, 
  ⟨(some (17)), .bin .plain .gtr (.tmp 16) (.const (.int .i64 300)), none, []⟩]
def k_law01_big_r4 : List AOper := [
  ⟨(some (4)), .move (.const (.bool true)), none, []⟩]
def k_law01_big_r5 : List AOper := [
  ⟨(some (10)), .move (.tmp 5), none, []⟩, 
  ⟨(some (11)), .bin .plain .add (.tmp 10) (.const (.int .i64 1)), none, []⟩, 
  ⟨(some (5)), .move (.tmp 11), none, []⟩]
def k_law01_big_r6 : ACode := (.seq (.seq (.reg k_law01_big_r2 false) (.cond (.tmp 9) .skip (.exit 0))) (.seq (.block 1 (.seq (.reg k_law01_big_r3 false) (.cond (.tmp 17) (.seq (.reg k_law01_big_r4 false) .ret) .skip))) (.reg k_law01_big_r5 false)))
def k_law01_big_r7 : List AOper := [
  ⟨(some (18)), .fieldAddr 3 (.tmp 2), none, []⟩, 
  ⟨(some (19)), .load none (.tmp 18), none, []⟩, 
  ⟨(some (20)), .len false (.tmp 19), none, []⟩, 
  ⟨(some (21)), .bin .plain .gtr (.tmp 20) (.const (.int .i64 300)), none, []⟩, 
  ⟨(some (4)), .move (.tmp 21), none, []⟩]
def k_law01_big : AFun := { params := 2, ntmps := 22, body := (.seq (.reg k_law01_big_r0 false) (.seq (.seq (.reg k_law01_big_r1 false) (.block 0 (.loop k_law01_big_r6))) (.seq (.reg k_law01_big_r7 false) .ret))), res := [.tmp 4] }
theorem k_law01_big_ok : cfun Try.prog Try.f19 = k_law01_big := by kernel_rfl

def k_ref01_Check_r0 : List AOper := [
  ⟨(some (1)), .box (.tmp 0), none, []⟩, 
  ⟨(some (2)), .move (.const (.int .i64 0)), none, []⟩]
def k_ref01_Check_r1 : List AOper := [
  ⟨(some (7)), .fieldAddr 0 (.tmp 1), none, []⟩, 
  ⟨(some (8)), .load none (.tmp 7), none, []⟩, 
  ⟨(some (9)), .call (.const (.fn (.func 71) [] [])) [.tmp 8, .const (.int .i64 1), .const (.int .i64 16)], none, []⟩, 
  ⟨(some (10)), .move (.tmp 9), none, []⟩, 
  ⟨(some (11)), .fieldAddr 1 (.tmp 1), (some (10, false)), []⟩, 
  ⟨(some (12)), .load none (.tmp 11), (some (10, false)), []⟩, 
  ⟨(some (13)), .call (.const (.fn (.func 71) [] [])) [.tmp 12, .const (.int .i64 1), .const (.int .i64 16)], (some (10, false)), []⟩, 
  ⟨(some (14)), .pick (.tmp 10) (.const (.bool true)) (.tmp 13), none, []⟩]
def k_ref01_Check_r2 : List AOper := [
  ⟨(some (2)), .move (.const (.int .i64 2)), none, []⟩]
def k_ref01_Check_r3 : List AOper := [
  ⟨(some (15)), .fieldAddr 3 (.tmp 1), none, []⟩, 
  ⟨(some (16)), .load none (.tmp 15), none, []⟩, 
  ⟨(some (17)), .len false (.tmp 16), none, []⟩, 
  ⟨(some (18)), .fieldAddr 0 (.tmp 1), none, []⟩, 
  ⟨(some (19)), .load none (.tmp 18), none, []⟩, 
  ⟨(some (20)), .fieldAddr 1 (.tmp 1), none, []⟩, 
  ⟨(some (21)), .load none (.tmp 20), none, []⟩, 
  ⟨(some (22)), .bin .plain .mul (.tmp 19) (.tmp 21), none, []⟩, 
  ⟨(some (23)), .bin .plain .neq (.tmp 17) (.tmp 22), none, []⟩]
def k_ref01_Check_r4 : List AOper := [
  ⟨(some (2)), .move (.const (.int .i64 3)), none, []⟩]
def k_ref01_Check_r5 : List AOper := [
  ⟨(some (3)), .move (.const (.bool false)), none, []⟩]
def k_ref01_Check_r6 : List AOper := [
  ⟨(some (4)), .move (.const (.int .i64 0)), none, []⟩]
def k_ref01_Check_r7 : List AOper := [
  ⟨(some (24)), .move (.tmp 4), none, []⟩, 
  ⟨(some (25)), .fieldAddr 3 (.tmp 1), none, []⟩, 
  ⟨(some (26)), .load none (.tmp 25), none, []⟩, 
  ⟨(some (27)), .len false (.tmp 26), none, []⟩, 
  ⟨(some (28)), .bin .plain .lss (.tmp 24) (.tmp 27), none, []⟩]
def k_ref01_Check_r8 : List AOper := [
  ⟨(some (31)), .fieldAddr 3 (.tmp 1), none, []⟩, 
  ⟨(some (32)), .load none (.tmp 31), none, []⟩, 
  ⟨(some (33)), .move (.tmp 4), none, []⟩, 
  ⟨(some (34)), .indexAddr 1 (.tmp 32) (.tmp 33), none, []⟩, 
  ⟨(some (35)), .load none (.tmp 34), none, []⟩, 
  ⟨(some (36)), .call (.const (.fn (.func 71) [] [])) [.tmp 35, .const (.int .i64 0), .const (.int .i64 6)], none, []⟩]
def k_ref01_Check_r9 : List AOper := [
  ⟨(some (2)), .move (.const (.int .i64 2)), none, []⟩]
def k_ref01_Check_r10 : List AOper := [
  ⟨(some (37)), .move (.tmp 3), none, []⟩, 
  ⟨(some (38)), .move (.tmp 37), none, []⟩, 
  ⟨(some (39)), .fieldAddr 3 (.tmp 1), (some (38, false)), []⟩, 
  ⟨(some (40)), .load none (.tmp 39), (some (38, false)), []⟩, 
  ⟨(some (41)), .move (.tmp 4), (some (38, false)), []⟩, 
  ⟨(some (42)), .indexAddr 1 (.tmp 40) (.tmp 41), (some (38, false)), []⟩, 
  ⟨(some (43)), .load none (.tmp 42), (some (38, false)), []⟩, 
  ⟨(some (44)), .bin .plain .gtr (.tmp 43) (.const (.int .i64 0)), (some (38, false)), []⟩, 
  ⟨(some (45)), .pick (.tmp 38) (.const (.bool true)) (.tmp 44), none, []⟩, 
  ⟨(some (3)), .move (.tmp 45), none, []⟩]
def k_ref01_Check_r11 : List AOper := [
  ⟨(some (29)), .move (.tmp 4), none, []⟩, 
  ⟨(some (30)), .bin .plain .add (.tmp 29) (.const (.int .i64 1)), none, []⟩, 
  ⟨(some (4)), .move (.tmp 30), none, []⟩]
def k_ref01_Check_r12 : ACode := (.seq (.seq (.reg k_ref01_Check_r7 false) (.cond (.tmp 28) .skip (.exit 0))) (.seq (.block 1 (.seq (.seq (.reg k_ref01_Check_r8 false) (.cond (.tmp 36) (.seq (.reg k_ref01_Check_r9 false) .ret) .skip)) (.reg k_ref01_Check_r10 false))) (.reg k_ref01_Check_r11 false)))
def k_ref01_Check_r13 : List AOper := [
  ⟨(some (46)), .move (.tmp 3), none, []⟩, 
  ⟨(some (47)), .not (.tmp 46), none, []⟩]
def k_ref01_Check_r14 : List AOper := [
  ⟨(some (2)), .move (.const (.int .i64 7)), none, []⟩]
def k_ref01_Check_r15 : List AOper := [
  ⟨(some (48)), .load (some (4)) (.tmp 1), none, []⟩, 
  ⟨(some (49)), .call (.const (.fn (.func 72) [] [])) [.tmp 48], none, []⟩, 
  ⟨(some (5)), .move (.tmp 49), none, []⟩]
def k_ref01_Check_r16 : List AOper := [
  ⟨(some (6)), .move (.const (.int .i64 0)), none, []⟩]
def k_ref01_Check_r17 : List AOper := [
  ⟨(some (50)), .move (.tmp 6), none, []⟩, 
  ⟨(some (51)), .move (.tmp 5), none, []⟩, 
  ⟨(some (52)), .len false (.tmp 51), none, []⟩, 
  ⟨(some (53)), .bin .plain .lss (.tmp 50) (.tmp 52), none, []⟩]
def k_ref01_Check_r18 : List AOper := [
  ⟨(some (56)), .move (.tmp 5), none, []⟩, 
  ⟨(some (57)), .move (.tmp 6), none, []⟩, 
  ⟨(some (58)), .indexAddr 1 (.tmp 56) (.tmp 57), none, []⟩, 
  ⟨(some (59)), .load none (.tmp 58), none, []⟩, 
  ⟨(some (60)), .not (.tmp 59), none, []⟩]
def k_ref01_Check_r19 : List AOper := [
  ⟨(some (2)), .move (.const (.int .i64 13)), none, []⟩]
def k_ref01_Check_r20 : List AOper := [
  ⟨(some (54)), .move (.tmp 6), none, []⟩, 
  ⟨(some (55)), .bin .plain .add (.tmp 54) (.const (.int .i64 1)), none, []⟩, 
  ⟨(some (6)), .move (.tmp 55), none, []⟩]
def k_ref01_Check_r21 : ACode := (.seq (.seq (.reg k_ref01_Check_r17 false) (.cond (.tmp 53) .skip (.exit 2))) (.seq (.block 3 (.seq (.reg k_ref01_Check_r18 false) (.cond (.tmp 60) (.seq (.reg k_ref01_Check_r19 false) .ret) .skip))) (.reg k_ref01_Check_r20 false)))
def k_ref01_Check_r22 : List AOper := [
  ⟨(some (2)), .move (.const (.int .i64 0)), none, []⟩]
def k_ref01_Check : AFun := { params := 1, ntmps := 61, body := (.seq (.reg k_ref01_Check_r0 false) (.seq (.seq (.reg k_ref01_Check_r1 false) (.cond (.tmp 14) (.seq (.reg k_ref01_Check_r2 false) .ret) .skip)) (.seq (.seq (.reg k_ref01_Check_r3 false) (.cond (.tmp 23) (.seq (.reg k_ref01_Check_r4 false) .ret) .skip)) (.seq (.reg k_ref01_Check_r5 false) (.seq (.seq (.reg k_ref01_Check_r6 false) (.block 0 (.loop k_ref01_Check_r12))) (.seq (.seq (.reg k_ref01_Check_r13 false) (.cond (.tmp 47) (.seq (.reg k_ref01_Check_r14 false) .ret) .skip)) (.seq (.reg k_ref01_Check_r15 false) (.seq (.seq (.reg k_ref01_Check_r16 false) (.block 2 (.loop k_ref01_Check_r21))) (.seq (.reg k_ref01_Check_r22 false) .ret))))))))), res := [.tmp 2] }
theorem k_ref01_Check_ok : cfun Try.prog Try.f27 = k_ref01_Check := by kernel_rfl

def k_ref01_CheckVolts_r0 : List AOper := [
  ⟨(some (2)), .box (.tmp 0), none, []⟩, 
  ⟨(some (4)), .move (.const (.int .i64 0)), none, []⟩]
def k_ref01_CheckVolts_r1 : List AOper := [
  ⟨(some (7)), .load (some (4)) (.tmp 2), none, []⟩, 
  ⟨(some (8)), .call (.const (.fn (.func 27) [] [])) [.tmp 7], none, []⟩, 
  ⟨(some (5)), .move (.tmp 8), none, []⟩]
def k_ref01_CheckVolts_r2 : List AOper := [
  ⟨(some (9)), .move (.tmp 5), none, []⟩, 
  ⟨(some (10)), .bin .plain .neq (.tmp 9) (.const (.int .i64 0)), none, []⟩]
def k_ref01_CheckVolts_r3 : List AOper := [
  ⟨(some (11)), .move (.tmp 5), none, []⟩, 
  ⟨(some (4)), .move (.tmp 11), none, []⟩]
def k_ref01_CheckVolts_r4 : List AOper := [
  ⟨(some (12)), .move (.tmp 1), none, []⟩, 
  ⟨(some (13)), .len false (.tmp 12), none, []⟩, 
  ⟨(some (14)), .load (some (4)) (.tmp 2), none, []⟩, 
  ⟨(some (15)), .call (.const (.fn (.func 74) [] [])) [.tmp 14], none, []⟩, 
  ⟨(some (16)), .bin .plain .neq (.tmp 13) (.tmp 15), none, []⟩]
def k_ref01_CheckVolts_r5 : List AOper := [
  ⟨(some (4)), .move (.const (.int .i64 3)), none, []⟩]
def k_ref01_CheckVolts_r6 : List AOper := [
  ⟨(some (6)), .move (.const (.int .i64 0)), none, []⟩]
def k_ref01_CheckVolts_r7 : List AOper := [
  ⟨(some (17)), .move (.tmp 6), none, []⟩, 
  ⟨(some (18)), .move (.tmp 1), none, []⟩, 
  ⟨(some (19)), .len false (.tmp 18), none, []⟩, 
  ⟨(some (20)), .bin .plain .lss (.tmp 17) (.tmp 19), none, []⟩]
def k_ref01_CheckVolts_r8 : List AOper := [
  ⟨(some (23)), .move (.tmp 1), none, []⟩, 
  ⟨(some (24)), .move (.tmp 6), none, []⟩, 
  ⟨(some (25)), .indexAddr 1 (.tmp 23) (.tmp 24), none, []⟩, 
  ⟨(some (26)), .load none (.tmp 25), none, []⟩, 
  ⟨(some (27)), .call (.const (.fn (.func 71) [] [])) [.tmp 26, .const (.int .i64 (-1000000)), .const (.int .i64 1000000)], none, []⟩]
def k_ref01_CheckVolts_r9 : List AOper := [
  ⟨(some (4)), .move (.const (.int .i64 2)), none, []⟩]
def k_ref01_CheckVolts_r10 : List AOper := [
  ⟨(some (21)), .move (.tmp 6), none, []⟩, 
  ⟨(some (22)), .bin .plain .add (.tmp 21) (.const (.int .i64 1)), none, []⟩, 
  ⟨(some (6)), .move (.tmp 22), none, []⟩]
def k_ref01_CheckVolts_r11 : ACode := (.seq (.seq (.reg k_ref01_CheckVolts_r7 false) (.cond (.tmp 20) .skip (.exit 0))) (.seq (.block 1 (.seq (.reg k_ref01_CheckVolts_r8 false) (.cond (.tmp 27) (.seq (.reg k_ref01_CheckVolts_r9 false) .ret) .skip))) (.reg k_ref01_CheckVolts_r10 false)))
def k_ref01_CheckVolts_r12 : List AOper := [
  ⟨(some (4)), .move (.const (.int .i64 0)), none, []⟩]
def k_ref01_CheckVolts : AFun := { params := 2, ntmps := 28, body := (.seq (.reg k_ref01_CheckVolts_r0 false) (.seq (.seq (.reg k_ref01_CheckVolts_r1 false) (.seq (.reg k_ref01_CheckVolts_r2 false) (.cond (.tmp 10) (.seq (.reg k_ref01_CheckVolts_r3 false) .ret) .skip))) (.seq (.seq (.reg k_ref01_CheckVolts_r4 false) (.cond (.tmp 16) (.seq (.reg k_ref01_CheckVolts_r5 false) .ret) .skip)) (.seq (.seq (.reg k_ref01_CheckVolts_r6 false) (.block 0 (.loop k_ref01_CheckVolts_r11))) (.seq (.reg k_ref01_CheckVolts_r12 false) .ret))))), res := [.tmp 4] }
theorem k_ref01_CheckVolts_ok : cfun Try.prog Try.f29 = k_ref01_CheckVolts := by kernel_rfl

def k_ref01_beyond_r0 : List AOper := [
  ⟨(some (6)), .move (.const (.bool false)), none, []⟩]
def k_ref01_beyond_r1 : List AOper := [
  ⟨(some (7)), .move (.tmp 0), none, []⟩, 
  ⟨(some (8)), .move (.tmp 1), none, []⟩, 
  ⟨(some (9)), .bin .plain .lss (.tmp 7) (.tmp 8), none, []⟩, 
  ⟨(some (10)), .move (.tmp 9), none, []⟩, 
  ⟨(some (11)), .move (.tmp 0), (some (10, false)), []⟩, 
  ⟨(some (12)), .move (.tmp 2), (some (10, false)), []⟩, 
  ⟨(some (13)), .bin .plain .gtr (.tmp 11) (.tmp 12), (some (10, false)), []⟩, 
  ⟨(some (14)), .pick (.tmp 10) (.const (.bool true)) (.tmp 13), none, []⟩, 
  ⟨(some (6)), .move (.tmp 14), none, []⟩]
def k_ref01_beyond : AFun := { params := 3, ntmps := 15, body := (.seq (.reg k_ref01_beyond_r0 false) (.seq (.reg k_ref01_beyond_r1 false) .ret)), res := [.tmp 6] }
theorem k_ref01_beyond_ok : cfun Try.prog Try.f71 = k_ref01_beyond := by kernel_rfl

def k_ref01_held_r0 : List AOper := [
  ⟨(some (1)), .box (.tmp 0), none, []⟩, 
  ⟨(some (2)), .move (.const (.nilsl)), none, []⟩]
def k_ref01_held_r1 : List AOper := [
  ⟨(some (9)), .fieldAddr 3 (.tmp 1), none, []⟩, 
  ⟨(some (10)), .load none (.tmp 9), none, []⟩, 
  ⟨(some (11)), .len false (.tmp 10), none, []⟩, 
  ⟨(some (12)), .makeSlice (.bool false) 1 (.tmp 11) (.tmp 11), none, []⟩, 
  ⟨(some (3)), .move (.tmp 12), none, []⟩]
def k_ref01_held_r2 : List AOper := [
  ⟨(some (4)), .move (.const (.int .i64 0)), none, []⟩]
def k_ref01_held_r3 : List AOper := [
  ⟨(some (13)), .move (.tmp 4), none, []⟩, 
  ⟨(some (14)), .fieldAddr 3 (.tmp 1), none, []⟩, 
  ⟨(some (15)), .load none (.tmp 14), none, []⟩, 
  ⟨(some (16)), .len false (.tmp 15), none, []⟩, 
  ⟨(some (17)), .bin .plain .lss (.tmp 13) (.tmp 16), none, []⟩]
def k_ref01_held_r4 : List AOper := [
  ⟨(some (20)), .move (.tmp 3), none, []⟩, 
  ⟨(some (21)), .move (.tmp 4), none, []⟩, 
  ⟨(some (22)), .fieldAddr 3 (.tmp 1), none, []⟩, 
  ⟨(some (23)), .load none (.tmp 22), none, []⟩, 
  ⟨(some (24)), .move (.tmp 4), none, []⟩, 
  ⟨(some (25)), .indexAddr 1 (.tmp 23) (.tmp 24), none, []⟩, 
  ⟨(some (26)), .load none (.tmp 25), none, []⟩, 
  ⟨(some (27)), .bin .plain .gtr (.tmp 26) (.const (.int .i64 0)), none, []⟩, 
  ⟨(some (28)), .indexAddr 1 (.tmp 20) (.tmp 21), none, []⟩, 
  ⟨none, .store 1 (.tmp 28) (.tmp 27), none, []⟩]
def k_ref01_held_r5 : List AOper := [
  ⟨(some (18)), .move (.tmp 4), none, []⟩, 
  ⟨(some (19)), .bin .plain .add (.tmp 18) (.const (.int .i64 1)), none, []⟩, 
  ⟨(some (4)), .move (.tmp 19), none, []⟩]
def k_ref01_held_r6 : ACode := (.seq (.seq (.reg k_ref01_held_r3 false) (.cond (.tmp 17) .skip (.exit 0))) (.seq (.block 1 (.reg k_ref01_held_r4 false)) (.reg k_ref01_held_r5 false)))
def k_ref01_held_r7 : List AOper := [
  ⟨(some (5)), .move (.const (.bool true)), none, []⟩]
def k_ref01_held_r8 : List AOper := [
  ⟨(some (29)), .move (.tmp 5), none, []⟩]
def k_ref01_held_r9 : List AOper := [
  ⟨(some (5)), .move (.const (.bool false)), none, []⟩]
def k_ref01_held_r10 : List AOper := [
  ⟨(some (6)), .move (.const (.int .i64 0)), none, []⟩]
def k_ref01_held_r11 : List AOper := [
  ⟨(some (30)), .move (.tmp 6), none, []⟩, 
  ⟨(some (31)), .fieldAddr 3 (.tmp 1), none, []⟩, 
  ⟨(some (32)), .load none (.tmp 31), none, []⟩, 
  ⟨(some (33)), .len false (.tmp 32), none, []⟩, 
  ⟨(some (34)), .bin .plain .lss (.tmp 30) (.tmp 33), none, []⟩]
def k_ref01_held_r12 : List AOper := [
  ⟨(some (37)), .load (some (4)) (.tmp 1), none, []⟩, 
  ⟨(some (38)), .move (.tmp 6), none, []⟩, 
  ⟨(some (39)), .call (.const (.fn (.func 101) [] [])) [.tmp 37, .tmp 38], none, []⟩, 
  ⟨(some (7)), .move (.tmp 39), none, []⟩]
def k_ref01_held_r13 : List AOper := [
  ⟨(some (8)), .move (.const (.int .i64 0)), none, []⟩]
def k_ref01_held_r14 : List AOper := [
  ⟨(some (40)), .move (.tmp 8), none, []⟩, 
  ⟨(some (41)), .move (.tmp 7), none, []⟩, 
  ⟨(some (42)), .len false (.tmp 41), none, []⟩, 
  ⟨(some (43)), .bin .plain .lss (.tmp 40) (.tmp 42), none, []⟩]
def k_ref01_held_r15 : List AOper := [
  ⟨(some (46)), .move (.tmp 3), none, []⟩, 
  ⟨(some (47)), .move (.tmp 7), none, []⟩, 
  ⟨(some (48)), .move (.tmp 8), none, []⟩, 
  ⟨(some (49)), .indexAddr 1 (.tmp 47) (.tmp 48), none, []⟩, 
  ⟨(some (50)), .load none (.tmp 49), none, []⟩, 
  ⟨(some (51)), .indexAddr 1 (.tmp 46) (.tmp 50), none, []⟩, 
  ⟨(some (52)), .load none (.tmp 51), none, []⟩, 
  ⟨(some (53)), .move (.tmp 52), none, []⟩, 
  ⟨(some (54)), .move (.tmp 3), (some (53, true)), []⟩, 
  ⟨(some (55)), .move (.tmp 6), (some (53, true)), []⟩, 
  ⟨(some (56)), .indexAddr 1 (.tmp 54) (.tmp 55), (some (53, true)), []⟩, 
  ⟨(some (57)), .load none (.tmp 56), (some (53, true)), []⟩, 
  ⟨(some (58)), .not (.tmp 57), (some (53, true)), []⟩, 
  ⟨(some (59)), .pick (.tmp 53) (.tmp 58) (.const (.bool false)), none, []⟩]
def k_ref01_held_r16 : List AOper := [
  ⟨(some (60)), .move (.tmp 3), none, []⟩, 
  ⟨(some (61)), .move (.tmp 6), none, []⟩, 
  ⟨(some (62)), .indexAddr 1 (.tmp 60) (.tmp 61), none, []⟩, 
  ⟨none, .store 1 (.tmp 62) (.const (.bool true)), none, []⟩, 
  ⟨(some (5)), .move (.const (.bool true)), none, []⟩]
def k_ref01_held_r17 : List AOper := [
  ⟨(some (44)), .move (.tmp 8), none, []⟩, 
  ⟨(some (45)), .bin .plain .add (.tmp 44) (.const (.int .i64 1)), none, []⟩, 
  ⟨(some (8)), .move (.tmp 45), none, []⟩]
def k_ref01_held_r18 : ACode := (.seq (.seq (.reg k_ref01_held_r14 false) (.cond (.tmp 43) .skip (.exit 6))) (.seq (.block 7 (.seq (.reg k_ref01_held_r15 false) (.cond (.tmp 59) (.reg k_ref01_held_r16 false) .skip))) (.reg k_ref01_held_r17 false)))
def k_ref01_held_r19 : List AOper := [
  ⟨(some (35)), .move (.tmp 6), none, []⟩, 
  ⟨(some (36)), .bin .plain .add (.tmp 35) (.const (.int .i64 1)), none, []⟩, 
  ⟨(some (6)), .move (.tmp 36), none, []⟩]
def k_ref01_held_r20 : ACode := (.seq (.seq (.reg k_ref01_held_r11 false) (.cond (.tmp 34) .skip (.exit 4))) (.seq (.block 5 (.seq (.reg k_ref01_held_r12 false) (.seq (.reg k_ref01_held_r13 false) (.block 6 (.loop k_ref01_held_r18))))) (.reg k_ref01_held_r19 false)))
def k_ref01_held_r21 : ACode := (.seq (.seq (.reg k_ref01_held_r8 false) (.cond (.tmp 29) .skip (.exit 2))) (.block 3 (.seq (.reg k_ref01_held_r9 false) (.seq (.reg k_ref01_held_r10 false) (.block 4 (.loop k_ref01_held_r20))))))
def k_ref01_held_r22 : List AOper := [
  ⟨(some (63)), .move (.tmp 3), none, []⟩, 
  ⟨(some (2)), .move (.tmp 63), none, []⟩]
def k_ref01_held : AFun := { params := 1, ntmps := 64, body := (.seq (.reg k_ref01_held_r0 false) (.seq (.reg k_ref01_held_r1 false) (.seq (.seq (.reg k_ref01_held_r2 false) (.block 0 (.loop k_ref01_held_r6))) (.seq (.seq (.reg k_ref01_held_r7 false) (.block 2 (.loop k_ref01_held_r21))) (.seq (.reg k_ref01_held_r22 false) .ret))))), res := [.tmp 2] }
theorem k_ref01_held_ok : cfun Try.prog Try.f72 = k_ref01_held := by kernel_rfl

def k_ref01_greatest_r0 : List AOper := [
  ⟨(some (1)), .box (.tmp 0), none, []⟩, 
  ⟨(some (2)), .move (.const (.int .i64 0)), none, []⟩]
def k_ref01_greatest_r1 : List AOper := [
  ⟨(some (3)), .move (.const (.int .i64 0)), none, []⟩]
def k_ref01_greatest_r2 : List AOper := [
  ⟨(some (4)), .move (.const (.int .i64 0)), none, []⟩]
def k_ref01_greatest_r3 : List AOper := [
  ⟨(some (5)), .move (.tmp 4), none, []⟩, 
  ⟨(some (6)), .fieldAddr 3 (.tmp 1), none, []⟩, 
  ⟨(some (7)), .load none (.tmp 6), none, []⟩, 
  ⟨(some (8)), .len false (.tmp 7), none, []⟩, 
  ⟨(some (9)), .bin .plain .lss (.tmp 5) (.tmp 8), none, []⟩]
def k_ref01_greatest_r4 : List AOper := [
  ⟨(some (12)), .move (.tmp 3), none, []⟩, 
  ⟨(some (13)), .fieldAddr 3 (.tmp 1), none, []⟩, 
  ⟨(some (14)), .load none (.tmp 13), none, []⟩, 
  ⟨(some (15)), .move (.tmp 4), none, []⟩, 
  ⟨(some (16)), .indexAddr 1 (.tmp 14) (.tmp 15), none, []⟩, 
  ⟨(some (17)), .load none (.tmp 16), none, []⟩, 
  ⟨(some (18)), .minmax true [.tmp 12, .tmp 17], none, []⟩, 
  ⟨(some (3)), .move (.tmp 18), none, []⟩]
def k_ref01_greatest_r5 : List AOper := [
  ⟨(some (10)), .move (.tmp 4), none, []⟩, 
  ⟨(some (11)), .bin .plain .add (.tmp 10) (.const (.int .i64 1)), none, []⟩, 
  ⟨(some (4)), .move (.tmp 11), none, []⟩]
def k_ref01_greatest_r6 : ACode := (.seq (.seq (.reg k_ref01_greatest_r3 false) (.cond (.tmp 9) .skip (.exit 0))) (.seq (.block 1 (.reg k_ref01_greatest_r4 false)) (.reg k_ref01_greatest_r5 false)))
def k_ref01_greatest_r7 : List AOper := [
  ⟨(some (19)), .move (.tmp 3), none, []⟩, 
  ⟨(some (2)), .move (.tmp 19), none, []⟩]
def k_ref01_greatest : AFun := { params := 1, ntmps := 20, body := (.seq (.reg k_ref01_greatest_r0 false) (.seq (.reg k_ref01_greatest_r1 false) (.seq (.seq (.reg k_ref01_greatest_r2 false) (.block 0 (.loop k_ref01_greatest_r6))) (.seq (.reg k_ref01_greatest_r7 false) .ret)))), res := [.tmp 2] }
theorem k_ref01_greatest_ok : cfun Try.prog Try.f74 = k_ref01_greatest := by kernel_rfl

def k_ref01_has_r0 : List AOper := [
  ⟨(some (2)), .box (.tmp 0), none, []⟩, 
  ⟨(some (4)), .move (.const (.bool false)), none, []⟩]
def k_ref01_has_r1 : List AOper := [
  ⟨(some (5)), .move (.const (.int .i64 0)), none, []⟩]
def k_ref01_has_r2 : List AOper := [
  ⟨(some (6)), .move (.tmp 5), none, []⟩, 
  ⟨(some (7)), .fieldAddr 3 (.tmp 2), none, []⟩, 
  ⟨(some (8)), .load none (.tmp 7), none, []⟩, 
  ⟨(some (9)), .len false (.tmp 8), none, []⟩, 
  ⟨(some (10)), .bin .plain .lss (.tmp 6) (.tmp 9), none, []⟩]
def k_ref01_has_r3 : List AOper := [
  ⟨(some (13)), .move (.tmp 1), none, []⟩, 
  ⟨(some (14)), .bin .plain .gtr (.tmp 13) (.const (.int .i64 0)), none, []⟩, 
  ⟨(some (15)), .move (.tmp 14), none, []⟩, 
  ⟨(some (16)), .fieldAddr 3 (.tmp 2), (some (15, true)), []⟩, 
  ⟨(some (17)), .load none (.tmp 16), (some (15, true)), []⟩, 
  ⟨(some (18)), .move (.tmp 5), (some (15, true)), []⟩, 
  ⟨(some (19)), .indexAddr 1 (.tmp 17) (.tmp 18), (some (15, true)), []⟩, 
  ⟨(some (20)), .load none (.tmp 19), (some (15, true)), []⟩, 
  ⟨(some (21)), .move (.tmp 1), (some (15, true)), []⟩, 
  ⟨(some (22)), .bin .plain .eql (.tmp 20) (.tmp 21), (some (15, true)), []⟩, 
  ⟨(some (23)), .pick (.tmp 15) (.tmp 22) (.const (.bool false)), none, []⟩]
def k_ref01_has_r4 : List AOper := [
  ⟨(some (4)), .move (.const (.bool true)), none, []⟩]
def k_ref01_has_r5 : List AOper := [
  ⟨(some (11)), .move (.tmp 5), none, []⟩, 
  ⟨(some (12)), .bin .plain .add (.tmp 11) (.const (.int .i64 1)), none, []⟩, 
  ⟨(some (5)), .move (.tmp 12), none, []⟩]
def k_ref01_has_r6 : ACode := (.seq (.seq (.reg k_ref01_has_r2 false) (.cond (.tmp 10) .skip (.exit 0))) (.seq (.block 1 (.seq (.reg k_ref01_has_r3 false) (.cond (.tmp 23) (.seq (.reg k_ref01_has_r4 false) .ret) .skip))) (.reg k_ref01_has_r5 false)))
def k_ref01_has_r7 : List AOper := [
  ⟨(some (4)), .move (.const (.bool false)), none, []⟩]
def k_ref01_has : AFun := { params := 2, ntmps := 24, body := (.seq (.reg k_ref01_has_r0 false) (.seq (.seq (.reg k_ref01_has_r1 false) (.block 0 (.loop k_ref01_has_r6))) (.seq (.reg k_ref01_has_r7 false) .ret))), res := [.tmp 4] }
theorem k_ref01_has_ok : cfun Try.prog Try.f76 = k_ref01_has := by kernel_rfl

def k_ref01_weight_r0 : List AOper := [
  ⟨(some (3)), .box (.tmp 0), none, []⟩, 
  ⟨(some (6)), .move (.const (.int .i64 0)), none, []⟩]
def k_ref01_weight_r1 : List AOper := [
  ⟨(some (9)), .fieldAddr 0 (.tmp 3), none, []⟩, 
  ⟨(some (10)), .load none (.tmp 9), none, []⟩, 
  ⟨(some (11)), .fieldAddr 1 (.tmp 3), none, []⟩, 
  ⟨(some (12)), .load none (.tmp 11), none, []⟩, 
  ⟨(some (13)), .bin .plain .mul (.tmp 10) (.tmp 12), none, []⟩, 
  ⟨(some (7)), .move (.tmp 13), none, []⟩]
def k_ref01_weight_r2 : List AOper := [
  ⟨(some (14)), .move (.tmp 1), none, []⟩, 
  ⟨(some (15)), .move (.tmp 7), none, []⟩, 
  ⟨(some (16)), .bin .plain .sub (.tmp 15) (.const (.int .i64 1)), none, []⟩, 
  ⟨(some (17)), .call (.const (.fn (.func 71) [] [])) [.tmp 14, .const (.int .i64 0), .tmp 16], none, []⟩, 
  ⟨(some (18)), .move (.tmp 17), none, []⟩, 
  ⟨(some (19)), .move (.tmp 2), (some (18, false)), []⟩, 
  ⟨(some (20)), .move (.tmp 7), (some (18, false)), []⟩, 
  ⟨(some (21)), .bin .plain .sub (.tmp 20) (.const (.int .i64 1)), (some (18, false)), []⟩, 
  ⟨(some (22)), .call (.const (.fn (.func 71) [] [])) [.tmp 19, .const (.int .i64 0), .tmp 21], (some (18, false)), []⟩, 
  ⟨(some (23)), .pick (.tmp 18) (.const (.bool true)) (.tmp 22), none, []⟩]
def k_ref01_weight_r3 : List AOper := [
  ⟨(some (6)), .move (.const (.int .i64 0)), none, []⟩]
def k_ref01_weight_r4 : List AOper := [
  ⟨(some (24)), .move (.tmp 1), none, []⟩, 
  ⟨(some (25)), .move (.tmp 2), none, []⟩, 
  ⟨(some (26)), .minmax false [.tmp 24, .tmp 25], none, []⟩, 
  ⟨(some (27)), .move (.tmp 1), none, []⟩, 
  ⟨(some (28)), .move (.tmp 2), none, []⟩, 
  ⟨(some (29)), .minmax true [.tmp 27, .tmp 28], none, []⟩, 
  ⟨(some (1)), .move (.tmp 26), none, []⟩, 
  ⟨(some (2)), .move (.tmp 29), none, []⟩]
def k_ref01_weight_r5 : List AOper := [
  ⟨(some (30)), .move (.tmp 1), none, []⟩, 
  ⟨(some (31)), .fieldAddr 0 (.tmp 3), none, []⟩, 
  ⟨(some (32)), .load none (.tmp 31), none, []⟩, 
  ⟨(some (33)), .bin .plain .rem (.tmp 30) (.tmp 32), none, []⟩, 
  ⟨(some (8)), .move (.tmp 33), none, []⟩]
def k_ref01_weight_r6 : List AOper := [
  ⟨(some (35)), .move (.tmp 2), none, []⟩, 
  ⟨(some (36)), .move (.tmp 1), none, []⟩, 
  ⟨(some (37)), .bin .plain .add (.tmp 36) (.const (.int .i64 1)), none, []⟩, 
  ⟨(some (38)), .bin .plain .eql (.tmp 35) (.tmp 37), none, []⟩, 
  ⟨(some (39)), .move (.tmp 38), none, []⟩, 
  ⟨(some (40)), .move (.tmp 2), (some (39, true)), []⟩, 
  ⟨(some (41)), .fieldAddr 0 (.tmp 3), (some (39, true)), []⟩, 
  ⟨(some (42)), .load none (.tmp 41), (some (39, true)), []⟩, 
  ⟨(some (43)), .bin .plain .rem (.tmp 40) (.tmp 42), (some (39, true)), []⟩, 
  ⟨(some (44)), .bin .plain .gtr (.tmp 43) (.const (.int .i64 0)), (some (39, true)), []⟩, 
  ⟨(some (45)), .pick (.tmp 39) (.tmp 44) (.const (.bool false)), none, []⟩, 
  ⟨(some (34)), .move (.tmp 45), none, []⟩]
def k_ref01_weight_r7 : List AOper := [
  ⟨(some (46)), .fieldAddr 2 (.tmp 3), none, []⟩, 
  ⟨(some (47)), .load none (.tmp 46), none, []⟩]
def k_ref01_weight_r8 : List AOper := [
  ⟨(some (48)), .move (.tmp 8), none, []⟩, 
  ⟨(some (49)), .bin .plain .add (.tmp 48) (.const (.int .i64 1)), none, []⟩, 
  ⟨(some (50)), .bin .plain .mul (.const (.int .i64 2)) (.tmp 49), none, []⟩, 
  ⟨(some (6)), .move (.tmp 50), none, []⟩]
def k_ref01_weight_r9 : List AOper := [
  ⟨(some (6)), .move (.const (.int .i64 1)), none, []⟩]
def k_ref01_weight_r10 : List AOper := [
  ⟨(some (52)), .move (.tmp 2), none, []⟩, 
  ⟨(some (53)), .move (.tmp 1), none, []⟩, 
  ⟨(some (54)), .fieldAddr 0 (.tmp 3), none, []⟩, 
  ⟨(some (55)), .load none (.tmp 54), none, []⟩, 
  ⟨(some (56)), .bin .plain .add (.tmp 53) (.tmp 55), none, []⟩, 
  ⟨(some (57)), .bin .plain .eql (.tmp 52) (.tmp 56), none, []⟩, 
  ⟨(some (51)), .move (.tmp 57), none, []⟩]
def k_ref01_weight_r11 : List AOper := [
  ⟨(some (58)), .fieldAddr 2 (.tmp 3), none, []⟩, 
  ⟨(some (59)), .load none (.tmp 58), none, []⟩]
def k_ref01_weight_r12 : List AOper := [
  ⟨(some (60)), .move (.tmp 8), none, []⟩, 
  ⟨(some (61)), .bin .plain .mul (.const (.int .i64 2)) (.tmp 60), none, []⟩, 
  ⟨(some (62)), .bin .plain .add (.tmp 61) (.const (.int .i64 1)), none, []⟩, 
  ⟨(some (6)), .move (.tmp 62), none, []⟩]
def k_ref01_weight_r13 : List AOper := [
  ⟨(some (6)), .move (.const (.int .i64 1)), none, []⟩]
def k_ref01_weight_r14 : List AOper := [
  ⟨(some (6)), .move (.const (.int .i64 0)), none, []⟩]
def k_ref01_weight : AFun := { params := 3, ntmps := 63, body := (.seq (.reg k_ref01_weight_r0 false) (.seq (.reg k_ref01_weight_r1 false) (.seq (.seq (.reg k_ref01_weight_r2 false) (.cond (.tmp 23) (.seq (.reg k_ref01_weight_r3 false) .ret) .skip)) (.seq (.reg k_ref01_weight_r4 false) (.seq (.reg k_ref01_weight_r5 false) (.seq (.block 0 (.seq (.reg k_ref01_weight_r6 false) (.cond (.tmp 34) (.seq (.seq (.reg k_ref01_weight_r7 false) (.cond (.tmp 47) (.seq (.reg k_ref01_weight_r8 false) .ret) .skip)) (.seq (.reg k_ref01_weight_r9 false) .ret)) (.seq (.reg k_ref01_weight_r10 false) (.cond (.tmp 51) (.seq (.seq (.reg k_ref01_weight_r11 false) (.cond (.tmp 59) (.seq (.reg k_ref01_weight_r12 false) .ret) .skip)) (.seq (.reg k_ref01_weight_r13 false) .ret)) .skip))))) (.seq (.reg k_ref01_weight_r14 false) .ret))))))), res := [.tmp 6] }
theorem k_ref01_weight_ok : cfun Try.prog Try.f99 = k_ref01_weight := by kernel_rfl

def k_ref01_around_r0 : List AOper := [
  ⟨(some (2)), .box (.tmp 0), none, []⟩, 
  ⟨(some (4)), .move (.const (.nilsl)), none, []⟩]
def k_ref01_around_r1 : List AOper := [
  ⟨(some (8)), .move (.tmp 1), none, []⟩, 
  ⟨(some (9)), .fieldAddr 0 (.tmp 2), none, []⟩, 
  ⟨(some (10)), .load none (.tmp 9), none, []⟩, 
  ⟨(some (11)), .bin .plain .sub (.tmp 8) (.tmp 10), none, []⟩, 
  ⟨(some (12)), .move (.tmp 1), none, []⟩, 
  ⟨(some (13)), .bin .plain .sub (.tmp 12) (.const (.int .i64 1)), none, []⟩, 
  ⟨(some (14)), .move (.tmp 1), none, []⟩, 
  ⟨(some (15)), .bin .plain .add (.tmp 14) (.const (.int .i64 1)), none, []⟩, 
  ⟨(some (16)), .move (.tmp 1), none, []⟩, 
  ⟨(some (17)), .fieldAddr 0 (.tmp 2), none, []⟩, 
  ⟨(some (18)), .load none (.tmp 17), none, []⟩, 
  ⟨(some (19)), .bin .plain .add (.tmp 16) (.tmp 18), none, []⟩, 
  ⟨(some (20)), .buildSlice 1 [.tmp 11, .tmp 13, .tmp 15, .tmp 19], none, []⟩, 
  ⟨(some (5)), .move (.tmp 20), none, []⟩]
def k_ref01_around_r2 : List AOper := [
  ⟨(some (21)), .fieldAddr 0 (.tmp 2), none, []⟩, 
  ⟨(some (22)), .load none (.tmp 21), none, []⟩, 
  ⟨(some (23)), .bin .plain .eql (.tmp 22) (.const (.int .i64 1)), none, []⟩]
def k_ref01_around_r3 : List AOper := [
  ⟨(some (24)), .move (.tmp 1), none, []⟩, 
  ⟨(some (25)), .bin .plain .sub (.tmp 24) (.const (.int .i64 1)), none, []⟩, 
  ⟨(some (26)), .move (.tmp 1), none, []⟩, 
  ⟨(some (27)), .bin .plain .add (.tmp 26) (.const (.int .i64 1)), none, []⟩, 
  ⟨(some (28)), .buildSlice 1 [.tmp 25, .tmp 27], none, []⟩, 
  ⟨(some (5)), .move (.tmp 28), none, []⟩]
def k_ref01_around_r4 : List AOper := [
  ⟨(some (6)), .move (.const (.nilsl)), none, []⟩]
def k_ref01_around_r5 : List AOper := [
  ⟨(some (7)), .move (.const (.int .i64 0)), none, []⟩]
def k_ref01_around_r6 : List AOper := [
  ⟨(some (29)), .move (.tmp 7), none, []⟩, 
  ⟨(some (30)), .move (.tmp 5), none, []⟩, 
  ⟨(some (31)), .len false (.tmp 30), none, []⟩, 
  ⟨(some (32)), .bin .plain .lss (.tmp 29) (.tmp 31), none, []⟩]
def k_ref01_around_r7 : List AOper := [
  ⟨(some (35)), .load (some (4)) (.tmp 2), none, []⟩, 
  ⟨(some (36)), .move (.tmp 1), none, [0]⟩, 
  ⟨(some (37)), .move (.tmp 5), none, [0, 1]⟩, 
  ⟨(some (38)), .move (.tmp 7), none, [0, 1, 2]⟩, 
  ⟨(some (39)), .indexAddr 1 (.tmp 37) (.tmp 38), none, [0, 1]⟩, 
  ⟨(some (40)), .load none (.tmp 39), none, [0, 1]⟩, 
  ⟨(some (41)), .call (.const (.fn (.func 99) [] [])) [.tmp 35, .tmp 36, .tmp 40], none, []⟩, 
  ⟨(some (42)), .bin .plain .gtr (.tmp 41) (.const (.int .i64 0)), none, []⟩]
def k_ref01_around_r7s : List (List AOper) := [
  [
  ⟨(some (35)), .load (some (4)) (.tmp 2), none, []⟩, 
  ⟨(some (36)), .move (.tmp 1), none, [0]⟩, 
  ⟨(some (37)), .move (.tmp 5), none, [0, 1]⟩, 
  ⟨(some (38)), .move (.tmp 7), none, [0, 1, 2]⟩, 
  ⟨(some (39)), .indexAddr 1 (.tmp 37) (.tmp 38), none, [0, 1]⟩, 
  ⟨(some (40)), .load none (.tmp 39), none, [0, 1]⟩], 
  [
  ⟨(some (41)), .call (.const (.fn (.func 99) [] [])) [.tmp 35, .tmp 36, .tmp 40], none, []⟩], 
  [
  ⟨(some (42)), .bin .plain .gtr (.tmp 41) (.const (.int .i64 0)), none, []⟩]]
theorem k_ref01_around_r7_sg : segs k_ref01_around_r7 = k_ref01_around_r7s := by kernel_rfl
theorem k_ref01_around_r7_st : statOK k_ref01_around_r7 = true := by kernel_rfl
def k_ref01_around_r8 : List AOper := [
  ⟨(some (43)), .move (.tmp 6), none, []⟩, 
  ⟨(some (44)), .move (.tmp 5), none, []⟩, 
  ⟨(some (45)), .move (.tmp 7), none, []⟩, 
  ⟨(some (46)), .indexAddr 1 (.tmp 44) (.tmp 45), none, []⟩, 
  ⟨(some (47)), .load none (.tmp 46), none, []⟩, 
  ⟨(some (48)), .buildSlice 1 [.tmp 47], none, []⟩, 
  ⟨(some (49)), .append 1 8 false (.tmp 43) (.tmp 48), none, []⟩, 
  ⟨(some (6)), .move (.tmp 49), none, []⟩]
def k_ref01_around_r9 : List AOper := [
  ⟨(some (33)), .move (.tmp 7), none, []⟩, 
  ⟨(some (34)), .bin .plain .add (.tmp 33) (.const (.int .i64 1)), none, []⟩, 
  ⟨(some (7)), .move (.tmp 34), none, []⟩]
def k_ref01_around_r10 : ACode := (.seq (.seq (.reg k_ref01_around_r6 false) (.cond (.tmp 32) .skip (.exit 0))) (.seq (.block 1 (.seq (.reg k_ref01_around_r7 true) (.cond (.tmp 42) (.reg k_ref01_around_r8 false) .skip))) (.reg k_ref01_around_r9 false)))
def k_ref01_around_r11 : List AOper := [
  ⟨(some (50)), .move (.tmp 6), none, []⟩, 
  ⟨(some (4)), .move (.tmp 50), none, []⟩]
def k_ref01_around : AFun := { params := 2, ntmps := 51, body := (.seq (.reg k_ref01_around_r0 false) (.seq (.reg k_ref01_around_r1 false) (.seq (.seq (.reg k_ref01_around_r2 false) (.cond (.tmp 23) (.reg k_ref01_around_r3 false) .skip)) (.seq (.reg k_ref01_around_r4 false) (.seq (.seq (.reg k_ref01_around_r5 false) (.block 0 (.loop k_ref01_around_r10))) (.seq (.reg k_ref01_around_r11 false) .ret)))))), res := [.tmp 4] }
theorem k_ref01_around_ok : cfun Try.prog Try.f101 = k_ref01_around := by kernel_rfl


abbrev n_law01_big : Nat := 19
theorem e_law01_big : EntryOK Try.prog n_law01_big k_law01_big := ⟨Try.f19, Try.func19, k_law01_big_ok, by kernel_rfl⟩
abbrev n_ref01_Check : Nat := 27
theorem e_ref01_Check : EntryOK Try.prog n_ref01_Check k_ref01_Check := ⟨Try.f27, Try.func27, k_ref01_Check_ok, by kernel_rfl⟩
abbrev n_ref01_CheckVolts : Nat := 29
theorem e_ref01_CheckVolts : EntryOK Try.prog n_ref01_CheckVolts k_ref01_CheckVolts := ⟨Try.f29, Try.func29, k_ref01_CheckVolts_ok, by kernel_rfl⟩
abbrev n_ref01_beyond : Nat := 71
theorem e_ref01_beyond : EntryOK Try.prog n_ref01_beyond k_ref01_beyond := ⟨Try.f71, Try.func71, k_ref01_beyond_ok, by kernel_rfl⟩
abbrev n_ref01_held : Nat := 72
theorem e_ref01_held : EntryOK Try.prog n_ref01_held k_ref01_held := ⟨Try.f72, Try.func72, k_ref01_held_ok, by kernel_rfl⟩
abbrev n_ref01_greatest : Nat := 74
theorem e_ref01_greatest : EntryOK Try.prog n_ref01_greatest k_ref01_greatest := ⟨Try.f74, Try.func74, k_ref01_greatest_ok, by kernel_rfl⟩
abbrev n_ref01_has : Nat := 76
theorem e_ref01_has : EntryOK Try.prog n_ref01_has k_ref01_has := ⟨Try.f76, Try.func76, k_ref01_has_ok, by kernel_rfl⟩
abbrev n_ref01_weight : Nat := 99
theorem e_ref01_weight : EntryOK Try.prog n_ref01_weight k_ref01_weight := ⟨Try.f99, Try.func99, k_ref01_weight_ok, by kernel_rfl⟩
abbrev n_ref01_around : Nat := 101
theorem e_ref01_around : EntryOK Try.prog n_ref01_around k_ref01_around := ⟨Try.f101, Try.func101, k_ref01_around_ok, by kernel_rfl⟩

attribute [go_sem] k_law01_big_r0 k_law01_big_r1 k_law01_big_r2 k_law01_big_r3 k_law01_big_r4 k_law01_big_r5 k_law01_big_r7 k_ref01_Check_r0 k_ref01_Check_r1 k_ref01_Check_r2
attribute [go_sem] k_ref01_Check_r3 k_ref01_Check_r4 k_ref01_Check_r5 k_ref01_Check_r6 k_ref01_Check_r7 k_ref01_Check_r8 k_ref01_Check_r9 k_ref01_Check_r10 k_ref01_Check_r11 k_ref01_Check_r13 k_ref01_Check_r14 k_ref01_Check_r15
attribute [go_sem] k_ref01_Check_r16 k_ref01_Check_r17 k_ref01_Check_r18 k_ref01_Check_r19 k_ref01_Check_r20 k_ref01_Check_r22 k_ref01_CheckVolts_r0 k_ref01_CheckVolts_r1 k_ref01_CheckVolts_r2 k_ref01_CheckVolts_r3 k_ref01_CheckVolts_r4 k_ref01_CheckVolts_r5
attribute [go_sem] k_ref01_CheckVolts_r6 k_ref01_CheckVolts_r7 k_ref01_CheckVolts_r8 k_ref01_CheckVolts_r9 k_ref01_CheckVolts_r10 k_ref01_CheckVolts_r12
attribute [go_sem] k_ref01_beyond_r0 k_ref01_beyond_r1 k_ref01_held_r0 k_ref01_held_r1 k_ref01_held_r2 k_ref01_held_r3 k_ref01_held_r4 k_ref01_held_r5 k_ref01_held_r7 k_ref01_held_r8 k_ref01_held_r9 k_ref01_held_r10
attribute [go_sem] k_ref01_held_r11 k_ref01_held_r12 k_ref01_held_r13 k_ref01_held_r14 k_ref01_held_r15 k_ref01_held_r16 k_ref01_held_r17 k_ref01_held_r19 k_ref01_held_r22 k_ref01_greatest_r0 k_ref01_greatest_r1 k_ref01_greatest_r2
attribute [go_sem] k_ref01_greatest_r3 k_ref01_greatest_r4 k_ref01_greatest_r5 k_ref01_greatest_r7 k_ref01_has_r0 k_ref01_has_r1 k_ref01_has_r2 k_ref01_has_r3 k_ref01_has_r4 k_ref01_has_r5 k_ref01_has_r7
attribute [go_sem] k_ref01_weight_r0
attribute [go_sem] k_ref01_weight_r1 k_ref01_weight_r2 k_ref01_weight_r3 k_ref01_weight_r4 k_ref01_weight_r5 k_ref01_weight_r6 k_ref01_weight_r7 k_ref01_weight_r8 k_ref01_weight_r9 k_ref01_weight_r10 k_ref01_weight_r11 k_ref01_weight_r12
attribute [go_sem] k_ref01_weight_r13 k_ref01_weight_r14 k_ref01_around_r0 k_ref01_around_r1 k_ref01_around_r2 k_ref01_around_r3 k_ref01_around_r4 k_ref01_around_r5 k_ref01_around_r6 k_ref01_around_r7s k_ref01_around_r8 k_ref01_around_r9
attribute [go_sem] k_ref01_around_r11 k_ref01_around_r7_sg
attribute [go_sem] k_ref01_around_r7_st k_law01_big k_ref01_Check k_ref01_CheckVolts
attribute [go_sem] k_ref01_beyond k_ref01_held k_ref01_greatest k_ref01_has k_ref01_weight
attribute [go_sem] k_ref01_around
end Go.Proofs

namespace Go.Proofs
open Go Go.Sx
attribute [local irreducible] Run

theorem beyond_ok (n a b : Int) : Ans Try.prog n_ref01_beyond [.int .i64 n, .int .i64 a, .int .i64 b] [] (.bool (decide (¬ (a ≤ n ∧ n ≤ b)))) [] := by
  refine spec_run e_ref01_beyond fun G => ?_
  by_cases h1 : n < a
  · simp only [go_sem, h1]
    rw [decide_eq_true (by omega)]
  · by_cases h2 : b < n
    · simp only [go_sem, h1, h2]
      rw [decide_eq_true (by omega)]
    · simp only [go_sem, h1, h2]
      rw [decide_eq_false (by omega)]
theorem beyond_yes {n a b : Int} (h : ¬ (a ≤ n ∧ n ≤ b)) : Ans Try.prog n_ref01_beyond [.int .i64 n, .int .i64 a, .int .i64 b] [] (.bool true) [] := by
  have := beyond_ok n a b
  rwa [decide_eq_true h] at this
theorem beyond_no {n a b : Int} (h : a ≤ n ∧ n ≤ b) : Ans Try.prog n_ref01_beyond [.int .i64 n, .int .i64 a, .int .i64 b] [] (.bool false) [] := by
  have := beyond_ok n a b
  rwa [decide_eq_false (fun h' => h' h)] at this

def wgt (p : Pl) (i j : Nat) : Int :=
  if max i j = min i j + 1 ∧ 0 < max i j % p.w then besW p.rd (min i j % p.w) else if max i j = min i j + p.w then abvW p.rd (min i j % p.w) else 0

set_option maxHeartbeats 2000000 in
theorem weight_ok {p : Pl} (hp : PlOK p) {i j : Nat} (hi : i < p.w * p.h) (hj : j < p.w * p.h) : Ans Try.prog n_ref01_weight [p.v, .int .i64 i, .int .i64 j] [] (.int .i64 (wgt p i j)) [] := by
  have hw := hp.w; have hh := hp.h
  have hN : p.w * p.h ≤ 256 := Nat.mul_le_mul hw.2 hh.2
  have em : IntKind.i64.wrap ((p.w : Int) * p.h) = ((p.w * p.h : Nat) : Int) := by rw [w64 (by push_cast at *; omega)]; push_cast; rfl
  have em1 : IntKind.i64.wrap (((p.w * p.h : Nat) : Int) - 1) = ((p.w * p.h : Nat) : Int) - 1 := w64 (by omega)
  refine spec_run e_ref01_weight fun G => ?_
  simp only [go_sem, Pl.v, Pl.a, Pl.c4, vw, em, em1]
  refine cP (beyond_no (by omega)) ?_
  simp only [go_sem, Pl.v, Pl.a, Pl.c4, vw, em, em1]
  refine cP (beyond_no (by omega)) ?_
  simp only [go_sem, Pl.v, Pl.a, Pl.c4, vw]
  have hM : (if (j : Int) > i then (j : Int) else i) = ((max i j : Nat) : Int) := by split <;> omega
  have hm : (if (j : Int) < i then (j : Int) else i) = ((min i j : Nat) : Int) := by split <;> omega
  have hMl : max i j < p.w * p.h := by omega
  have hml : min i j < p.w * p.h := by omega
  rw [hM, hm, nat_rem, nat_rem]
  unfold wgt
  clear hM hm
  generalize max i j = M at *
  generalize min i j = m at *
  have hx : m % p.w < p.w := Nat.mod_lt _ (by omega)
  generalize M % p.w = xM at *
  generalize m % p.w = x at *
  have w1 : IntKind.i64.wrap ((m : Int) + 1) = ((m + 1 : Nat) : Int) := by rw [w64 (by omega)]; rfl
  have w2 : IntKind.i64.wrap ((m : Int) + p.w) = ((m + p.w : Nat) : Int) := by rw [w64 (by omega)]; push_cast; rfl
  have w3 : IntKind.i64.wrap ((x : Int) + 1) = (x : Int) + 1 := w64 (by omega)
  have w4 : IntKind.i64.wrap (2 * ((x : Int) + 1)) = 2 * ((x : Int) + 1) := w64 (by omega)
  have w5 : IntKind.i64.wrap (2 * (x : Int)) = 2 * (x : Int) := w64 (by omega)
  have w6 : IntKind.i64.wrap (2 * (x : Int) + 1) = 2 * (x : Int) + 1 := w64 (by omega)
  rw [w1, w2, w3, w4, w5, w6]
  unfold besW abvW
  refine ⟨by omega, fun h1 => ⟨by omega, fun h2 => ⟨fun h3 => ?_, fun h3 => ?_⟩, fun h2 => ⟨fun h4 => ⟨fun h3 => ?_, fun h3 => ?_⟩, fun h4 => ?_⟩⟩, fun h1 => ⟨fun h4 => ⟨fun h3 => ?_, fun h3 => ?_⟩, fun h4 => ?_⟩⟩
  · rw [if_pos ⟨by omega, by omega⟩, h3]; rfl
  · rw [if_pos ⟨by omega, by omega⟩, h3]; rfl
  · rw [if_neg (fun h => h2 (by omega)), if_pos (by omega), h3]; rfl
  · rw [if_neg (fun h => h2 (by omega)), if_pos (by omega), h3]; rfl
  · rw [if_neg (fun h => h2 (by omega)), if_neg (by omega)]
  · rw [if_neg (fun h => h1 (by omega)), if_pos (by omega), h3]; rfl
  · rw [if_neg (fun h => h1 (by omega)), if_pos (by omega), h3]; rfl
  · rw [if_neg (fun h => h1 (by omega)), if_neg (by omega)]
theorem weight_out {p : Pl} (hp : PlOK p) {i : Nat} (hi : i < p.w * p.h) {b : Int} (hb : ¬ (0 ≤ b ∧ b < (p.w * p.h : Nat))) : Ans Try.prog n_ref01_weight [p.v, .int .i64 i, .int .i64 b] [] (.int .i64 0) [] := by
  have hw := hp.w; have hh := hp.h
  have hN : p.w * p.h ≤ 256 := Nat.mul_le_mul hw.2 hh.2
  have em : IntKind.i64.wrap ((p.w : Int) * p.h) = ((p.w * p.h : Nat) : Int) := by rw [w64 (by push_cast at *; omega)]; push_cast; rfl
  have em1 : IntKind.i64.wrap (((p.w * p.h : Nat) : Int) - 1) = ((p.w * p.h : Nat) : Int) - 1 := w64 (by omega)
  refine spec_run e_ref01_weight fun G => ?_
  simp only [go_sem, Pl.v, Pl.a, Pl.c4, vw, em, em1]
  refine cP (beyond_no (by omega)) ?_
  simp only [go_sem, Pl.v, Pl.a, Pl.c4, vw, em, em1]
  refine cP (beyond_yes (by omega)) ?_
  simp only [go_sem]
end Go.Proofs

namespace Go.Proofs
open Go Go.Sx
attribute [local irreducible] Run

def wgI (p : Pl) (i : Nat) (b : Int) : Int := if 0 ≤ b ∧ b < (p.w * p.h : Nat) then wgt p i b.toNat else 0
theorem weightI_ok {p : Pl} (hp : PlOK p) {i : Nat} (hi : i < p.w * p.h) (b : Int) : Ans Try.prog n_ref01_weight [p.v, .int .i64 i, .int .i64 b] [] (.int .i64 (wgI p i b)) [] := by
  unfold wgI
  by_cases h : 0 ≤ b ∧ b < (p.w * p.h : Nat)
  · rw [if_pos h]
    have := weight_ok hp hi (j := b.toNat) (by omega)
    rwa [show ((b.toNat : Nat) : Int) = b by omega] at this
  · rw [if_neg h]; exact weight_out hp hi h
def nearL (p : Pl) (i : Nat) : List Int := if p.w = 1 then [(i : Int) - 1, (i : Int) + 1] else [(i : Int) - p.w, (i : Int) - 1, (i : Int) + 1, (i : Int) + p.w]
def nrL (p : Pl) (i : Nat) : List Int := (nearL p i).filter fun b => 0 < wgI p i b
theorem slv0_bel (l : List Int) : Bel (· < (slrG true 1 (iv l)).length) (slv 0 (iv l)) := by
  unfold slv slrG
  split <;> simp [go_sem]
theorem slr0_ful (l : List Int) : Full (· < (slrG true 1 (iv l)).length) (slrG true 1 (iv l)) := by
  unfold slrG
  split
  · trivial
  · exact ⟨iv_row _ _ _, trivial⟩

set_option maxHeartbeats 4000000 in
theorem around_one {p : Pl} (hp : PlOK p) {i : Nat} (hi : i < p.w * p.h) (h1w : p.w = 1) : Ans Try.prog n_ref01_around [p.v, .int .i64 i] [] (slv 0 (iv (nrL p i))) (slrG true 1 (iv (nrL p i))) := by
  have hw := hp.w; have hh := hp.h
  have hN : p.w * p.h ≤ 256 := Nat.mul_le_mul hw.2 hh.2
  have hnear : nearL p i = [(i : Int) - 1, (i : Int) + 1] := by unfold nearL; rw [if_pos h1w]
  have w1 : IntKind.i64.wrap ((i : Int) - p.w) = (i : Int) - p.w := w64 (by omega)
  have w2 : IntKind.i64.wrap ((i : Int) - 1) = (i : Int) - 1 := w64 (by omega)
  have w3 : IntKind.i64.wrap ((i : Int) + 1) = (i : Int) + 1 := w64 (by omega)
  have w4 : IntKind.i64.wrap ((i : Int) + p.w) = (i : Int) + p.w := w64 (by omega)
  have hww : ((p.w : Int) == 1) = true := by simp [h1w]
  have hiv : iv (nearL p i) = [.int .i64 ((i : Int) - 1), .int .i64 ((i : Int) + 1)] := by rw [hnear]; rfl
  have hnl : (nearL p i).length = 2 := by rw [hnear]; rfl
  refine Ans.keep (run_fn e_ref01_around fun G => ?_) (by simp) (slv0_bel _) (slr0_ful _)
  simp only [go_sem, Pl.v, Pl.a, Pl.c4, vw, w1, w2, w3, w4, hww]
  have hx0 : some (Row.cells false 1 (iv (nearL p i))) = some (.cells false 1 [.int .i64 ((i : Int) - 1), .int .i64 ((i : Int) + 1)]) := by rw [hiv]
  clear hww w1 w2 w3 w4
  refine loop_ind k_ref01_around_r10.eq_1 (fun a : Nat × AVal × Heap => a.1 ≤ 2 ∧ ((((nearL p i).take a.1).filter (fun b => 0 < wgI p i b) = [] ∧ a.2.1 = .nilsl ∧ a.2.2 = some (.cells false 4 [p.v]) :: some (.cells false 1 [.int .i64 ((i : Int) - p.w), .int .i64 ((i : Int) - 1), .int .i64 ((i : Int) + 1), .int .i64 ((i : Int) + p.w)]) :: some (.cells false 1 (iv (nearL p i))) :: []) ∨ (((nearL p i).take a.1).filter (fun b => 0 < wgI p i b) ≠ [] ∧ a.2.1 = .sl 4 0 (((nearL p i).take a.1).filter (fun b => 0 < wgI p i b)).length ∧ ∃ g X, a.2.2 = some (.cells false 4 [p.v]) :: some (.cells false 1 [.int .i64 ((i : Int) - p.w), .int .i64 ((i : Int) - 1), .int .i64 ((i : Int) + 1), .int .i64 ((i : Int) + p.w)]) :: some (.cells false 1 (iv (nearL p i))) :: g :: some (.cells true 1 (iv (((nearL p i).take a.1).filter (fun b => 0 < wgI p i b)))) :: X))) (fun a => 2 - a.1)
    (fun a => (tsets 51 [(1, .int .i64 i), (2, .ptr 0 0 0 1), (5, .sl 2 0 2), (6, a.2.1), (7, .int .i64 a.1)], a.2.2)) (0, .nilsl, some (.cells false 4 [p.v]) :: some (.cells false 1 [.int .i64 ((i : Int) - p.w), .int .i64 ((i : Int) - 1), .int .i64 ((i : Int) + 1), .int .i64 ((i : Int) + p.w)]) :: some (.cells false 1 (iv (nearL p i))) :: []) ⟨Nat.zero_le _, .inl ⟨by rw [List.take_zero]; rfl, rfl, rfl⟩⟩ (by simp [go_sem]) (by rw [hx0]; rfl) ?_
  rintro ⟨k, t6, H⟩ ⟨hk, hH⟩ ih
  dsimp only at hk hH ih ⊢
  by_cases h1 : k < 2
  · have h2 : (k : Int) < 2 := by omega
    have h3 := idx_next h1 (by omega)
    have n0 : ¬ (k : Int) < 0 := by omega
    have hg := iv_get (l := nearL p i) (i := k) (by omega)
    have hlen : (nearL p i).length = 2 := hnl
    have hW := weightI_ok hp hi (gt (nearL p i) k)
    have hT : (nearL p i).take (k + 1) = (nearL p i).take k ++ [gt (nearL p i) k] := by rw [List.take_add_one, gt_get (by omega)]; rfl
    have hle : (((nearL p i).take k).filter (fun b => 0 < wgI p i b)).length ≤ 4 := by
      have := List.length_filter_le (fun b => decide (0 < wgI p i b)) ((nearL p i).take k)
      rw [List.length_take] at this; omega
    have ihn := fun t6' H' => ih (k + 1, t6', H') (by dsimp only; omega)
    clear ih hx0 hiv hnear
    simp only [hT, List.filter_append] at ihn
    generalize hz : gt (nearL p i) k = z at *
    generalize (((nearL p i).take k).filter (fun b => 0 < wgI p i b)) = l at *
    by_cases hw0 : 0 < wgI p i z
    · have hf : List.filter (fun b => decide (0 < wgI p i b)) [z] = [z] := by simp [hw0]
      simp only [hf] at ihn
      rcases hH with ⟨rfl, rfl, rfl⟩ | ⟨hne, rfl, g, X, rfl⟩
      · simp only [List.nil_append] at ihn
        simp only [go_sem, Pl.v, Pl.a, Pl.c4, vw, iv_len, hlen, h2, n0, hg]
        refine cP hW ?_
        simp only [go_sem, hw0, h3, iv_len, hlen, h2, n0, hg]
        exact ⟨by decide, ihn _ _ ⟨h1, .inr ⟨by simp, rfl, _, [], rfl⟩⟩ _ (by simp [go_sem])⟩
      · simp only [go_sem, Pl.v, Pl.a, Pl.c4, vw, iv_len, hlen, h2, n0, hg]
        refine cP hW ?_
        simp only [go_sem, hw0, h3, iv_len, hlen, h2, n0, hg, iv_app]
        exact ⟨by omega, ihn _ _ ⟨h1, .inr ⟨by simp, rfl, _, _, rfl⟩⟩ _ (by simp [go_sem])⟩
    · have hf : List.filter (fun b => decide (0 < wgI p i b)) [z] = [] := by simp [hw0]
      simp only [hf, List.append_nil] at ihn
      rcases hH with ⟨rfl, rfl, rfl⟩ | ⟨hne, rfl, g, X, rfl⟩
      · simp only [go_sem, Pl.v, Pl.a, Pl.c4, vw, iv_len, hlen, h2, n0, hg]
        refine cP hW ?_
        simp only [go_sem, hw0, h3]
        exact ihn _ _ ⟨h1, .inl ⟨rfl, rfl, rfl⟩⟩ _ (by simp [go_sem])
      · simp only [go_sem, Pl.v, Pl.a, Pl.c4, vw, iv_len, hlen, h2, n0, hg]
        refine cP hW ?_
        simp only [go_sem, hw0, h3]
        exact ihn _ _ ⟨h1, .inr ⟨hne, rfl, _, _, rfl⟩⟩ _ (by simp [go_sem])
  · have h2 : ¬ (k : Int) < 2 := by omega
    have hall : ((nearL p i).take k).filter (fun b => 0 < wgI p i b) = nrL p i := by rw [List.take_of_length_le (by omega)]; rfl
    rw [hall] at hH
    clear ih hall hx0 hiv
    generalize nrL p i = l at *
    rcases hH with ⟨rfl, rfl, rfl⟩ | ⟨hne, rfl, g, X, rfl⟩
    · simp only [go_sem, iv_len, hnl, h2]
      show ∃ σ, Kept [] [] .nilsl .nilsl _ σ
      exact kept_id rfl (by simp only [go_sem]) (fun i x hx => by simp at hx)
    · have hne' : iv l ≠ [] := fun h => hne (List.map_eq_nil_iff.1 h)
      simp only [go_sem, iv_len, hnl, h2]
      unfold slv slrG
      rw [if_neg hne', if_neg hne']
      exact kept_new (A := []) 0 4 rfl rfl (by omega) (by simp [ren, rens, iv_len]) (fun i x hx => by simp at hx) (iv_row _ _ _) rfl

set_option maxHeartbeats 4000000 in
theorem around_more {p : Pl} (hp : PlOK p) {i : Nat} (hi : i < p.w * p.h) (h1w : p.w ≠ 1) : Ans Try.prog n_ref01_around [p.v, .int .i64 i] [] (slv 0 (iv (nrL p i))) (slrG true 1 (iv (nrL p i))) := by
  have hw := hp.w; have hh := hp.h
  have hN : p.w * p.h ≤ 256 := Nat.mul_le_mul hw.2 hh.2
  have hnear : nearL p i = [(i : Int) - p.w, (i : Int) - 1, (i : Int) + 1, (i : Int) + p.w] := by unfold nearL; rw [if_neg h1w]
  have w1 : IntKind.i64.wrap ((i : Int) - p.w) = (i : Int) - p.w := w64 (by omega)
  have w2 : IntKind.i64.wrap ((i : Int) - 1) = (i : Int) - 1 := w64 (by omega)
  have w3 : IntKind.i64.wrap ((i : Int) + 1) = (i : Int) + 1 := w64 (by omega)
  have w4 : IntKind.i64.wrap ((i : Int) + p.w) = (i : Int) + p.w := w64 (by omega)
  have hww : ((p.w : Int) == 1) = false := by simp; omega
  have hiv : iv (nearL p i) = [.int .i64 ((i : Int) - p.w), .int .i64 ((i : Int) - 1), .int .i64 ((i : Int) + 1), .int .i64 ((i : Int) + p.w)] := by rw [hnear]; rfl
  have hnl : (nearL p i).length = 4 := by rw [hnear]; rfl
  refine Ans.keep (run_fn e_ref01_around fun G => ?_) (by simp) (slv0_bel _) (slr0_ful _)
  simp only [go_sem, Pl.v, Pl.a, Pl.c4, vw, w1, w2, w3, w4, hww]
  have hx0 : some (Row.cells false 1 (iv (nearL p i))) = some (.cells false 1 [.int .i64 ((i : Int) - p.w), .int .i64 ((i : Int) - 1), .int .i64 ((i : Int) + 1), .int .i64 ((i : Int) + p.w)]) := by rw [hiv]
  clear hww w1 w2 w3 w4
  refine loop_ind k_ref01_around_r10.eq_1 (fun a : Nat × AVal × Heap => a.1 ≤ 4 ∧ ((((nearL p i).take a.1).filter (fun b => 0 < wgI p i b) = [] ∧ a.2.1 = .nilsl ∧ a.2.2 = some (.cells false 4 [p.v]) :: some (.cells false 1 (iv (nearL p i))) :: []) ∨ (((nearL p i).take a.1).filter (fun b => 0 < wgI p i b) ≠ [] ∧ a.2.1 = .sl 3 0 (((nearL p i).take a.1).filter (fun b => 0 < wgI p i b)).length ∧ ∃ g X, a.2.2 = some (.cells false 4 [p.v]) :: some (.cells false 1 (iv (nearL p i))) :: g :: some (.cells true 1 (iv (((nearL p i).take a.1).filter (fun b => 0 < wgI p i b)))) :: X))) (fun a => 4 - a.1)
    (fun a => (tsets 51 [(1, .int .i64 i), (2, .ptr 0 0 0 1), (5, .sl 1 0 4), (6, a.2.1), (7, .int .i64 a.1)], a.2.2)) (0, .nilsl, some (.cells false 4 [p.v]) :: some (.cells false 1 (iv (nearL p i))) :: []) ⟨Nat.zero_le _, .inl ⟨by rw [List.take_zero]; rfl, rfl, rfl⟩⟩ (by simp [go_sem]) (by rw [hx0]; rfl) ?_
  rintro ⟨k, t6, H⟩ ⟨hk, hH⟩ ih
  dsimp only at hk hH ih ⊢
  by_cases h1 : k < 4
  · have h2 : (k : Int) < 4 := by omega
    have h3 := idx_next h1 (by omega)
    have n0 : ¬ (k : Int) < 0 := by omega
    have hg := iv_get (l := nearL p i) (i := k) (by omega)
    have hlen : (nearL p i).length = 4 := hnl
    have hW := weightI_ok hp hi (gt (nearL p i) k)
    have hT : (nearL p i).take (k + 1) = (nearL p i).take k ++ [gt (nearL p i) k] := by rw [List.take_add_one, gt_get (by omega)]; rfl
    have hle : (((nearL p i).take k).filter (fun b => 0 < wgI p i b)).length ≤ 4 := by
      have := List.length_filter_le (fun b => decide (0 < wgI p i b)) ((nearL p i).take k)
      rw [List.length_take] at this; omega
    have ihn := fun t6' H' => ih (k + 1, t6', H') (by dsimp only; omega)
    clear ih hx0 hiv hnear
    simp only [hT, List.filter_append] at ihn
    generalize hz : gt (nearL p i) k = z at *
    generalize (((nearL p i).take k).filter (fun b => 0 < wgI p i b)) = l at *
    by_cases hw0 : 0 < wgI p i z
    · have hf : List.filter (fun b => decide (0 < wgI p i b)) [z] = [z] := by simp [hw0]
      simp only [hf] at ihn
      rcases hH with ⟨rfl, rfl, rfl⟩ | ⟨hne, rfl, g, X, rfl⟩
      · simp only [List.nil_append] at ihn
        simp only [go_sem, Pl.v, Pl.a, Pl.c4, vw, iv_len, hlen, h2, n0, hg]
        refine cP hW ?_
        simp only [go_sem, hw0, h3, iv_len, hlen, h2, n0, hg]
        exact ⟨by decide, ihn _ _ ⟨h1, .inr ⟨by simp, rfl, _, [], rfl⟩⟩ _ (by simp [go_sem])⟩
      · simp only [go_sem, Pl.v, Pl.a, Pl.c4, vw, iv_len, hlen, h2, n0, hg]
        refine cP hW ?_
        simp only [go_sem, hw0, h3, iv_len, hlen, h2, n0, hg, iv_app]
        exact ⟨by omega, ihn _ _ ⟨h1, .inr ⟨by simp, rfl, _, _, rfl⟩⟩ _ (by simp [go_sem])⟩
    · have hf : List.filter (fun b => decide (0 < wgI p i b)) [z] = [] := by simp [hw0]
      simp only [hf, List.append_nil] at ihn
      rcases hH with ⟨rfl, rfl, rfl⟩ | ⟨hne, rfl, g, X, rfl⟩
      · simp only [go_sem, Pl.v, Pl.a, Pl.c4, vw, iv_len, hlen, h2, n0, hg]
        refine cP hW ?_
        simp only [go_sem, hw0, h3]
        exact ihn _ _ ⟨h1, .inl ⟨rfl, rfl, rfl⟩⟩ _ (by simp [go_sem])
      · simp only [go_sem, Pl.v, Pl.a, Pl.c4, vw, iv_len, hlen, h2, n0, hg]
        refine cP hW ?_
        simp only [go_sem, hw0, h3]
        exact ihn _ _ ⟨h1, .inr ⟨hne, rfl, _, _, rfl⟩⟩ _ (by simp [go_sem])
  · have h2 : ¬ (k : Int) < 4 := by omega
    have hall : ((nearL p i).take k).filter (fun b => 0 < wgI p i b) = nrL p i := by rw [List.take_of_length_le (by omega)]; rfl
    rw [hall] at hH
    clear ih hall hx0 hiv
    generalize nrL p i = l at *
    rcases hH with ⟨rfl, rfl, rfl⟩ | ⟨hne, rfl, g, X, rfl⟩
    · simp only [go_sem, iv_len, hnl, h2]
      show ∃ σ, Kept [] [] .nilsl .nilsl _ σ
      exact kept_id rfl (by simp only [go_sem]) (fun i x hx => by simp at hx)
    · have hne' : iv l ≠ [] := fun h => hne (List.map_eq_nil_iff.1 h)
      simp only [go_sem, iv_len, hnl, h2]
      unfold slv slrG
      rw [if_neg hne', if_neg hne']
      exact kept_new (A := []) 0 3 rfl rfl (by omega) (by simp [ren, rens, iv_len]) (fun i x hx => by simp at hx) (iv_row _ _ _) rfl
end Go.Proofs

namespace Go.Proofs
open Go Go.Sx
attribute [local irreducible] Run

theorem wgt_nonneg (p : Pl) (i j : Nat) : 0 ≤ wgt p i j := by
  unfold wgt besW abvW
  split
  · split <;> omega
  · split
    · split <;> omega
    · omega
theorem wgI_nonneg (p : Pl) (i : Nat) (b : Int) : 0 ≤ wgI p i b := by
  unfold wgI; split
  · exact wgt_nonneg _ _ _
  · omega
def lsum (p : Pl) (i : Nat) (f : Nat → Int) : List Int → Int
  | [] => 0
  | b :: l => wgI p i b * f b.toNat + lsum p i f l
theorem lsum_filter (p : Pl) (i : Nat) (f : Nat → Int) : ∀ l, lsum p i f (l.filter fun b => 0 < wgI p i b) = lsum p i f l
  | [] => rfl
  | b :: l => by
    rw [List.filter_cons]
    split
    · rw [lsum, lsum, lsum_filter p i f l]
    · rename_i h
      have h1 := wgI_nonneg p i b
      have h2 : wgI p i b = 0 := by
        have : ¬ 0 < wgI p i b := by simpa using h
        omega
      rw [lsum, lsum_filter p i f l, h2, Int.zero_mul, Int.zero_add]
theorem wgI_nat {p : Pl} (i : Nat) {j : Nat} (hj : j < p.w * p.h) : wgI p i (j : Int) = wgt p i j := by
  unfold wgI
  rw [if_pos ⟨by omega, by omega⟩]; rfl
theorem wgI_out {p : Pl} (i : Nat) {b : Int} (h : b < 0 ∨ (p.w * p.h : Nat) ≤ b) : wgI p i b = 0 := by
  unfold wgI
  rw [if_neg (by omega)]

section
variable {p : Pl} (hp : PlOK p) {x y : Nat} (hx : x < p.w) (hy : y < p.h)
include hp hx hy
omit hp in
theorem wgI_left (f : Nat → Int) (h1 : p.w ≠ 1) : wgI p (y * p.w + x) (((y * p.w + x : Nat) : Int) - 1) * f (((y * p.w + x : Nat) : Int) - 1).toNat = if 0 < x then besW p.rd (x - 1) * f (y * p.w + (x - 1)) else 0 := by
  have hi := cell_in hx hy
  by_cases h : 0 < x
  · have e : ((y * p.w + x : Nat) : Int) - 1 = ((y * p.w + (x - 1) : Nat) : Int) := by omega
    rw [e, wgI_nat _ (by omega), if_pos h]
    obtain ⟨m1, _⟩ := cell_at (w := p.w) (x := x) (y := y) hx
    obtain ⟨m2, _⟩ := cell_at (w := p.w) (x := x - 1) (y := y) (by omega)
    unfold wgt
    rw [show max (y * p.w + x) (y * p.w + (x - 1)) = y * p.w + x by omega, show min (y * p.w + x) (y * p.w + (x - 1)) = y * p.w + (x - 1) by omega, m1, m2, if_pos ⟨by omega, h⟩]
    rfl
  · have hx0 : x = 0 := by omega
    subst hx0
    rw [if_neg h, Nat.add_zero]
    by_cases hy0 : y = 0
    · subst hy0
      rw [Nat.zero_mul, wgI_out _ (.inl (by omega)), Int.zero_mul]
    · have hyw : p.w ≤ y * p.w := Nat.le_mul_of_pos_left _ (by omega)
      have e : ((y * p.w : Nat) : Int) - 1 = ((y * p.w - 1 : Nat) : Int) := by omega
      rw [e, wgI_nat _ (by omega)]
      obtain ⟨m1, _⟩ := cell_at (w := p.w) (x := 0) (y := y) hx
      rw [Nat.add_zero] at m1
      unfold wgt
      rw [show max (y * p.w) (y * p.w - 1) = y * p.w by omega, show min (y * p.w) (y * p.w - 1) = y * p.w - 1 by omega, m1, if_neg (by omega), if_neg (by omega), Int.zero_mul]
omit hp in
theorem wgI_right (f : Nat → Int) (h1 : p.w ≠ 1) : wgI p (y * p.w + x) (((y * p.w + x : Nat) : Int) + 1) * f (((y * p.w + x : Nat) : Int) + 1).toNat = if x + 1 < p.w then besW p.rd x * f (y * p.w + (x + 1)) else 0 := by
  have hi := cell_in hx hy
  have e : ((y * p.w + x : Nat) : Int) + 1 = ((y * p.w + (x + 1) : Nat) : Int) := by omega
  rw [e]
  obtain ⟨m1, _⟩ := cell_at (w := p.w) (x := x) (y := y) hx
  by_cases h : x + 1 < p.w
  · have hj := cell_in h hy
    obtain ⟨m2, _⟩ := cell_at (w := p.w) (x := x + 1) (y := y) h
    rw [wgI_nat _ hj, if_pos h]
    unfold wgt
    rw [show max (y * p.w + x) (y * p.w + (x + 1)) = y * p.w + (x + 1) by omega, show min (y * p.w + x) (y * p.w + (x + 1)) = y * p.w + x by omega, m1, m2, if_pos ⟨by omega, by omega⟩]
    rfl
  · rw [if_neg h]
    have e2 : y * p.w + (x + 1) = (y + 1) * p.w := by rw [Nat.add_mul]; omega
    rw [e2]
    by_cases hy1 : y + 1 < p.h
    · have hj : (y + 1) * p.w < p.w * p.h := by have := cell_in (w := p.w) (h := p.h) (x := 0) (y := y + 1) (by omega) hy1; rwa [Nat.add_zero] at this
      rw [wgI_nat _ hj]
      unfold wgt
      rw [show max (y * p.w + x) ((y + 1) * p.w) = (y + 1) * p.w by omega, show min (y * p.w + x) ((y + 1) * p.w) = y * p.w + x by omega, Nat.mul_mod_left, if_neg (by omega), if_neg (by omega), Int.zero_mul]
    · have hyh : y + 1 = p.h := by omega
      have : (y + 1) * p.w = p.w * p.h := by rw [hyh, Nat.mul_comm]
      rw [wgI_out _ (.inr (by omega)), Int.zero_mul]
theorem wgI_up (f : Nat → Int) (b : Int) (hb : b = ((y * p.w + x : Nat) : Int) - p.w) : wgI p (y * p.w + x) b * f b.toNat = if 0 < y then abvW p.rd x * f ((y - 1) * p.w + x) else 0 := by
  have hi := cell_in hx hy
  have hw := hp.w
  by_cases h : 0 < y
  · have e2 : y * p.w = (y - 1) * p.w + p.w := by
      have : y = y - 1 + 1 := by omega
      conv => lhs; rw [this, Nat.add_mul, Nat.one_mul]
    have e : b = (((y - 1) * p.w + x : Nat) : Int) := by omega
    rw [e, wgI_nat _ (by omega), if_pos h]
    obtain ⟨m1, _⟩ := cell_at (w := p.w) (x := x) (y := y) hx
    obtain ⟨m2, _⟩ := cell_at (w := p.w) (x := x) (y := y - 1) hx
    unfold wgt
    rw [show max (y * p.w + x) ((y - 1) * p.w + x) = y * p.w + x by omega, show min (y * p.w + x) ((y - 1) * p.w + x) = (y - 1) * p.w + x by omega, m1, m2, if_neg (by omega), if_pos (by omega)]
    rfl
  · have hy0 : y = 0 := by omega
    subst hy0
    rw [if_neg h, wgI_out _ (.inl (by omega)), Int.zero_mul]
theorem wgI_down (f : Nat → Int) (b : Int) (hb : b = ((y * p.w + x : Nat) : Int) + p.w) : wgI p (y * p.w + x) b * f b.toNat = if y + 1 < p.h then abvW p.rd x * f ((y + 1) * p.w + x) else 0 := by
  have hi := cell_in hx hy
  have hw := hp.w
  have e2 : (y + 1) * p.w = y * p.w + p.w := by rw [Nat.add_mul, Nat.one_mul]
  have e : b = (((y + 1) * p.w + x : Nat) : Int) := by omega
  rw [e]
  obtain ⟨m1, _⟩ := cell_at (w := p.w) (x := x) (y := y) hx
  obtain ⟨m2, _⟩ := cell_at (w := p.w) (x := x) (y := y + 1) hx
  by_cases h : y + 1 < p.h
  · have hj := cell_in hx h
    rw [wgI_nat _ hj, if_pos h]
    unfold wgt
    rw [show max (y * p.w + x) ((y + 1) * p.w + x) = (y + 1) * p.w + x by omega, show min (y * p.w + x) ((y + 1) * p.w + x) = y * p.w + x by omega, m1, m2, if_neg (by omega), if_pos (by omega)]
    rfl
  · have hyh : y + 1 = p.h := by omega
    have : (y + 1) * p.w = p.w * p.h := by rw [hyh, Nat.mul_comm]
    rw [if_neg h, wgI_out _ (.inr (by omega)), Int.zero_mul]
end

theorem nr_sum {p : Pl} (hp : PlOK p) {i : Nat} (hi : i < p.w * p.h) (f : Nat → Int) : lsum p i f (nrL p i) = wsum (nbs p i) f := by
  obtain ⟨c1, c2, c3⟩ := cell_lt hi
  unfold nrL
  rw [lsum_filter, ← c3, wsum_nbs p c1]
  generalize i % p.w = x at *
  generalize i / p.w = y at *
  unfold nearL
  by_cases h1 : p.w = 1
  · rw [if_pos h1]
    simp only [lsum]
    rw [wgI_up hp c1 c2 f (((y * p.w + x : Nat) : Int) - 1) (by omega), wgI_down hp c1 c2 f (((y * p.w + x : Nat) : Int) + 1) (by omega), if_neg (show ¬ 0 < x by omega), if_neg (show ¬ x + 1 < p.w by omega)]
    omega
  · rw [if_neg h1]
    simp only [lsum]
    rw [wgI_up hp c1 c2 f (((y * p.w + x : Nat) : Int) - p.w) rfl, wgI_down hp c1 c2 f (((y * p.w + x : Nat) : Int) + p.w) rfl, wgI_left c1 c2 f h1, wgI_right c1 c2 f h1]
    omega

theorem around_ok' {p : Pl} (hp : PlOK p) {i : Nat} (hi : i < p.w * p.h) : Ans Try.prog n_ref01_around [p.v, .int .i64 i] [] (slv 0 (iv (nrL p i))) (slrG true 1 (iv (nrL p i))) := by
  by_cases h : p.w = 1
  · exact around_one hp hi h
  · exact around_more hp hi h
theorem nr_in {p : Pl} {i : Nat} {b : Int} (h : b ∈ nrL p i) : 0 ≤ b ∧ b < (p.w * p.h : Nat) ∧ 1 ≤ wgI p i b := by
  unfold nrL at h
  have h1 := (List.mem_filter.1 h).2
  have h2 : 0 < wgI p i b := by simpa using h1
  by_cases h3 : 0 ≤ b ∧ b < (p.w * p.h : Nat)
  · exact ⟨h3.1, h3.2, by omega⟩
  · unfold wgI at h2; rw [if_neg h3] at h2; omega
theorem nr_len (p : Pl) (i : Nat) : (nrL p i).length ≤ 4 := by
  unfold nrL
  refine Nat.le_trans (List.length_filter_le _ _) ?_
  unfold nearL
  split <;> simp
end Go.Proofs

namespace Go.Proofs
open Go Go.Sx
attribute [local irreducible] Run

theorem wgt_symm (p : Pl) (i j : Nat) : wgt p i j = wgt p j i := by
  unfold wgt; rw [Nat.max_comm, Nat.min_comm]
theorem lsum_ind (p : Pl) (i j : Nat) : ∀ l : List Int, 0 < lsum p i (fun n => if n = j then 1 else 0) l → ∃ b ∈ l, b.toNat = j ∧ 0 < wgI p i b
  | [], h => by simp [lsum] at h
  | b :: l, h => by
    rw [lsum] at h
    by_cases hb : b.toNat = j ∧ 0 < wgI p i b
    · exact ⟨b, by simp, hb⟩
    · have h0 : wgI p i b * (if b.toNat = j then 1 else 0) = 0 := by
        by_cases h1 : b.toNat = j
        · have := wgI_nonneg p i b
          have h2 : wgI p i b = 0 := by
            have : ¬ 0 < wgI p i b := fun h3 => hb ⟨h1, h3⟩
            omega
          rw [h2, Int.zero_mul]
        · rw [if_neg h1, Int.mul_zero]
      obtain ⟨c, hc, hc2⟩ := lsum_ind p i j l (by omega)
      exact ⟨c, by simp [hc], hc2⟩
theorem wsum_ind {l : List (Nat × Int)} (h : ∀ q ∈ l, 1 ≤ q.2) {q : Nat × Int} (hq : q ∈ l) : 0 < wsum l fun n => if n = q.1 then 1 else 0 := by
  induction l with
  | nil => simp at hq
  | cons r l ih =>
    have h1 := h r (by simp)
    have nn : 0 ≤ wsum l fun n => if n = q.1 then 1 else 0 := by
      have := wsum_mono (l := l) (f := fun _ => 0) (g := fun n => if n = q.1 then 1 else 0) fun s hs => ⟨by have := h s (by simp [hs]); omega, by split <;> omega⟩
      rw [wsum_const, Int.mul_zero] at this; exact this
    have nr : 0 ≤ r.2 * (if r.1 = q.1 then 1 else 0) := Int.mul_nonneg (by omega) (by split <;> omega)
    simp only [wsum]
    rcases List.mem_cons.1 hq with rfl | hq
    · rw [if_pos rfl, Int.mul_one]; omega
    · have := ih (fun s hs => h s (by simp [hs])) hq
      omega
theorem nr_back {p : Pl} (hp : PlOK p) {i : Nat} (hi : i < p.w * p.h) {q : Nat × Int} (hq : q ∈ nbs p i) : (i : Int) ∈ nrL p q.1 := by
  have hN := nbs_in p hp.w.2 hi
  obtain ⟨k1, k2, _⟩ := hN q hq
  have h1 := wsum_ind (fun r hr => (hN r hr).2.1) hq
  rw [← nr_sum hp hi] at h1
  obtain ⟨b, hb, hbj, hbw⟩ := lsum_ind p i q.1 _ h1
  obtain ⟨m1, m2, _⟩ := nr_in hb
  have e : b = (q.1 : Int) := by omega
  subst e
  rw [wgI_nat _ k1, wgt_symm] at hbw
  unfold nrL
  rw [List.mem_filter]
  refine ⟨?_, by rw [wgI_nat _ hi]; simpa using hbw⟩
  unfold nrL at hb
  have hb1 := (List.mem_filter.1 hb).1
  unfold nearL at hb1 ⊢
  split at hb1
  · rename_i hw1
    rw [if_pos hw1]
    simp only [List.mem_cons, List.not_mem_nil, or_false] at hb1 ⊢
    omega
  · rename_i hw1
    rw [if_neg hw1]
    simp only [List.mem_cons, List.not_mem_nil, or_false] at hb1 ⊢
    omega

structure HeOK (p : Pl) (bs : List Bool) : Prop where
  len : bs.length = p.w * p.h
  el : ∀ i, i < p.w * p.h → p.el i → bs.getD i false = true
def nf (bs : List Bool) : Nat := bs.count false
def HeCl (p : Pl) (bs : List Bool) (i : Nat) : Prop := ∀ b ∈ nrL p i, bs.getD b.toNat false = true → bs.getD i false = true
theorem held_all {p : Pl} (hp : PlOK p) {bs : List Bool} (h : HeOK p bs) (hc : ∀ i, i < p.w * p.h → HeCl p bs i) : bs = List.replicate (p.w * p.h) true := by
  have hall := grid_conn p (fun i => bs.getD i false = true) (by
    obtain ⟨i, hi, hE⟩ := hp.some
    exact ⟨i, hi, h.el i hi hE⟩) (fun i hi hS q hq => by
    obtain ⟨k1, _⟩ := nbs_in p hp.w.2 hi q hq
    exact hc q.1 k1 i (nr_back hp hi hq) (by rw [Int.toNat_natCast]; exact hS))
  refine List.ext_getElem (by rw [h.len, List.length_replicate]) fun i h1 h2 => ?_
  have := hall i (by rw [← h.len]; exact h1)
  rw [List.getD_eq_getElem?_getD, List.getElem?_eq_getElem h1] at this
  rw [List.getElem_replicate]
  exact this
theorem nf_set {bs : List Bool} {i : Nat} (hi : i < bs.length) (h : bs.getD i false = false) : nf (bs.set i true) + 1 = nf bs := by
  have hg : bs[i] = false := by rw [List.getD_eq_getElem?_getD, List.getElem?_eq_getElem hi] at h; exact h
  have h1 : 0 < bs.count false := List.count_pos_iff.2 (by rw [← hg]; exact List.getElem_mem hi)
  unfold nf
  rw [List.count_set hi, hg]
  simp
  omega
theorem HeOK.set {p : Pl} {bs : List Bool} (h : HeOK p bs) {i : Nat} (hi : i < p.w * p.h) : HeOK p (bs.set i true) := by
  refine ⟨by rw [List.length_set]; exact h.len, fun j hj hE => ?_⟩
  rw [getD_set _ _ _ (by rw [h.len]; exact hi)]
  split
  · rfl
  · exact h.el j hj hE

def elT (p : Pl) (i : Nat) : List Bool := (List.range (p.w * p.h)).map fun j => decide (j < i) && decide (0 < gt p.cs j)
theorem elT_len (p : Pl) (i : Nat) : (elT p i).length = p.w * p.h := by simp [elT]
theorem elT_get (p : Pl) (i : Nat) {j : Nat} (hj : j < p.w * p.h) : (elT p i).getD j false = (decide (j < i) && decide (0 < gt p.cs j)) := by
  unfold elT
  rw [List.getD_eq_getElem?_getD, List.getElem?_map, List.getElem?_range hj]; rfl
theorem bl_ext {a b : List Bool} (hl : a.length = b.length) (h : ∀ i, i < a.length → a.getD i false = b.getD i false) : a = b := by
  refine List.ext_getElem hl fun i h1 h2 => ?_
  have := h i h1
  rw [List.getD_eq_getElem?_getD, List.getD_eq_getElem?_getD, List.getElem?_eq_getElem h1, List.getElem?_eq_getElem h2] at this
  exact this
theorem elT_set (p : Pl) {i : Nat} (hi : i < p.w * p.h) : (elT p i).set i (decide (0 < gt p.cs i)) = elT p (i + 1) := bl_ext (by rw [List.length_set, elT_len, elT_len]) fun j hj => by
  rw [List.length_set, elT_len] at hj
  rw [elT_get _ _ hj, List.getD_eq_getElem?_getD]
  by_cases e : j = i
  · subst e
    rw [List.getElem?_set_self (by rw [elT_len]; exact hj)]
    simp
  · rw [List.getElem?_set_ne (by omega), ← List.getD_eq_getElem?_getD, elT_get _ _ hj]
    by_cases h1 : j < i
    · rw [decide_eq_true h1, decide_eq_true (show j < i + 1 by omega)]
    · rw [decide_eq_false h1, decide_eq_false (show ¬ j < i + 1 by omega)]
theorem elT_ok {p : Pl} (hp : PlOK p) : HeOK p (elT p (p.w * p.h)) := ⟨elT_len _ _, fun i hi hE => by
  have h1 := hp.cell _ (hp.mem hi)
  have h2 : gt p.cs i ≠ 0 := hE
  rw [elT_get _ _ hi, decide_eq_true hi, decide_eq_true (by omega)]; rfl⟩
theorem bv_set1 {bs : List Bool} {i : Nat} (x : Bool) : (bv bs).set i (.bool x) = bv (bs.set i x) := by simp [bv, List.map_set]

set_option maxHeartbeats 8000000 in
set_option maxRecDepth 4000 in
theorem held_ok {p : Pl} (hp : PlOK p) : Ans Try.prog n_ref01_held [p.v] [] (.sl 0 0 p.cs.length) [some (.cells false 1 (bv (List.replicate (p.w * p.h) true)))] := by
  have hw := hp.w; have hh := hp.h
  have hN : p.w * p.h ≤ 256 := Nat.mul_le_mul hw.2 hh.2
  have hlen := hp.len
  refine Ans.keep (run_fn e_ref01_held fun G => ?_) (by simp) (by simp [go_sem]) ⟨by rw [row_bel_cells]; unfold bv; simp only [go_sem], trivial⟩
  have q1 : (0 : Int) ≤ p.cs.length := by omega
  have q2 : (p.cs.length : Int) ≤ 2 ^ 44 := by omega
  have q3 : (p.cs.length : Int) * 1 ≤ 2 ^ 44 := by omega
  simp only [go_sem, Pl.v, Pl.a, Pl.c4, vw, List.length_map, q1, q2, q3, Int.toNat_natCast]
  refine ⟨Int.le_refl _, ?_⟩
  have h0 : List.replicate p.cs.length (AVal.bool false) = bv (elT p 0) := by
    have : elT p 0 = List.replicate (p.w * p.h) false := bl_ext (by simp [elT]) fun j hj => by
      rw [elT_len] at hj
      rw [elT_get _ _ hj, List.getD_eq_getElem?_getD, List.getElem?_replicate, if_pos hj]; simp
    rw [this, hlen]; simp [bv]
  rw [h0]
  refine loop_ind k_ref01_held_r6.eq_1 (fun i : Nat => i ≤ p.cs.length) (fun i => p.cs.length - i)
    (fun i => (tsets 64 [(1, .ptr 0 0 0 1), (3, .sl 1 0 p.cs.length), (4, .int .i64 i)], [some (.cells false 4 [p.v]), some (.cells false 1 (bv (elT p i)))])) 0 (Nat.zero_le _) (by simp [go_sem]) rfl ?_
  intro i hi ih
  dsimp only at hi ih ⊢
  by_cases h1 : i < p.cs.length
  · have h2 : (i : Int) < p.cs.length := by omega
    have h3 := idx_next h1 (by omega)
    have n0 : ¬ (i : Int) < 0 := by omega
    have hx := gt_get h1
    have hb := bv_get (bs := elT p i) (c := i) (by rw [elT_len]; omega)
    have s1 := elT_set p (i := i) (by omega)
    have hEl : (elT p i).length = p.cs.length := by rw [elT_len, hlen]
    have ihn := ih (i + 1) (by omega) h1
    rw [← s1] at ihn
    clear ih s1
    generalize gt p.cs i = z at *
    by_cases hz : 0 < z
    · rw [decide_eq_true hz] at ihn
      simp only [go_sem, Pl.v, Pl.a, Pl.c4, vw, List.length_map, h2, n0, hx, hz, bv_len, hEl, hb, bv_set1, h3]
      exact ihn _ (by simp [go_sem])
    · rw [decide_eq_false hz] at ihn
      simp only [go_sem, Pl.v, Pl.a, Pl.c4, vw, List.length_map, h2, n0, hx, hz, bv_len, hEl, hb, bv_set1, h3]
      exact ihn _ (by simp [go_sem])
  · have h2 : ¬ (i : Int) < p.cs.length := by omega
    have hie : i = p.w * p.h := by omega
    subst hie
    clear ih
    simp only [go_sem, Pl.v, Pl.a, Pl.c4, vw, List.length_map, h2]
    have e0 := elT_ok hp
    generalize elT p (p.w * p.h) = bs0 at *
    clear h0
    refine loop_ind k_ref01_held_r21.eq_1 (fun a : List Bool × Bool × Heap => HeOK p a.1 ∧ (a.2.1 = false → ∀ i, i < p.w * p.h → HeCl p a.1 i)) (fun a => if a.2.1 then nf a.1 + 1 else 0)
      (fun a => (tsets 64 [(1, .ptr 0 0 0 1), (3, .sl 1 0 p.cs.length), (5, .bool a.2.1)], some (.cells false 4 [p.v]) :: some (.cells false 1 (bv a.1)) :: a.2.2)) (bs0, true, []) ⟨e0, fun h => by cases h⟩ (by simp [go_sem]) rfl ?_
    clear e0 bs0
    rintro ⟨bs, more, X⟩ ⟨hb, hcl⟩ ih
    dsimp only at hb hcl ih ⊢
    cases more with
    | false =>
      simp only [go_sem]
      rw [← held_all hp hb (hcl rfl)]
      exact kept_new (A := []) 0 1 rfl rfl (by omega) (by simp [ren, rens]) (fun i x hx => by simp at hx) (by rw [row_bel_cells]; unfold bv; simp only [go_sem]) rfl
    | true =>
      clear hcl
      simp only [if_true] at ih
      simp only [go_sem]
      refine loop_ind k_ref01_held_r20.eq_1 (fun a : Nat × List Bool × Bool × Heap => a.1 ≤ p.cs.length ∧ HeOK p a.2.1 ∧ (a.2.2.1 = true → nf a.2.1 < nf bs) ∧ (a.2.2.1 = false → a.2.1 = bs ∧ ∀ j, j < a.1 → HeCl p bs j)) (fun a => p.cs.length - a.1)
        (fun a => (tsets 64 [(1, .ptr 0 0 0 1), (3, .sl 1 0 p.cs.length), (5, .bool a.2.2.1), (6, .int .i64 a.1)], some (.cells false 4 [p.v]) :: some (.cells false 1 (bv a.2.1)) :: a.2.2.2)) (0, bs, false, X) ⟨Nat.zero_le _, hb, (fun h => by cases h), fun _ => ⟨rfl, fun j hj => absurd hj (Nat.not_lt_zero _)⟩⟩ (by simp [go_sem]) rfl ?_
      clear X
      rintro ⟨i, cs, m, X⟩ ⟨hi, hc, hm1, hm2⟩ ihi
      dsimp only at hi hc hm1 hm2 ihi ⊢
      by_cases h4 : i < p.cs.length
      · have h5 : (i : Int) < p.cs.length := by omega
        have h6 := idx_next h4 (by omega)
        have hiN : i < p.w * p.h := by omega
        clear ih
        have hA := around_ok' hp hiN
        have ihn := fun cs' m' X' => ihi (i + 1, cs', m', X') (by dsimp only; omega)
        clear ihi
        simp only [go_sem, Pl.v, Pl.a, Pl.c4, vw, List.length_map, h5]
        by_cases hne : iv (nrL p i) = []
        · have hl : nrL p i = [] := List.map_eq_nil_iff.1 hne
          unfold slv slrG at hA
          rw [if_pos hne, if_pos hne] at hA
          refine cP hA ?_
          simp only [go_sem]
          refine loop_body 3000 k_ref01_held_r18.eq_1 ?_
          simp only [go_sem, h6]
          exact ihn cs m X ⟨h4, hc, hm1, fun h => ⟨(hm2 h).1, fun j hj => by
            by_cases e1 : j = i
            · subst e1
              intro b hbm; rw [hl] at hbm; simp at hbm
            · exact (hm2 h).2 j (by omega)⟩⟩ _ (by simp [go_sem])
        · have hmem := fun b (hb : b ∈ nrL p i) => nr_in hb
          have hnl := nr_len p i
          unfold slv slrG at hA
          rw [if_neg hne, if_neg hne] at hA
          refine cN1 hA ?_ (hr := by simp [go_sem]) (hx := iv_row _ _ _)
          simp only [go_sem, ren, rens, iv_len]
          have hnr : ∀ (r0 r1 : Option Row), (r0 :: r1 :: (X ++ [some (Row.cells true 1 (iv (nrL p i)))]))[X.length + 2]? = some (some (Row.cells true 1 (iv (nrL p i)))) := fun r0 r1 => by simp
          unfold HeCl at hm2 ihn
          have hcell : ∀ b ∈ nrL p i, ∃ j : Nat, (j : Int) = b ∧ j < p.w * p.h := fun b hb => by have := hmem b hb; exact ⟨b.toNat, by omega, by omega⟩
          clear hmem
          generalize hll : nrL p i = l at *
          refine loop_ind k_ref01_held_r18.eq_1 (fun a : Nat × List Bool × Bool => a.1 ≤ l.length ∧ HeOK p a.2.1 ∧ (a.2.2 = true → nf a.2.1 < nf bs) ∧ (a.2.2 = false → a.2.1 = bs ∧ (∀ j, j < i → ∀ b ∈ nrL p j, bs.getD b.toNat false = true → bs.getD j false = true) ∧ ∀ b ∈ l.take a.1, bs.getD b.toNat false = true → bs.getD i false = true)) (fun a => l.length - a.1)
            (fun a => (tsets 64 [(1, .ptr 0 0 0 1), (3, .sl 1 0 p.cs.length), (5, .bool a.2.2), (6, .int .i64 i), (7, .sl (X.length + 2) 0 l.length), (8, .int .i64 a.1)], some (.cells false 4 [p.v]) :: some (.cells false 1 (bv a.2.1)) :: (X ++ [some (.cells true 1 (iv l))]))) (0, cs, m) ⟨Nat.zero_le _, hc, hm1, fun h => ⟨(hm2 h).1, (hm2 h).2, fun b hb => by simp at hb⟩⟩ (by simp [go_sem]) rfl ?_
          clear hc hm1 hm2 cs m
          rintro ⟨k, cs, m⟩ ⟨hk, hc, hm1, hm2⟩ ihk
          dsimp only at hk hc hm1 hm2 ihk ⊢
          by_cases h7 : k < l.length
          · have h8 : (k : Int) < l.length := by omega
            have h9 := idx_next h7 (by omega)
            have n0 : ¬ (k : Int) < 0 := by omega
            have hg := iv_get h7
            have hT : l.take (k + 1) = l.take k ++ [gt l k] := by rw [List.take_add_one, gt_get h7]; rfl
            obtain ⟨j, hj, hjN⟩ := hcell _ (gt_mem h7)
            have ihm := fun cs' m' => ihk (k + 1, cs', m') (by dsimp only; omega)
            clear ihk
            simp only [hT] at ihm
            rw [← hj] at ihm hg
            clear hj hT
            have gj := bv_get (bs := cs) (c := j) (by rw [hc.len]; exact hjN)
            have gi := bv_get (bs := cs) (c := i) (by rw [hc.len]; exact hiN)
            have nj : ¬ (j : Int) < 0 := by omega
            have ni : ¬ (i : Int) < 0 := by omega
            have hjl : (j : Int) < p.cs.length := by omega
            have hcl := hc.len
            rw [← hlen] at hcl
            have hca := cells_at (hnr (some (.cells false 4 [p.v])) (some (.cells false 1 (bv cs))))
            simp only [Pl.v, Pl.a, Pl.c4, vw] at hca
            cases hbj : cs.getD j false with
            | false =>
              rw [hbj] at gj
              simp only [go_sem, Pl.v, Pl.a, Pl.c4, vw, iv_len, hca, h8, n0, hg, nj, hjl, bv_len, hcl, gj, h9]
              exact ihm cs m ⟨h7, hc, hm1, fun h => ⟨(hm2 h).1, (hm2 h).2.1, fun b hb hbt => by
                rcases List.mem_append.1 hb with h1 | h1
                · exact (hm2 h).2.2 b h1 hbt
                · simp only [List.mem_singleton] at h1
                  subst h1
                  rw [Int.toNat_natCast, ← (hm2 h).1, hbj] at hbt
                  cases hbt⟩⟩ _ (by simp [go_sem])
            | true =>
              rw [hbj] at gj
              cases hbi : cs.getD i false with
              | true =>
                rw [hbi] at gi
                simp only [go_sem, Pl.v, Pl.a, Pl.c4, vw, iv_len, hca, h8, n0, hg, nj, hjl, bv_len, hcl, gj, ni, h5, gi, h9]
                exact ihm cs m ⟨h7, hc, hm1, fun h => ⟨(hm2 h).1, (hm2 h).2.1, fun b hb hbt => by
                  rw [← (hm2 h).1]; exact hbi⟩⟩ _ (by simp [go_sem])
              | false =>
                rw [hbi] at gi
                have hs := nf_set (bs := cs) (i := i) (by rw [hc.len]; exact hiN) hbi
                simp only [go_sem, Pl.v, Pl.a, Pl.c4, vw, iv_len, hca, h8, n0, hg, nj, hjl, bv_len, hcl, gj, ni, h5, gi, bv_set1, h9]
                exact ihm (cs.set i true) true ⟨h7, hc.set hiN, fun _ => by
                  cases m with
                  | true => have := hm1 rfl; omega
                  | false => have := (hm2 rfl).1; rw [this] at hs ⊢; omega, fun h => by cases h⟩ _ (by simp [go_sem])
          · have h8 : ¬ (k : Int) < l.length := by omega
            rw [List.take_of_length_le (by omega)] at hm2
            have hca := cells_at (hnr (some (.cells false 4 [p.v])) (some (.cells false 1 (bv cs))))
            simp only [Pl.v, Pl.a, Pl.c4, vw] at hca
            simp only [go_sem, Pl.v, Pl.a, Pl.c4, vw, iv_len, hca, h8, h6]
            exact ihn cs m _ ⟨h4, hc, hm1, fun h => ⟨(hm2 h).1, fun j hj => by
              by_cases e1 : j = i
              · subst e1
                rw [hll]; exact (hm2 h).2.2
              · exact (hm2 h).2.1 j (by dsimp only at hj; omega)⟩⟩ _ (by simp [go_sem])
      · have h5 : ¬ (i : Int) < p.cs.length := by omega
        have hle : i = p.w * p.h := by omega
        simp only [go_sem, Pl.v, Pl.a, Pl.c4, vw, List.length_map, h5]
        exact ih (cs, m, X) (by
          dsimp only
          cases m with
          | true => have := hm1 rfl; simp only [if_true]; omega
          | false => simp) ⟨hc, fun h => by
            obtain ⟨e1, e2⟩ := hm2 h
            dsimp only
            rw [e1, ← hle]; exact e2⟩ _ (by simp [go_sem])
end Go.Proofs

