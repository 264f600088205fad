/- A part of the proof. -/
import Derived.Test.YtpbheanmmfmffaaPA
set_option linter.unusedSimpArgs false
set_option linter.unusedVariables false
namespace Go.Proofs
open Go Go.Sx

def k_ref01_Check_r0 : List AOper := [
  ⟨(some (1)), .box (.tmp 0), none, []⟩, 
  ⟨(some (2)), .move (.const (.int .i64 0)), none, []⟩]
def k_ref01_Check_r1 : List AOper := [
  ⟨(some (7)), .fieldAddr 0 (.tmp 1), none, []⟩, 
  ⟨(some (8)), .load none (.tmp 7), none, []⟩, 
  ⟨(some (9)), .call (.const (.fn (.func 71) [] [])) [.tmp 8, .const (.int .i64 1), .const (.int .i64 16)], none, []⟩, 
  ⟨(some (10)), .move (.tmp 9), none, []⟩, 
  ⟨(some (11)), .fieldAddr 1 (.tmp 1), (some (10, false)), []⟩, 
  ⟨(some (12)), .load none (.tmp 11), (some (10, false)), []⟩, 
  ⟨(some (13)), .call (.const (.fn (.func 71) [] [])) [.tmp 12, .const (.int .i64 1), .const (.int .i64 16)], (some (10, false)), []⟩, 
  ⟨(some (14)), .pick (.tmp 10) (.const (.bool true)) (.tmp 13), none, []⟩]
def k_ref01_Check_r2 : List AOper := [
  ⟨(some (2)), .move (.const (.int .i64 2)), none, []⟩]
def k_ref01_Check_r3 : List AOper := [
  ⟨(some (15)), .fieldAddr 3 (.tmp 1), none, []⟩, 
  ⟨(some (16)), .load none (.tmp 15), none, []⟩, 
  ⟨(some (17)), .len false (.tmp 16), none, []⟩, 
  ⟨(some (18)), .fieldAddr 0 (.tmp 1), none, []⟩, 
  ⟨(some (19)), .load none (.tmp 18), none, []⟩, 
  ⟨(some (20)), .fieldAddr 1 (.tmp 1), none, []⟩, 
  ⟨(some (21)), .load none (.tmp 20), none, []⟩, 
  ⟨(some (22)), .bin .plain .mul (.tmp 19) (.tmp 21), none, []⟩, 
  ⟨(some (23)), .bin .plain .neq (.tmp 17) (.tmp 22), none, []⟩]
def k_ref01_Check_r4 : List AOper := [
  ⟨(some (2)), .move (.const (.int .i64 3)), none, []⟩]
def k_ref01_Check_r5 : List AOper := [
  ⟨(some (3)), .move (.const (.bool false)), none, []⟩]
def k_ref01_Check_r6 : List AOper := [
  ⟨(some (4)), .move (.const (.int .i64 0)), none, []⟩]
def k_ref01_Check_r7 : List AOper := [
  ⟨(some (24)), .move (.tmp 4), none, []⟩, 
  ⟨(some (25)), .fieldAddr 3 (.tmp 1), none, []⟩, 
  ⟨(some (26)), .load none (.tmp 25), none, []⟩, 
  ⟨(some (27)), .len false (.tmp 26), none, []⟩, 
  ⟨(some (28)), .bin .plain .lss (.tmp 24) (.tmp 27), none, []⟩]
def k_ref01_Check_r8 : List AOper := [
  ⟨(some (31)), .fieldAddr 3 (.tmp 1), none, []⟩, 
  ⟨(some (32)), .load none (.tmp 31), none, []⟩, 
  ⟨(some (33)), .move (.tmp 4), none, []⟩, 
  ⟨(some (34)), .indexAddr 1 (.tmp 32) (.tmp 33), none, []⟩, 
  ⟨(some (35)), .load none (.tmp 34), none, []⟩, 
  ⟨(some (36)), .call (.const (.fn (.func 71) [] [])) [.tmp 35, .const (.int .i64 0), .const (.int .i64 6)], none, []⟩]
def k_ref01_Check_r9 : List AOper := [
  ⟨(some (2)), .move (.const (.int .i64 2)), none, []⟩]
def k_ref01_Check_r10 : List AOper := [
  ⟨(some (37)), .move (.tmp 3), none, []⟩, 
  ⟨(some (38)), .move (.tmp 37), none, []⟩, 
  ⟨(some (39)), .fieldAddr 3 (.tmp 1), (some (38, false)), []⟩, 
  ⟨(some (40)), .load none (.tmp 39), (some (38, false)), []⟩, 
  ⟨(some (41)), .move (.tmp 4), (some (38, false)), []⟩, 
  ⟨(some (42)), .indexAddr 1 (.tmp 40) (.tmp 41), (some (38, false)), []⟩, 
  ⟨(some (43)), .load none (.tmp 42), (some (38, false)), []⟩, 
  ⟨(some (44)), .bin .plain .gtr (.tmp 43) (.const (.int .i64 0)), (some (38, false)), []⟩, 
  ⟨(some (45)), .pick (.tmp 38) (.const (.bool true)) (.tmp 44), none, []⟩, 
  ⟨(some (3)), .move (.tmp 45), none, []⟩]
def k_ref01_Check_r11 : List AOper := [
  ⟨(some (29)), .move (.tmp 4), none, []⟩, 
  ⟨(some (30)), .bin .plain .add (.tmp 29) (.const (.int .i64 1)), none, []⟩, 
  ⟨(some (4)), .move (.tmp 30), none, []⟩]
def k_ref01_Check_r12 : ACode := (.seq (.seq (.reg k_ref01_Check_r7 false) (.cond (.tmp 28) .skip (.exit 0))) (.seq (.block 1 (.seq (.seq (.reg k_ref01_Check_r8 false) (.cond (.tmp 36) (.seq (.reg k_ref01_Check_r9 false) .ret) .skip)) (.reg k_ref01_Check_r10 false))) (.reg k_ref01_Check_r11 false)))
def k_ref01_Check_r13 : List AOper := [
  ⟨(some (46)), .move (.tmp 3), none, []⟩, 
  ⟨(some (47)), .not (.tmp 46), none, []⟩]
def k_ref01_Check_r14 : List AOper := [
  ⟨(some (2)), .move (.const (.int .i64 7)), none, []⟩]
def k_ref01_Check_r15 : List AOper := [
  ⟨(some (48)), .load (some (4)) (.tmp 1), none, []⟩, 
  ⟨(some (49)), .call (.const (.fn (.func 72) [] [])) [.tmp 48], none, []⟩, 
  ⟨(some (5)), .move (.tmp 49), none, []⟩]
def k_ref01_Check_r16 : List AOper := [
  ⟨(some (6)), .move (.const (.int .i64 0)), none, []⟩]
def k_ref01_Check_r17 : List AOper := [
  ⟨(some (50)), .move (.tmp 6), none, []⟩, 
  ⟨(some (51)), .move (.tmp 5), none, []⟩, 
  ⟨(some (52)), .len false (.tmp 51), none, []⟩, 
  ⟨(some (53)), .bin .plain .lss (.tmp 50) (.tmp 52), none, []⟩]
def k_ref01_Check_r18 : List AOper := [
  ⟨(some (56)), .move (.tmp 5), none, []⟩, 
  ⟨(some (57)), .move (.tmp 6), none, []⟩, 
  ⟨(some (58)), .indexAddr 1 (.tmp 56) (.tmp 57), none, []⟩, 
  ⟨(some (59)), .load none (.tmp 58), none, []⟩, 
  ⟨(some (60)), .not (.tmp 59), none, []⟩]
def k_ref01_Check_r19 : List AOper := [
  ⟨(some (2)), .move (.const (.int .i64 13)), none, []⟩]
def k_ref01_Check_r20 : List AOper := [
  ⟨(some (54)), .move (.tmp 6), none, []⟩, 
  ⟨(some (55)), .bin .plain .add (.tmp 54) (.const (.int .i64 1)), none, []⟩, 
  ⟨(some (6)), .move (.tmp 55), none, []⟩]
def k_ref01_Check_r21 : ACode := (.seq (.seq (.reg k_ref01_Check_r17 false) (.cond (.tmp 53) .skip (.exit 2))) (.seq (.block 3 (.seq (.reg k_ref01_Check_r18 false) (.cond (.tmp 60) (.seq (.reg k_ref01_Check_r19 false) .ret) .skip))) (.reg k_ref01_Check_r20 false)))
def k_ref01_Check_r22 : List AOper := [
  ⟨(some (2)), .move (.const (.int .i64 0)), none, []⟩]
def k_ref01_Check : AFun := { params := 1, ntmps := 61, body := (.seq (.reg k_ref01_Check_r0 false) (.seq (.seq (.reg k_ref01_Check_r1 false) (.cond (.tmp 14) (.seq (.reg k_ref01_Check_r2 false) .ret) .skip)) (.seq (.seq (.reg k_ref01_Check_r3 false) (.cond (.tmp 23) (.seq (.reg k_ref01_Check_r4 false) .ret) .skip)) (.seq (.reg k_ref01_Check_r5 false) (.seq (.seq (.reg k_ref01_Check_r6 false) (.block 0 (.loop k_ref01_Check_r12))) (.seq (.seq (.reg k_ref01_Check_r13 false) (.cond (.tmp 47) (.seq (.reg k_ref01_Check_r14 false) .ret) .skip)) (.seq (.reg k_ref01_Check_r15 false) (.seq (.seq (.reg k_ref01_Check_r16 false) (.block 2 (.loop k_ref01_Check_r21))) (.seq (.reg k_ref01_Check_r22 false) .ret))))))))), res := [.tmp 2] }
theorem k_ref01_Check_ok : cfun Try.prog Try.f27 = k_ref01_Check := by kernel_rfl

def k_ref01_beyond_r0 : List AOper := [
  ⟨(some (6)), .move (.const (.bool false)), none, []⟩]
def k_ref01_beyond_r1 : List AOper := [
  ⟨(some (7)), .move (.tmp 0), none, []⟩, 
  ⟨(some (8)), .move (.tmp 1), none, []⟩, 
  ⟨(some (9)), .bin .plain .lss (.tmp 7) (.tmp 8), none, []⟩, 
  ⟨(some (10)), .move (.tmp 9), none, []⟩, 
  ⟨(some (11)), .move (.tmp 0), (some (10, false)), []⟩, 
  ⟨(some (12)), .move (.tmp 2), (some (10, false)), []⟩, 
  ⟨(some (13)), .bin .plain .gtr (.tmp 11) (.tmp 12), (some (10, false)), []⟩, 
  ⟨(some (14)), .pick (.tmp 10) (.const (.bool true)) (.tmp 13), none, []⟩, 
  ⟨(some (6)), .move (.tmp 14), none, []⟩]
def k_ref01_beyond : AFun := { params := 3, ntmps := 15, body := (.seq (.reg k_ref01_beyond_r0 false) (.seq (.reg k_ref01_beyond_r1 false) .ret)), res := [.tmp 6] }
theorem k_ref01_beyond_ok : cfun Try.prog Try.f71 = k_ref01_beyond := by kernel_rfl

def k_ref01_held_r0 : List AOper := [
  ⟨(some (1)), .box (.tmp 0), none, []⟩, 
  ⟨(some (2)), .move (.const (.nilsl)), none, []⟩]
def k_ref01_held_r1 : List AOper := [
  ⟨(some (9)), .fieldAddr 3 (.tmp 1), none, []⟩, 
  ⟨(some (10)), .load none (.tmp 9), none, []⟩, 
  ⟨(some (11)), .len false (.tmp 10), none, []⟩, 
  ⟨(some (12)), .makeSlice (.bool false) 1 (.tmp 11) (.tmp 11), none, []⟩, 
  ⟨(some (3)), .move (.tmp 12), none, []⟩]
def k_ref01_held_r2 : List AOper := [
  ⟨(some (4)), .move (.const (.int .i64 0)), none, []⟩]
def k_ref01_held_r3 : List AOper := [
  ⟨(some (13)), .move (.tmp 4), none, []⟩, 
  ⟨(some (14)), .fieldAddr 3 (.tmp 1), none, []⟩, 
  ⟨(some (15)), .load none (.tmp 14), none, []⟩, 
  ⟨(some (16)), .len false (.tmp 15), none, []⟩, 
  ⟨(some (17)), .bin .plain .lss (.tmp 13) (.tmp 16), none, []⟩]
def k_ref01_held_r4 : List AOper := [
  ⟨(some (20)), .move (.tmp 3), none, []⟩, 
  ⟨(some (21)), .move (.tmp 4), none, []⟩, 
  ⟨(some (22)), .fieldAddr 3 (.tmp 1), none, []⟩, 
  ⟨(some (23)), .load none (.tmp 22), none, []⟩, 
  ⟨(some (24)), .move (.tmp 4), none, []⟩, 
  ⟨(some (25)), .indexAddr 1 (.tmp 23) (.tmp 24), none, []⟩, 
  ⟨(some (26)), .load none (.tmp 25), none, []⟩, 
  ⟨(some (27)), .bin .plain .gtr (.tmp 26) (.const (.int .i64 0)), none, []⟩, 
  ⟨(some (28)), .indexAddr 1 (.tmp 20) (.tmp 21), none, []⟩, 
  ⟨none, .store 1 (.tmp 28) (.tmp 27), none, []⟩]
def k_ref01_held_r5 : List AOper := [
  ⟨(some (18)), .move (.tmp 4), none, []⟩, 
  ⟨(some (19)), .bin .plain .add (.tmp 18) (.const (.int .i64 1)), none, []⟩, 
  ⟨(some (4)), .move (.tmp 19), none, []⟩]
def k_ref01_held_r6 : ACode := (.seq (.seq (.reg k_ref01_held_r3 false) (.cond (.tmp 17) .skip (.exit 0))) (.seq (.block 1 (.reg k_ref01_held_r4 false)) (.reg k_ref01_held_r5 false)))
def k_ref01_held_r7 : List AOper := [
  ⟨(some (5)), .move (.const (.bool true)), none, []⟩]
def k_ref01_held_r8 : List AOper := [
  ⟨(some (29)), .move (.tmp 5), none, []⟩]
def k_ref01_held_r9 : List AOper := [
  ⟨(some (5)), .move (.const (.bool false)), none, []⟩]
def k_ref01_held_r10 : List AOper := [
  ⟨(some (6)), .move (.const (.int .i64 0)), none, []⟩]
def k_ref01_held_r11 : List AOper := [
  ⟨(some (30)), .move (.tmp 6), none, []⟩, 
  ⟨(some (31)), .fieldAddr 3 (.tmp 1), none, []⟩, 
  ⟨(some (32)), .load none (.tmp 31), none, []⟩, 
  ⟨(some (33)), .len false (.tmp 32), none, []⟩, 
  ⟨(some (34)), .bin .plain .lss (.tmp 30) (.tmp 33), none, []⟩]
def k_ref01_held_r12 : List AOper := [
  ⟨(some (37)), .load (some (4)) (.tmp 1), none, []⟩, 
  ⟨(some (38)), .move (.tmp 6), none, []⟩, 
  ⟨(some (39)), .call (.const (.fn (.func 101) [] [])) [.tmp 37, .tmp 38], none, []⟩, 
  ⟨(some (7)), .move (.tmp 39), none, []⟩]
def k_ref01_held_r13 : List AOper := [
  ⟨(some (8)), .move (.const (.int .i64 0)), none, []⟩]
def k_ref01_held_r14 : List AOper := [
  ⟨(some (40)), .move (.tmp 8), none, []⟩, 
  ⟨(some (41)), .move (.tmp 7), none, []⟩, 
  ⟨(some (42)), .len false (.tmp 41), none, []⟩, 
  ⟨(some (43)), .bin .plain .lss (.tmp 40) (.tmp 42), none, []⟩]
def k_ref01_held_r15 : List AOper := [
  ⟨(some (46)), .move (.tmp 3), none, []⟩, 
  ⟨(some (47)), .move (.tmp 7), none, []⟩, 
  ⟨(some (48)), .move (.tmp 8), none, []⟩, 
  ⟨(some (49)), .indexAddr 1 (.tmp 47) (.tmp 48), none, []⟩, 
  ⟨(some (50)), .load none (.tmp 49), none, []⟩, 
  ⟨(some (51)), .indexAddr 1 (.tmp 46) (.tmp 50), none, []⟩, 
  ⟨(some (52)), .load none (.tmp 51), none, []⟩, 
  ⟨(some (53)), .move (.tmp 52), none, []⟩, 
  ⟨(some (54)), .move (.tmp 3), (some (53, true)), []⟩, 
  ⟨(some (55)), .move (.tmp 6), (some (53, true)), []⟩, 
  ⟨(some (56)), .indexAddr 1 (.tmp 54) (.tmp 55), (some (53, true)), []⟩, 
  ⟨(some (57)), .load none (.tmp 56), (some (53, true)), []⟩, 
  ⟨(some (58)), .not (.tmp 57), (some (53, true)), []⟩, 
  ⟨(some (59)), .pick (.tmp 53) (.tmp 58) (.const (.bool false)), none, []⟩]
def k_ref01_held_r16 : List AOper := [
  ⟨(some (60)), .move (.tmp 3), none, []⟩, 
  ⟨(some (61)), .move (.tmp 6), none, []⟩, 
  ⟨(some (62)), .indexAddr 1 (.tmp 60) (.tmp 61), none, []⟩, 
  ⟨none, .store 1 (.tmp 62) (.const (.bool true)), none, []⟩, 
  ⟨(some (5)), .move (.const (.bool true)), none, []⟩]
def k_ref01_held_r17 : List AOper := [
  ⟨(some (44)), .move (.tmp 8), none, []⟩, 
  ⟨(some (45)), .bin .plain .add (.tmp 44) (.const (.int .i64 1)), none, []⟩, 
  ⟨(some (8)), .move (.tmp 45), none, []⟩]
def k_ref01_held_r18 : ACode := (.seq (.seq (.reg k_ref01_held_r14 false) (.cond (.tmp 43) .skip (.exit 6))) (.seq (.block 7 (.seq (.reg k_ref01_held_r15 false) (.cond (.tmp 59) (.reg k_ref01_held_r16 false) .skip))) (.reg k_ref01_held_r17 false)))
def k_ref01_held_r19 : List AOper := [
  ⟨(some (35)), .move (.tmp 6), none, []⟩, 
  ⟨(some (36)), .bin .plain .add (.tmp 35) (.const (.int .i64 1)), none, []⟩, 
  ⟨(some (6)), .move (.tmp 36), none, []⟩]
def k_ref01_held_r20 : ACode := (.seq (.seq (.reg k_ref01_held_r11 false) (.cond (.tmp 34) .skip (.exit 4))) (.seq (.block 5 (.seq (.reg k_ref01_held_r12 false) (.seq (.reg k_ref01_held_r13 false) (.block 6 (.loop k_ref01_held_r18))))) (.reg k_ref01_held_r19 false)))
def k_ref01_held_r21 : ACode := (.seq (.seq (.reg k_ref01_held_r8 false) (.cond (.tmp 29) .skip (.exit 2))) (.block 3 (.seq (.reg k_ref01_held_r9 false) (.seq (.reg k_ref01_held_r10 false) (.block 4 (.loop k_ref01_held_r20))))))
def k_ref01_held_r22 : List AOper := [
  ⟨(some (63)), .move (.tmp 3), none, []⟩, 
  ⟨(some (2)), .move (.tmp 63), none, []⟩]
def k_ref01_held : AFun := { params := 1, ntmps := 64, body := (.seq (.reg k_ref01_held_r0 false) (.seq (.reg k_ref01_held_r1 false) (.seq (.seq (.reg k_ref01_held_r2 false) (.block 0 (.loop k_ref01_held_r6))) (.seq (.seq (.reg k_ref01_held_r7 false) (.block 2 (.loop k_ref01_held_r21))) (.seq (.reg k_ref01_held_r22 false) .ret))))), res := [.tmp 2] }
theorem k_ref01_held_ok : cfun Try.prog Try.f72 = k_ref01_held := by kernel_rfl

def k_ref01_weight_r0 : List AOper := [
  ⟨(some (3)), .box (.tmp 0), none, []⟩, 
  ⟨(some (6)), .move (.const (.int .i64 0)), none, []⟩]
def k_ref01_weight_r1 : List AOper := [
  ⟨(some (9)), .fieldAddr 0 (.tmp 3), none, []⟩, 
  ⟨(some (10)), .load none (.tmp 9), none, []⟩, 
  ⟨(some (11)), .fieldAddr 1 (.tmp 3), none, []⟩, 
  ⟨(some (12)), .load none (.tmp 11), none, []⟩, 
  ⟨(some (13)), .bin .plain .mul (.tmp 10) (.tmp 12), none, []⟩, 
  ⟨(some (7)), .move (.tmp 13), none, []⟩]
def k_ref01_weight_r2 : List AOper := [
  ⟨(some (14)), .move (.tmp 1), none, []⟩, 
  ⟨(some (15)), .move (.tmp 7), none, []⟩, 
  ⟨(some (16)), .bin .plain .sub (.tmp 15) (.const (.int .i64 1)), none, []⟩, 
  ⟨(some (17)), .call (.const (.fn (.func 71) [] [])) [.tmp 14, .const (.int .i64 0), .tmp 16], none, []⟩, 
  ⟨(some (18)), .move (.tmp 17), none, []⟩, 
  ⟨(some (19)), .move (.tmp 2), (some (18, false)), []⟩, 
  ⟨(some (20)), .move (.tmp 7), (some (18, false)), []⟩, 
  ⟨(some (21)), .bin .plain .sub (.tmp 20) (.const (.int .i64 1)), (some (18, false)), []⟩, 
  ⟨(some (22)), .call (.const (.fn (.func 71) [] [])) [.tmp 19, .const (.int .i64 0), .tmp 21], (some (18, false)), []⟩, 
  ⟨(some (23)), .pick (.tmp 18) (.const (.bool true)) (.tmp 22), none, []⟩]
def k_ref01_weight_r3 : List AOper := [
  ⟨(some (6)), .move (.const (.int .i64 0)), none, []⟩]
def k_ref01_weight_r4 : List AOper := [
  ⟨(some (24)), .move (.tmp 1), none, []⟩, 
  ⟨(some (25)), .move (.tmp 2), none, []⟩, 
  ⟨(some (26)), .minmax false [.tmp 24, .tmp 25], none, []⟩, 
  ⟨(some (27)), .move (.tmp 1), none, []⟩, 
  ⟨(some (28)), .move (.tmp 2), none, []⟩, 
  ⟨(some (29)), .minmax true [.tmp 27, .tmp 28], none, []⟩, 
  ⟨(some (1)), .move (.tmp 26), none, []⟩, 
  ⟨(some (2)), .move (.tmp 29), none, []⟩]
def k_ref01_weight_r5 : List AOper := [
  ⟨(some (30)), .move (.tmp 1), none, []⟩, 
  ⟨(some (31)), .fieldAddr 0 (.tmp 3), none, []⟩, 
  ⟨(some (32)), .load none (.tmp 31), none, []⟩, 
  ⟨(some (33)), .bin .plain .rem (.tmp 30) (.tmp 32), none, []⟩, 
  ⟨(some (8)), .move (.tmp 33), none, []⟩]
def k_ref01_weight_r6 : List AOper := [
  ⟨(some (35)), .move (.tmp 2), none, []⟩, 
  ⟨(some (36)), .move (.tmp 1), none, []⟩, 
  ⟨(some (37)), .bin .plain .add (.tmp 36) (.const (.int .i64 1)), none, []⟩, 
  ⟨(some (38)), .bin .plain .eql (.tmp 35) (.tmp 37), none, []⟩, 
  ⟨(some (39)), .move (.tmp 38), none, []⟩, 
  ⟨(some (40)), .move (.tmp 2), (some (39, true)), []⟩, 
  ⟨(some (41)), .fieldAddr 0 (.tmp 3), (some (39, true)), []⟩, 
  ⟨(some (42)), .load none (.tmp 41), (some (39, true)), []⟩, 
  ⟨(some (43)), .bin .plain .rem (.tmp 40) (.tmp 42), (some (39, true)), []⟩, 
  ⟨(some (44)), .bin .plain .gtr (.tmp 43) (.const (.int .i64 0)), (some (39, true)), []⟩, 
  ⟨(some (45)), .pick (.tmp 39) (.tmp 44) (.const (.bool false)), none, []⟩, 
  ⟨(some (34)), .move (.tmp 45), none, []⟩]
def k_ref01_weight_r7 : List AOper := [
  ⟨(some (46)), .fieldAddr 2 (.tmp 3), none, []⟩, 
  ⟨(some (47)), .load none (.tmp 46), none, []⟩]
def k_ref01_weight_r8 : List AOper := [
  ⟨(some (48)), .move (.tmp 8), none, []⟩, 
  ⟨(some (49)), .bin .plain .add (.tmp 48) (.const (.int .i64 1)), none, []⟩, 
  ⟨(some (50)), .bin .plain .mul (.const (.int .i64 2)) (.tmp 49), none, []⟩, 
  ⟨(some (6)), .move (.tmp 50), none, []⟩]
def k_ref01_weight_r9 : List AOper := [
  ⟨(some (6)), .move (.const (.int .i64 1)), none, []⟩]
def k_ref01_weight_r10 : List AOper := [
  ⟨(some (52)), .move (.tmp 2), none, []⟩, 
  ⟨(some (53)), .move (.tmp 1), none, []⟩, 
  ⟨(some (54)), .fieldAddr 0 (.tmp 3), none, []⟩, 
  ⟨(some (55)), .load none (.tmp 54), none, []⟩, 
  ⟨(some (56)), .bin .plain .add (.tmp 53) (.tmp 55), none, []⟩, 
  ⟨(some (57)), .bin .plain .eql (.tmp 52) (.tmp 56), none, []⟩, 
  ⟨(some (51)), .move (.tmp 57), none, []⟩]
def k_ref01_weight_r11 : List AOper := [
  ⟨(some (58)), .fieldAddr 2 (.tmp 3), none, []⟩, 
  ⟨(some (59)), .load none (.tmp 58), none, []⟩]
def k_ref01_weight_r12 : List AOper := [
  ⟨(some (60)), .move (.tmp 8), none, []⟩, 
  ⟨(some (61)), .bin .plain .mul (.const (.int .i64 2)) (.tmp 60), none, []⟩, 
  ⟨(some (62)), .bin .plain .add (.tmp 61) (.const (.int .i64 1)), none, []⟩, 
  ⟨(some (6)), .move (.tmp 62), none, []⟩]
def k_ref01_weight_r13 : List AOper := [
  ⟨(some (6)), .move (.const (.int .i64 1)), none, []⟩]
def k_ref01_weight_r14 : List AOper := [
  ⟨(some (6)), .move (.const (.int .i64 0)), none, []⟩]
def k_ref01_weight : AFun := { params := 3, ntmps := 63, body := (.seq (.reg k_ref01_weight_r0 false) (.seq (.reg k_ref01_weight_r1 false) (.seq (.seq (.reg k_ref01_weight_r2 false) (.cond (.tmp 23) (.seq (.reg k_ref01_weight_r3 false) .ret) .skip)) (.seq (.reg k_ref01_weight_r4 false) (.seq (.reg k_ref01_weight_r5 false) (.seq (.block 0 (.seq (.reg k_ref01_weight_r6 false) (.cond (.tmp 34) (.seq (.seq (.reg k_ref01_weight_r7 false) (.cond (.tmp 47) (.seq (.reg k_ref01_weight_r8 false) .ret) .skip)) (.seq (.reg k_ref01_weight_r9 false) .ret)) (.seq (.reg k_ref01_weight_r10 false) (.cond (.tmp 51) (.seq (.seq (.reg k_ref01_weight_r11 false) (.cond (.tmp 59) (.seq (.reg k_ref01_weight_r12 false) .ret) .skip)) (.seq (.reg k_ref01_weight_r13 false) .ret)) .skip))))) (.seq (.reg k_ref01_weight_r14 false) .ret))))))), res := [.tmp 6] }
theorem k_ref01_weight_ok : cfun Try.prog Try.f99 = k_ref01_weight := by kernel_rfl

def k_ref01_around_r0 : List AOper := [
  ⟨(some (2)), .box (.tmp 0), none, []⟩, 
  ⟨(some (4)), .move (.const (.nilsl)), none, []⟩]
def k_ref01_around_r1 : List AOper := [
  ⟨(some (8)), .move (.tmp 1), none, []⟩, 
  ⟨(some (9)), .fieldAddr 0 (.tmp 2), none, []⟩, 
  ⟨(some (10)), .load none (.tmp 9), none, []⟩, 
  ⟨(some (11)), .bin .plain .sub (.tmp 8) (.tmp 10), none, []⟩, 
  ⟨(some (12)), .move (.tmp 1), none, []⟩, 
  ⟨(some (13)), .bin .plain .sub (.tmp 12) (.const (.int .i64 1)), none, []⟩, 
  ⟨(some (14)), .move (.tmp 1), none, []⟩, 
  ⟨(some (15)), .bin .plain .add (.tmp 14) (.const (.int .i64 1)), none, []⟩, 
  ⟨(some (16)), .move (.tmp 1), none, []⟩, 
  ⟨(some (17)), .fieldAddr 0 (.tmp 2), none, []⟩, 
  ⟨(some (18)), .load none (.tmp 17), none, []⟩, 
  ⟨(some (19)), .bin .plain .add (.tmp 16) (.tmp 18), none, []⟩, 
  ⟨(some (20)), .buildSlice 1 [.tmp 11, .tmp 13, .tmp 15, .tmp 19], none, []⟩, 
  ⟨(some (5)), .move (.tmp 20), none, []⟩]
def k_ref01_around_r2 : List AOper := [
  ⟨(some (21)), .fieldAddr 0 (.tmp 2), none, []⟩, 
  ⟨(some (22)), .load none (.tmp 21), none, []⟩, 
  ⟨(some (23)), .bin .plain .eql (.tmp 22) (.const (.int .i64 1)), none, []⟩]
def k_ref01_around_r3 : List AOper := [
  ⟨(some (24)), .move (.tmp 1), none, []⟩, 
  ⟨(some (25)), .bin .plain .sub (.tmp 24) (.const (.int .i64 1)), none, []⟩, 
  ⟨(some (26)), .move (.tmp 1), none, []⟩, 
  ⟨(some (27)), .bin .plain .add (.tmp 26) (.const (.int .i64 1)), none, []⟩, 
  ⟨(some (28)), .buildSlice 1 [.tmp 25, .tmp 27], none, []⟩, 
  ⟨(some (5)), .move (.tmp 28), none, []⟩]
def k_ref01_around_r4 : List AOper := [
  ⟨(some (6)), .move (.const (.nilsl)), none, []⟩]
def k_ref01_around_r5 : List AOper := [
  ⟨(some (7)), .move (.const (.int .i64 0)), none, []⟩]
def k_ref01_around_r6 : List AOper := [
  ⟨(some (29)), .move (.tmp 7), none, []⟩, 
  ⟨(some (30)), .move (.tmp 5), none, []⟩, 
  ⟨(some (31)), .len false (.tmp 30), none, []⟩, 
  ⟨(some (32)), .bin .plain .lss (.tmp 29) (.tmp 31), none, []⟩]
def k_ref01_around_r7 : List AOper := [
  ⟨(some (35)), .load (some (4)) (.tmp 2), none, []⟩, 
  ⟨(some (36)), .move (.tmp 1), none, [0]⟩, 
  ⟨(some (37)), .move (.tmp 5), none, [0, 1]⟩, 
  ⟨(some (38)), .move (.tmp 7), none, [0, 1, 2]⟩, 
  ⟨(some (39)), .indexAddr 1 (.tmp 37) (.tmp 38), none, [0, 1]⟩, 
  ⟨(some (40)), .load none (.tmp 39), none, [0, 1]⟩, 
  ⟨(some (41)), .call (.const (.fn (.func 99) [] [])) [.tmp 35, .tmp 36, .tmp 40], none, []⟩, 
  ⟨(some (42)), .bin .plain .gtr (.tmp 41) (.const (.int .i64 0)), none, []⟩]
def k_ref01_around_r7s : List (List AOper) := [
  [
  ⟨(some (35)), .load (some (4)) (.tmp 2), none, []⟩, 
  ⟨(some (36)), .move (.tmp 1), none, [0]⟩, 
  ⟨(some (37)), .move (.tmp 5), none, [0, 1]⟩, 
  ⟨(some (38)), .move (.tmp 7), none, [0, 1, 2]⟩, 
  ⟨(some (39)), .indexAddr 1 (.tmp 37) (.tmp 38), none, [0, 1]⟩, 
  ⟨(some (40)), .load none (.tmp 39), none, [0, 1]⟩], 
  [
  ⟨(some (41)), .call (.const (.fn (.func 99) [] [])) [.tmp 35, .tmp 36, .tmp 40], none, []⟩], 
  [
  ⟨(some (42)), .bin .plain .gtr (.tmp 41) (.const (.int .i64 0)), none, []⟩]]
theorem k_ref01_around_r7_sg : segs k_ref01_around_r7 = k_ref01_around_r7s := by kernel_rfl
theorem k_ref01_around_r7_st : statOK k_ref01_around_r7 = true := by kernel_rfl
def k_ref01_around_r8 : List AOper := [
  ⟨(some (43)), .move (.tmp 6), none, []⟩, 
  ⟨(some (44)), .move (.tmp 5), none, []⟩, 
  ⟨(some (45)), .move (.tmp 7), none, []⟩, 
  ⟨(some (46)), .indexAddr 1 (.tmp 44) (.tmp 45), none, []⟩, 
  ⟨(some (47)), .load none (.tmp 46), none, []⟩, 
  ⟨(some (48)), .buildSlice 1 [.tmp 47], none, []⟩, 
  ⟨(some (49)), .append 1 8 false (.tmp 43) (.tmp 48), none, []⟩, 
  ⟨(some (6)), .move (.tmp 49), none, []⟩]
def k_ref01_around_r9 : List AOper := [
  ⟨(some (33)), .move (.tmp 7), none, []⟩, 
  ⟨(some (34)), .bin .plain .add (.tmp 33) (.const (.int .i64 1)), none, []⟩, 
  ⟨(some (7)), .move (.tmp 34), none, []⟩]
def k_ref01_around_r10 : ACode := (.seq (.seq (.reg k_ref01_around_r6 false) (.cond (.tmp 32) .skip (.exit 0))) (.seq (.block 1 (.seq (.reg k_ref01_around_r7 true) (.cond (.tmp 42) (.reg k_ref01_around_r8 false) .skip))) (.reg k_ref01_around_r9 false)))
def k_ref01_around_r11 : List AOper := [
  ⟨(some (50)), .move (.tmp 6), none, []⟩, 
  ⟨(some (4)), .move (.tmp 50), none, []⟩]
def k_ref01_around : AFun := { params := 2, ntmps := 51, body := (.seq (.reg k_ref01_around_r0 false) (.seq (.reg k_ref01_around_r1 false) (.seq (.seq (.reg k_ref01_around_r2 false) (.cond (.tmp 23) (.reg k_ref01_around_r3 false) .skip)) (.seq (.reg k_ref01_around_r4 false) (.seq (.seq (.reg k_ref01_around_r5 false) (.block 0 (.loop k_ref01_around_r10))) (.seq (.reg k_ref01_around_r11 false) .ret)))))), res := [.tmp 4] }
theorem k_ref01_around_ok : cfun Try.prog Try.f101 = k_ref01_around := by kernel_rfl


abbrev n_ref01_Check : Nat := 27
theorem e_ref01_Check : EntryOK Try.prog n_ref01_Check k_ref01_Check := ⟨Try.f27, Try.func27, k_ref01_Check_ok, by kernel_rfl⟩
abbrev n_ref01_beyond : Nat := 71
theorem e_ref01_beyond : EntryOK Try.prog n_ref01_beyond k_ref01_beyond := ⟨Try.f71, Try.func71, k_ref01_beyond_ok, by kernel_rfl⟩
abbrev n_ref01_held : Nat := 72
theorem e_ref01_held : EntryOK Try.prog n_ref01_held k_ref01_held := ⟨Try.f72, Try.func72, k_ref01_held_ok, by kernel_rfl⟩
abbrev n_ref01_weight : Nat := 99
theorem e_ref01_weight : EntryOK Try.prog n_ref01_weight k_ref01_weight := ⟨Try.f99, Try.func99, k_ref01_weight_ok, by kernel_rfl⟩
abbrev n_ref01_around : Nat := 101
theorem e_ref01_around : EntryOK Try.prog n_ref01_around k_ref01_around := ⟨Try.f101, Try.func101, k_ref01_around_ok, by kernel_rfl⟩

attribute [go_sem] k_ref01_Check_r0 k_ref01_Check_r1 k_ref01_Check_r2
attribute [go_sem] k_ref01_Check_r3 k_ref01_Check_r4 k_ref01_Check_r5 k_ref01_Check_r6 k_ref01_Check_r7 k_ref01_Check_r8 k_ref01_Check_r9 k_ref01_Check_r10 k_ref01_Check_r11 k_ref01_Check_r13 k_ref01_Check_r14 k_ref01_Check_r15
attribute [go_sem] k_ref01_Check_r16 k_ref01_Check_r17 k_ref01_Check_r18 k_ref01_Check_r19 k_ref01_Check_r20 k_ref01_Check_r22
attribute [go_sem] k_ref01_beyond_r0 k_ref01_beyond_r1 k_ref01_held_r0 k_ref01_held_r1 k_ref01_held_r2 k_ref01_held_r3 k_ref01_held_r4 k_ref01_held_r5 k_ref01_held_r7 k_ref01_held_r8 k_ref01_held_r9 k_ref01_held_r10
attribute [go_sem] k_ref01_held_r11 k_ref01_held_r12 k_ref01_held_r13 k_ref01_held_r14 k_ref01_held_r15 k_ref01_held_r16 k_ref01_held_r17 k_ref01_held_r19 k_ref01_held_r22
attribute [go_sem] k_ref01_weight_r0
attribute [go_sem] k_ref01_weight_r1 k_ref01_weight_r2 k_ref01_weight_r3 k_ref01_weight_r4 k_ref01_weight_r5 k_ref01_weight_r6 k_ref01_weight_r7 k_ref01_weight_r8 k_ref01_weight_r9 k_ref01_weight_r10 k_ref01_weight_r11 k_ref01_weight_r12
attribute [go_sem] k_ref01_weight_r13 k_ref01_weight_r14 k_ref01_around_r0 k_ref01_around_r1 k_ref01_around_r2 k_ref01_around_r3 k_ref01_around_r4 k_ref01_around_r5 k_ref01_around_r6 k_ref01_around_r7s k_ref01_around_r8 k_ref01_around_r9
attribute [go_sem] k_ref01_around_r11 k_ref01_around_r7_sg
attribute [go_sem] k_ref01_around_r7_st k_ref01_Check
attribute [go_sem] k_ref01_beyond k_ref01_held k_ref01_weight
attribute [go_sem] k_ref01_around
end Go.Proofs

namespace Go.Proofs
open Go Go.Sx

end Go.Proofs

namespace Go.Proofs
open Go Go.Sx

end Go.Proofs

namespace Go.Proofs
open Go Go.Sx

end Go.Proofs

namespace Go.Proofs
open Go Go.Sx

end Go.Proofs

namespace Go.Proofs
open Go Go.Sx

end Go.Proofs

namespace Go.Proofs
open Go Go.Sx

def k_ref01_Weight_r0 : List AOper := [
  ⟨(some (3)), .box (.tmp 0), none, []⟩, 
  ⟨(some (6)), .move (.const (.int .i64 0)), none, []⟩]
def k_ref01_Weight_r1 : List AOper := [
  ⟨(some (7)), .load (some (4)) (.tmp 3), none, []⟩, 
  ⟨(some (8)), .call (.const (.fn (.func 27) [] [])) [.tmp 7], none, []⟩, 
  ⟨(some (9)), .bin .plain .neq (.tmp 8) (.const (.int .i64 0)), none, []⟩]
def k_ref01_Weight_r2 : List AOper := [
  ⟨(some (6)), .move (.const (.int .i64 0)), none, []⟩]
def k_ref01_Weight_r3 : List AOper := [
  ⟨(some (10)), .load (some (4)) (.tmp 3), none, []⟩, 
  ⟨(some (11)), .move (.tmp 1), none, []⟩, 
  ⟨(some (12)), .move (.tmp 2), none, []⟩, 
  ⟨(some (13)), .call (.const (.fn (.func 99) [] [])) [.tmp 10, .tmp 11, .tmp 12], none, []⟩, 
  ⟨(some (6)), .move (.tmp 13), none, []⟩]
def k_ref01_Weight : AFun := { params := 3, ntmps := 14, body := (.seq (.reg k_ref01_Weight_r0 false) (.seq (.seq (.reg k_ref01_Weight_r1 false) (.cond (.tmp 9) (.seq (.reg k_ref01_Weight_r2 false) .ret) .skip)) (.seq (.reg k_ref01_Weight_r3 false) .ret))), res := [.tmp 6] }
theorem k_ref01_Weight_ok : cfun Try.prog Try.f55 = k_ref01_Weight := by kernel_rfl

abbrev n_ref01_Weight : Nat := 55
theorem e_ref01_Weight : EntryOK Try.prog n_ref01_Weight k_ref01_Weight := ⟨Try.f55, Try.func55, k_ref01_Weight_ok, by kernel_rfl⟩
attribute [go_sem] k_ref01_Weight_r0 k_ref01_Weight_r1 k_ref01_Weight_r2 k_ref01_Weight_r3
attribute [go_sem] k_ref01_Weight
end Go.Proofs

namespace Go.Proofs
open Go Go.Sx

def k_law01_FieldExact_r0 : List AOper := [
  ⟨(some (4)), .move (.const (.bool false)), none, []⟩]
def k_law01_FieldExact_r1 : List AOper := [
  ⟨(some (22)), .move (.tmp 0), none, []⟩, 
  ⟨(some (23)), .call (.const (.fn (.func 22) [] [])) [.tmp 22], none, []⟩, 
  ⟨(some (5)), .move (.tmp 23), none, []⟩]
def k_law01_FieldExact_r2 : List AOper := [
  ⟨(some (24)), .move (.tmp 5), none, []⟩, 
  ⟨(some (25)), .call (.const (.fn (.func 21) [] [])) [.tmp 24, .const (.int .i64 3), .const (.int .i64 3)], none, []⟩, 
  ⟨(some (6)), .box (.const (.agg [.int .i64 0, .int .i64 0, .bool false, .nilsl])), none, []⟩, 
  ⟨none, .store 4 (.tmp 6) (.tmp 25), none, []⟩]
def k_law01_FieldExact_r3 : List AOper := [
  ⟨(some (7)), .move (.const (.nilsl)), none, []⟩]
def k_law01_FieldExact_r4 : List AOper := [
  ⟨(some (8)), .move (.const (.int .i64 0)), none, []⟩]
def k_law01_FieldExact_r5 : List AOper := [
  ⟨(some (26)), .move (.tmp 8), none, []⟩, 
  ⟨(some (27)), .fieldAddr 3 (.tmp 6), none, []⟩, 
  ⟨(some (28)), .load none (.tmp 27), none, []⟩, 
  ⟨(some (29)), .len false (.tmp 28), none, []⟩, 
  ⟨(some (30)), .bin .plain .lss (.tmp 26) (.tmp 29), none, []⟩]
def k_law01_FieldExact_r6 : List AOper := [
  ⟨(some (33)), .fieldAddr 3 (.tmp 6), none, []⟩, 
  ⟨(some (34)), .load none (.tmp 33), none, []⟩, 
  ⟨(some (35)), .move (.tmp 8), none, []⟩, 
  ⟨(some (36)), .indexAddr 1 (.tmp 34) (.tmp 35), none, []⟩, 
  ⟨(some (37)), .load none (.tmp 36), none, []⟩, 
  ⟨(some (38)), .bin .plain .eql (.tmp 37) (.const (.int .i64 0)), none, []⟩, 
  ⟨(some (39)), .move (.tmp 38), none, []⟩, 
  ⟨(some (40)), .move (.tmp 7), (some (39, true)), []⟩, 
  ⟨(some (41)), .len false (.tmp 40), (some (39, true)), []⟩, 
  ⟨(some (42)), .bin .plain .eql (.tmp 41) (.const (.int .i64 4)), (some (39, true)), []⟩, 
  ⟨(some (43)), .pick (.tmp 39) (.tmp 42) (.const (.bool false)), none, []⟩]
def k_law01_FieldExact_r7 : List AOper := [
  ⟨(some (44)), .fieldAddr 3 (.tmp 6), none, []⟩, 
  ⟨(some (45)), .load none (.tmp 44), none, []⟩, 
  ⟨(some (46)), .move (.tmp 8), none, [0, 1]⟩, 
  ⟨(some (47)), .move (.tmp 5), none, [0, 1, 2]⟩, 
  ⟨(some (48)), .call (.const (.fn (.func 54) [] [])) [.tmp 47, .const (.int .i64 1), .const (.int .i64 3)], none, [0, 1, 2]⟩, 
  ⟨(some (49)), .indexAddr 1 (.tmp 45) (.tmp 46), none, []⟩, 
  ⟨none, .store 1 (.tmp 49) (.tmp 48), none, []⟩]
def k_law01_FieldExact_r7s : List (List AOper) := [
  [
  ⟨(some (44)), .fieldAddr 3 (.tmp 6), none, []⟩, 
  ⟨(some (45)), .load none (.tmp 44), none, []⟩, 
  ⟨(some (46)), .move (.tmp 8), none, [0, 1]⟩, 
  ⟨(some (47)), .move (.tmp 5), none, [0, 1, 2]⟩, 
  ⟨(some (48)), .call (.const (.fn (.func 54) [] [])) [.tmp 47, .const (.int .i64 1), .const (.int .i64 3)], none, [0, 1, 2]⟩], 
  [
  ⟨(some (49)), .indexAddr 1 (.tmp 45) (.tmp 46), none, []⟩], 
  [
  ⟨none, .store 1 (.tmp 49) (.tmp 48), none, []⟩]]
theorem k_law01_FieldExact_r7_sg : segs k_law01_FieldExact_r7 = k_law01_FieldExact_r7s := by kernel_rfl
theorem k_law01_FieldExact_r7_st : statOK k_law01_FieldExact_r7 = true := by kernel_rfl
def k_law01_FieldExact_r8 : List AOper := [
  ⟨(some (50)), .fieldAddr 3 (.tmp 6), none, []⟩, 
  ⟨(some (51)), .load none (.tmp 50), none, []⟩, 
  ⟨(some (52)), .move (.tmp 8), none, []⟩, 
  ⟨(some (53)), .indexAddr 1 (.tmp 51) (.tmp 52), none, []⟩, 
  ⟨(some (54)), .load none (.tmp 53), none, []⟩, 
  ⟨(some (55)), .bin .plain .eql (.tmp 54) (.const (.int .i64 0)), none, []⟩]
def k_law01_FieldExact_r9 : List AOper := [
  ⟨(some (56)), .move (.tmp 7), none, []⟩, 
  ⟨(some (57)), .move (.tmp 8), none, []⟩, 
  ⟨(some (58)), .buildSlice 1 [.tmp 57], none, []⟩, 
  ⟨(some (59)), .append 1 8 false (.tmp 56) (.tmp 58), none, []⟩, 
  ⟨(some (7)), .move (.tmp 59), none, []⟩]
def k_law01_FieldExact_r10 : List AOper := [
  ⟨(some (31)), .move (.tmp 8), none, []⟩, 
  ⟨(some (32)), .bin .plain .add (.tmp 31) (.const (.int .i64 1)), none, []⟩, 
  ⟨(some (8)), .move (.tmp 32), none, []⟩]
def k_law01_FieldExact_r11 : ACode := (.seq (.seq (.reg k_law01_FieldExact_r5 false) (.cond (.tmp 30) .skip (.exit 0))) (.seq (.block 1 (.seq (.seq (.reg k_law01_FieldExact_r6 false) (.cond (.tmp 43) (.reg k_law01_FieldExact_r7 true) .skip)) (.seq (.reg k_law01_FieldExact_r8 false) (.cond (.tmp 55) (.reg k_law01_FieldExact_r9 false) .skip)))) (.reg k_law01_FieldExact_r10 false)))
def k_law01_FieldExact_r12 : List AOper := [
  ⟨(some (60)), .move (.tmp 5), none, []⟩, 
  ⟨(some (61)), .load (some (4)) (.tmp 6), none, []⟩, 
  ⟨(some (62)), .call (.const (.fn (.func 37) [] [])) [.tmp 60, .tmp 61], none, []⟩, 
  ⟨(some (9)), .move (.tmp 62), none, []⟩]
def k_law01_FieldExact_r13 : List AOper := [
  ⟨(some (10)), .move (.const (.int .i64 0)), none, []⟩]
def k_law01_FieldExact_r14 : List AOper := [
  ⟨(some (63)), .move (.tmp 10), none, []⟩, 
  ⟨(some (64)), .move (.tmp 9), none, []⟩, 
  ⟨(some (65)), .len false (.tmp 64), none, []⟩, 
  ⟨(some (66)), .bin .plain .lss (.tmp 63) (.tmp 65), none, []⟩]
def k_law01_FieldExact_r15 : List AOper := [
  ⟨(some (69)), .move (.tmp 9), none, []⟩, 
  ⟨(some (70)), .move (.tmp 10), none, []⟩, 
  ⟨(some (71)), .move (.tmp 9), none, []⟩, 
  ⟨(some (72)), .move (.tmp 10), none, []⟩, 
  ⟨(some (73)), .indexAddr 1 (.tmp 71) (.tmp 72), none, []⟩, 
  ⟨(some (74)), .load none (.tmp 73), none, []⟩, 
  ⟨(some (75)), .bin .plain .rem (.tmp 74) (.const (.int .i64 1001)), none, []⟩, 
  ⟨(some (76)), .indexAddr 1 (.tmp 69) (.tmp 70), none, []⟩, 
  ⟨none, .store 1 (.tmp 76) (.tmp 75), none, []⟩]
def k_law01_FieldExact_r16 : List AOper := [
  ⟨(some (67)), .move (.tmp 10), none, []⟩, 
  ⟨(some (68)), .bin .plain .add (.tmp 67) (.const (.int .i64 1)), none, []⟩, 
  ⟨(some (10)), .move (.tmp 68), none, []⟩]
def k_law01_FieldExact_r17 : ACode := (.seq (.seq (.reg k_law01_FieldExact_r14 false) (.cond (.tmp 66) .skip (.exit 2))) (.seq (.block 3 (.reg k_law01_FieldExact_r15 false)) (.reg k_law01_FieldExact_r16 false)))
def k_law01_FieldExact_r18 : List AOper := [
  ⟨(some (78)), .load (some (4)) (.tmp 6), none, []⟩, 
  ⟨(some (79)), .move (.tmp 9), none, [0]⟩, 
  ⟨(some (80)), .move (.tmp 1), none, [0, 1]⟩, 
  ⟨(some (81)), .call (.const (.fn (.func 23) [] [])) [.tmp 80, .const (.int .i64 31)], none, [0, 1]⟩, 
  ⟨(some (82)), .call (.const (.fn (.func 38) [] [])) [.tmp 78, .tmp 79, .tmp 81], none, []⟩, 
  ⟨(some (77)), .move (.tmp 82), none, []⟩, 
  ⟨(some (83)), .extract (.tmp 77) 0, none, []⟩, 
  ⟨(some (84)), .extract (.tmp 77) 1, none, [6]⟩, 
  ⟨(some (11)), .box (.const (.agg [.nilsl, .nilsl, .int .i64 0, .bool false])), none, [0, 1, 2, 3, 4, 5, 6, 7]⟩, 
  ⟨none, .store 4 (.tmp 11) (.tmp 83), none, [7]⟩, 
  ⟨(some (12)), .move (.tmp 84), none, []⟩]
def k_law01_FieldExact_r18s : List (List AOper) := [
  [
  ⟨(some (78)), .load (some (4)) (.tmp 6), none, []⟩, 
  ⟨(some (79)), .move (.tmp 9), none, [0]⟩, 
  ⟨(some (80)), .move (.tmp 1), none, [0, 1]⟩, 
  ⟨(some (81)), .call (.const (.fn (.func 23) [] [])) [.tmp 80, .const (.int .i64 31)], none, [0, 1]⟩, 
  ⟨(some (82)), .call (.const (.fn (.func 38) [] [])) [.tmp 78, .tmp 79, .tmp 81], none, []⟩, 
  ⟨(some (77)), .move (.tmp 82), none, []⟩, 
  ⟨(some (83)), .extract (.tmp 77) 0, none, []⟩, 
  ⟨(some (84)), .extract (.tmp 77) 1, none, [6]⟩, 
  ⟨(some (11)), .box (.const (.agg [.nilsl, .nilsl, .int .i64 0, .bool false])), none, [0, 1, 2, 3, 4, 5, 6, 7]⟩, 
  ⟨none, .store 4 (.tmp 11) (.tmp 83), none, [7]⟩], 
  [
  ⟨(some (12)), .move (.tmp 84), none, []⟩]]
theorem k_law01_FieldExact_r18_sg : segs k_law01_FieldExact_r18 = k_law01_FieldExact_r18s := by kernel_rfl
theorem k_law01_FieldExact_r18_st : statOK k_law01_FieldExact_r18 = true := by kernel_rfl
def k_law01_FieldExact_r19 : List AOper := [
  ⟨(some (85)), .move (.tmp 12), none, []⟩, 
  ⟨(some (86)), .bin .plain .neq (.tmp 85) (.const (.int .i64 0)), none, []⟩, 
  ⟨(some (87)), .move (.tmp 86), none, []⟩, 
  ⟨(some (88)), .fieldAddr 0 (.tmp 11), (some (87, false)), []⟩, 
  ⟨(some (89)), .load none (.tmp 88), (some (87, false)), []⟩, 
  ⟨(some (90)), .len false (.tmp 89), (some (87, false)), []⟩, 
  ⟨(some (91)), .fieldAddr 3 (.tmp 6), (some (87, false)), []⟩, 
  ⟨(some (92)), .load none (.tmp 91), (some (87, false)), []⟩, 
  ⟨(some (93)), .len false (.tmp 92), (some (87, false)), []⟩, 
  ⟨(some (94)), .bin .plain .neq (.tmp 90) (.tmp 93), (some (87, false)), []⟩, 
  ⟨(some (95)), .pick (.tmp 87) (.const (.bool true)) (.tmp 94), none, []⟩, 
  ⟨(some (96)), .move (.tmp 95), none, []⟩, 
  ⟨(some (97)), .fieldAddr 1 (.tmp 11), (some (96, false)), []⟩, 
  ⟨(some (98)), .load none (.tmp 97), (some (96, false)), []⟩, 
  ⟨(some (99)), .len false (.tmp 98), (some (96, false)), []⟩, 
  ⟨(some (100)), .fieldAddr 3 (.tmp 6), (some (96, false)), []⟩, 
  ⟨(some (101)), .load none (.tmp 100), (some (96, false)), []⟩, 
  ⟨(some (102)), .len false (.tmp 101), (some (96, false)), []⟩, 
  ⟨(some (103)), .bin .plain .neq (.tmp 99) (.tmp 102), (some (96, false)), []⟩, 
  ⟨(some (104)), .pick (.tmp 96) (.const (.bool true)) (.tmp 103), none, []⟩]
def k_law01_FieldExact_r20 : List AOper := [
  ⟨(some (4)), .move (.const (.bool false)), none, []⟩]
def k_law01_FieldExact_r21 : List AOper := [
  ⟨(some (105)), .move (.tmp 7), none, []⟩, 
  ⟨(some (106)), .len false (.tmp 105), none, []⟩, 
  ⟨(some (107)), .makeSlice (.nilsl) 24 (.tmp 106) (.tmp 106), none, []⟩, 
  ⟨(some (108)), .move (.tmp 7), none, [0, 1, 2]⟩, 
  ⟨(some (109)), .len false (.tmp 108), none, [0, 1, 2]⟩, 
  ⟨(some (110)), .makeSlice (.int .i64 0) 8 (.tmp 109) (.tmp 109), none, [0, 1, 2]⟩, 
  ⟨(some (13)), .move (.tmp 107), none, [3, 4, 5]⟩, 
  ⟨(some (14)), .move (.tmp 110), none, []⟩]
def k_law01_FieldExact_r21s : List (List AOper) := [
  [
  ⟨(some (105)), .move (.tmp 7), none, []⟩, 
  ⟨(some (106)), .len false (.tmp 105), none, []⟩, 
  ⟨(some (107)), .makeSlice (.nilsl) 24 (.tmp 106) (.tmp 106), none, []⟩, 
  ⟨(some (108)), .move (.tmp 7), none, [0, 1, 2]⟩, 
  ⟨(some (109)), .len false (.tmp 108), none, [0, 1, 2]⟩, 
  ⟨(some (110)), .makeSlice (.int .i64 0) 8 (.tmp 109) (.tmp 109), none, [0, 1, 2]⟩, 
  ⟨(some (13)), .move (.tmp 107), none, [3, 4, 5]⟩], 
  [
  ⟨(some (14)), .move (.tmp 110), none, []⟩]]
theorem k_law01_FieldExact_r21_sg : segs k_law01_FieldExact_r21 = k_law01_FieldExact_r21s := by kernel_rfl
theorem k_law01_FieldExact_r21_st : statOK k_law01_FieldExact_r21 = true := by kernel_rfl
def k_law01_FieldExact_r22 : List AOper := [
  ⟨(some (15)), .move (.const (.int .i64 0)), none, []⟩]
def k_law01_FieldExact_r23 : List AOper := [
  ⟨(some (111)), .move (.tmp 15), none, []⟩, 
  ⟨(some (112)), .move (.tmp 7), none, []⟩, 
  ⟨(some (113)), .len false (.tmp 112), none, []⟩, 
  ⟨(some (114)), .bin .plain .lss (.tmp 111) (.tmp 113), none, []⟩]
def k_law01_FieldExact_r24 : List AOper := [
  ⟨(some (117)), .move (.tmp 13), none, []⟩, 
  ⟨(some (118)), .move (.tmp 15), none, []⟩, 
  ⟨(some (119)), .move (.tmp 7), none, []⟩, 
  ⟨(some (120)), .len false (.tmp 119), none, []⟩, 
  ⟨(some (121)), .makeSlice (.int .i64 0) 8 (.tmp 120) (.tmp 120), none, []⟩, 
  ⟨(some (122)), .indexAddr 1 (.tmp 117) (.tmp 118), none, []⟩, 
  ⟨none, .store 1 (.tmp 122) (.tmp 121), none, []⟩]
def k_law01_FieldExact_r25 : List AOper := [
  ⟨(some (16)), .move (.const (.int .i64 0)), none, []⟩]
def k_law01_FieldExact_r26 : List AOper := [
  ⟨(some (123)), .move (.tmp 16), none, []⟩, 
  ⟨(some (124)), .fieldAddr 3 (.tmp 6), none, []⟩, 
  ⟨(some (125)), .load none (.tmp 124), none, []⟩, 
  ⟨(some (126)), .len false (.tmp 125), none, []⟩, 
  ⟨(some (127)), .bin .plain .lss (.tmp 123) (.tmp 126), none, []⟩]
def k_law01_FieldExact_r27 : List AOper := [
  ⟨(some (130)), .load (some (4)) (.tmp 6), none, []⟩, 
  ⟨(some (131)), .move (.tmp 7), none, [0]⟩, 
  ⟨(some (132)), .move (.tmp 15), none, [0, 1]⟩, 
  ⟨(some (133)), .indexAddr 1 (.tmp 131) (.tmp 132), none, [0]⟩, 
  ⟨(some (134)), .load none (.tmp 133), none, [0]⟩, 
  ⟨(some (135)), .move (.tmp 16), none, [0, 1, 2, 3, 4]⟩, 
  ⟨(some (136)), .call (.const (.fn (.func 55) [] [])) [.tmp 130, .tmp 134, .tmp 135], none, []⟩, 
  ⟨(some (17)), .move (.tmp 136), none, []⟩]
def k_law01_FieldExact_r27s : List (List AOper) := [
  [
  ⟨(some (130)), .load (some (4)) (.tmp 6), none, []⟩, 
  ⟨(some (131)), .move (.tmp 7), none, [0]⟩, 
  ⟨(some (132)), .move (.tmp 15), none, [0, 1]⟩, 
  ⟨(some (133)), .indexAddr 1 (.tmp 131) (.tmp 132), none, [0]⟩, 
  ⟨(some (134)), .load none (.tmp 133), none, [0]⟩, 
  ⟨(some (135)), .move (.tmp 16), none, [0, 1, 2, 3, 4]⟩], 
  [
  ⟨(some (136)), .call (.const (.fn (.func 55) [] [])) [.tmp 130, .tmp 134, .tmp 135], none, []⟩], 
  [
  ⟨(some (17)), .move (.tmp 136), none, []⟩]]
theorem k_law01_FieldExact_r27_sg : segs k_law01_FieldExact_r27 = k_law01_FieldExact_r27s := by kernel_rfl
theorem k_law01_FieldExact_r27_st : statOK k_law01_FieldExact_r27 = true := by kernel_rfl
def k_law01_FieldExact_r28 : List AOper := [
  ⟨(some (137)), .move (.tmp 13), none, []⟩, 
  ⟨(some (138)), .move (.tmp 15), none, [0]⟩, 
  ⟨(some (139)), .indexAddr 1 (.tmp 137) (.tmp 138), none, []⟩, 
  ⟨(some (140)), .load none (.tmp 139), none, []⟩, 
  ⟨(some (141)), .move (.tmp 15), none, [0, 1, 2, 3]⟩, 
  ⟨(some (142)), .move (.tmp 13), none, [0, 1, 2, 3, 4]⟩, 
  ⟨(some (143)), .move (.tmp 15), none, [0, 1, 2, 3, 4, 5]⟩, 
  ⟨(some (144)), .indexAddr 1 (.tmp 142) (.tmp 143), none, [0, 1, 2, 3, 4]⟩, 
  ⟨(some (145)), .load none (.tmp 144), none, [0, 1, 2, 3, 4]⟩, 
  ⟨(some (146)), .move (.tmp 15), none, [0, 1, 2, 3, 4, 5, 6, 7, 8]⟩, 
  ⟨(some (147)), .indexAddr 1 (.tmp 145) (.tmp 146), none, [0, 1, 2, 3, 4]⟩, 
  ⟨(some (148)), .load none (.tmp 147), none, [0, 1, 2, 3, 4]⟩, 
  ⟨(some (149)), .move (.tmp 17), none, [0, 1, 2, 3, 4, 5, 6, 7, 8, 9, 10, 11]⟩, 
  ⟨(some (150)), .bin .plain .add (.tmp 148) (.tmp 149), none, [0, 1, 2, 3, 4]⟩, 
  ⟨(some (151)), .indexAddr 1 (.tmp 140) (.tmp 141), none, []⟩, 
  ⟨none, .store 1 (.tmp 151) (.tmp 150), none, []⟩]
def k_law01_FieldExact_r28s : List (List AOper) := [
  [
  ⟨(some (137)), .move (.tmp 13), none, []⟩, 
  ⟨(some (138)), .move (.tmp 15), none, [0]⟩, 
  ⟨(some (139)), .indexAddr 1 (.tmp 137) (.tmp 138), none, []⟩, 
  ⟨(some (140)), .load none (.tmp 139), none, []⟩, 
  ⟨(some (141)), .move (.tmp 15), none, [0, 1, 2, 3]⟩, 
  ⟨(some (142)), .move (.tmp 13), none, [0, 1, 2, 3, 4]⟩, 
  ⟨(some (143)), .move (.tmp 15), none, [0, 1, 2, 3, 4, 5]⟩, 
  ⟨(some (144)), .indexAddr 1 (.tmp 142) (.tmp 143), none, [0, 1, 2, 3, 4]⟩, 
  ⟨(some (145)), .load none (.tmp 144), none, [0, 1, 2, 3, 4]⟩, 
  ⟨(some (146)), .move (.tmp 15), none, [0, 1, 2, 3, 4, 5, 6, 7, 8]⟩, 
  ⟨(some (147)), .indexAddr 1 (.tmp 145) (.tmp 146), none, [0, 1, 2, 3, 4]⟩, 
  ⟨(some (148)), .load none (.tmp 147), none, [0, 1, 2, 3, 4]⟩, 
  ⟨(some (149)), .move (.tmp 17), none, [0, 1, 2, 3, 4, 5, 6, 7, 8, 9, 10, 11]⟩, 
  ⟨(some (150)), .bin .plain .add (.tmp 148) (.tmp 149), none, [0, 1, 2, 3, 4]⟩], 
  [
  ⟨(some (151)), .indexAddr 1 (.tmp 140) (.tmp 141), none, []⟩], 
  [
  ⟨none, .store 1 (.tmp 151) (.tmp 150), none, []⟩]]
theorem k_law01_FieldExact_r28_sg : segs k_law01_FieldExact_r28 = k_law01_FieldExact_r28s := by kernel_rfl
theorem k_law01_FieldExact_r28_st : statOK k_law01_FieldExact_r28 = true := by kernel_rfl
def k_law01_FieldExact_r29 : List AOper := [
  ⟨(some (152)), .fieldAddr 3 (.tmp 6), none, []⟩, 
  ⟨(some (153)), .load none (.tmp 152), none, []⟩, 
  ⟨(some (154)), .move (.tmp 16), none, []⟩, 
  ⟨(some (155)), .indexAddr 1 (.tmp 153) (.tmp 154), none, []⟩, 
  ⟨(some (156)), .load none (.tmp 155), none, []⟩, 
  ⟨(some (157)), .bin .plain .gtr (.tmp 156) (.const (.int .i64 0)), none, []⟩]
def k_law01_FieldExact_r30 : List AOper := [
  ⟨(some (158)), .move (.tmp 14), none, []⟩, 
  ⟨(some (159)), .move (.tmp 15), none, [0]⟩, 
  ⟨(some (160)), .move (.tmp 14), none, [0, 1]⟩, 
  ⟨(some (161)), .move (.tmp 15), none, [0, 1, 2]⟩, 
  ⟨(some (162)), .indexAddr 1 (.tmp 160) (.tmp 161), none, [0, 1]⟩, 
  ⟨(some (163)), .load none (.tmp 162), none, [0, 1]⟩, 
  ⟨(some (164)), .move (.tmp 17), none, [0, 1, 2, 3, 4, 5]⟩, 
  ⟨(some (165)), .move (.tmp 9), none, [0, 1, 2, 3, 4, 5, 6]⟩, 
  ⟨(some (166)), .fieldAddr 3 (.tmp 6), none, [0, 1, 2, 3, 4, 5, 6, 7]⟩, 
  ⟨(some (167)), .load none (.tmp 166), none, [0, 1, 2, 3, 4, 5, 6, 7]⟩, 
  ⟨(some (168)), .move (.tmp 16), none, [0, 1, 2, 3, 4, 5, 6, 7, 8, 9]⟩, 
  ⟨(some (169)), .indexAddr 1 (.tmp 167) (.tmp 168), none, [0, 1, 2, 3, 4, 5, 6, 7]⟩, 
  ⟨(some (170)), .load none (.tmp 169), none, [0, 1, 2, 3, 4, 5, 6, 7]⟩, 
  ⟨(some (171)), .bin .plain .sub (.tmp 170) (.const (.int .i64 1)), none, [0, 1, 2, 3, 4, 5, 6, 7]⟩, 
  ⟨(some (172)), .indexAddr 1 (.tmp 165) (.tmp 171), none, [0, 1, 2, 3, 4, 5, 6]⟩, 
  ⟨(some (173)), .load none (.tmp 172), none, [0, 1, 2, 3, 4, 5, 6]⟩, 
  ⟨(some (174)), .bin .plain .mul (.tmp 164) (.tmp 173), none, [0, 1, 2, 3, 4, 5]⟩, 
  ⟨(some (175)), .bin .plain .add (.tmp 163) (.tmp 174), none, [0, 1]⟩, 
  ⟨(some (176)), .indexAddr 1 (.tmp 158) (.tmp 159), none, []⟩, 
  ⟨none, .store 1 (.tmp 176) (.tmp 175), none, []⟩]
def k_law01_FieldExact_r30s : List (List AOper) := [
  [
  ⟨(some (158)), .move (.tmp 14), none, []⟩, 
  ⟨(some (159)), .move (.tmp 15), none, [0]⟩, 
  ⟨(some (160)), .move (.tmp 14), none, [0, 1]⟩, 
  ⟨(some (161)), .move (.tmp 15), none, [0, 1, 2]⟩, 
  ⟨(some (162)), .indexAddr 1 (.tmp 160) (.tmp 161), none, [0, 1]⟩, 
  ⟨(some (163)), .load none (.tmp 162), none, [0, 1]⟩, 
  ⟨(some (164)), .move (.tmp 17), none, [0, 1, 2, 3, 4, 5]⟩, 
  ⟨(some (165)), .move (.tmp 9), none, [0, 1, 2, 3, 4, 5, 6]⟩, 
  ⟨(some (166)), .fieldAddr 3 (.tmp 6), none, [0, 1, 2, 3, 4, 5, 6, 7]⟩, 
  ⟨(some (167)), .load none (.tmp 166), none, [0, 1, 2, 3, 4, 5, 6, 7]⟩, 
  ⟨(some (168)), .move (.tmp 16), none, [0, 1, 2, 3, 4, 5, 6, 7, 8, 9]⟩, 
  ⟨(some (169)), .indexAddr 1 (.tmp 167) (.tmp 168), none, [0, 1, 2, 3, 4, 5, 6, 7]⟩, 
  ⟨(some (170)), .load none (.tmp 169), none, [0, 1, 2, 3, 4, 5, 6, 7]⟩, 
  ⟨(some (171)), .bin .plain .sub (.tmp 170) (.const (.int .i64 1)), none, [0, 1, 2, 3, 4, 5, 6, 7]⟩, 
  ⟨(some (172)), .indexAddr 1 (.tmp 165) (.tmp 171), none, [0, 1, 2, 3, 4, 5, 6]⟩, 
  ⟨(some (173)), .load none (.tmp 172), none, [0, 1, 2, 3, 4, 5, 6]⟩, 
  ⟨(some (174)), .bin .plain .mul (.tmp 164) (.tmp 173), none, [0, 1, 2, 3, 4, 5]⟩, 
  ⟨(some (175)), .bin .plain .add (.tmp 163) (.tmp 174), none, [0, 1]⟩], 
  [
  ⟨(some (176)), .indexAddr 1 (.tmp 158) (.tmp 159), none, []⟩], 
  [
  ⟨none, .store 1 (.tmp 176) (.tmp 175), none, []⟩]]
theorem k_law01_FieldExact_r30_sg : segs k_law01_FieldExact_r30 = k_law01_FieldExact_r30s := by kernel_rfl
theorem k_law01_FieldExact_r30_st : statOK k_law01_FieldExact_r30 = true := by kernel_rfl
def k_law01_FieldExact_r31 : List AOper := [
  ⟨(some (128)), .move (.tmp 16), none, []⟩, 
  ⟨(some (129)), .bin .plain .add (.tmp 128) (.const (.int .i64 1)), none, []⟩, 
  ⟨(some (16)), .move (.tmp 129), none, []⟩]
def k_law01_FieldExact_r32 : ACode := (.seq (.seq (.reg k_law01_FieldExact_r26 false) (.cond (.tmp 127) .skip (.exit 6))) (.seq (.block 7 (.seq (.reg k_law01_FieldExact_r27 true) (.seq (.reg k_law01_FieldExact_r28 true) (.seq (.reg k_law01_FieldExact_r29 false) (.cond (.tmp 157) (.reg k_law01_FieldExact_r30 true) .skip))))) (.reg k_law01_FieldExact_r31 false)))
def k_law01_FieldExact_r33 : List AOper := [
  ⟨(some (18)), .move (.const (.int .i64 0)), none, []⟩]
def k_law01_FieldExact_r34 : List AOper := [
  ⟨(some (177)), .move (.tmp 18), none, []⟩, 
  ⟨(some (178)), .move (.tmp 7), none, []⟩, 
  ⟨(some (179)), .len false (.tmp 178), none, []⟩, 
  ⟨(some (180)), .bin .plain .lss (.tmp 177) (.tmp 179), none, []⟩]
def k_law01_FieldExact_r35 : List AOper := [
  ⟨(some (183)), .move (.tmp 18), none, []⟩, 
  ⟨(some (184)), .move (.tmp 15), none, []⟩, 
  ⟨(some (185)), .bin .plain .neq (.tmp 183) (.tmp 184), none, []⟩]
def k_law01_FieldExact_r36 : List AOper := [
  ⟨(some (186)), .move (.tmp 13), none, []⟩, 
  ⟨(some (187)), .move (.tmp 15), none, [0]⟩, 
  ⟨(some (188)), .indexAddr 1 (.tmp 186) (.tmp 187), none, []⟩, 
  ⟨(some (189)), .load none (.tmp 188), none, []⟩, 
  ⟨(some (190)), .move (.tmp 18), none, [0, 1, 2, 3]⟩, 
  ⟨(some (191)), .load (some (4)) (.tmp 6), none, [0, 1, 2, 3, 4]⟩, 
  ⟨(some (192)), .move (.tmp 7), none, [0, 1, 2, 3, 4, 5]⟩, 
  ⟨(some (193)), .move (.tmp 15), none, [0, 1, 2, 3, 4, 5, 6]⟩, 
  ⟨(some (194)), .indexAddr 1 (.tmp 192) (.tmp 193), none, [0, 1, 2, 3, 4, 5]⟩, 
  ⟨(some (195)), .load none (.tmp 194), none, [0, 1, 2, 3, 4, 5]⟩, 
  ⟨(some (196)), .move (.tmp 7), none, [0, 1, 2, 3, 4, 5, 6, 7, 8, 9]⟩, 
  ⟨(some (197)), .move (.tmp 18), none, [0, 1, 2, 3, 4, 5, 6, 7, 8, 9, 10]⟩, 
  ⟨(some (198)), .indexAddr 1 (.tmp 196) (.tmp 197), none, [0, 1, 2, 3, 4, 5, 6, 7, 8, 9]⟩, 
  ⟨(some (199)), .load none (.tmp 198), none, [0, 1, 2, 3, 4, 5, 6, 7, 8, 9]⟩, 
  ⟨(some (200)), .call (.const (.fn (.func 55) [] [])) [.tmp 191, .tmp 195, .tmp 199], none, [0, 1, 2, 3, 4]⟩, 
  ⟨(some (201)), .neg (.tmp 200), none, [0, 1, 2, 3, 4]⟩, 
  ⟨(some (202)), .indexAddr 1 (.tmp 189) (.tmp 190), none, []⟩, 
  ⟨none, .store 1 (.tmp 202) (.tmp 201), none, []⟩]
def k_law01_FieldExact_r36s : List (List AOper) := [
  [
  ⟨(some (186)), .move (.tmp 13), none, []⟩, 
  ⟨(some (187)), .move (.tmp 15), none, [0]⟩, 
  ⟨(some (188)), .indexAddr 1 (.tmp 186) (.tmp 187), none, []⟩, 
  ⟨(some (189)), .load none (.tmp 188), none, []⟩, 
  ⟨(some (190)), .move (.tmp 18), none, [0, 1, 2, 3]⟩, 
  ⟨(some (191)), .load (some (4)) (.tmp 6), none, [0, 1, 2, 3, 4]⟩, 
  ⟨(some (192)), .move (.tmp 7), none, [0, 1, 2, 3, 4, 5]⟩, 
  ⟨(some (193)), .move (.tmp 15), none, [0, 1, 2, 3, 4, 5, 6]⟩, 
  ⟨(some (194)), .indexAddr 1 (.tmp 192) (.tmp 193), none, [0, 1, 2, 3, 4, 5]⟩, 
  ⟨(some (195)), .load none (.tmp 194), none, [0, 1, 2, 3, 4, 5]⟩, 
  ⟨(some (196)), .move (.tmp 7), none, [0, 1, 2, 3, 4, 5, 6, 7, 8, 9]⟩, 
  ⟨(some (197)), .move (.tmp 18), none, [0, 1, 2, 3, 4, 5, 6, 7, 8, 9, 10]⟩, 
  ⟨(some (198)), .indexAddr 1 (.tmp 196) (.tmp 197), none, [0, 1, 2, 3, 4, 5, 6, 7, 8, 9]⟩, 
  ⟨(some (199)), .load none (.tmp 198), none, [0, 1, 2, 3, 4, 5, 6, 7, 8, 9]⟩, 
  ⟨(some (200)), .call (.const (.fn (.func 55) [] [])) [.tmp 191, .tmp 195, .tmp 199], none, [0, 1, 2, 3, 4]⟩, 
  ⟨(some (201)), .neg (.tmp 200), none, [0, 1, 2, 3, 4]⟩], 
  [
  ⟨(some (202)), .indexAddr 1 (.tmp 189) (.tmp 190), none, []⟩], 
  [
  ⟨none, .store 1 (.tmp 202) (.tmp 201), none, []⟩]]
theorem k_law01_FieldExact_r36_sg : segs k_law01_FieldExact_r36 = k_law01_FieldExact_r36s := by kernel_rfl
theorem k_law01_FieldExact_r36_st : statOK k_law01_FieldExact_r36 = true := by kernel_rfl
def k_law01_FieldExact_r37 : List AOper := [
  ⟨(some (181)), .move (.tmp 18), none, []⟩, 
  ⟨(some (182)), .bin .plain .add (.tmp 181) (.const (.int .i64 1)), none, []⟩, 
  ⟨(some (18)), .move (.tmp 182), none, []⟩]
def k_law01_FieldExact_r38 : ACode := (.seq (.seq (.reg k_law01_FieldExact_r34 false) (.cond (.tmp 180) .skip (.exit 8))) (.seq (.block 9 (.seq (.reg k_law01_FieldExact_r35 false) (.cond (.tmp 185) (.reg k_law01_FieldExact_r36 true) .skip))) (.reg k_law01_FieldExact_r37 false)))
def k_law01_FieldExact_r39 : List AOper := [
  ⟨(some (115)), .move (.tmp 15), none, []⟩, 
  ⟨(some (116)), .bin .plain .add (.tmp 115) (.const (.int .i64 1)), none, []⟩, 
  ⟨(some (15)), .move (.tmp 116), none, []⟩]
def k_law01_FieldExact_r40 : ACode := (.seq (.seq (.reg k_law01_FieldExact_r23 false) (.cond (.tmp 114) .skip (.exit 4))) (.seq (.block 5 (.seq (.reg k_law01_FieldExact_r24 false) (.seq (.seq (.reg k_law01_FieldExact_r25 false) (.block 6 (.loop k_law01_FieldExact_r32))) (.seq (.reg k_law01_FieldExact_r33 false) (.block 8 (.loop k_law01_FieldExact_r38)))))) (.reg k_law01_FieldExact_r39 false)))
def k_law01_FieldExact_r41 : List AOper := [
  ⟨(some (204)), .move (.tmp 13), none, []⟩, 
  ⟨(some (205)), .move (.tmp 14), none, []⟩, 
  ⟨(some (206)), .call (.const (.fn (.func 56) [] [])) [.tmp 204, .tmp 205], none, []⟩, 
  ⟨(some (203)), .move (.tmp 206), none, []⟩, 
  ⟨(some (207)), .extract (.tmp 203) 0, none, []⟩, 
  ⟨(some (208)), .extract (.tmp 203) 1, none, []⟩, 
  ⟨(some (19)), .move (.tmp 207), none, []⟩, 
  ⟨(some (20)), .move (.tmp 208), none, []⟩]
def k_law01_FieldExact_r42 : List AOper := [
  ⟨(some (209)), .move (.tmp 7), none, []⟩, 
  ⟨(some (210)), .len false (.tmp 209), none, []⟩, 
  ⟨(some (211)), .bin .plain .gtr (.tmp 210) (.const (.int .i64 0)), none, []⟩, 
  ⟨(some (212)), .move (.tmp 211), none, []⟩, 
  ⟨(some (213)), .move (.tmp 19), (some (212, true)), []⟩, 
  ⟨(some (214)), .bin .plain .leq (.tmp 213) (.const (.int .i64 0)), (some (212, true)), []⟩, 
  ⟨(some (215)), .pick (.tmp 212) (.tmp 214) (.const (.bool false)), none, []⟩]
def k_law01_FieldExact_r43 : List AOper := [
  ⟨(some (4)), .move (.const (.bool false)), none, []⟩]
def k_law01_FieldExact_r44 : List AOper := [
  ⟨(some (21)), .move (.const (.int .i64 0)), none, []⟩]
def k_law01_FieldExact_r45 : List AOper := [
  ⟨(some (216)), .move (.tmp 21), none, []⟩, 
  ⟨(some (217)), .move (.tmp 7), none, []⟩, 
  ⟨(some (218)), .len false (.tmp 217), none, []⟩, 
  ⟨(some (219)), .bin .plain .lss (.tmp 216) (.tmp 218), none, []⟩]
def k_law01_FieldExact_r46 : List AOper := [
  ⟨(some (222)), .fieldAddr 0 (.tmp 11), none, []⟩, 
  ⟨(some (223)), .load none (.tmp 222), none, []⟩, 
  ⟨(some (224)), .move (.tmp 7), none, [0, 1]⟩, 
  ⟨(some (225)), .move (.tmp 21), none, [0, 1, 2]⟩, 
  ⟨(some (226)), .indexAddr 1 (.tmp 224) (.tmp 225), none, [0, 1]⟩, 
  ⟨(some (227)), .load none (.tmp 226), none, [0, 1]⟩, 
  ⟨(some (228)), .indexAddr 1 (.tmp 223) (.tmp 227), none, []⟩, 
  ⟨(some (229)), .load none (.tmp 228), none, []⟩, 
  ⟨(some (230)), .move (.tmp 19), none, [0, 1, 2, 3, 4, 5, 6, 7]⟩, 
  ⟨(some (231)), .bin .plain .mul (.tmp 229) (.tmp 230), none, []⟩, 
  ⟨(some (232)), .move (.tmp 20), none, [0, 1, 2, 3, 4, 5, 6, 7, 8, 9]⟩, 
  ⟨(some (233)), .move (.tmp 21), none, [0, 1, 2, 3, 4, 5, 6, 7, 8, 9, 10]⟩, 
  ⟨(some (234)), .indexAddr 1 (.tmp 232) (.tmp 233), none, [0, 1, 2, 3, 4, 5, 6, 7, 8, 9]⟩, 
  ⟨(some (235)), .load none (.tmp 234), none, [0, 1, 2, 3, 4, 5, 6, 7, 8, 9]⟩, 
  ⟨(some (236)), .bin .plain .gtr (.tmp 231) (.tmp 235), none, []⟩, 
  ⟨(some (237)), .move (.tmp 236), none, []⟩, 
  ⟨(some (238)), .fieldAddr 1 (.tmp 11), (some (237, false)), []⟩, 
  ⟨(some (239)), .load none (.tmp 238), (some (237, false)), []⟩, 
  ⟨(some (240)), .move (.tmp 7), (some (237, false)), [16, 17]⟩, 
  ⟨(some (241)), .move (.tmp 21), (some (237, false)), [16, 17, 18]⟩, 
  ⟨(some (242)), .indexAddr 1 (.tmp 240) (.tmp 241), (some (237, false)), [16, 17]⟩, 
  ⟨(some (243)), .load none (.tmp 242), (some (237, false)), [16, 17]⟩, 
  ⟨(some (244)), .indexAddr 1 (.tmp 239) (.tmp 243), (some (237, false)), []⟩, 
  ⟨(some (245)), .load none (.tmp 244), (some (237, false)), []⟩, 
  ⟨(some (246)), .move (.tmp 19), (some (237, false)), [16, 17, 18, 19, 20, 21, 22, 23]⟩, 
  ⟨(some (247)), .bin .plain .mul (.tmp 245) (.tmp 246), (some (237, false)), []⟩, 
  ⟨(some (248)), .move (.tmp 20), (some (237, false)), [16, 17, 18, 19, 20, 21, 22, 23, 24, 25]⟩, 
  ⟨(some (249)), .move (.tmp 21), (some (237, false)), [16, 17, 18, 19, 20, 21, 22, 23, 24, 25, 26]⟩, 
  ⟨(some (250)), .indexAddr 1 (.tmp 248) (.tmp 249), (some (237, false)), [16, 17, 18, 19, 20, 21, 22, 23, 24, 25]⟩, 
  ⟨(some (251)), .load none (.tmp 250), (some (237, false)), [16, 17, 18, 19, 20, 21, 22, 23, 24, 25]⟩, 
  ⟨(some (252)), .bin .plain .lss (.tmp 247) (.tmp 251), (some (237, false)), []⟩, 
  ⟨(some (253)), .pick (.tmp 237) (.const (.bool true)) (.tmp 252), none, []⟩]
def k_law01_FieldExact_r46s : List (List AOper) := [
  [
  ⟨(some (222)), .fieldAddr 0 (.tmp 11), none, []⟩, 
  ⟨(some (223)), .load none (.tmp 222), none, []⟩, 
  ⟨(some (224)), .move (.tmp 7), none, [0, 1]⟩, 
  ⟨(some (225)), .move (.tmp 21), none, [0, 1, 2]⟩, 
  ⟨(some (226)), .indexAddr 1 (.tmp 224) (.tmp 225), none, [0, 1]⟩, 
  ⟨(some (227)), .load none (.tmp 226), none, [0, 1]⟩, 
  ⟨(some (228)), .indexAddr 1 (.tmp 223) (.tmp 227), none, []⟩, 
  ⟨(some (229)), .load none (.tmp 228), none, []⟩, 
  ⟨(some (230)), .move (.tmp 19), none, [0, 1, 2, 3, 4, 5, 6, 7]⟩, 
  ⟨(some (231)), .bin .plain .mul (.tmp 229) (.tmp 230), none, []⟩, 
  ⟨(some (232)), .move (.tmp 20), none, [0, 1, 2, 3, 4, 5, 6, 7, 8, 9]⟩, 
  ⟨(some (233)), .move (.tmp 21), none, [0, 1, 2, 3, 4, 5, 6, 7, 8, 9, 10]⟩, 
  ⟨(some (234)), .indexAddr 1 (.tmp 232) (.tmp 233), none, [0, 1, 2, 3, 4, 5, 6, 7, 8, 9]⟩, 
  ⟨(some (235)), .load none (.tmp 234), none, [0, 1, 2, 3, 4, 5, 6, 7, 8, 9]⟩], 
  [
  ⟨(some (236)), .bin .plain .gtr (.tmp 231) (.tmp 235), none, []⟩], 
  [
  ⟨(some (237)), .move (.tmp 236), none, []⟩], 
  [
  ⟨(some (238)), .fieldAddr 1 (.tmp 11), (some (237, false)), []⟩, 
  ⟨(some (239)), .load none (.tmp 238), (some (237, false)), []⟩, 
  ⟨(some (240)), .move (.tmp 7), (some (237, false)), [16, 17]⟩, 
  ⟨(some (241)), .move (.tmp 21), (some (237, false)), [16, 17, 18]⟩, 
  ⟨(some (242)), .indexAddr 1 (.tmp 240) (.tmp 241), (some (237, false)), [16, 17]⟩, 
  ⟨(some (243)), .load none (.tmp 242), (some (237, false)), [16, 17]⟩, 
  ⟨(some (244)), .indexAddr 1 (.tmp 239) (.tmp 243), (some (237, false)), []⟩, 
  ⟨(some (245)), .load none (.tmp 244), (some (237, false)), []⟩, 
  ⟨(some (246)), .move (.tmp 19), (some (237, false)), [16, 17, 18, 19, 20, 21, 22, 23]⟩, 
  ⟨(some (247)), .bin .plain .mul (.tmp 245) (.tmp 246), (some (237, false)), []⟩, 
  ⟨(some (248)), .move (.tmp 20), (some (237, false)), [16, 17, 18, 19, 20, 21, 22, 23, 24, 25]⟩, 
  ⟨(some (249)), .move (.tmp 21), (some (237, false)), [16, 17, 18, 19, 20, 21, 22, 23, 24, 25, 26]⟩, 
  ⟨(some (250)), .indexAddr 1 (.tmp 248) (.tmp 249), (some (237, false)), [16, 17, 18, 19, 20, 21, 22, 23, 24, 25]⟩, 
  ⟨(some (251)), .load none (.tmp 250), (some (237, false)), [16, 17, 18, 19, 20, 21, 22, 23, 24, 25]⟩], 
  [
  ⟨(some (252)), .bin .plain .lss (.tmp 247) (.tmp 251), (some (237, false)), []⟩], 
  [
  ⟨(some (253)), .pick (.tmp 237) (.const (.bool true)) (.tmp 252), none, []⟩]]
theorem k_law01_FieldExact_r46_sg : segs k_law01_FieldExact_r46 = k_law01_FieldExact_r46s := by kernel_rfl
theorem k_law01_FieldExact_r46_st : statOK k_law01_FieldExact_r46 = true := by kernel_rfl
def k_law01_FieldExact_r47 : List AOper := [
  ⟨(some (4)), .move (.const (.bool false)), none, []⟩]
def k_law01_FieldExact_r48 : List AOper := [
  ⟨(some (220)), .move (.tmp 21), none, []⟩, 
  ⟨(some (221)), .bin .plain .add (.tmp 220) (.const (.int .i64 1)), none, []⟩, 
  ⟨(some (21)), .move (.tmp 221), none, []⟩]
def k_law01_FieldExact_r49 : ACode := (.seq (.seq (.reg k_law01_FieldExact_r45 false) (.cond (.tmp 219) .skip (.exit 10))) (.seq (.block 11 (.seq (.reg k_law01_FieldExact_r46 true) (.cond (.tmp 253) (.seq (.reg k_law01_FieldExact_r47 false) .ret) .skip))) (.reg k_law01_FieldExact_r48 false)))
def k_law01_FieldExact_r50 : List AOper := [
  ⟨(some (254)), .call (.const (.fn (.func 20) [] [])) [], none, []⟩, 
  ⟨(some (4)), .move (.tmp 254), none, []⟩]
def k_law01_FieldExact : AFun := { params := 2, ntmps := 255, body := (.seq (.reg k_law01_FieldExact_r0 false) (.seq (.reg k_law01_FieldExact_r1 false) (.seq (.reg k_law01_FieldExact_r2 false) (.seq (.reg k_law01_FieldExact_r3 false) (.seq (.seq (.reg k_law01_FieldExact_r4 false) (.block 0 (.loop k_law01_FieldExact_r11))) (.seq (.reg k_law01_FieldExact_r12 false) (.seq (.seq (.reg k_law01_FieldExact_r13 false) (.block 2 (.loop k_law01_FieldExact_r17))) (.seq (.reg k_law01_FieldExact_r18 true) (.seq (.seq (.reg k_law01_FieldExact_r19 false) (.cond (.tmp 104) (.seq (.reg k_law01_FieldExact_r20 false) .ret) .skip)) (.seq (.reg k_law01_FieldExact_r21 true) (.seq (.seq (.reg k_law01_FieldExact_r22 false) (.block 4 (.loop k_law01_FieldExact_r40))) (.seq (.reg k_law01_FieldExact_r41 false) (.seq (.seq (.reg k_law01_FieldExact_r42 false) (.cond (.tmp 215) (.seq (.reg k_law01_FieldExact_r43 false) .ret) .skip)) (.seq (.seq (.reg k_law01_FieldExact_r44 false) (.block 10 (.loop k_law01_FieldExact_r49))) (.seq (.reg k_law01_FieldExact_r50 false) .ret))))))))))))))), res := [.tmp 4] }
theorem k_law01_FieldExact_ok : cfun Try.prog Try.f10 = k_law01_FieldExact := by kernel_rfl

def k_law01_solved_r0 : List AOper := [
  ⟨(some (4)), .move (.const (.int .i64 0)), none, []⟩, 
  ⟨(some (5)), .move (.const (.nilsl)), none, []⟩]
def k_law01_solved_r1 : List AOper := [
  ⟨(some (16)), .move (.tmp 1), none, []⟩, 
  ⟨(some (17)), .len false (.tmp 16), none, []⟩, 
  ⟨(some (6)), .move (.tmp 17), none, []⟩]
def k_law01_solved_r2 : List AOper := [
  ⟨(some (18)), .move (.tmp 6), none, []⟩, 
  ⟨(some (19)), .makeSlice (.nilsl) 24 (.tmp 18) (.tmp 18), none, []⟩, 
  ⟨(some (7)), .move (.tmp 19), none, []⟩]
def k_law01_solved_r3 : List AOper := [
  ⟨(some (8)), .move (.const (.int .i64 0)), none, []⟩]
def k_law01_solved_r4 : List AOper := [
  ⟨(some (20)), .move (.tmp 8), none, []⟩, 
  ⟨(some (21)), .move (.tmp 6), none, []⟩, 
  ⟨(some (22)), .bin .plain .lss (.tmp 20) (.tmp 21), none, []⟩]
def k_law01_solved_r5 : List AOper := [
  ⟨(some (25)), .move (.tmp 7), none, []⟩, 
  ⟨(some (26)), .move (.tmp 8), none, [0]⟩, 
  ⟨(some (27)), .buildSlice 1 [], none, [0, 1]⟩, 
  ⟨(some (28)), .move (.tmp 0), none, [0, 1, 2]⟩, 
  ⟨(some (29)), .move (.tmp 8), none, [0, 1, 2, 3]⟩, 
  ⟨(some (30)), .indexAddr 1 (.tmp 28) (.tmp 29), none, [0, 1, 2]⟩, 
  ⟨(some (31)), .load none (.tmp 30), none, [0, 1, 2]⟩, 
  ⟨(some (32)), .append 1 8 false (.tmp 27) (.tmp 31), none, [0, 1]⟩, 
  ⟨(some (33)), .move (.tmp 1), none, [0, 1, 2, 3, 4, 5, 6, 7]⟩, 
  ⟨(some (34)), .move (.tmp 8), none, [0, 1, 2, 3, 4, 5, 6, 7, 8]⟩, 
  ⟨(some (35)), .indexAddr 1 (.tmp 33) (.tmp 34), none, [0, 1, 2, 3, 4, 5, 6, 7]⟩, 
  ⟨(some (36)), .load none (.tmp 35), none, [0, 1, 2, 3, 4, 5, 6, 7]⟩, 
  ⟨(some (37)), .buildSlice 1 [.tmp 36], none, [0, 1, 2, 3, 4, 5, 6, 7]⟩, 
  ⟨(some (38)), .append 1 8 false (.tmp 32) (.tmp 37), none, [0, 1]⟩, 
  ⟨(some (39)), .indexAddr 1 (.tmp 25) (.tmp 26), none, []⟩, 
  ⟨none, .store 1 (.tmp 39) (.tmp 38), none, []⟩]
def k_law01_solved_r5s : List (List AOper) := [
  [
  ⟨(some (25)), .move (.tmp 7), none, []⟩, 
  ⟨(some (26)), .move (.tmp 8), none, [0]⟩, 
  ⟨(some (27)), .buildSlice 1 [], none, [0, 1]⟩, 
  ⟨(some (28)), .move (.tmp 0), none, [0, 1, 2]⟩, 
  ⟨(some (29)), .move (.tmp 8), none, [0, 1, 2, 3]⟩, 
  ⟨(some (30)), .indexAddr 1 (.tmp 28) (.tmp 29), none, [0, 1, 2]⟩, 
  ⟨(some (31)), .load none (.tmp 30), none, [0, 1, 2]⟩, 
  ⟨(some (32)), .append 1 8 false (.tmp 27) (.tmp 31), none, [0, 1]⟩, 
  ⟨(some (33)), .move (.tmp 1), none, [0, 1, 2, 3, 4, 5, 6, 7]⟩, 
  ⟨(some (34)), .move (.tmp 8), none, [0, 1, 2, 3, 4, 5, 6, 7, 8]⟩, 
  ⟨(some (35)), .indexAddr 1 (.tmp 33) (.tmp 34), none, [0, 1, 2, 3, 4, 5, 6, 7]⟩, 
  ⟨(some (36)), .load none (.tmp 35), none, [0, 1, 2, 3, 4, 5, 6, 7]⟩, 
  ⟨(some (37)), .buildSlice 1 [.tmp 36], none, [0, 1, 2, 3, 4, 5, 6, 7]⟩, 
  ⟨(some (38)), .append 1 8 false (.tmp 32) (.tmp 37), none, [0, 1]⟩], 
  [
  ⟨(some (39)), .indexAddr 1 (.tmp 25) (.tmp 26), none, []⟩], 
  [
  ⟨none, .store 1 (.tmp 39) (.tmp 38), none, []⟩]]
theorem k_law01_solved_r5_sg : segs k_law01_solved_r5 = k_law01_solved_r5s := by kernel_rfl
theorem k_law01_solved_r5_st : statOK k_law01_solved_r5 = true := by kernel_rfl
def k_law01_solved_r6 : List AOper := [
  ⟨(some (23)), .move (.tmp 8), none, []⟩, 
  ⟨(some (24)), .bin .plain .add (.tmp 23) (.const (.int .i64 1)), none, []⟩, 
  ⟨(some (8)), .move (.tmp 24), none, []⟩]
def k_law01_solved_r7 : ACode := (.seq (.seq (.reg k_law01_solved_r4 false) (.cond (.tmp 22) .skip (.exit 0))) (.seq (.block 1 (.reg k_law01_solved_r5 true)) (.reg k_law01_solved_r6 false)))
def k_law01_solved_r8 : List AOper := [
  ⟨(some (9)), .move (.const (.int .i64 1)), none, []⟩]
def k_law01_solved_r9 : List AOper := [
  ⟨(some (10)), .move (.const (.int .i64 0)), none, []⟩]
def k_law01_solved_r10 : List AOper := [
  ⟨(some (40)), .move (.tmp 10), none, []⟩, 
  ⟨(some (41)), .move (.tmp 6), none, []⟩, 
  ⟨(some (42)), .bin .plain .lss (.tmp 40) (.tmp 41), none, []⟩]
def k_law01_solved_r11 : List AOper := [
  ⟨(some (45)), .move (.tmp 7), none, []⟩, 
  ⟨(some (46)), .move (.tmp 10), none, []⟩, 
  ⟨(some (47)), .indexAddr 1 (.tmp 45) (.tmp 46), none, []⟩, 
  ⟨(some (48)), .load none (.tmp 47), none, []⟩, 
  ⟨(some (49)), .move (.tmp 10), none, []⟩, 
  ⟨(some (50)), .indexAddr 1 (.tmp 48) (.tmp 49), none, []⟩, 
  ⟨(some (51)), .load none (.tmp 50), none, []⟩, 
  ⟨(some (52)), .bin .plain .eql (.tmp 51) (.const (.int .i64 0)), none, []⟩]
def k_law01_solved_r12 : List AOper := [
  ⟨(some (4)), .move (.const (.int .i64 0)), none, []⟩, 
  ⟨(some (5)), .move (.const (.nilsl)), none, []⟩]
def k_law01_solved_r13 : List AOper := [
  ⟨(some (11)), .move (.const (.int .i64 0)), none, []⟩]
def k_law01_solved_r14 : List AOper := [
  ⟨(some (53)), .move (.tmp 11), none, []⟩, 
  ⟨(some (54)), .move (.tmp 6), none, []⟩, 
  ⟨(some (55)), .bin .plain .lss (.tmp 53) (.tmp 54), none, []⟩]
def k_law01_solved_r15 : List AOper := [
  ⟨(some (58)), .move (.tmp 11), none, []⟩, 
  ⟨(some (59)), .move (.tmp 10), none, []⟩, 
  ⟨(some (60)), .bin .plain .eql (.tmp 58) (.tmp 59), none, []⟩]
def k_law01_solved_r16 : List AOper := [
  ⟨(some (61)), .move (.tmp 6), none, []⟩, 
  ⟨(some (12)), .move (.tmp 61), none, []⟩]
def k_law01_solved_r17 : List AOper := [
  ⟨(some (62)), .move (.tmp 12), none, []⟩, 
  ⟨(some (63)), .bin .plain .geq (.tmp 62) (.const (.int .i64 0)), none, []⟩]
def k_law01_solved_r18 : List AOper := [
  ⟨(some (66)), .move (.tmp 12), none, []⟩, 
  ⟨(some (67)), .move (.tmp 10), none, []⟩, 
  ⟨(some (68)), .bin .plain .neq (.tmp 66) (.tmp 67), none, []⟩]
def k_law01_solved_r19 : List AOper := [
  ⟨(some (69)), .move (.tmp 7), none, []⟩, 
  ⟨(some (70)), .move (.tmp 11), none, [0]⟩, 
  ⟨(some (71)), .indexAddr 1 (.tmp 69) (.tmp 70), none, []⟩, 
  ⟨(some (72)), .load none (.tmp 71), none, []⟩, 
  ⟨(some (73)), .move (.tmp 12), none, [0, 1, 2, 3]⟩, 
  ⟨(some (74)), .move (.tmp 7), none, [0, 1, 2, 3, 4]⟩, 
  ⟨(some (75)), .move (.tmp 11), none, [0, 1, 2, 3, 4, 5]⟩, 
  ⟨(some (76)), .indexAddr 1 (.tmp 74) (.tmp 75), none, [0, 1, 2, 3, 4]⟩, 
  ⟨(some (77)), .load none (.tmp 76), none, [0, 1, 2, 3, 4]⟩, 
  ⟨(some (78)), .move (.tmp 12), none, [0, 1, 2, 3, 4, 5, 6, 7, 8]⟩, 
  ⟨(some (79)), .indexAddr 1 (.tmp 77) (.tmp 78), none, [0, 1, 2, 3, 4]⟩, 
  ⟨(some (80)), .load none (.tmp 79), none, [0, 1, 2, 3, 4]⟩, 
  ⟨(some (81)), .move (.tmp 7), none, [0, 1, 2, 3, 4, 5, 6, 7, 8, 9, 10, 11]⟩, 
  ⟨(some (82)), .move (.tmp 10), none, [0, 1, 2, 3, 4, 5, 6, 7, 8, 9, 10, 11, 12]⟩, 
  ⟨(some (83)), .indexAddr 1 (.tmp 81) (.tmp 82), none, [0, 1, 2, 3, 4, 5, 6, 7, 8, 9, 10, 11]⟩, 
  ⟨(some (84)), .load none (.tmp 83), none, [0, 1, 2, 3, 4, 5, 6, 7, 8, 9, 10, 11]⟩, 
  ⟨(some (85)), .move (.tmp 10), none, [0, 1, 2, 3, 4, 5, 6, 7, 8, 9, 10, 11, 12, 13, 14, 15]⟩, 
  ⟨(some (86)), .indexAddr 1 (.tmp 84) (.tmp 85), none, [0, 1, 2, 3, 4, 5, 6, 7, 8, 9, 10, 11]⟩, 
  ⟨(some (87)), .load none (.tmp 86), none, [0, 1, 2, 3, 4, 5, 6, 7, 8, 9, 10, 11]⟩, 
  ⟨(some (88)), .bin .plain .mul (.tmp 80) (.tmp 87), none, [0, 1, 2, 3, 4]⟩, 
  ⟨(some (89)), .move (.tmp 7), none, [0, 1, 2, 3, 4, 5, 6, 7, 8, 9, 10, 11, 12, 13, 14, 15, 16, 17, 18, 19]⟩, 
  ⟨(some (90)), .move (.tmp 11), none, [0, 1, 2, 3, 4, 5, 6, 7, 8, 9, 10, 11, 12, 13, 14, 15, 16, 17, 18, 19, 20]⟩, 
  ⟨(some (91)), .indexAddr 1 (.tmp 89) (.tmp 90), none, [0, 1, 2, 3, 4, 5, 6, 7, 8, 9, 10, 11, 12, 13, 14, 15, 16, 17, 18, 19]⟩, 
  ⟨(some (92)), .load none (.tmp 91), none, [0, 1, 2, 3, 4, 5, 6, 7, 8, 9, 10, 11, 12, 13, 14, 15, 16, 17, 18, 19]⟩, 
  ⟨(some (93)), .move (.tmp 10), none, [0, 1, 2, 3, 4, 5, 6, 7, 8, 9, 10, 11, 12, 13, 14, 15, 16, 17, 18, 19, 20, 21, 22, 23]⟩, 
  ⟨(some (94)), .indexAddr 1 (.tmp 92) (.tmp 93), none, [0, 1, 2, 3, 4, 5, 6, 7, 8, 9, 10, 11, 12, 13, 14, 15, 16, 17, 18, 19]⟩, 
  ⟨(some (95)), .load none (.tmp 94), none, [0, 1, 2, 3, 4, 5, 6, 7, 8, 9, 10, 11, 12, 13, 14, 15, 16, 17, 18, 19]⟩, 
  ⟨(some (96)), .move (.tmp 7), none, [0, 1, 2, 3, 4, 5, 6, 7, 8, 9, 10, 11, 12, 13, 14, 15, 16, 17, 18, 19, 20, 21, 22, 23, 24, 25, 26]⟩, 
  ⟨(some (97)), .move (.tmp 10), none, [0, 1, 2, 3, 4, 5, 6, 7, 8, 9, 10, 11, 12, 13, 14, 15, 16, 17, 18, 19, 20, 21, 22, 23, 24, 25, 26, 27]⟩, 
  ⟨(some (98)), .indexAddr 1 (.tmp 96) (.tmp 97), none, [0, 1, 2, 3, 4, 5, 6, 7, 8, 9, 10, 11, 12, 13, 14, 15, 16, 17, 18, 19, 20, 21, 22, 23, 24, 25, 26]⟩, 
  ⟨(some (99)), .load none (.tmp 98), none, [0, 1, 2, 3, 4, 5, 6, 7, 8, 9, 10, 11, 12, 13, 14, 15, 16, 17, 18, 19, 20, 21, 22, 23, 24, 25, 26]⟩, 
  ⟨(some (100)), .move (.tmp 12), none, [0, 1, 2, 3, 4, 5, 6, 7, 8, 9, 10, 11, 12, 13, 14, 15, 16, 17, 18, 19, 20, 21, 22, 23, 24, 25, 26, 27, 28, 29, 30]⟩, 
  ⟨(some (101)), .indexAddr 1 (.tmp 99) (.tmp 100), none, [0, 1, 2, 3, 4, 5, 6, 7, 8, 9, 10, 11, 12, 13, 14, 15, 16, 17, 18, 19, 20, 21, 22, 23, 24, 25, 26]⟩, 
  ⟨(some (102)), .load none (.tmp 101), none, [0, 1, 2, 3, 4, 5, 6, 7, 8, 9, 10, 11, 12, 13, 14, 15, 16, 17, 18, 19, 20, 21, 22, 23, 24, 25, 26]⟩, 
  ⟨(some (103)), .bin .plain .mul (.tmp 95) (.tmp 102), none, [0, 1, 2, 3, 4, 5, 6, 7, 8, 9, 10, 11, 12, 13, 14, 15, 16, 17, 18, 19]⟩, 
  ⟨(some (104)), .bin .plain .sub (.tmp 88) (.tmp 103), none, [0, 1, 2, 3, 4]⟩, 
  ⟨(some (105)), .move (.tmp 9), none, [0, 1, 2, 3, 4, 5, 6, 7, 8, 9, 10, 11, 12, 13, 14, 15, 16, 17, 18, 19, 20, 21, 22, 23, 24, 25, 26, 27, 28, 29, 30, 31, 32, 33, 34, 35]⟩, 
  ⟨(some (106)), .bin .plain .quo (.tmp 104) (.tmp 105), none, [0, 1, 2, 3, 4]⟩, 
  ⟨(some (107)), .indexAddr 1 (.tmp 72) (.tmp 73), none, []⟩, 
  ⟨none, .store 1 (.tmp 107) (.tmp 106), none, []⟩]
def k_law01_solved_r19s : List (List AOper) := [
  [
  ⟨(some (69)), .move (.tmp 7), none, []⟩, 
  ⟨(some (70)), .move (.tmp 11), none, [0]⟩, 
  ⟨(some (71)), .indexAddr 1 (.tmp 69) (.tmp 70), none, []⟩, 
  ⟨(some (72)), .load none (.tmp 71), none, []⟩, 
  ⟨(some (73)), .move (.tmp 12), none, [0, 1, 2, 3]⟩, 
  ⟨(some (74)), .move (.tmp 7), none, [0, 1, 2, 3, 4]⟩, 
  ⟨(some (75)), .move (.tmp 11), none, [0, 1, 2, 3, 4, 5]⟩, 
  ⟨(some (76)), .indexAddr 1 (.tmp 74) (.tmp 75), none, [0, 1, 2, 3, 4]⟩, 
  ⟨(some (77)), .load none (.tmp 76), none, [0, 1, 2, 3, 4]⟩, 
  ⟨(some (78)), .move (.tmp 12), none, [0, 1, 2, 3, 4, 5, 6, 7, 8]⟩, 
  ⟨(some (79)), .indexAddr 1 (.tmp 77) (.tmp 78), none, [0, 1, 2, 3, 4]⟩, 
  ⟨(some (80)), .load none (.tmp 79), none, [0, 1, 2, 3, 4]⟩, 
  ⟨(some (81)), .move (.tmp 7), none, [0, 1, 2, 3, 4, 5, 6, 7, 8, 9, 10, 11]⟩, 
  ⟨(some (82)), .move (.tmp 10), none, [0, 1, 2, 3, 4, 5, 6, 7, 8, 9, 10, 11, 12]⟩, 
  ⟨(some (83)), .indexAddr 1 (.tmp 81) (.tmp 82), none, [0, 1, 2, 3, 4, 5, 6, 7, 8, 9, 10, 11]⟩, 
  ⟨(some (84)), .load none (.tmp 83), none, [0, 1, 2, 3, 4, 5, 6, 7, 8, 9, 10, 11]⟩, 
  ⟨(some (85)), .move (.tmp 10), none, [0, 1, 2, 3, 4, 5, 6, 7, 8, 9, 10, 11, 12, 13, 14, 15]⟩, 
  ⟨(some (86)), .indexAddr 1 (.tmp 84) (.tmp 85), none, [0, 1, 2, 3, 4, 5, 6, 7, 8, 9, 10, 11]⟩, 
  ⟨(some (87)), .load none (.tmp 86), none, [0, 1, 2, 3, 4, 5, 6, 7, 8, 9, 10, 11]⟩, 
  ⟨(some (88)), .bin .plain .mul (.tmp 80) (.tmp 87), none, [0, 1, 2, 3, 4]⟩, 
  ⟨(some (89)), .move (.tmp 7), none, [0, 1, 2, 3, 4, 5, 6, 7, 8, 9, 10, 11, 12, 13, 14, 15, 16, 17, 18, 19]⟩, 
  ⟨(some (90)), .move (.tmp 11), none, [0, 1, 2, 3, 4, 5, 6, 7, 8, 9, 10, 11, 12, 13, 14, 15, 16, 17, 18, 19, 20]⟩, 
  ⟨(some (91)), .indexAddr 1 (.tmp 89) (.tmp 90), none, [0, 1, 2, 3, 4, 5, 6, 7, 8, 9, 10, 11, 12, 13, 14, 15, 16, 17, 18, 19]⟩, 
  ⟨(some (92)), .load none (.tmp 91), none, [0, 1, 2, 3, 4, 5, 6, 7, 8, 9, 10, 11, 12, 13, 14, 15, 16, 17, 18, 19]⟩, 
  ⟨(some (93)), .move (.tmp 10), none, [0, 1, 2, 3, 4, 5, 6, 7, 8, 9, 10, 11, 12, 13, 14, 15, 16, 17, 18, 19, 20, 21, 22, 23]⟩, 
  ⟨(some (94)), .indexAddr 1 (.tmp 92) (.tmp 93), none, [0, 1, 2, 3, 4, 5, 6, 7, 8, 9, 10, 11, 12, 13, 14, 15, 16, 17, 18, 19]⟩, 
  ⟨(some (95)), .load none (.tmp 94), none, [0, 1, 2, 3, 4, 5, 6, 7, 8, 9, 10, 11, 12, 13, 14, 15, 16, 17, 18, 19]⟩, 
  ⟨(some (96)), .move (.tmp 7), none, [0, 1, 2, 3, 4, 5, 6, 7, 8, 9, 10, 11, 12, 13, 14, 15, 16, 17, 18, 19, 20, 21, 22, 23, 24, 25, 26]⟩, 
  ⟨(some (97)), .move (.tmp 10), none, [0, 1, 2, 3, 4, 5, 6, 7, 8, 9, 10, 11, 12, 13, 14, 15, 16, 17, 18, 19, 20, 21, 22, 23, 24, 25, 26, 27]⟩, 
  ⟨(some (98)), .indexAddr 1 (.tmp 96) (.tmp 97), none, [0, 1, 2, 3, 4, 5, 6, 7, 8, 9, 10, 11, 12, 13, 14, 15, 16, 17, 18, 19, 20, 21, 22, 23, 24, 25, 26]⟩, 
  ⟨(some (99)), .load none (.tmp 98), none, [0, 1, 2, 3, 4, 5, 6, 7, 8, 9, 10, 11, 12, 13, 14, 15, 16, 17, 18, 19, 20, 21, 22, 23, 24, 25, 26]⟩, 
  ⟨(some (100)), .move (.tmp 12), none, [0, 1, 2, 3, 4, 5, 6, 7, 8, 9, 10, 11, 12, 13, 14, 15, 16, 17, 18, 19, 20, 21, 22, 23, 24, 25, 26, 27, 28, 29, 30]⟩, 
  ⟨(some (101)), .indexAddr 1 (.tmp 99) (.tmp 100), none, [0, 1, 2, 3, 4, 5, 6, 7, 8, 9, 10, 11, 12, 13, 14, 15, 16, 17, 18, 19, 20, 21, 22, 23, 24, 25, 26]⟩, 
  ⟨(some (102)), .load none (.tmp 101), none, [0, 1, 2, 3, 4, 5, 6, 7, 8, 9, 10, 11, 12, 13, 14, 15, 16, 17, 18, 19, 20, 21, 22, 23, 24, 25, 26]⟩, 
  ⟨(some (103)), .bin .plain .mul (.tmp 95) (.tmp 102), none, [0, 1, 2, 3, 4, 5, 6, 7, 8, 9, 10, 11, 12, 13, 14, 15, 16, 17, 18, 19]⟩, 
  ⟨(some (104)), .bin .plain .sub (.tmp 88) (.tmp 103), none, [0, 1, 2, 3, 4]⟩, 
  ⟨(some (105)), .move (.tmp 9), none, [0, 1, 2, 3, 4, 5, 6, 7, 8, 9, 10, 11, 12, 13, 14, 15, 16, 17, 18, 19, 20, 21, 22, 23, 24, 25, 26, 27, 28, 29, 30, 31, 32, 33, 34, 35]⟩, 
  ⟨(some (106)), .bin .plain .quo (.tmp 104) (.tmp 105), none, [0, 1, 2, 3, 4]⟩], 
  [
  ⟨(some (107)), .indexAddr 1 (.tmp 72) (.tmp 73), none, []⟩], 
  [
  ⟨none, .store 1 (.tmp 107) (.tmp 106), none, []⟩]]
theorem k_law01_solved_r19_sg : segs k_law01_solved_r19 = k_law01_solved_r19s := by kernel_rfl
theorem k_law01_solved_r19_st : statOK k_law01_solved_r19 = true := by kernel_rfl
def k_law01_solved_r20 : List AOper := [
  ⟨(some (64)), .move (.tmp 12), none, []⟩, 
  ⟨(some (65)), .bin .plain .sub (.tmp 64) (.const (.int .i64 1)), none, []⟩, 
  ⟨(some (12)), .move (.tmp 65), none, []⟩]
def k_law01_solved_r21 : ACode := (.seq (.seq (.reg k_law01_solved_r17 false) (.cond (.tmp 63) .skip (.exit 6))) (.seq (.block 7 (.seq (.reg k_law01_solved_r18 false) (.cond (.tmp 68) (.reg k_law01_solved_r19 true) .skip))) (.reg k_law01_solved_r20 false)))
def k_law01_solved_r22 : List AOper := [
  ⟨(some (108)), .move (.tmp 7), none, []⟩, 
  ⟨(some (109)), .move (.tmp 11), none, []⟩, 
  ⟨(some (110)), .indexAddr 1 (.tmp 108) (.tmp 109), none, []⟩, 
  ⟨(some (111)), .load none (.tmp 110), none, []⟩, 
  ⟨(some (112)), .move (.tmp 10), none, []⟩, 
  ⟨(some (113)), .indexAddr 1 (.tmp 111) (.tmp 112), none, []⟩, 
  ⟨none, .store 1 (.tmp 113) (.const (.int .i64 0)), none, []⟩]
def k_law01_solved_r23 : List AOper := [
  ⟨(some (56)), .move (.tmp 11), none, []⟩, 
  ⟨(some (57)), .bin .plain .add (.tmp 56) (.const (.int .i64 1)), none, []⟩, 
  ⟨(some (11)), .move (.tmp 57), none, []⟩]
def k_law01_solved_r24 : ACode := (.seq (.seq (.reg k_law01_solved_r14 false) (.cond (.tmp 55) .skip (.exit 4))) (.seq (.block 5 (.seq (.seq (.reg k_law01_solved_r15 false) (.cond (.tmp 60) (.exit 5) .skip)) (.seq (.seq (.reg k_law01_solved_r16 false) (.block 6 (.loop k_law01_solved_r21))) (.reg k_law01_solved_r22 false)))) (.reg k_law01_solved_r23 false)))
def k_law01_solved_r25 : List AOper := [
  ⟨(some (13)), .move (.const (.int .i64 0)), none, []⟩]
def k_law01_solved_r26 : List AOper := [
  ⟨(some (114)), .move (.tmp 13), none, []⟩, 
  ⟨(some (115)), .move (.tmp 10), none, []⟩, 
  ⟨(some (116)), .bin .plain .lss (.tmp 114) (.tmp 115), none, []⟩]
def k_law01_solved_r27 : List AOper := [
  ⟨(some (119)), .move (.tmp 7), none, []⟩, 
  ⟨(some (120)), .move (.tmp 13), none, [0]⟩, 
  ⟨(some (121)), .indexAddr 1 (.tmp 119) (.tmp 120), none, []⟩, 
  ⟨(some (122)), .load none (.tmp 121), none, []⟩, 
  ⟨(some (123)), .move (.tmp 13), none, [0, 1, 2, 3]⟩, 
  ⟨(some (124)), .move (.tmp 7), none, [0, 1, 2, 3, 4]⟩, 
  ⟨(some (125)), .move (.tmp 10), none, [0, 1, 2, 3, 4, 5]⟩, 
  ⟨(some (126)), .indexAddr 1 (.tmp 124) (.tmp 125), none, [0, 1, 2, 3, 4]⟩, 
  ⟨(some (127)), .load none (.tmp 126), none, [0, 1, 2, 3, 4]⟩, 
  ⟨(some (128)), .move (.tmp 10), none, [0, 1, 2, 3, 4, 5, 6, 7, 8]⟩, 
  ⟨(some (129)), .indexAddr 1 (.tmp 127) (.tmp 128), none, [0, 1, 2, 3, 4]⟩, 
  ⟨(some (130)), .load none (.tmp 129), none, [0, 1, 2, 3, 4]⟩, 
  ⟨(some (131)), .indexAddr 1 (.tmp 122) (.tmp 123), none, []⟩, 
  ⟨none, .store 1 (.tmp 131) (.tmp 130), none, []⟩]
def k_law01_solved_r27s : List (List AOper) := [
  [
  ⟨(some (119)), .move (.tmp 7), none, []⟩, 
  ⟨(some (120)), .move (.tmp 13), none, [0]⟩, 
  ⟨(some (121)), .indexAddr 1 (.tmp 119) (.tmp 120), none, []⟩, 
  ⟨(some (122)), .load none (.tmp 121), none, []⟩, 
  ⟨(some (123)), .move (.tmp 13), none, [0, 1, 2, 3]⟩, 
  ⟨(some (124)), .move (.tmp 7), none, [0, 1, 2, 3, 4]⟩, 
  ⟨(some (125)), .move (.tmp 10), none, [0, 1, 2, 3, 4, 5]⟩, 
  ⟨(some (126)), .indexAddr 1 (.tmp 124) (.tmp 125), none, [0, 1, 2, 3, 4]⟩, 
  ⟨(some (127)), .load none (.tmp 126), none, [0, 1, 2, 3, 4]⟩, 
  ⟨(some (128)), .move (.tmp 10), none, [0, 1, 2, 3, 4, 5, 6, 7, 8]⟩, 
  ⟨(some (129)), .indexAddr 1 (.tmp 127) (.tmp 128), none, [0, 1, 2, 3, 4]⟩, 
  ⟨(some (130)), .load none (.tmp 129), none, [0, 1, 2, 3, 4]⟩], 
  [
  ⟨(some (131)), .indexAddr 1 (.tmp 122) (.tmp 123), none, []⟩], 
  [
  ⟨none, .store 1 (.tmp 131) (.tmp 130), none, []⟩]]
theorem k_law01_solved_r27_sg : segs k_law01_solved_r27 = k_law01_solved_r27s := by kernel_rfl
theorem k_law01_solved_r27_st : statOK k_law01_solved_r27 = true := by kernel_rfl
def k_law01_solved_r28 : List AOper := [
  ⟨(some (117)), .move (.tmp 13), none, []⟩, 
  ⟨(some (118)), .bin .plain .add (.tmp 117) (.const (.int .i64 1)), none, []⟩, 
  ⟨(some (13)), .move (.tmp 118), none, []⟩]
def k_law01_solved_r29 : ACode := (.seq (.seq (.reg k_law01_solved_r26 false) (.cond (.tmp 116) .skip (.exit 8))) (.seq (.block 9 (.reg k_law01_solved_r27 true)) (.reg k_law01_solved_r28 false)))
def k_law01_solved_r30 : List AOper := [
  ⟨(some (132)), .move (.tmp 7), none, []⟩, 
  ⟨(some (133)), .move (.tmp 10), none, []⟩, 
  ⟨(some (134)), .indexAddr 1 (.tmp 132) (.tmp 133), none, []⟩, 
  ⟨(some (135)), .load none (.tmp 134), none, []⟩, 
  ⟨(some (136)), .move (.tmp 10), none, []⟩, 
  ⟨(some (137)), .indexAddr 1 (.tmp 135) (.tmp 136), none, []⟩, 
  ⟨(some (138)), .load none (.tmp 137), none, []⟩, 
  ⟨(some (9)), .move (.tmp 138), none, []⟩]
def k_law01_solved_r31 : List AOper := [
  ⟨(some (43)), .move (.tmp 10), none, []⟩, 
  ⟨(some (44)), .bin .plain .add (.tmp 43) (.const (.int .i64 1)), none, []⟩, 
  ⟨(some (10)), .move (.tmp 44), none, []⟩]
def k_law01_solved_r32 : ACode := (.seq (.seq (.reg k_law01_solved_r10 false) (.cond (.tmp 42) .skip (.exit 2))) (.seq (.block 3 (.seq (.seq (.reg k_law01_solved_r11 false) (.cond (.tmp 52) (.seq (.reg k_law01_solved_r12 false) .ret) .skip)) (.seq (.seq (.reg k_law01_solved_r13 false) (.block 4 (.loop k_law01_solved_r24))) (.seq (.seq (.reg k_law01_solved_r25 false) (.block 8 (.loop k_law01_solved_r29))) (.reg k_law01_solved_r30 false))))) (.reg k_law01_solved_r31 false)))
def k_law01_solved_r33 : List AOper := [
  ⟨(some (139)), .move (.tmp 6), none, []⟩, 
  ⟨(some (140)), .makeSlice (.int .i64 0) 8 (.tmp 139) (.tmp 139), none, []⟩, 
  ⟨(some (14)), .move (.tmp 140), none, []⟩]
def k_law01_solved_r34 : List AOper := [
  ⟨(some (15)), .move (.const (.int .i64 0)), none, []⟩]
def k_law01_solved_r35 : List AOper := [
  ⟨(some (141)), .move (.tmp 15), none, []⟩, 
  ⟨(some (142)), .move (.tmp 6), none, []⟩, 
  ⟨(some (143)), .bin .plain .lss (.tmp 141) (.tmp 142), none, []⟩]
def k_law01_solved_r36 : List AOper := [
  ⟨(some (146)), .move (.tmp 14), none, []⟩, 
  ⟨(some (147)), .move (.tmp 15), none, []⟩, 
  ⟨(some (148)), .move (.tmp 7), none, []⟩, 
  ⟨(some (149)), .move (.tmp 15), none, []⟩, 
  ⟨(some (150)), .indexAddr 1 (.tmp 148) (.tmp 149), none, []⟩, 
  ⟨(some (151)), .load none (.tmp 150), none, []⟩, 
  ⟨(some (152)), .move (.tmp 6), none, []⟩, 
  ⟨(some (153)), .indexAddr 1 (.tmp 151) (.tmp 152), none, []⟩, 
  ⟨(some (154)), .load none (.tmp 153), none, []⟩, 
  ⟨(some (155)), .indexAddr 1 (.tmp 146) (.tmp 147), none, []⟩, 
  ⟨none, .store 1 (.tmp 155) (.tmp 154), none, []⟩]
def k_law01_solved_r37 : List AOper := [
  ⟨(some (144)), .move (.tmp 15), none, []⟩, 
  ⟨(some (145)), .bin .plain .add (.tmp 144) (.const (.int .i64 1)), none, []⟩, 
  ⟨(some (15)), .move (.tmp 145), none, []⟩]
def k_law01_solved_r38 : ACode := (.seq (.seq (.reg k_law01_solved_r35 false) (.cond (.tmp 143) .skip (.exit 10))) (.seq (.block 11 (.reg k_law01_solved_r36 false)) (.reg k_law01_solved_r37 false)))
def k_law01_solved_r39 : List AOper := [
  ⟨(some (156)), .move (.tmp 9), none, []⟩, 
  ⟨(some (157)), .move (.tmp 14), none, []⟩, 
  ⟨(some (4)), .move (.tmp 156), none, []⟩, 
  ⟨(some (5)), .move (.tmp 157), none, []⟩]
def k_law01_solved : AFun := { params := 2, ntmps := 158, body := (.seq (.reg k_law01_solved_r0 false) (.seq (.reg k_law01_solved_r1 false) (.seq (.reg k_law01_solved_r2 false) (.seq (.seq (.reg k_law01_solved_r3 false) (.block 0 (.loop k_law01_solved_r7))) (.seq (.reg k_law01_solved_r8 false) (.seq (.seq (.reg k_law01_solved_r9 false) (.block 2 (.loop k_law01_solved_r32))) (.seq (.reg k_law01_solved_r33 false) (.seq (.seq (.reg k_law01_solved_r34 false) (.block 10 (.loop k_law01_solved_r38))) (.seq (.reg k_law01_solved_r39 false) .ret))))))))), res := [.tmp 4, .tmp 5] }
theorem k_law01_solved_ok : cfun Try.prog Try.f56 = k_law01_solved := by kernel_rfl


abbrev n_law01_FieldExact : Nat := 10
theorem e_law01_FieldExact : EntryOK Try.prog n_law01_FieldExact k_law01_FieldExact := ⟨Try.f10, Try.func10, k_law01_FieldExact_ok, by kernel_rfl⟩
abbrev n_law01_solved : Nat := 56
theorem e_law01_solved : EntryOK Try.prog n_law01_solved k_law01_solved := ⟨Try.f56, Try.func56, k_law01_solved_ok, by kernel_rfl⟩

attribute [go_sem] k_law01_FieldExact_r0 k_law01_FieldExact_r1 k_law01_FieldExact_r2 k_law01_FieldExact_r3 k_law01_FieldExact_r4 k_law01_FieldExact_r5 k_law01_FieldExact_r6 k_law01_FieldExact_r7s k_law01_FieldExact_r8 k_law01_FieldExact_r9 k_law01_FieldExact_r10 k_law01_FieldExact_r12
attribute [go_sem] k_law01_FieldExact_r13 k_law01_FieldExact_r14 k_law01_FieldExact_r15 k_law01_FieldExact_r16 k_law01_FieldExact_r18s k_law01_FieldExact_r19 k_law01_FieldExact_r20 k_law01_FieldExact_r21s k_law01_FieldExact_r22 k_law01_FieldExact_r23 k_law01_FieldExact_r24 k_law01_FieldExact_r25
attribute [go_sem] k_law01_FieldExact_r26 k_law01_FieldExact_r27s k_law01_FieldExact_r28s k_law01_FieldExact_r29 k_law01_FieldExact_r30s k_law01_FieldExact_r31 k_law01_FieldExact_r33 k_law01_FieldExact_r34 k_law01_FieldExact_r35 k_law01_FieldExact_r36s k_law01_FieldExact_r37 k_law01_FieldExact_r39
attribute [go_sem] k_law01_FieldExact_r41 k_law01_FieldExact_r42 k_law01_FieldExact_r43 k_law01_FieldExact_r44 k_law01_FieldExact_r45 k_law01_FieldExact_r46s k_law01_FieldExact_r47 k_law01_FieldExact_r48 k_law01_FieldExact_r50 k_law01_solved_r0 k_law01_solved_r1 k_law01_solved_r2
attribute [go_sem] k_law01_solved_r3 k_law01_solved_r4 k_law01_solved_r5s k_law01_solved_r6 k_law01_solved_r8 k_law01_solved_r9 k_law01_solved_r10 k_law01_solved_r11 k_law01_solved_r12 k_law01_solved_r13 k_law01_solved_r14 k_law01_solved_r15
attribute [go_sem] k_law01_solved_r16 k_law01_solved_r17 k_law01_solved_r18 k_law01_solved_r19s k_law01_solved_r20 k_law01_solved_r22 k_law01_solved_r23 k_law01_solved_r25 k_law01_solved_r26 k_law01_solved_r27s k_law01_solved_r28 k_law01_solved_r30
attribute [go_sem] k_law01_solved_r31 k_law01_solved_r33 k_law01_solved_r34 k_law01_solved_r35 k_law01_solved_r36 k_law01_solved_r37 k_law01_solved_r39 k_law01_FieldExact_r30_sg k_law01_solved_r5_sg k_law01_FieldExact_r7_sg k_law01_FieldExact_r46_sg k_law01_FieldExact_r28_sg
attribute [go_sem] k_law01_FieldExact_r18_sg k_law01_FieldExact_r27_sg k_law01_solved_r19_sg k_law01_solved_r27_sg k_law01_FieldExact_r36_sg k_law01_FieldExact_r21_sg k_law01_FieldExact_r30_st k_law01_solved_r5_st k_law01_FieldExact_r7_st k_law01_FieldExact_r46_st k_law01_FieldExact_r28_st k_law01_FieldExact_r18_st
attribute [go_sem] k_law01_FieldExact_r27_st k_law01_solved_r19_st k_law01_solved_r27_st k_law01_FieldExact_r36_st k_law01_FieldExact_r21_st k_law01_FieldExact k_law01_solved
end Go.Proofs

namespace Go.Proofs

abbrev Mat := Nat → Nat → Int
def dt2 (a : Mat) (i0 i1 j0 j1 : Nat) : Int := a i0 j0 * a i1 j1 - a i0 j1 * a i1 j0
def dt3 (a : Mat) (i0 i1 i2 j0 j1 j2 : Nat) : Int := a i0 j0 * dt2 a i1 i2 j1 j2 - a i0 j1 * dt2 a i1 i2 j0 j2 + a i0 j2 * dt2 a i1 i2 j0 j1
def dt4 (a : Mat) (j0 j1 j2 j3 : Nat) : Int := a 0 j0 * dt3 a 1 2 3 j1 j2 j3 - a 0 j1 * dt3 a 1 2 3 j0 j2 j3 + a 0 j2 * dt3 a 1 2 3 j0 j1 j3 - a 0 j3 * dt3 a 1 2 3 j0 j1 j2

def el1 (a : Mat) (i j : Nat) : Int := if i = 0 then a 0 j else dt2 a 0 i 0 j
def el2 (a : Mat) (i j : Nat) : Int := if i = 0 then dt2 a 0 1 j 1 else if i = 1 then dt2 a 0 1 0 j else dt3 a 0 1 i 0 1 j
def el3 (a : Mat) (i j : Nat) : Int := if i = 0 then dt3 a 0 1 2 j 1 2 else if i = 1 then dt3 a 0 1 2 0 j 2 else if i = 2 then dt3 a 0 1 2 0 1 j else dt4 a 0 1 2 j
def el4 (a : Mat) (i j : Nat) : Int := if i = 0 then dt4 a j 1 2 3 else if i = 1 then dt4 a 0 j 2 3 else if i = 2 then dt4 a 0 1 j 3 else dt4 a 0 1 2 j
def pv (a : Mat) : Nat → Int
  | 0 => 1
  | 1 => a 0 0
  | 2 => dt2 a 0 1 0 1
  | 3 => dt3 a 0 1 2 0 1 2
  | _ => dt4 a 0 1 2 3

theorem el1_step (a : Mat) (i j : Nat) (hi : i ≠ 0) : a i j * a 0 0 - a i 0 * a 0 j = pv a 0 * el1 a i j := by
  unfold pv el1 dt2; rw [if_neg hi]; grind
theorem el2_0 (a : Mat) (j : Nat) : el1 a 0 j * el1 a 1 1 - el1 a 0 1 * el1 a 1 j = pv a 1 * el2 a 0 j := by
  simp only [el1, el2, pv, dt2]; grind
theorem el2_step (a : Mat) (i j : Nat) (hi : 2 ≤ i) : el1 a i j * el1 a 1 1 - el1 a i 1 * el1 a 1 j = pv a 1 * el2 a i j := by
  have h0 : i ≠ 0 := by omega
  have h1 : i ≠ 1 := by omega
  simp only [el1, el2, pv, dt2, dt3, if_neg h0, if_neg h1]; grind
theorem el3_0 (a : Mat) (j : Nat) : el2 a 0 j * el2 a 2 2 - el2 a 0 2 * el2 a 2 j = pv a 2 * el3 a 0 j := by
  simp only [el2, el3, pv, dt2, dt3]; grind
theorem el3_1 (a : Mat) (j : Nat) : el2 a 1 j * el2 a 2 2 - el2 a 1 2 * el2 a 2 j = pv a 2 * el3 a 1 j := by
  simp only [el2, el3, pv, dt2, dt3]; grind
theorem el3_3 (a : Mat) (j : Nat) : el2 a 3 j * el2 a 2 2 - el2 a 3 2 * el2 a 2 j = pv a 2 * el3 a 3 j := by
  simp only [el2, el3, pv, dt2, dt3, dt4]; grind
theorem el4_0 (a : Mat) (j : Nat) : el3 a 0 j * el3 a 3 3 - el3 a 0 3 * el3 a 3 j = pv a 3 * el4 a 0 j := by
  simp only [el3, el4, pv, dt2, dt3, dt4]; grind
theorem el4_1 (a : Mat) (j : Nat) : el3 a 1 j * el3 a 3 3 - el3 a 1 3 * el3 a 3 j = pv a 3 * el4 a 1 j := by
  simp only [el3, el4, pv, dt2, dt3, dt4]; grind
theorem el4_2 (a : Mat) (j : Nat) : el3 a 2 j * el3 a 3 3 - el3 a 2 3 * el3 a 3 j = pv a 3 * el4 a 2 j := by
  simp only [el3, el4, pv, dt2, dt3, dt4]; grind
end Go.Proofs

