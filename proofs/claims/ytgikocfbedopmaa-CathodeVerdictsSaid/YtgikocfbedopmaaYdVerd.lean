/- The compiled code of functions of the program. -/
import Derived.Test.YtgikocfbedopmaaYcCode
import Derived.Test.YtgikocfbedopmaaYdCode
namespace Go.Proofs
open Go Go.Sx

-- 12: thermion/thermionlaw03.CathodeVerdicts
def k_law03_CathodeVerdicts_r0 : List AOper := [
  ⟨(some (4)), .move (.const (.bool false)), none, []⟩]
def k_law03_CathodeVerdicts_r1 : List AOper := [
  ⟨(some (17)), .move (.tmp 0), none, []⟩, 
  ⟨(some (18)), .call (.const (.fn (.func 19) [] [])) [.tmp 17], none, []⟩, 
  ⟨(some (5)), .move (.tmp 18), none, []⟩]
def k_law03_CathodeVerdicts_r2 : List AOper := [
  ⟨(some (19)), .move (.tmp 5), none, []⟩, 
  ⟨(some (20)), .call (.const (.fn (.func 20) [] [])) [.tmp 19], none, []⟩, 
  ⟨(some (6)), .box (.const (.agg [.int .i64 0, .int .i64 0, .int .i64 0, .int .i64 0, .int .i64 0, .int .i64 0, .nilsl])), none, []⟩, 
  ⟨none, .store 7 (.tmp 6) (.tmp 20), none, []⟩]
def k_law03_CathodeVerdicts_r3 : List AOper := [
  ⟨(some (21)), .move (.tmp 5), none, []⟩, 
  ⟨(some (22)), .call (.const (.fn (.func 21) [] [])) [.tmp 21, .const (.int .i64 4), .const (.int .i64 9)], none, []⟩, 
  ⟨(some (7)), .move (.tmp 22), none, []⟩]
def k_law03_CathodeVerdicts_r4 : List AOper := [
  ⟨(some (23)), .move (.tmp 5), none, []⟩, 
  ⟨(some (24)), .load (some (7)) (.tmp 6), none, []⟩, 
  ⟨(some (25)), .move (.tmp 7), none, []⟩, 
  ⟨(some (26)), .call (.const (.fn (.func 45) [] [])) [.tmp 23, .tmp 24, .tmp 25], none, []⟩, 
  ⟨(some (8)), .box (.const (.agg [.int .i64 0, .int .i64 0, .int .i64 0, .int .i64 0, .int .i64 0])), none, []⟩, 
  ⟨none, .store 5 (.tmp 8) (.tmp 26), none, []⟩]
def k_law03_CathodeVerdicts_r5 : List AOper := [
  ⟨(some (27)), .move (.tmp 5), none, []⟩, 
  ⟨(some (28)), .load (some (7)) (.tmp 6), none, []⟩, 
  ⟨(some (29)), .move (.tmp 7), none, []⟩, 
  ⟨(some (30)), .call (.const (.fn (.func 41) [] [])) [.tmp 27, .tmp 28, .tmp 29], none, []⟩, 
  ⟨(some (9)), .move (.tmp 30), none, []⟩]
def k_law03_CathodeVerdicts_r6 : List AOper := [
  ⟨(some (32)), .load (some (7)) (.tmp 6), none, []⟩, 
  ⟨(some (33)), .load (some (5)) (.tmp 8), none, []⟩, 
  ⟨(some (34)), .move (.tmp 7), none, []⟩, 
  ⟨(some (35)), .call (.const (.fn (.func 46) [] [])) [.tmp 32, .tmp 33, .tmp 34], none, []⟩, 
  ⟨(some (31)), .move (.tmp 35), none, []⟩, 
  ⟨(some (36)), .extract (.tmp 31) 0, none, []⟩, 
  ⟨(some (37)), .extract (.tmp 31) 1, none, []⟩, 
  ⟨(some (38)), .extract (.tmp 31) 2, none, []⟩, 
  ⟨(some (10)), .move (.tmp 36), none, []⟩, 
  ⟨(some (11)), .move (.tmp 37), none, []⟩, 
  ⟨(some (12)), .move (.tmp 38), none, []⟩]
def k_law03_CathodeVerdicts_r7 : List AOper := [
  ⟨(some (39)), .fieldAddr 1 (.tmp 8), none, []⟩, 
  ⟨none, .store 1 (.tmp 39) (.const (.int .i64 1099511627776)), none, []⟩]
def k_law03_CathodeVerdicts_r8 : List AOper := [
  ⟨(some (41)), .load (some (7)) (.tmp 6), none, []⟩, 
  ⟨(some (42)), .load (some (5)) (.tmp 8), none, []⟩, 
  ⟨(some (43)), .move (.tmp 7), none, []⟩, 
  ⟨(some (44)), .call (.const (.fn (.func 46) [] [])) [.tmp 41, .tmp 42, .tmp 43], none, []⟩, 
  ⟨(some (40)), .move (.tmp 44), none, []⟩, 
  ⟨(some (45)), .extract (.tmp 40) 0, none, []⟩, 
  ⟨(some (46)), .extract (.tmp 40) 1, none, []⟩, 
  ⟨(some (47)), .extract (.tmp 40) 2, none, []⟩, 
  ⟨(some (13)), .move (.tmp 45), none, []⟩, 
  ⟨(some (14)), .move (.tmp 46), none, []⟩, 
  ⟨(some (15)), .move (.tmp 47), none, []⟩]
def k_law03_CathodeVerdicts_r9 : List AOper := [
  ⟨(some (48)), .move (.tmp 12), none, []⟩, 
  ⟨(some (49)), .bin .plain .neq (.tmp 48) (.const (.int .i64 0)), none, []⟩, 
  ⟨(some (50)), .move (.tmp 49), none, []⟩, 
  ⟨(some (51)), .move (.tmp 15), (some (50, false)), []⟩, 
  ⟨(some (52)), .bin .plain .neq (.tmp 51) (.const (.int .i64 0)), (some (50, false)), []⟩, 
  ⟨(some (53)), .pick (.tmp 50) (.const (.bool true)) (.tmp 52), none, []⟩, 
  ⟨(some (54)), .move (.tmp 53), none, []⟩, 
  ⟨(some (55)), .move (.tmp 10), (some (54, false)), []⟩, 
  ⟨(some (56)), .bin .plain .eql (.tmp 55) (.const (.int .i64 1)), (some (54, false)), []⟩, 
  ⟨(some (57)), .move (.tmp 11), (some (54, false)), []⟩, 
  ⟨(some (58)), .bin .plain .eql (.tmp 57) (.const (.int .i64 0)), (some (54, false)), []⟩, 
  ⟨(some (59)), .move (.tmp 58), (some (54, false)), []⟩, 
  ⟨(some (60)), .move (.tmp 10), (some (59, true)), []⟩, 
  ⟨(some (61)), .bin .plain .neq (.tmp 60) (.const (.int .i64 2)), (some (59, true)), []⟩, 
  ⟨(some (62)), .pick (.tmp 59) (.tmp 61) (.const (.bool false)), (some (54, false)), []⟩, 
  ⟨(some (63)), .move (.tmp 62), (some (54, false)), []⟩, 
  ⟨(some (64)), .move (.tmp 10), (some (63, true)), []⟩, 
  ⟨(some (65)), .bin .plain .neq (.tmp 64) (.const (.int .i64 3)), (some (63, true)), []⟩, 
  ⟨(some (66)), .pick (.tmp 63) (.tmp 65) (.const (.bool false)), (some (54, false)), []⟩, 
  ⟨(some (67)), .bin .bool .neq (.tmp 56) (.tmp 66), (some (54, false)), []⟩, 
  ⟨(some (68)), .move (.tmp 67), (some (54, false)), []⟩, 
  ⟨(some (69)), .move (.tmp 7), (some (68, true)), []⟩, 
  ⟨(some (70)), .len false (.tmp 69), (some (68, true)), []⟩, 
  ⟨(some (71)), .bin .plain .gtr (.tmp 70) (.const (.int .i64 0)), (some (68, true)), []⟩, 
  ⟨(some (72)), .pick (.tmp 68) (.tmp 71) (.const (.bool false)), (some (54, false)), []⟩, 
  ⟨(some (73)), .pick (.tmp 54) (.const (.bool true)) (.tmp 72), none, []⟩]
def k_law03_CathodeVerdicts_r10 : List AOper := [
  ⟨(some (4)), .move (.const (.bool false)), none, []⟩]
def k_law03_CathodeVerdicts_r11 : List AOper := [
  ⟨(some (74)), .load (some (5)) (.tmp 8), none, []⟩, 
  ⟨(some (75)), .move (.tmp 9), none, []⟩, 
  ⟨(some (76)), .call (.const (.fn (.func 62) [] [])) [.tmp 74, .tmp 75], none, []⟩, 
  ⟨(some (16)), .move (.tmp 76), none, []⟩]
def k_law03_CathodeVerdicts_r12 : List AOper := [
  ⟨(some (77)), .move (.tmp 10), none, []⟩, 
  ⟨(some (78)), .bin .plain .neq (.tmp 77) (.const (.int .i64 1)), none, []⟩, 
  ⟨(some (79)), .move (.tmp 78), none, []⟩, 
  ⟨(some (80)), .move (.tmp 16), (some (79, false)), []⟩, 
  ⟨(some (81)), .pick (.tmp 79) (.const (.bool true)) (.tmp 80), none, []⟩, 
  ⟨(some (82)), .move (.tmp 81), none, []⟩, 
  ⟨(some (83)), .move (.tmp 13), (some (82, true)), []⟩, 
  ⟨(some (84)), .bin .plain .neq (.tmp 83) (.const (.int .i64 1)), (some (82, true)), []⟩, 
  ⟨(some (85)), .move (.tmp 84), (some (82, true)), []⟩, 
  ⟨(some (86)), .move (.tmp 16), (some (85, false)), []⟩, 
  ⟨(some (87)), .pick (.tmp 85) (.const (.bool true)) (.tmp 86), (some (82, true)), []⟩, 
  ⟨(some (88)), .pick (.tmp 82) (.tmp 87) (.const (.bool false)), none, []⟩, 
  ⟨(some (89)), .move (.tmp 88), none, []⟩, 
  ⟨(some (90)), .move (.tmp 13), (some (89, true)), []⟩, 
  ⟨(some (91)), .bin .plain .neq (.tmp 90) (.const (.int .i64 2)), (some (89, true)), []⟩, 
  ⟨(some (92)), .move (.tmp 91), (some (89, true)), []⟩, 
  ⟨(some (93)), .move (.tmp 16), (some (92, false)), []⟩, 
  ⟨(some (94)), .not (.tmp 93), (some (92, false)), []⟩, 
  ⟨(some (95)), .pick (.tmp 92) (.const (.bool true)) (.tmp 94), (some (89, true)), []⟩, 
  ⟨(some (96)), .pick (.tmp 89) (.tmp 95) (.const (.bool false)), none, []⟩, 
  ⟨(some (97)), .move (.tmp 96), none, []⟩, 
  ⟨(some (98)), .move (.tmp 10), (some (97, true)), []⟩, 
  ⟨(some (99)), .bin .plain .neq (.tmp 98) (.const (.int .i64 1)), (some (97, true)), []⟩, 
  ⟨(some (100)), .move (.tmp 99), (some (97, true)), []⟩, 
  ⟨(some (101)), .move (.tmp 13), (some (100, false)), []⟩, 
  ⟨(some (102)), .bin .plain .eql (.tmp 101) (.const (.int .i64 1)), (some (100, false)), []⟩, 
  ⟨(some (103)), .pick (.tmp 100) (.const (.bool true)) (.tmp 102), (some (97, true)), []⟩, 
  ⟨(some (104)), .pick (.tmp 97) (.tmp 103) (.const (.bool false)), none, []⟩, 
  ⟨(some (105)), .move (.tmp 104), none, []⟩, 
  ⟨(some (106)), .move (.tmp 0), (some (105, true)), []⟩, 
  ⟨(some (107)), .move (.tmp 1), (some (105, true)), []⟩, 
  ⟨(some (108)), .call (.const (.fn (.func 63) [] [])) [.tmp 106, .tmp 107], (some (105, true)), []⟩, 
  ⟨(some (109)), .pick (.tmp 105) (.tmp 108) (.const (.bool false)), none, []⟩, 
  ⟨(some (110)), .move (.tmp 109), none, []⟩, 
  ⟨(some (111)), .call (.const (.fn (.func 18) [] [])) [], (some (110, true)), []⟩, 
  ⟨(some (112)), .pick (.tmp 110) (.tmp 111) (.const (.bool false)), none, []⟩, 
  ⟨(some (4)), .move (.tmp 112), none, []⟩]
def k_law03_CathodeVerdicts : AFun := { params := 2, ntmps := 113, body := (.seq (.reg k_law03_CathodeVerdicts_r0 false) (.seq (.reg k_law03_CathodeVerdicts_r1 false) (.seq (.reg k_law03_CathodeVerdicts_r2 false) (.seq (.reg k_law03_CathodeVerdicts_r3 false) (.seq (.reg k_law03_CathodeVerdicts_r4 false) (.seq (.reg k_law03_CathodeVerdicts_r5 false) (.seq (.reg k_law03_CathodeVerdicts_r6 false) (.seq (.reg k_law03_CathodeVerdicts_r7 false) (.seq (.reg k_law03_CathodeVerdicts_r8 false) (.seq (.seq (.reg k_law03_CathodeVerdicts_r9 false) (.cond (.tmp 73) (.seq (.reg k_law03_CathodeVerdicts_r10 false) .ret) .skip)) (.seq (.reg k_law03_CathodeVerdicts_r11 false) (.seq (.reg k_law03_CathodeVerdicts_r12 false) .ret)))))))))))), res := [.tmp 4] }
theorem k_law03_CathodeVerdicts_ok : cfun Try.prog Try.f12 = k_law03_CathodeVerdicts := by kernel_rfl

-- 62: thermion/thermionlaw03.kept
def k_law03_kept_r0 : List AOper := [
  ⟨(some (2)), .box (.tmp 0), none, []⟩, 
  ⟨(some (4)), .move (.const (.bool false)), none, []⟩]
def k_law03_kept_r1 : List AOper := [
  ⟨(some (5)), .move (.const (.int .i64 1)), none, []⟩]
def k_law03_kept_r2 : List AOper := [
  ⟨(some (7)), .move (.tmp 5), none, []⟩, 
  ⟨(some (8)), .move (.tmp 1), none, []⟩, 
  ⟨(some (9)), .len false (.tmp 8), none, []⟩, 
  ⟨(some (10)), .bin .plain .lss (.tmp 7) (.tmp 9), none, []⟩]
def k_law03_kept_r3 : List AOper := [
  ⟨(some (13)), .move (.tmp 1), none, []⟩, 
  ⟨(some (14)), .move (.tmp 5), none, [0]⟩, 
  ⟨(some (15)), .bin .plain .sub (.tmp 14) (.const (.int .i64 1)), none, [0]⟩, 
  ⟨(some (16)), .indexAddr 4 (.tmp 13) (.tmp 15), none, []⟩, 
  ⟨(some (17)), .fieldAddr 0 (.tmp 16), none, []⟩, 
  ⟨(some (18)), .load none (.tmp 17), none, []⟩, 
  ⟨(some (19)), .move (.tmp 1), none, [0, 1, 2, 3, 4, 5]⟩, 
  ⟨(some (20)), .move (.tmp 5), none, [0, 1, 2, 3, 4, 5, 6]⟩, 
  ⟨(some (21)), .indexAddr 4 (.tmp 19) (.tmp 20), none, [0, 1, 2, 3, 4, 5]⟩, 
  ⟨(some (22)), .fieldAddr 0 (.tmp 21), none, [0, 1, 2, 3, 4, 5]⟩, 
  ⟨(some (23)), .load none (.tmp 22), none, [0, 1, 2, 3, 4, 5]⟩, 
  ⟨(some (24)), .bin .plain .sub (.tmp 18) (.tmp 23), none, []⟩, 
  ⟨(some (25)), .fieldAddr 0 (.tmp 2), none, [0, 1, 2, 3, 4, 5, 6, 7, 8, 9, 10, 11]⟩, 
  ⟨(some (26)), .load none (.tmp 25), none, [0, 1, 2, 3, 4, 5, 6, 7, 8, 9, 10, 11]⟩, 
  ⟨(some (27)), .bin .plain .gtr (.tmp 24) (.tmp 26), none, []⟩, 
  ⟨(some (28)), .move (.tmp 27), none, []⟩, 
  ⟨(some (29)), .move (.tmp 1), (some (28, false)), []⟩, 
  ⟨(some (30)), .move (.tmp 5), (some (28, false)), [16]⟩, 
  ⟨(some (31)), .indexAddr 4 (.tmp 29) (.tmp 30), (some (28, false)), []⟩, 
  ⟨(some (32)), .fieldAddr 3 (.tmp 31), (some (28, false)), []⟩, 
  ⟨(some (33)), .load none (.tmp 32), (some (28, false)), []⟩, 
  ⟨(some (34)), .fieldAddr 2 (.tmp 2), (some (28, false)), [16, 17, 18, 19, 20]⟩, 
  ⟨(some (35)), .load none (.tmp 34), (some (28, false)), [16, 17, 18, 19, 20]⟩, 
  ⟨(some (36)), .bin .plain .gtr (.tmp 33) (.tmp 35), (some (28, false)), []⟩, 
  ⟨(some (37)), .pick (.tmp 28) (.const (.bool true)) (.tmp 36), none, []⟩]
def k_law03_kept_r3s : List (List AOper) := [
  [
  ⟨(some (13)), .move (.tmp 1), none, []⟩, 
  ⟨(some (14)), .move (.tmp 5), none, [0]⟩, 
  ⟨(some (15)), .bin .plain .sub (.tmp 14) (.const (.int .i64 1)), none, [0]⟩, 
  ⟨(some (16)), .indexAddr 4 (.tmp 13) (.tmp 15), none, []⟩, 
  ⟨(some (17)), .fieldAddr 0 (.tmp 16), none, []⟩, 
  ⟨(some (18)), .load none (.tmp 17), none, []⟩, 
  ⟨(some (19)), .move (.tmp 1), none, [0, 1, 2, 3, 4, 5]⟩, 
  ⟨(some (20)), .move (.tmp 5), none, [0, 1, 2, 3, 4, 5, 6]⟩, 
  ⟨(some (21)), .indexAddr 4 (.tmp 19) (.tmp 20), none, [0, 1, 2, 3, 4, 5]⟩, 
  ⟨(some (22)), .fieldAddr 0 (.tmp 21), none, [0, 1, 2, 3, 4, 5]⟩, 
  ⟨(some (23)), .load none (.tmp 22), none, [0, 1, 2, 3, 4, 5]⟩, 
  ⟨(some (24)), .bin .plain .sub (.tmp 18) (.tmp 23), none, []⟩, 
  ⟨(some (25)), .fieldAddr 0 (.tmp 2), none, [0, 1, 2, 3, 4, 5, 6, 7, 8, 9, 10, 11]⟩, 
  ⟨(some (26)), .load none (.tmp 25), none, [0, 1, 2, 3, 4, 5, 6, 7, 8, 9, 10, 11]⟩], 
  [
  ⟨(some (27)), .bin .plain .gtr (.tmp 24) (.tmp 26), none, []⟩], 
  [
  ⟨(some (28)), .move (.tmp 27), none, []⟩], 
  [
  ⟨(some (29)), .move (.tmp 1), (some (28, false)), []⟩, 
  ⟨(some (30)), .move (.tmp 5), (some (28, false)), [16]⟩, 
  ⟨(some (31)), .indexAddr 4 (.tmp 29) (.tmp 30), (some (28, false)), []⟩, 
  ⟨(some (32)), .fieldAddr 3 (.tmp 31), (some (28, false)), []⟩, 
  ⟨(some (33)), .load none (.tmp 32), (some (28, false)), []⟩, 
  ⟨(some (34)), .fieldAddr 2 (.tmp 2), (some (28, false)), [16, 17, 18, 19, 20]⟩, 
  ⟨(some (35)), .load none (.tmp 34), (some (28, false)), [16, 17, 18, 19, 20]⟩], 
  [
  ⟨(some (36)), .bin .plain .gtr (.tmp 33) (.tmp 35), (some (28, false)), []⟩], 
  [
  ⟨(some (37)), .pick (.tmp 28) (.const (.bool true)) (.tmp 36), none, []⟩]]
theorem k_law03_kept_r3_sg : segs k_law03_kept_r3 = k_law03_kept_r3s := by kernel_rfl
theorem k_law03_kept_r3_st : statOK k_law03_kept_r3 = true := by kernel_rfl
def k_law03_kept_r4 : List AOper := [
  ⟨(some (4)), .move (.const (.bool false)), none, []⟩]
def k_law03_kept_r5 : List AOper := [
  ⟨(some (11)), .move (.tmp 5), none, []⟩, 
  ⟨(some (12)), .bin .plain .add (.tmp 11) (.const (.int .i64 1)), none, []⟩, 
  ⟨(some (5)), .move (.tmp 12), none, []⟩]
def k_law03_kept_r6 : ACode := (.seq (.seq (.reg k_law03_kept_r2 false) (.cond (.tmp 10) .skip (.exit 0))) (.seq (.block 1 (.seq (.reg k_law03_kept_r3 true) (.cond (.tmp 37) (.seq (.reg k_law03_kept_r4 false) .ret) .skip))) (.reg k_law03_kept_r5 false)))
def k_law03_kept_r7 : List AOper := [
  ⟨(some (38)), .move (.tmp 1), none, []⟩, 
  ⟨(some (39)), .move (.tmp 1), none, []⟩, 
  ⟨(some (40)), .len false (.tmp 39), none, []⟩, 
  ⟨(some (41)), .bin .plain .sub (.tmp 40) (.const (.int .i64 1)), none, []⟩, 
  ⟨(some (42)), .indexAddr 4 (.tmp 38) (.tmp 41), none, []⟩, 
  ⟨(some (43)), .load (some (4)) (.tmp 42), none, []⟩, 
  ⟨(some (6)), .box (.const (.agg [.int .i64 0, .int .i64 0, .int .i64 0, .int .i64 0])), none, []⟩, 
  ⟨none, .store 4 (.tmp 6) (.tmp 43), none, []⟩]
def k_law03_kept_r8 : List AOper := [
  ⟨(some (44)), .fieldAddr 0 (.tmp 6), none, []⟩, 
  ⟨(some (45)), .load none (.tmp 44), none, []⟩, 
  ⟨(some (46)), .fieldAddr 3 (.tmp 2), none, []⟩, 
  ⟨(some (47)), .load none (.tmp 46), none, []⟩, 
  ⟨(some (48)), .bin .plain .leq (.tmp 45) (.tmp 47), none, []⟩, 
  ⟨(some (49)), .move (.tmp 48), none, []⟩, 
  ⟨(some (50)), .fieldAddr 2 (.tmp 6), (some (49, true)), []⟩, 
  ⟨(some (51)), .load none (.tmp 50), (some (49, true)), []⟩, 
  ⟨(some (52)), .fieldAddr 4 (.tmp 2), (some (49, true)), []⟩, 
  ⟨(some (53)), .load none (.tmp 52), (some (49, true)), []⟩, 
  ⟨(some (54)), .bin .plain .geq (.tmp 51) (.tmp 53), (some (49, true)), []⟩, 
  ⟨(some (55)), .pick (.tmp 49) (.tmp 54) (.const (.bool false)), none, []⟩, 
  ⟨(some (4)), .move (.tmp 55), none, []⟩]
def k_law03_kept : AFun := { params := 2, ntmps := 56, body := (.seq (.reg k_law03_kept_r0 false) (.seq (.seq (.reg k_law03_kept_r1 false) (.block 0 (.loop k_law03_kept_r6))) (.seq (.reg k_law03_kept_r7 false) (.seq (.reg k_law03_kept_r8 false) .ret)))), res := [.tmp 4] }
theorem k_law03_kept_ok : cfun Try.prog Try.f62 = k_law03_kept := by kernel_rfl

-- 63: thermion/thermionlaw03.stricter
def k_law03_stricter_r0 : List AOper := [
  ⟨(some (4)), .move (.const (.bool false)), none, []⟩]
def k_law03_stricter_r1 : List AOper := [
  ⟨(some (16)), .move (.tmp 0), none, []⟩, 
  ⟨(some (17)), .call (.const (.fn (.func 19) [] [])) [.tmp 16], none, []⟩, 
  ⟨(some (5)), .move (.tmp 17), none, []⟩]
def k_law03_stricter_r2 : List AOper := [
  ⟨(some (18)), .move (.tmp 5), none, []⟩, 
  ⟨(some (19)), .call (.const (.fn (.func 20) [] [])) [.tmp 18], none, []⟩, 
  ⟨(some (6)), .box (.const (.agg [.int .i64 0, .int .i64 0, .int .i64 0, .int .i64 0, .int .i64 0, .int .i64 0, .nilsl])), none, []⟩, 
  ⟨none, .store 7 (.tmp 6) (.tmp 19), none, []⟩]
def k_law03_stricter_r3 : List AOper := [
  ⟨(some (20)), .move (.tmp 5), none, []⟩, 
  ⟨(some (21)), .call (.const (.fn (.func 21) [] [])) [.tmp 20, .const (.int .i64 5), .const (.int .i64 20)], none, []⟩, 
  ⟨(some (7)), .move (.tmp 21), none, []⟩]
def k_law03_stricter_r4 : List AOper := [
  ⟨(some (22)), .move (.tmp 5), none, []⟩, 
  ⟨(some (23)), .load (some (7)) (.tmp 6), none, []⟩, 
  ⟨(some (24)), .move (.tmp 7), none, []⟩, 
  ⟨(some (25)), .call (.const (.fn (.func 45) [] [])) [.tmp 22, .tmp 23, .tmp 24], none, []⟩, 
  ⟨(some (8)), .box (.const (.agg [.int .i64 0, .int .i64 0, .int .i64 0, .int .i64 0, .int .i64 0])), none, []⟩, 
  ⟨none, .store 5 (.tmp 8) (.tmp 25), none, []⟩]
def k_law03_stricter_r5 : List AOper := [
  ⟨(some (26)), .move (.tmp 1), none, []⟩, 
  ⟨(some (27)), .call (.const (.fn (.func 42) [] [])) [.tmp 26, .const (.int .i64 100)], none, []⟩, 
  ⟨(some (1)), .move (.tmp 27), none, []⟩]
def k_law03_stricter_r6 : List AOper := [
  ⟨(some (28)), .fieldAddr 0 (.tmp 8), none, []⟩, 
  ⟨(some (29)), .load none (.tmp 28), none, []⟩, 
  ⟨(some (30)), .move (.tmp 5), none, [0, 1]⟩, 
  ⟨(some (31)), .move (.tmp 1), none, [0, 1, 2]⟩, 
  ⟨(some (32)), .bin .plain .add (.tmp 31) (.const (.int .i64 1)), none, [0, 1, 2]⟩, 
  ⟨(some (33)), .call (.const (.fn (.func 23) [] [])) [.tmp 30, .tmp 32], none, [0, 1]⟩, 
  ⟨(some (34)), .bin .plain .sub (.tmp 29) (.tmp 33), none, []⟩, 
  ⟨(some (35)), .minmax true [.const (.int .i64 0), .tmp 34], none, []⟩, 
  ⟨(some (36)), .fieldAddr 1 (.tmp 8), none, [0, 1, 2, 3, 4, 5, 6, 7]⟩, 
  ⟨(some (37)), .load none (.tmp 36), none, [0, 1, 2, 3, 4, 5, 6, 7]⟩, 
  ⟨(some (38)), .move (.tmp 5), none, [0, 1, 2, 3, 4, 5, 6, 7, 8, 9]⟩, 
  ⟨(some (39)), .move (.tmp 1), none, [0, 1, 2, 3, 4, 5, 6, 7, 8, 9, 10]⟩, 
  ⟨(some (40)), .bin .plain .add (.tmp 39) (.const (.int .i64 1)), none, [0, 1, 2, 3, 4, 5, 6, 7, 8, 9, 10]⟩, 
  ⟨(some (41)), .call (.const (.fn (.func 23) [] [])) [.tmp 38, .tmp 40], none, [0, 1, 6, 7, 8, 9]⟩, 
  ⟨(some (42)), .bin .plain .sub (.tmp 37) (.tmp 41), none, [0, 1, 6, 7]⟩, 
  ⟨(some (43)), .minmax true [.const (.int .i64 0), .tmp 42], none, [0, 1, 6, 7]⟩, 
  ⟨(some (44)), .fieldAddr 2 (.tmp 8), none, [0, 1, 2, 3, 4, 5, 6, 7, 8, 9, 10, 11, 12, 13, 14, 15]⟩, 
  ⟨(some (45)), .load none (.tmp 44), none, [0, 1, 2, 3, 4, 5, 6, 7, 8, 9, 10, 11, 12, 13, 14, 15]⟩, 
  ⟨(some (46)), .move (.tmp 5), none, [0, 1, 2, 3, 4, 5, 6, 7, 8, 9, 10, 11, 12, 13, 14, 15, 16, 17]⟩, 
  ⟨(some (47)), .move (.tmp 1), none, [0, 1, 2, 3, 4, 5, 6, 7, 8, 9, 10, 11, 12, 13, 14, 15, 16, 17, 18]⟩, 
  ⟨(some (48)), .bin .plain .add (.tmp 47) (.const (.int .i64 1)), none, [0, 1, 2, 3, 4, 5, 6, 7, 8, 9, 10, 11, 12, 13, 14, 15, 16, 17, 18]⟩, 
  ⟨(some (49)), .call (.const (.fn (.func 23) [] [])) [.tmp 46, .tmp 48], none, [0, 1, 6, 7, 8, 9, 14, 15, 16, 17]⟩, 
  ⟨(some (50)), .bin .plain .sub (.tmp 45) (.tmp 49), none, [0, 1, 6, 7, 8, 9, 14, 15]⟩, 
  ⟨(some (51)), .minmax true [.const (.int .i64 0), .tmp 50], none, [0, 1, 6, 7, 8, 9, 14, 15]⟩, 
  ⟨(some (52)), .fieldAddr 3 (.tmp 8), none, [0, 1, 2, 3, 4, 5, 6, 7, 8, 9, 10, 11, 12, 13, 14, 15, 16, 17, 18, 19, 20, 21, 22, 23]⟩, 
  ⟨(some (53)), .load none (.tmp 52), none, [0, 1, 2, 3, 4, 5, 6, 7, 8, 9, 10, 11, 12, 13, 14, 15, 16, 17, 18, 19, 20, 21, 22, 23]⟩, 
  ⟨(some (54)), .move (.tmp 5), none, [0, 1, 2, 3, 4, 5, 6, 7, 8, 9, 10, 11, 12, 13, 14, 15, 16, 17, 18, 19, 20, 21, 22, 23, 24, 25]⟩, 
  ⟨(some (55)), .move (.tmp 1), none, [0, 1, 2, 3, 4, 5, 6, 7, 8, 9, 10, 11, 12, 13, 14, 15, 16, 17, 18, 19, 20, 21, 22, 23, 24, 25, 26]⟩, 
  ⟨(some (56)), .bin .plain .add (.tmp 55) (.const (.int .i64 1)), none, [0, 1, 2, 3, 4, 5, 6, 7, 8, 9, 10, 11, 12, 13, 14, 15, 16, 17, 18, 19, 20, 21, 22, 23, 24, 25, 26]⟩, 
  ⟨(some (57)), .call (.const (.fn (.func 23) [] [])) [.tmp 54, .tmp 56], none, [0, 1, 6, 7, 8, 9, 14, 15, 16, 17, 22, 23, 24, 25]⟩, 
  ⟨(some (58)), .bin .plain .sub (.tmp 53) (.tmp 57), none, [0, 1, 6, 7, 8, 9, 14, 15, 16, 17, 22, 23]⟩, 
  ⟨(some (59)), .minmax true [.const (.int .i64 0), .tmp 58], none, [0, 1, 6, 7, 8, 9, 14, 15, 16, 17, 22, 23]⟩, 
  ⟨(some (60)), .fieldAddr 4 (.tmp 8), none, [0, 1, 2, 3, 4, 5, 6, 7, 8, 9, 10, 11, 12, 13, 14, 15, 16, 17, 18, 19, 20, 21, 22, 23, 24, 25, 26, 27, 28, 29, 30, 31]⟩, 
  ⟨(some (61)), .load none (.tmp 60), none, [0, 1, 2, 3, 4, 5, 6, 7, 8, 9, 10, 11, 12, 13, 14, 15, 16, 17, 18, 19, 20, 21, 22, 23, 24, 25, 26, 27, 28, 29, 30, 31]⟩, 
  ⟨(some (62)), .move (.tmp 5), none, [0, 1, 2, 3, 4, 5, 6, 7, 8, 9, 10, 11, 12, 13, 14, 15, 16, 17, 18, 19, 20, 21, 22, 23, 24, 25, 26, 27, 28, 29, 30, 31, 32, 33]⟩, 
  ⟨(some (63)), .move (.tmp 1), none, [0, 1, 2, 3, 4, 5, 6, 7, 8, 9, 10, 11, 12, 13, 14, 15, 16, 17, 18, 19, 20, 21, 22, 23, 24, 25, 26, 27, 28, 29, 30, 31, 32, 33, 34]⟩, 
  ⟨(some (64)), .bin .plain .add (.tmp 63) (.const (.int .i64 1)), none, [0, 1, 2, 3, 4, 5, 6, 7, 8, 9, 10, 11, 12, 13, 14, 15, 16, 17, 18, 19, 20, 21, 22, 23, 24, 25, 26, 27, 28, 29, 30, 31, 32, 33, 34]⟩, 
  ⟨(some (65)), .call (.const (.fn (.func 23) [] [])) [.tmp 62, .tmp 64], none, [0, 1, 6, 7, 8, 9, 14, 15, 16, 17, 22, 23, 24, 25, 30, 31, 32, 33]⟩, 
  ⟨(some (66)), .bin .plain .add (.tmp 61) (.tmp 65), none, [0, 1, 6, 7, 8, 9, 14, 15, 16, 17, 22, 23, 24, 25, 30, 31]⟩, 
  ⟨(some (67)), .build [.int .i64 0, .int .i64 0, .int .i64 0, .int .i64 0, .int .i64 0] [(0, 1, .tmp 35), (1, 1, .tmp 43), (2, 1, .tmp 51), (3, 1, .tmp 59), (4, 1, .tmp 66)], none, []⟩, 
  ⟨(some (9)), .box (.const (.agg [.int .i64 0, .int .i64 0, .int .i64 0, .int .i64 0, .int .i64 0])), none, [0, 1, 2, 3, 4, 5, 6, 7, 8, 9, 10, 11, 12, 13, 14, 15, 16, 17, 18, 19, 20, 21, 22, 23, 24, 25, 26, 27, 28, 29, 30, 31, 32, 33, 34, 35, 36, 37, 38, 39]⟩, 
  ⟨none, .store 5 (.tmp 9) (.tmp 67), none, []⟩]
def k_law03_stricter_r6s : List (List AOper) := [
  [
  ⟨(some (28)), .fieldAddr 0 (.tmp 8), none, []⟩, 
  ⟨(some (29)), .load none (.tmp 28), none, []⟩, 
  ⟨(some (30)), .move (.tmp 5), none, [0, 1]⟩, 
  ⟨(some (31)), .move (.tmp 1), none, [0, 1, 2]⟩, 
  ⟨(some (32)), .bin .plain .add (.tmp 31) (.const (.int .i64 1)), none, [0, 1, 2]⟩, 
  ⟨(some (33)), .call (.const (.fn (.func 23) [] [])) [.tmp 30, .tmp 32], none, [0, 1]⟩, 
  ⟨(some (34)), .bin .plain .sub (.tmp 29) (.tmp 33), none, []⟩, 
  ⟨(some (35)), .minmax true [.const (.int .i64 0), .tmp 34], none, []⟩, 
  ⟨(some (36)), .fieldAddr 1 (.tmp 8), none, [0, 1, 2, 3, 4, 5, 6, 7]⟩, 
  ⟨(some (37)), .load none (.tmp 36), none, [0, 1, 2, 3, 4, 5, 6, 7]⟩, 
  ⟨(some (38)), .move (.tmp 5), none, [0, 1, 2, 3, 4, 5, 6, 7, 8, 9]⟩, 
  ⟨(some (39)), .move (.tmp 1), none, [0, 1, 2, 3, 4, 5, 6, 7, 8, 9, 10]⟩, 
  ⟨(some (40)), .bin .plain .add (.tmp 39) (.const (.int .i64 1)), none, [0, 1, 2, 3, 4, 5, 6, 7, 8, 9, 10]⟩, 
  ⟨(some (41)), .call (.const (.fn (.func 23) [] [])) [.tmp 38, .tmp 40], none, [0, 1, 6, 7, 8, 9]⟩, 
  ⟨(some (42)), .bin .plain .sub (.tmp 37) (.tmp 41), none, [0, 1, 6, 7]⟩, 
  ⟨(some (43)), .minmax true [.const (.int .i64 0), .tmp 42], none, [0, 1, 6, 7]⟩, 
  ⟨(some (44)), .fieldAddr 2 (.tmp 8), none, [0, 1, 2, 3, 4, 5, 6, 7, 8, 9, 10, 11, 12, 13, 14, 15]⟩, 
  ⟨(some (45)), .load none (.tmp 44), none, [0, 1, 2, 3, 4, 5, 6, 7, 8, 9, 10, 11, 12, 13, 14, 15]⟩, 
  ⟨(some (46)), .move (.tmp 5), none, [0, 1, 2, 3, 4, 5, 6, 7, 8, 9, 10, 11, 12, 13, 14, 15, 16, 17]⟩, 
  ⟨(some (47)), .move (.tmp 1), none, [0, 1, 2, 3, 4, 5, 6, 7, 8, 9, 10, 11, 12, 13, 14, 15, 16, 17, 18]⟩, 
  ⟨(some (48)), .bin .plain .add (.tmp 47) (.const (.int .i64 1)), none, [0, 1, 2, 3, 4, 5, 6, 7, 8, 9, 10, 11, 12, 13, 14, 15, 16, 17, 18]⟩, 
  ⟨(some (49)), .call (.const (.fn (.func 23) [] [])) [.tmp 46, .tmp 48], none, [0, 1, 6, 7, 8, 9, 14, 15, 16, 17]⟩, 
  ⟨(some (50)), .bin .plain .sub (.tmp 45) (.tmp 49), none, [0, 1, 6, 7, 8, 9, 14, 15]⟩, 
  ⟨(some (51)), .minmax true [.const (.int .i64 0), .tmp 50], none, [0, 1, 6, 7, 8, 9, 14, 15]⟩, 
  ⟨(some (52)), .fieldAddr 3 (.tmp 8), none, [0, 1, 2, 3, 4, 5, 6, 7, 8, 9, 10, 11, 12, 13, 14, 15, 16, 17, 18, 19, 20, 21, 22, 23]⟩, 
  ⟨(some (53)), .load none (.tmp 52), none, [0, 1, 2, 3, 4, 5, 6, 7, 8, 9, 10, 11, 12, 13, 14, 15, 16, 17, 18, 19, 20, 21, 22, 23]⟩, 
  ⟨(some (54)), .move (.tmp 5), none, [0, 1, 2, 3, 4, 5, 6, 7, 8, 9, 10, 11, 12, 13, 14, 15, 16, 17, 18, 19, 20, 21, 22, 23, 24, 25]⟩, 
  ⟨(some (55)), .move (.tmp 1), none, [0, 1, 2, 3, 4, 5, 6, 7, 8, 9, 10, 11, 12, 13, 14, 15, 16, 17, 18, 19, 20, 21, 22, 23, 24, 25, 26]⟩, 
  ⟨(some (56)), .bin .plain .add (.tmp 55) (.const (.int .i64 1)), none, [0, 1, 2, 3, 4, 5, 6, 7, 8, 9, 10, 11, 12, 13, 14, 15, 16, 17, 18, 19, 20, 21, 22, 23, 24, 25, 26]⟩, 
  ⟨(some (57)), .call (.const (.fn (.func 23) [] [])) [.tmp 54, .tmp 56], none, [0, 1, 6, 7, 8, 9, 14, 15, 16, 17, 22, 23, 24, 25]⟩, 
  ⟨(some (58)), .bin .plain .sub (.tmp 53) (.tmp 57), none, [0, 1, 6, 7, 8, 9, 14, 15, 16, 17, 22, 23]⟩, 
  ⟨(some (59)), .minmax true [.const (.int .i64 0), .tmp 58], none, [0, 1, 6, 7, 8, 9, 14, 15, 16, 17, 22, 23]⟩, 
  ⟨(some (60)), .fieldAddr 4 (.tmp 8), none, [0, 1, 2, 3, 4, 5, 6, 7, 8, 9, 10, 11, 12, 13, 14, 15, 16, 17, 18, 19, 20, 21, 22, 23, 24, 25, 26, 27, 28, 29, 30, 31]⟩, 
  ⟨(some (61)), .load none (.tmp 60), none, [0, 1, 2, 3, 4, 5, 6, 7, 8, 9, 10, 11, 12, 13, 14, 15, 16, 17, 18, 19, 20, 21, 22, 23, 24, 25, 26, 27, 28, 29, 30, 31]⟩, 
  ⟨(some (62)), .move (.tmp 5), none, [0, 1, 2, 3, 4, 5, 6, 7, 8, 9, 10, 11, 12, 13, 14, 15, 16, 17, 18, 19, 20, 21, 22, 23, 24, 25, 26, 27, 28, 29, 30, 31, 32, 33]⟩, 
  ⟨(some (63)), .move (.tmp 1), none, [0, 1, 2, 3, 4, 5, 6, 7, 8, 9, 10, 11, 12, 13, 14, 15, 16, 17, 18, 19, 20, 21, 22, 23, 24, 25, 26, 27, 28, 29, 30, 31, 32, 33, 34]⟩, 
  ⟨(some (64)), .bin .plain .add (.tmp 63) (.const (.int .i64 1)), none, [0, 1, 2, 3, 4, 5, 6, 7, 8, 9, 10, 11, 12, 13, 14, 15, 16, 17, 18, 19, 20, 21, 22, 23, 24, 25, 26, 27, 28, 29, 30, 31, 32, 33, 34]⟩, 
  ⟨(some (65)), .call (.const (.fn (.func 23) [] [])) [.tmp 62, .tmp 64], none, [0, 1, 6, 7, 8, 9, 14, 15, 16, 17, 22, 23, 24, 25, 30, 31, 32, 33]⟩, 
  ⟨(some (66)), .bin .plain .add (.tmp 61) (.tmp 65), none, [0, 1, 6, 7, 8, 9, 14, 15, 16, 17, 22, 23, 24, 25, 30, 31]⟩, 
  ⟨(some (67)), .build [.int .i64 0, .int .i64 0, .int .i64 0, .int .i64 0, .int .i64 0] [(0, 1, .tmp 35), (1, 1, .tmp 43), (2, 1, .tmp 51), (3, 1, .tmp 59), (4, 1, .tmp 66)], none, []⟩, 
  ⟨(some (9)), .box (.const (.agg [.int .i64 0, .int .i64 0, .int .i64 0, .int .i64 0, .int .i64 0])), none, [0, 1, 2, 3, 4, 5, 6, 7, 8, 9, 10, 11, 12, 13, 14, 15, 16, 17, 18, 19, 20, 21, 22, 23, 24, 25, 26, 27, 28, 29, 30, 31, 32, 33, 34, 35, 36, 37, 38, 39]⟩], 
  [
  ⟨none, .store 5 (.tmp 9) (.tmp 67), none, []⟩]]
theorem k_law03_stricter_r6_sg : segs k_law03_stricter_r6 = k_law03_stricter_r6s := by kernel_rfl
theorem k_law03_stricter_r6_st : statOK k_law03_stricter_r6 = true := by kernel_rfl
def k_law03_stricter_r7 : List AOper := [
  ⟨(some (69)), .load (some (7)) (.tmp 6), none, []⟩, 
  ⟨(some (70)), .load (some (5)) (.tmp 8), none, []⟩, 
  ⟨(some (71)), .move (.tmp 7), none, []⟩, 
  ⟨(some (72)), .call (.const (.fn (.func 46) [] [])) [.tmp 69, .tmp 70, .tmp 71], none, []⟩, 
  ⟨(some (68)), .move (.tmp 72), none, []⟩, 
  ⟨(some (73)), .extract (.tmp 68) 0, none, []⟩, 
  ⟨(some (74)), .extract (.tmp 68) 1, none, []⟩, 
  ⟨(some (75)), .extract (.tmp 68) 2, none, []⟩, 
  ⟨(some (10)), .move (.tmp 73), none, []⟩, 
  ⟨(some (11)), .move (.tmp 74), none, []⟩, 
  ⟨(some (12)), .move (.tmp 75), none, []⟩]
def k_law03_stricter_r8 : List AOper := [
  ⟨(some (77)), .load (some (7)) (.tmp 6), none, []⟩, 
  ⟨(some (78)), .load (some (5)) (.tmp 9), none, []⟩, 
  ⟨(some (79)), .move (.tmp 7), none, []⟩, 
  ⟨(some (80)), .call (.const (.fn (.func 46) [] [])) [.tmp 77, .tmp 78, .tmp 79], none, []⟩, 
  ⟨(some (76)), .move (.tmp 80), none, []⟩, 
  ⟨(some (81)), .extract (.tmp 76) 0, none, []⟩, 
  ⟨(some (82)), .extract (.tmp 76) 1, none, []⟩, 
  ⟨(some (83)), .extract (.tmp 76) 2, none, []⟩, 
  ⟨(some (13)), .move (.tmp 81), none, []⟩, 
  ⟨(some (14)), .move (.tmp 82), none, []⟩, 
  ⟨(some (15)), .move (.tmp 83), none, []⟩]
def k_law03_stricter_r9 : List AOper := [
  ⟨(some (84)), .move (.tmp 12), none, []⟩, 
  ⟨(some (85)), .bin .plain .eql (.tmp 84) (.const (.int .i64 0)), none, []⟩, 
  ⟨(some (86)), .move (.tmp 85), none, []⟩, 
  ⟨(some (87)), .move (.tmp 15), (some (86, true)), []⟩, 
  ⟨(some (88)), .bin .plain .eql (.tmp 87) (.const (.int .i64 0)), (some (86, true)), []⟩, 
  ⟨(some (89)), .pick (.tmp 86) (.tmp 88) (.const (.bool false)), none, []⟩, 
  ⟨(some (90)), .move (.tmp 89), none, []⟩, 
  ⟨(some (91)), .move (.tmp 10), (some (90, true)), []⟩, 
  ⟨(some (92)), .bin .plain .eql (.tmp 91) (.const (.int .i64 1)), (some (90, true)), []⟩, 
  ⟨(some (93)), .move (.tmp 92), (some (90, true)), []⟩, 
  ⟨(some (94)), .move (.tmp 13), (some (93, false)), []⟩, 
  ⟨(some (95)), .bin .plain .neq (.tmp 94) (.const (.int .i64 1)), (some (93, false)), []⟩, 
  ⟨(some (96)), .pick (.tmp 93) (.const (.bool true)) (.tmp 95), (some (90, true)), []⟩, 
  ⟨(some (97)), .pick (.tmp 90) (.tmp 96) (.const (.bool false)), none, []⟩, 
  ⟨(some (98)), .move (.tmp 97), none, []⟩, 
  ⟨(some (99)), .move (.tmp 10), (some (98, true)), []⟩, 
  ⟨(some (100)), .bin .plain .neq (.tmp 99) (.const (.int .i64 2)), (some (98, true)), []⟩, 
  ⟨(some (101)), .move (.tmp 100), (some (98, true)), []⟩, 
  ⟨(some (102)), .move (.tmp 13), (some (101, false)), []⟩, 
  ⟨(some (103)), .bin .plain .eql (.tmp 102) (.const (.int .i64 2)), (some (101, false)), []⟩, 
  ⟨(some (104)), .pick (.tmp 101) (.const (.bool true)) (.tmp 103), (some (98, true)), []⟩, 
  ⟨(some (105)), .pick (.tmp 98) (.tmp 104) (.const (.bool false)), none, []⟩, 
  ⟨(some (4)), .move (.tmp 105), none, []⟩]
def k_law03_stricter : AFun := { params := 2, ntmps := 106, body := (.seq (.reg k_law03_stricter_r0 false) (.seq (.reg k_law03_stricter_r1 false) (.seq (.reg k_law03_stricter_r2 false) (.seq (.reg k_law03_stricter_r3 false) (.seq (.reg k_law03_stricter_r4 false) (.seq (.reg k_law03_stricter_r5 false) (.seq (.reg k_law03_stricter_r6 true) (.seq (.reg k_law03_stricter_r7 false) (.seq (.reg k_law03_stricter_r8 false) (.seq (.reg k_law03_stricter_r9 false) .ret)))))))))), res := [.tmp 4] }
theorem k_law03_stricter_ok : cfun Try.prog Try.f63 = k_law03_stricter := by kernel_rfl


abbrev n_law03_CathodeVerdicts : Nat := 12
theorem e_law03_CathodeVerdicts : EntryOK Try.prog n_law03_CathodeVerdicts k_law03_CathodeVerdicts := ⟨Try.f12, Try.func12, k_law03_CathodeVerdicts_ok, by kernel_rfl⟩
abbrev n_law03_kept : Nat := 62
theorem e_law03_kept : EntryOK Try.prog n_law03_kept k_law03_kept := ⟨Try.f62, Try.func62, k_law03_kept_ok, by kernel_rfl⟩
abbrev n_law03_stricter : Nat := 63
theorem e_law03_stricter : EntryOK Try.prog n_law03_stricter k_law03_stricter := ⟨Try.f63, Try.func63, k_law03_stricter_ok, by kernel_rfl⟩

attribute [go_sem] k_law03_CathodeVerdicts_r0 k_law03_CathodeVerdicts_r1 k_law03_CathodeVerdicts_r2 k_law03_CathodeVerdicts_r3 k_law03_CathodeVerdicts_r4 k_law03_CathodeVerdicts_r5 k_law03_CathodeVerdicts_r6 k_law03_CathodeVerdicts_r7 k_law03_CathodeVerdicts_r8 k_law03_CathodeVerdicts_r9 k_law03_CathodeVerdicts_r10 k_law03_CathodeVerdicts_r11
attribute [go_sem] k_law03_CathodeVerdicts_r12 k_law03_kept_r0 k_law03_kept_r1 k_law03_kept_r2 k_law03_kept_r3s k_law03_kept_r4 k_law03_kept_r5 k_law03_kept_r7 k_law03_kept_r8 k_law03_stricter_r0 k_law03_stricter_r1 k_law03_stricter_r2
attribute [go_sem] k_law03_stricter_r3 k_law03_stricter_r4 k_law03_stricter_r5 k_law03_stricter_r6s k_law03_stricter_r7 k_law03_stricter_r8 k_law03_stricter_r9 k_law03_stricter_r6_sg k_law03_kept_r3_sg k_law03_stricter_r6_st k_law03_kept_r3_st k_law03_CathodeVerdicts
attribute [go_sem] k_law03_kept k_law03_stricter
end Go.Proofs
